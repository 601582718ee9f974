/-
  The walk of the law on HashMore.
-/
import Derived.Test.YtaolinlginloaacDoorImplMy
import Derived.Test.YtaolinlginloaacDoorMore2
import Derived.Test.YtaolinlginloaacDoorHelp
namespace Go.Proofs.YtaolinlginloaacDoor
open Go.RowKit
open Dig

theorem bothMore (s r t : ByteArray) (c : Int) (hs : s.size ≤ 1048576) (hr : r.size ≤ 1048576) (ht : t.size ≤ 1048576) : ∃ (S R : ByteArray) (C : Int), (∀ w, Calls Tryd.prog 13 #[.agg #[.string s, .string r, .int .i64 c], .string t] w fun e w' => e = .returned (.agg #[.string S, .string R, .int .i64 C]) ∧ Below w.heap.size w w') ∧
    (∀ w, StepIn w → Calls Tryd.prog 14 #[.agg #[.string s, .string r, .int .i64 c], .string t] w fun e w' => e = .returned (.agg #[.string S, .string R, .int .i64 C]) ∧ Below w.heap.size w w') := by
  by_cases hR : HRight s r c
  · obtain ⟨n, rfl⟩ := Int.eq_ofNat_of_zero_le hR.2.2.1
    by_cases hb : (1000000000 : Int) < (n : Int) + t.size
    · exact ⟨s, r, n, fun w => specMore_big s r t n w hR ht hb, fun w _ => implMore_big s r t n w hR hb⟩
    · exact ⟨_, _, _, fun w => specMore_yes s r t n w hR ht (by omega), fun w h => implMore_yes s r t n w hR ht (by omega) h⟩
  · exact ⟨s, r, c, fun w => specMore_no s r t c w (by unfold maxLen; omega) hR, fun w _ => implMore_no s r t c w (by omega) (by omega) hR⟩

set_option maxHeartbeats 400000 in
set_option maxRecDepth 100000 in
theorem lawMore (s r : ByteArray) (c : Int) (t : ByteArray) (hs : s.size ≤ maxLen) (hr : r.size ≤ maxLen) (ht : t.size ≤ maxLen) (w : World) (hT : StepIn w) :
    Calls Tryd.prog 4 #[.agg #[.string s, .string r, .int .i64 c], .string t] w fun e w' => e = .returned (.bool true) ∧ Below w.heap.size w w' := by
  have CZ := hide (fun w' => szH_any s r c w' hs hr)
  have CT := hide (fun w' => toH_any s r c w')
  unfold maxLen at ht
  by_cases htb : (1048576 : Int) < t.size
  · go_enter Tryd.func4, Tryd.ntmps4
    go_wp2
    go_ret
    exact ⟨rfl, (Below.refl _ _).alloc (Nat.le_refl _) _⟩
  by_cases hz : (s.size : Int) + r.size ≤ 1048576
  · obtain ⟨S, R, C, h1, h2⟩ := bothMore s r t c (by omega) (by omega) (by omega)
    have CS := hide h1
    have CI := hide h2
    have HT := hide hT
    rw [if_pos hz] at CZ
    obtain ⟨z, hzz⟩ : ∃ z : Int, z = (1048576 : Int) - s.size - r.size := ⟨_, rfl⟩
    have hz0 : ¬ z < 0 := by omega
    rw [← hzz] at CZ
    clear h1 h2 hT hzz
    go_enter Tryd.func4, Tryd.ntmps4
    go_wp2_with fail
    refine (CZ.out _).mono ?_
    rintro en w1 ⟨rfl, hb1⟩
    obtain ⟨⟨c0, c1, c2⟩, hb1', hs1⟩ := kept3 hb1
    have HB0 := hide hb1
    clear hb1 hb1' CZ
    go_wp2_with fail
    refine (CT.out _).mono ?_
    rintro en w2 ⟨rfl, hb2⟩
    have HB2 := hide (HB0.out.trans (hb2.mono HB0.out.size))
    clear hb2 HB0 c0 c1 c2
    go_wp2_with fail
    refine (CS.out _).mono ?_
    rintro en w3 ⟨rfl, hb3⟩
    have hB3 := HB2.out.trans (hb3.mono HB2.out.size)
    obtain ⟨⟨c0, c1, c2⟩, hb3', hs3⟩ := kept3 hB3
    have HB3 := hide hB3
    have hlt : w.heap.size < w3.heap.size := by omega
    have hne : w.heap.size ≠ w3.heap.size := by omega
    clear hb3 HB2 hB3 hb3'
    go_wp2_with fail
    refine (CT.out _).mono ?_
    rintro en w4 ⟨rfl, hb4⟩
    have HB4 := hide hb4
    have HW4 : Hid (Below w.heap.size w w4) := by
      have h5 := HB3.out.trans (((Below.refl _ _).alloc (Nat.le_refl _) _).trans (hb4.mono (by simp)) |>.mono HB3.out.size)
      exact (kept3 h5).2.1
    clear hb4 HB3 c0 c1 c2
    go_wp2_with fail
    refine (CI.out _ (HT.out.on HW4.out)).mono ?_
    rintro en w5 ⟨rfl, hb5⟩
    have hB5 := HB4.out.trans (hb5.mono HB4.out.size)
    obtain ⟨⟨e0, e1, e2⟩, hb5', hs5⟩ := kept3 hB5
    have HB5 : Hid (Below w.heap.size w w5) := HW4.out.trans (hb5.mono HW4.out.size)
    have hlt3 : w3.heap.size < w5.heap.size := by omega
    have hne3 : w3.heap.size ≠ w5.heap.size := by omega
    clear hb5 HB4 hB5 CT CS CI HT HW4 hb5'
    go_wp2_with fail
    refine (eqH_same S R C _).mono ?_
    rintro en w6 ⟨rfl, hb6⟩
    have HB6 : Hid (Below w.heap.size w w6) := (HB5.out.alloc (by omega) _).trans (hb6.mono (by simp; omega))
    clear hb6 HB5 e0 e1 e2
    go_wp2
    go_ret
    exact ⟨rfl, HB6.out⟩
  · rw [if_neg hz] at CZ
    go_enter Tryd.func4, Tryd.ntmps4
    go_wp2_with fail
    refine (CZ.out _).mono ?_
    rintro en w1 ⟨rfl, hb1⟩
    obtain ⟨-, hb1', hs1⟩ := kept3 hb1
    have HB1 := hide hb1'
    clear hb1 hb1' CZ CT
    go_wp2
    go_ret
    exact ⟨rfl, HB1.out⟩
end Go.Proofs.YtaolinlginloaacDoor
