/-
  The walk of the law on HashEnd.
-/
import Derived.Test.YtaolinlginloaacDoorImplN
import Derived.Test.YtaolinlginloaacDoorBoxes
import Derived.Test.YtaolinlginloaacDoorHelp
namespace Go.Proofs.YtaolinlginloaacDoor
open Go.RowKit
open Dig

/-- The digest of a hasher, empty where it is not right. -/
theorem bothEnd (s r : ByteArray) (c : Int) (hr : r.size ≤ maxLen) : ∃ D : ByteArray, (∀ w, Calls Tryd.prog 10 #[.agg #[.string s, .string r, .int .i64 c]] w fun e w' => e = .returned (.string D) ∧ Below w.heap.size w w') ∧
    (∀ w, StepIn w → Calls Tryd.prog 12 #[.agg #[.string s, .string r, .int .i64 c]] w fun e w' => e = .returned (.string D) ∧ Below w.heap.size w w') := by
  by_cases hR : HRight s r c
  · obtain ⟨n, rfl⟩ := Int.eq_ofNat_of_zero_le hR.2.2.1
    exact ⟨_, fun w => specEnd_yes s r n w hR, fun w h => implEnd_yes s r n w hR h⟩
  · exact ⟨_, fun w => specEnd_no s r c w hr hR, fun w _ => implEnd_no s r c w hr hR⟩

set_option maxHeartbeats 400000 in
set_option maxRecDepth 100000 in
theorem lawEnd (s r : ByteArray) (c : Int) (hs : s.size ≤ maxLen) (hr : r.size ≤ maxLen) (w : World) (hT : StepIn w) :
    Calls Tryd.prog 3 #[.agg #[.string s, .string r, .int .i64 c]] w fun e w' => e = .returned (.bool true) ∧ Below w.heap.size w w' := by
  have CZ := hide (fun w' => szH_any s r c w' hs hr)
  have CT := hide (fun w' => toH_any s r c w')
  obtain ⟨D, h1, h2⟩ := bothEnd s r c hr
  have CS := hide h1
  have CI := hide h2
  have HT := hide hT
  obtain ⟨z, hz⟩ : ∃ z : Int, z = (if (s.size : Int) + r.size ≤ 1048576 then (1048576 : Int) - s.size - r.size else -1) := ⟨_, rfl⟩
  rw [← hz] at CZ
  clear hz h1 h2 hT
  go_enter Tryd.func3, Tryd.ntmps3
  go_wp2_with fail
  refine (CZ.out _).mono ?_
  rintro en w1 ⟨rfl, hb1⟩
  obtain ⟨⟨c0, c1, c2⟩, hb1', hs1⟩ := kept3 hb1
  have HB1 := hide hb1'
  have HB0 := hide hb1
  clear hb1 hb1' CZ
  by_cases h0 : z < 0
  · go_wp2
    go_ret
    exact ⟨rfl, HB1.out⟩
  · go_wp2_with fail
    refine (CT.out _).mono ?_
    rintro en w2 ⟨rfl, hb2⟩
    have HB2 := hide (HB0.out.trans (hb2.mono HB0.out.size))
    clear hb2 HB0 HB1 c0 c1 c2
    go_wp2_with fail
    refine (CS.out _).mono ?_
    rintro en w3 ⟨rfl, hb3⟩
    have hB3 := HB2.out.trans (hb3.mono HB2.out.size)
    obtain ⟨⟨c0, c1, c2⟩, hb3', hs3⟩ := kept3 hB3
    have HB3 := hide hB3
    clear hb3 HB2 hB3 hb3' hs3
    go_wp2_with fail
    refine (CT.out _).mono ?_
    rintro en w4 ⟨rfl, hb4⟩
    have HB4 := hide (HB3.out.trans (hb4.mono HB3.out.size))
    have HT4 := hide (HT.out.on (kept3 HB4.out).2.1)
    clear hb4 HB3 c0 c1 c2
    go_wp2_with fail
    refine (CI.out _ HT4.out).mono ?_
    rintro en w5 ⟨rfl, hb5⟩
    have hB5 := HB4.out.trans (hb5.mono HB4.out.size)
    have HB5 := hide (kept3 hB5).2.1
    clear hb5 HB4 hB5 CT CS CI HT HT4
    have tt : (D.toList != D.toList) = false := by simp
    go_wp2
    go_ret
    exact ⟨rfl, HB5.out⟩
end Go.Proofs.YtaolinlginloaacDoor
