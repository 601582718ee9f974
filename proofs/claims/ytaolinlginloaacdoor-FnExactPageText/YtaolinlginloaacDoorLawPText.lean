/-
  The law on PageText.
-/
import Derived.Test.YtaolinlginloaacDoorLawP
import Derived.Test.YtaolinlginloaacDoorIPText
namespace Go.Proofs.YtaolinlginloaacDoor
open Go.RowKit
open Words Sums

set_option maxHeartbeats 1000000 in
set_option maxRecDepth 100000 in
theorem lawPageText (a b c d e0 : Int) (t : ByteArray) (hm : t.size ≤ maxLen) (w : World) (ht : HalvIn w) :
    Calls Tryd.prog 7 #[.agg #[.int .i64 a, .int .i64 b, .int .i64 c, .int .i64 d, .int .i64 e0, .string t]] w fun e w' => e = .returned (.bool true) ∧ Below w.heap.size w w' := by
  obtain ⟨p, hp⟩ : ∃ p : Pg, p = ⟨a, b, c, d, e0, t⟩ := ⟨_, rfl⟩
  have ev : Value.agg #[.int .i64 a, .int .i64 b, .int .i64 c, .int .i64 d, .int .i64 e0, .string t] = pgVal p := by subst hp; rfl
  have et : t = p.text := by subst hp; rfl
  have HT := hide ht
  clear ht
  have HB := hide ((Below.refl w.heap.size w).alloc (Nat.le_refl _) (.cells #[.int .i64 a, .int .i64 b, .int .i64 c, .int .i64 d, .int .i64 e0, .string t] 56))
  by_cases hs : t.size ≤ 1048576
  · have HSZ := hide (fun w => szPage_yes p w (by rw [← et]; exact hs))
    rw [← ev, ← et] at HSZ
    have HTP := hide (toPage_any p)
    rw [← ev] at HTP
    have HSP := hide (spageText p)
    rw [← ev] at HSP
    have HIM := hide (ipageText p)
    rw [← ev] at HIM
    have g : ¬ (1048576 : Int) - t.size < 0 := by omega
    obtain ⟨r, hr⟩ : ∃ r, r = ptRes p := ⟨_, rfl⟩
    rw [← hr] at HSP HIM
    have hrr : (∃ u : ByteArray, r = .tuple #[.string u, .bool true]) ∨ r = .tuple #[.string ⟨#[]⟩, .bool false] := by rw [hr]; unfold ptRes; split <;> simp
    clear hp ev et hr
    go_enter Tryd.func7, Tryd.ntmps7
    go_wp2_with fail
    refine (HSZ.out _).mono ?_
    rintro e w1 ⟨rfl, b1⟩
    have B1 := hide (HB.out.trans (b1.mono HB.out.size))
    obtain ⟨c0, c1, c2, c3, c4, c5⟩ := cell_new6 _ _ _ _ _ _ _ _ _ b1
    have l1 : w.heap.size < w1.heap.size := Nat.lt_of_lt_of_le (by simp) b1.size
    clear HSZ b1 HB
    go_wp2_with fail
    refine (HTP.out _).mono ?_
    rintro e w2 ⟨rfl, b2⟩
    have B2 := hide (B1.out.trans (b2.mono B1.out.size))
    have l2 : w.heap.size < w2.heap.size := Nat.lt_of_lt_of_le l1 b2.size
    rw [← b2.cell l1] at c0 c1 c2 c3 c4 c5
    clear b2 B1 l1
    go_wp2_with fail
    refine (HSP.out _).mono ?_
    rintro e w3 ⟨rfl, b3⟩
    have B3 := hide (B2.out.trans (b3.mono B2.out.size))
    have l3 : w.heap.size < w3.heap.size := Nat.lt_of_lt_of_le l2 b3.size
    rw [← b3.cell l2] at c0 c1 c2 c3 c4 c5
    clear b3 B2 l2 HSP
    rcases hrr with ⟨u, rfl⟩ | rfl
    all_goals
      go_wp2_with fail
      refine (HTP.out _).mono ?_
      rintro e w4 ⟨rfl, b4⟩
      have B4 := hide (B3.out.trans (b4.mono B3.out.size))
      clear b4 B3
      go_wp2_with fail
      refine (HIM.out _ (HT.out.on B4.out)).mono ?_
      rintro e w5 ⟨rfl, b5⟩
      have B5 := hide (B4.out.trans (b5.mono B4.out.size))
      clear b5 B4 HIM HTP
      go_wp2
      go_ret
      exact ⟨rfl, B5.out⟩
  · have HSZ := hide (fun w => szPage_no p w (by rw [← et]; exact hs) (by rw [← et]; exact hm))
    rw [← ev] at HSZ
    clear hp ev et
    go_enter Tryd.func7, Tryd.ntmps7
    go_wp2_with fail
    refine (HSZ.out _).mono ?_
    rintro e w1 ⟨rfl, b1⟩
    have B1 := hide (HB.out.trans (b1.mono HB.out.size))
    go_wp2
    go_ret
    exact ⟨rfl, B1.out⟩
end Go.Proofs.YtaolinlginloaacDoor
