/-
  The walk of the specification's HashMore.
-/
import Derived.Test.YtaolinlginloaacDoorHashOk
import Derived.Test.YtaolinlginloaacDoorBoxes
import Derived.Test.YtaolinlginloaacDoorRound
import Derived.Test.YtaolinlginloaacDoorSpecR2
namespace Go.Proofs.YtaolinlginloaacDoor
open Go.RowKit
open Dig

set_option maxHeartbeats 1000000 in
set_option maxRecDepth 100000 in
theorem specMore_no (s r t : ByteArray) (c : Int) (w : World) (hr : r.size ≤ maxLen) (hn : ¬ HRight s r c) :
    Calls Tryd.prog 13 #[.agg #[.string s, .string r, .int .i64 c], .string t] w fun e w' => e = .returned (.agg #[.string s, .string r, .int .i64 c]) ∧ Below w.heap.size w w' := by
  have d : @decide (HRight s r c) (decH s r c) = false := dcN hn
  clear hn
  go_enter Tryd.func13, Tryd.ntmps13
  go_wp2_with fail
  refine (specOk_any s r c _ hr).mono ?_
  rintro e w1 ⟨rfl, hb⟩
  rw [d]
  obtain ⟨⟨c0, c1, c2⟩, ⟨r0, r1, r2⟩, rf, hs1, hb1⟩ := boxed (by simpa using hb)
  have f0 := rf 0
  have f1 := rf 1
  have f2 := rf 2
  clear hb rf d
  have hb2 := ((hb1.setCell (p := ⟨w.heap.size + 1, 0, none⟩) (by show w.heap.size ≤ w.heap.size + 1; omega) (.string s)).setCell (p := ⟨w.heap.size + 1, 1, none⟩) (by show w.heap.size ≤ w.heap.size + 1; omega) (.string r)).setCell (p := ⟨w.heap.size + 1, 2, none⟩) (by show w.heap.size ≤ w.heap.size + 1; omega) (.int .i64 c)
  have T := three (a := .string s) (b := .string r) (c := .int .i64 c) r0 r1 r2
  have HB := hide hb2
  have HT := hide T
  clear hb2 T hb1
  go_wp2
  have T := HT.out
  generalize ((w1.setCell ⟨w.heap.size + 1, 0, none⟩ (.string s)).setCell ⟨w.heap.size + 1, 1, none⟩ (.string r)).setCell ⟨w.heap.size + 1, 2, none⟩ (.int .i64 c) = w2 at T HB
  obtain ⟨q0, q1, q2⟩ := T
  refine bodyPost_ret (v := .agg #[.string s, .string r, .int .i64 c]) (by simp [results, Tryd.results13, go_sem, q0, q1, q2]) rfl ⟨rfl, HB.out⟩
set_option maxHeartbeats 1000000 in
set_option maxRecDepth 100000 in
theorem specMore_big (s r t : ByteArray) (n : Nat) (w : World) (hR : HRight s r n) (ht : t.size ≤ 1048576) (hc : (1000000000 : Int) < (n : Int) + t.size) :
    Calls Tryd.prog 13 #[.agg #[.string s, .string r, .int .i64 n], .string t] w fun e w' => e = .returned (.agg #[.string s, .string r, .int .i64 n]) ∧ Below w.heap.size w w' := by
  have d : @decide (HRight s r n) (decH s r n) = true := dcY hR
  have hn : (n : Int) ≤ 1000000000 := hR.2.2.2.1
  have hr := hR.2.1
  clear hR
  go_enter Tryd.func13, Tryd.ntmps13
  go_wp2_with fail
  refine (specOk_any s r n _ (by unfold maxLen; omega)).mono ?_
  rintro e w1 ⟨rfl, hb⟩
  rw [d]
  obtain ⟨⟨c0, c1, c2⟩, ⟨r0, r1, r2⟩, rf, hs1, hb1⟩ := boxed (by simpa using hb)
  have f0 := rf 0
  have f1 := rf 1
  have f2 := rf 2
  clear hb rf d
  have hb2 := ((hb1.setCell (p := ⟨w.heap.size + 1, 0, none⟩) (by show w.heap.size ≤ w.heap.size + 1; omega) (.string s)).setCell (p := ⟨w.heap.size + 1, 1, none⟩) (by show w.heap.size ≤ w.heap.size + 1; omega) (.string r)).setCell (p := ⟨w.heap.size + 1, 2, none⟩) (by show w.heap.size ≤ w.heap.size + 1; omega) (.int .i64 n)
  have T := three (a := .string s) (b := .string r) (c := .int .i64 n) r0 r1 r2
  have HB := hide hb2
  have HT := hide T
  clear hb2 T hb1
  go_wp2
  have T := HT.out
  generalize ((w1.setCell ⟨w.heap.size + 1, 0, none⟩ (.string s)).setCell ⟨w.heap.size + 1, 1, none⟩ (.string r)).setCell ⟨w.heap.size + 1, 2, none⟩ (.int .i64 n) = w2 at T HB
  obtain ⟨q0, q1, q2⟩ := T
  refine bodyPost_ret (v := .agg #[.string s, .string r, .int .i64 n]) (by simp [results, Tryd.results13, go_sem, q0, q1, q2]) rfl ⟨rfl, HB.out⟩
end Go.Proofs.YtaolinlginloaacDoor
