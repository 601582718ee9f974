/-
  The walk of impl's HashMore.
-/
import Derived.Test.YtaolinlginloaacDoorImplC
namespace Go.Proofs.YtaolinlginloaacDoor
open Go.RowKit
open Dig

/-- What a call that has HasherOk asked of what is laid makes of it. -/
theorem lay_ok {w w1 : World} {s r : ByteArray} {c : Int} {t1 t2 : TypeId} (hb : Below ((w.alloc (.cells #[.string s, .string r, .int .i64 c] t1)).alloc (.cells #[.string ⟨#[]⟩, .string ⟨#[]⟩, .int .i64 0] t2)).heap.size ((w.alloc (.cells #[.string s, .string r, .int .i64 c] t1)).alloc (.cells #[.string ⟨#[]⟩, .string ⟨#[]⟩, .int .i64 0] t2)) w1) : LayH w w1 s r c :=
  (lay_new w s r c t1 t2).on hb

set_option maxHeartbeats 1000000 in
set_option maxRecDepth 100000 in
theorem implMore_no (s r t : ByteArray) (c : Int) (w : World) (hs : s.size ≤ 4000000) (hr : r.size ≤ 4000000) (hn : ¬ HRight s r c) :
    Calls Tryd.prog 14 #[.agg #[.string s, .string r, .int .i64 c], .string t] w fun e w' => e = .returned (.agg #[.string s, .string r, .int .i64 c]) ∧ Below w.heap.size w w' := by
  have d : @decide (HRight s r c) (decH s r c) = false := dcN hn
  clear hn
  go_enter Tryd.func14, Tryd.ntmps14
  go_wp2_with fail
  refine (implOk_any s r c _ (by unfold maxLen; omega)).mono ?_
  rintro e w1 ⟨rfl, hb⟩
  rw [d]
  have hL := lay_ok hb
  obtain ⟨c0, c1, c2⟩ := hL.1
  have HL := hide hL
  clear hb hL d
  go_wp2_with fail
  refine (copied_any s r c _ hs hr).mono ?_
  rintro e w2 ⟨rfl, hb2⟩
  have hL2 := HL.out.on hb2
  obtain ⟨r0, r1, r2⟩ := hL2.2.1
  obtain ⟨f0, f1, f2⟩ := hL2.2.2.1
  obtain ⟨q, hq⟩ := hL2.put (.string s) (.string r) (.int .i64 c)
  have HB := hide hq
  have HQ := hide q
  clear q hq hL2 hb2 HL c0 c1 c2
  go_wp2
  generalize ((w2.setCell ⟨w.heap.size + 1, 0, none⟩ (.string s)).setCell ⟨w.heap.size + 1, 1, none⟩ (.string r)).setCell ⟨w.heap.size + 1, 2, none⟩ (.int .i64 c) = w4 at HQ HB ⊢
  obtain ⟨q0, q1, q2⟩ := HQ.out
  exact bodyPost_ret (v := .agg #[.string s, .string r, .int .i64 c]) (by simp [results, Tryd.results14, go_sem, q0, q1, q2]) rfl ⟨rfl, HB.out⟩

set_option maxHeartbeats 1000000 in
set_option maxRecDepth 100000 in
theorem implMore_big (s r t : ByteArray) (n : Nat) (w : World) (hR : HRight s r n) (hc : (1000000000 : Int) < (n : Int) + t.size) :
    Calls Tryd.prog 14 #[.agg #[.string s, .string r, .int .i64 n], .string t] w fun e w' => e = .returned (.agg #[.string s, .string r, .int .i64 n]) ∧ Below w.heap.size w w' := by
  have d : @decide (HRight s r n) (decH s r n) = true := dcY hR
  have hn : (n : Int) ≤ 1000000000 := hR.2.2.2.1
  have hr := hR.2.1
  have hs := hR.1
  clear hR
  go_enter Tryd.func14, Tryd.ntmps14
  go_wp2_with fail
  refine (implOk_any s r n _ (by unfold maxLen; omega)).mono ?_
  rintro e w1 ⟨rfl, hb⟩
  rw [d]
  have hL := lay_ok hb
  obtain ⟨c0, c1, c2⟩ := hL.1
  have HL := hide hL
  clear hb hL d
  have tt : (1000000000 : Int) - n < t.size := by omega
  go_wp2_with fail
  refine (copied_any s r n _ (by omega) (by omega)).mono ?_
  rintro e w2 ⟨rfl, hb2⟩
  have hL2 := HL.out.on hb2
  obtain ⟨r0, r1, r2⟩ := hL2.2.1
  obtain ⟨f0, f1, f2⟩ := hL2.2.2.1
  obtain ⟨q, hq⟩ := hL2.put (.string s) (.string r) (.int .i64 n)
  have HB := hide hq
  have HQ := hide q
  clear q hq hL2 hb2 HL c0 c1 c2
  go_wp2
  generalize ((w2.setCell ⟨w.heap.size + 1, 0, none⟩ (.string s)).setCell ⟨w.heap.size + 1, 1, none⟩ (.string r)).setCell ⟨w.heap.size + 1, 2, none⟩ (.int .i64 n) = w4 at HQ HB ⊢
  obtain ⟨q0, q1, q2⟩ := HQ.out
  exact bodyPost_ret (v := .agg #[.string s, .string r, .int .i64 n]) (by simp [results, Tryd.results14, go_sem, q0, q1, q2]) rfl ⟨rfl, HB.out⟩

end Go.Proofs.YtaolinlginloaacDoor
