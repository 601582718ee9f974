/-
  SnewS; INewS
-/
import Derived.Test.YtmpmdacfibgepagStoC
/-
  spec.StoreNew.
-/
namespace Go.Proofs.Ytmpmdacfibgepag
open Go.RowKit
open Words

set_option maxHeartbeats 400000 in
set_option maxRecDepth 100000 in
theorem snewS : NewC 37 := by
  intro w
  have FIN : Hid (StOut w stoNew (.agg #[.slice none 0 0, .slice none 0 0, .int .i64 1]) (w.alloc (.cells #[.slice none 0 0, .slice none 0 0, .int .i64 1] 65))) := by
    have hb : Below w.heap.size w (w.alloc (.cells #[.slice none 0 0, .slice none 0 0, .int .i64 1] 65)) := (Below.refl _ _).alloc (Nat.le_refl _) _
    have hz := hb.size
    refine ⟨_, _, w.heap.size, w.heap.size, w.heap.size, w.heap.size, rfl, .inl ⟨rfl, rfl⟩, ⟨[], rfl, .inl ⟨rfl, rfl⟩, (fun _ h => by cases h), List.Pairwise.nil, by show (0 : Nat) ≤ _; omega⟩, Nat.le_refl _, hz, Nat.le_refl _, hz, .inl (Nat.le_refl _), hb⟩
  have R := hide (heap_alloc_new w (.cells #[.slice none 0 0, .slice none 0 0, .int .i64 1] 65))
  go_enter Try.func37, Try.ntmps37
  go_wp2
  exact bodyPost_ret (results_cell_row rfl _ _ w.heap.size 65 _ (0, 0) _ rfl R.out Try.underlying65 rfl infoSto) rfl ⟨_, rfl, FIN.out⟩
end Go.Proofs.Ytmpmdacfibgepag

/-
  impl.StoreNew.
-/
namespace Go.Proofs.Ytmpmdacfibgepag
open Go.RowKit
open Words

set_option maxHeartbeats 400000 in
set_option maxRecDepth 100000 in
theorem inewS : NewC 38 := by
  intro w
  have FIN : Hid (StOut w stoNew (.agg #[.slice none 0 0, .slice none 0 0, .int .i64 1]) (w.alloc (.cells #[.slice none 0 0, .slice none 0 0, .int .i64 1] 65))) := by
    have hb : Below w.heap.size w (w.alloc (.cells #[.slice none 0 0, .slice none 0 0, .int .i64 1] 65)) := (Below.refl _ _).alloc (Nat.le_refl _) _
    have hz := hb.size
    refine ⟨_, _, w.heap.size, w.heap.size, w.heap.size, w.heap.size, rfl, .inl ⟨rfl, rfl⟩, ⟨[], rfl, .inl ⟨rfl, rfl⟩, (fun _ h => by cases h), List.Pairwise.nil, by show (0 : Nat) ≤ _; omega⟩, Nat.le_refl _, hz, Nat.le_refl _, hz, .inl (Nat.le_refl _), hb⟩
  have R := hide (heap_alloc_new w (.cells #[.slice none 0 0, .slice none 0 0, .int .i64 1] 65))
  go_enter Try.func38, Try.ntmps38
  go_wp2
  exact bodyPost_ret (results_cell_row rfl _ _ w.heap.size 65 _ (0, 0) _ rfl R.out Try.underlying65 rfl infoSto) rfl ⟨_, rfl, FIN.out⟩
end Go.Proofs.Ytmpmdacfibgepag
