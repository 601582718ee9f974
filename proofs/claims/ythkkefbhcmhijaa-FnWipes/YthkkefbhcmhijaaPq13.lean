/-
  FRight; SIn; Cells; Make4
-/
import Derived.Test.YthkkefbhcmhijaaIBlk
import Derived.Test.YthkkefbhcmhijaaFPut
import Derived.Test.YthkkefbhcmhijaaFRP
import Derived.Test.YthkkefbhcmhijaaPq0
import Derived.Test.YthkkefbhcmhijaaFSnoc
import Derived.Test.YthkkefbhcmhijaaPq4
/-
  Right flashes stay right (FRP), with what walks over flashes want besides.
-/

/-
  spec.l01In.
-/
namespace Go.Proofs.Ythkkefbhcmhijaa
open Go.RowKit
set_option maxHeartbeats 400000 in
set_option maxRecDepth 100000 in
theorem sin_b (x lo hi : Int) (b : Bool) (w : World) (h : (lo ≤ x ∧ x ≤ hi ∧ b = true) ∨ ((x < lo ∨ lo ≤ x ∧ ¬ x ≤ hi) ∧ b = false)) :
    Calls Try.prog 38 #[.int .i64 x, .int .i64 lo, .int .i64 hi] w fun e w' => e = .returned (.bool b) ∧ w' = w := by
  rcases h with ⟨h1, h2, rfl⟩ | ⟨h1 | ⟨h1, h2⟩, rfl⟩
  all_goals
    go_enter Try.func38, Try.ntmps38
    go_wp2
    go_ret
    exact ⟨rfl, rfl⟩
theorem sin_any (x lo hi : Int) (w : World) :
    Calls Try.prog 38 #[.int .i64 x, .int .i64 lo, .int .i64 hi] w fun e w' => e = .returned (.bool (decide (lo ≤ x ∧ x ≤ hi))) ∧ w' = w := by
  apply sin_b
  by_cases h : lo ≤ x ∧ x ≤ hi
  · exact .inl ⟨h.1, h.2, decide_eq_true h⟩
  · exact .inr ⟨by omega, decide_eq_false h⟩
end Go.Proofs.Ythkkefbhcmhijaa

/-
  The cells of a block that is laid anew.
-/
namespace Go.Proofs.Ythkkefbhcmhijaa
open Go.RowKit

theorem cells_new (w : World) (cs : Array Value) (t : TypeId) (g : Nat) (hg : w.heap.size = g) : ∀ (j : Nat) (u : Value), cs.toList[j]? = some u → (w.alloc (.cells cs t)).cell? ((⟨g, 0, none⟩ : Addr).add j) = some u := by
  intro j u hj
  subst hg
  rw [addr_at, cell_of_row _ _ j _ _ _ (heap_alloc_new w (.cells cs t))]
  simpa using hj
theorem blk_one (x : Bool) (y : Int) (a : Option Addr) (n c : Nat) : ∀ u ∈ [Value.bool x, Value.int .i64 y, Value.slice a n c], u.oneCell' = true := by
  intro u hu
  simp at hu
  rcases hu with h | h | h <;> subst h <;> rfl
end Go.Proofs.Ythkkefbhcmhijaa

/-
  make([]impl.Leaf, 4).
-/
namespace Go.Proofs.Ythkkefbhcmhijaa
open Go.RowKit

def leaf4 : Array Value := #[.int .i64 0, .string ⟨#[]⟩, .int .i64 0, .string ⟨#[]⟩, .int .i64 0, .string ⟨#[]⟩, .int .i64 0, .string ⟨#[]⟩]
theorem made4 : madeCells #[Value.int .i64 0, Value.string ⟨#[]⟩] (4 * 2) = leaf4 := by
  apply Array.toList_inj.1
  simp [madeCells]
  rfl
theorem make4 (w : World) : (Instr.makeSlice 31 (.int .i64 4) (.int .i64 4)).run Try.prog w = .ok (.slice (some ⟨w.heap.size, 0, none⟩) 4 4) (w.alloc (.cells leaf4 41)) := by
  obtain ⟨i0, hi0, hz0, hz1, hz2⟩ := info_parts infoLeaf
  have hr := run_make (P := Try.prog) w 31 41 i0 (.agg #[.int .i64 0, .string ⟨#[]⟩]) Try.underlying31 hi0 hz0 .i64 .i64 4 4 (by omega) (Int.le_refl _) (by rw [hz2]; omega) (by omega)
  rw [hz1] at hr
  rw [← made4]
  exact hr
theorem own4 (w : World) : (w.alloc (.cells leaf4 41)).ownsRow w.heap.size 41 2 (.slice (some ⟨w.heap.size, 0, none⟩) 4 4) blank4.length (lcells blank4) :=
  ⟨rfl, .inr ⟨w.heap.size, 4, leaf4, rfl, Nat.le_refl _, heap_alloc_new w _, Nat.le_refl _, by unfold maxLen; omega, rfl, rfl⟩⟩
end Go.Proofs.Ythkkefbhcmhijaa
