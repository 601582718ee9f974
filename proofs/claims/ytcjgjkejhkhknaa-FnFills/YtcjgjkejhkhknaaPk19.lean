/-
  Cells; Make4
-/
import Derived.Test.YtcjgjkejhkhknaaFSnoc
import Derived.Test.YtcjgjkejhkhknaaPk16
/-
  The cells of a block that is laid anew.
-/
namespace Go.Proofs.Ytcjgjkejhkhknaa
open Go.RowKit

theorem cells_new (w : World) (cs : Array Value) (t : TypeId) (g : Nat) (hg : w.heap.size = g) : ∀ (j : Nat) (u : Value), cs.toList[j]? = some u → (w.alloc (.cells cs t)).cell? ((⟨g, 0, none⟩ : Addr).add j) = some u := by
  intro j u hj
  subst hg
  rw [addr_at, cell_of_row _ _ j _ _ _ (heap_alloc_new w (.cells cs t))]
  simpa using hj
theorem blk_one (x : Bool) (y : Int) (a : Option Addr) (n c : Nat) : ∀ u ∈ [Value.bool x, Value.int .i64 y, Value.slice a n c], u.oneCell' = true := by
  intro u hu
  simp at hu
  rcases hu with h | h | h <;> subst h <;> rfl
end Go.Proofs.Ytcjgjkejhkhknaa

/-
  make([]impl.Leaf, 4).
-/
namespace Go.Proofs.Ytcjgjkejhkhknaa
open Go.RowKit

def leaf4 : Array Value := #[.int .i64 0, .string ⟨#[]⟩, .int .i64 0, .string ⟨#[]⟩, .int .i64 0, .string ⟨#[]⟩, .int .i64 0, .string ⟨#[]⟩]
theorem made4 : madeCells #[Value.int .i64 0, Value.string ⟨#[]⟩] (4 * 2) = leaf4 := by
  apply Array.toList_inj.1
  simp [madeCells]
  rfl
theorem make4 (w : World) : (Instr.makeSlice 37 (.int .i64 4) (.int .i64 4)).run Try.prog w = .ok (.slice (some ⟨w.heap.size, 0, none⟩) 4 4) (w.alloc (.cells leaf4 94)) := by
  obtain ⟨i0, hi0, hz0, hz1, hz2⟩ := info_parts infoLeaf
  have hr := run_make (P := Try.prog) w 37 94 i0 (.agg #[.int .i64 0, .string ⟨#[]⟩]) Try.underlying37 hi0 hz0 .i64 .i64 4 4 (by omega) (Int.le_refl _) (by rw [hz2]; omega) (by omega)
  rw [hz1] at hr
  rw [← made4]
  exact hr
theorem own4 (w : World) : (w.alloc (.cells leaf4 94)).ownsRow w.heap.size 94 2 (.slice (some ⟨w.heap.size, 0, none⟩) 4 4) blank4.length (lcells blank4) :=
  ⟨rfl, .inr ⟨w.heap.size, 4, leaf4, rfl, Nat.le_refl _, heap_alloc_new w _, Nat.le_refl _, by unfold maxLen; omega, rfl, rfl⟩⟩
end Go.Proofs.Ytcjgjkejhkhknaa
