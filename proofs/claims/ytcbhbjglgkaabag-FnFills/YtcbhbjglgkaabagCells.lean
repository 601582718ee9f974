/-
  The cells of a block that is laid anew.
-/
import Derived.Test.YtcbhbjglgkaabagFSnoc
namespace Go.Proofs.Ytcbhbjglgkaabag
open Go.RowKit

theorem cells_new (w : World) (cs : Array Value) (t : TypeId) (g : Nat) (hg : w.heap.size = g) : ∀ (j : Nat) (u : Value), cs.toList[j]? = some u → (w.alloc (.cells cs t)).cell? ((⟨g, 0, none⟩ : Addr).add j) = some u := by
  intro j u hj
  subst hg
  rw [addr_at, cell_of_row _ _ j _ _ _ (heap_alloc_new w (.cells cs t))]
  simpa using hj
theorem blk_one (x : Bool) (y : Int) (a : Option Addr) (n c : Nat) : ∀ u ∈ [Value.bool x, Value.int .i64 y, Value.slice a n c], u.oneCell' = true := by
  intro u hu
  simp at hu
  rcases hu with h | h | h <;> subst h <;> rfl
end Go.Proofs.Ytcbhbjglgkaabag
