/-
  Blocks beside a row that grows.
-/
import Derived.Test.YtcnaahajaaifjabPq0
import Derived.Test.YtcnaahajaaifjabPq1
namespace Go.Proofs.Ytcnaahajaaifjab
open Go.RowKit

/-- Block b is o, and the row cv lies elsewhere. -/
def Blk (W : World) (cv : Value) (b : Nat) (o : Obj) : Prop := W.heap[b]? = some o ∧ cv.ownBlock ≠ some b
theorem Blk.lt {W : World} {cv : Value} {b : Nat} {o : Obj} (h : Blk W cv b o) : b < W.heap.size := (Array.getElem?_eq_some_iff.1 h.1).1
theorem Blk.below {W W' : World} {cv : Value} {b : Nat} {o : Obj} (h : Blk W cv b o) (hb : Below W.heap.size W W') : Blk W' cv b o := ⟨(hb.block b h.lt).trans h.1, h.2⟩
theorem Blk.grown {W W1 y : World} {cv u : Value} {b : Nat} {o : Obj} (h : Blk W cv b o) (hb : Below W.heap.size W W1) (hg : W1.grownBy y cv.ownBlock) (hu : u.ownBlock = cv.ownBlock ∨ ∃ q, u.ownBlock = some q ∧ W1.heap.size ≤ q) : Blk y u b o := by
  have h1 := h.below hb
  refine ⟨(hg.block b h1.lt (fun e => h.2 e.symm)).trans h1.1, ?_⟩
  rcases hu with e | ⟨q, e, hq⟩
  · rw [e]; exact h.2
  · rw [e]
    intro e2
    injection e2 with e2
    have := h1.lt
    omega
/-- A block that is new lies elsewhere. -/
theorem Blk.new {W : World} {cv : Value} (cs : Array Value) (t : TypeId) (h : ∀ q, cv.ownBlock = some q → q < W.heap.size) : Blk (W.alloc (.cells cs t)) cv W.heap.size (.cells cs t (0, 0)) := ⟨heap_alloc_new W _, fun e => by have := h _ e; omega⟩
theorem Blk.cell {W : World} {cv : Value} {b k : Nat} {cs : Array Value} {t : TypeId} {v : Value} (h : Blk W cv b (.cells cs t (0, 0))) (hk : cs[k]? = some v) : W.cell? ⟨b, k, none⟩ = some v := by
  rw [cell_of_row _ _ k _ _ _ h.1]
  exact hk
end Go.Proofs.Ytcnaahajaaifjab
