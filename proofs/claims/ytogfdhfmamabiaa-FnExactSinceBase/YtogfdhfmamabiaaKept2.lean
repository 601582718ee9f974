/-
  Worlds in which all old blocks but some are as they were.
-/
import Derived.Test.YtogfdhfmamabiaaBase
namespace Go.Proofs.Ytogfdhfmamabiaa
open Go.RowKit

/-- All old blocks of which 'ok' holds are as they were. -/
def Kept2 (w w' : World) (ok : Nat → Prop) : Prop := w'.os = w.os ∧ w'.tape = w.tape ∧ w'.output = w.output ∧ w.heap.size ≤ w'.heap.size ∧ ∀ i, i < w.heap.size → ok i → w'.heap[i]? = w.heap[i]?
theorem Kept2.refl (w : World) (ok : Nat → Prop) : Kept2 w w ok := ⟨rfl, rfl, rfl, Nat.le_refl _, fun _ _ _ => rfl⟩
theorem Kept2.trans {a b c : World} {ok : Nat → Prop} (h : Kept2 a b ok) (k : Kept2 b c ok) : Kept2 a c ok :=
  ⟨k.1.trans h.1, k.2.1.trans h.2.1, k.2.2.1.trans h.2.2.1, Nat.le_trans h.2.2.2.1 k.2.2.2.1, fun i hi ho => (k.2.2.2.2 i (Nat.lt_of_lt_of_le hi h.2.2.2.1) ho).trans (h.2.2.2.2 i hi ho)⟩
theorem Kept2.grown {a b : World} {ok : Nat → Prop} {row : Option Nat} (h : a.grownBy b row) (hr : ∀ j, row = some j → ¬ ok j) : Kept2 a b ok :=
  ⟨h.os, h.tape, h.output, h.size, fun i hi ho => h.block i hi (fun e => hr i e.symm ho)⟩
theorem Kept2.below {a b : World} {ok : Nat → Prop} (h : Below a.heap.size a b) : Kept2 a b ok := ⟨h.os, h.tape, h.output, h.size, fun i hi _ => h.block i hi⟩
theorem Kept2.down {a b : World} {ok : Nat → Prop} {B : Nat} (h : Kept2 a b ok) (hB : B ≤ a.heap.size) (ho : ∀ i, i < B → ok i) : Below B a b := ⟨h.1, h.2.1, h.2.2.1, h.2.2.2.1, fun i hi => h.2.2.2.2 i (Nat.lt_of_lt_of_le hi hB) (ho i hi)⟩
theorem grown_old {a b : World} (h : Below a.heap.size a b) (row : Option Nat) : a.grownBy b row := ⟨h.os, h.tape, h.output, h.size, fun i hi _ => h.block i hi⟩
end Go.Proofs.Ytogfdhfmamabiaa
