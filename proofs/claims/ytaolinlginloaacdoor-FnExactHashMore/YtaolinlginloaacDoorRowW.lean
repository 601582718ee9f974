/-
  Rows of words.
-/
import Derived.Test.YtaolinlginloaacDoorWCells
import Derived.Test.YtaolinlginloaacDoorOwn
namespace Go.Proofs.YtaolinlginloaacDoor
open Go.RowKit
open Dig

/-- A new row of words. -/
def Row (w : World) (e : Ending) (w' : World) (l : List Nat) : Prop := ∃ g cap : Nat, e = .returned (.slice (some ⟨g, 0, none⟩) l.length cap) ∧ w.heap.size ≤ g ∧ WordsAt w' g l ∧ Below w.heap.size w w'
/-- A new row of words that the call owns, as appends take it. -/
def Own (w : World) (e : Ending) (w' : World) (l : List Nat) : Prop := ∃ v : Value, e = .returned v ∧ w'.ownsRow w.heap.size 69 1 v l.length (wcells l) ∧ Below w.heap.size w w'
theorem words_new (w : World) (l : List Nat) (C : Array Value) (hC : C.toList = wcells l) : WordsAt (w.alloc (.cells C 69)) w.heap.size l := by
  refine ⟨by simp, fun j hj => ?_⟩
  rw [World.cell?_alloc_mark]
  have : C[j]? = (wcells l)[j]? := by rw [← hC]; simp
  rw [this, wcells_at l j hj]
end Go.Proofs.YtaolinlginloaacDoor
