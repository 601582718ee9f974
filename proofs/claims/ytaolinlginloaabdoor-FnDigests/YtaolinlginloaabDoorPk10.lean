/-
  Own; RowW
-/
import Derived.Test.YtaolinlginloaabDoorBase
import Derived.Test.YtaolinlginloaabDoorWCells
/-
  Rows that the call owns, over calls that lay new blocks alone.
-/
namespace Go.Proofs.YtaolinlginloaabDoor
open Go.RowKit

theorem own_below {w w' : World} {base : Nat} {e : TypeId} {size : Nat} {v : Value} {n : Nat} {xs : List Value} (h : w.ownsRow base e size v n xs) (hb : Below w.heap.size w w') : w'.ownsRow base e size v n xs := by
  obtain ⟨h1, h2⟩ := h
  refine ⟨h1, ?_⟩
  rcases h2 with h | ⟨g, cap, cur, a1, a2, a3, a4⟩
  · exact .inl h
  · have hg : g < w.heap.size := (Array.getElem?_eq_some_iff.1 a3).1
    exact .inr ⟨g, cap, cur, a1, a2, by rw [hb.block g hg]; exact a3, a4⟩
theorem own_lower {w : World} {base C : Nat} {e : TypeId} {size : Nat} {v : Value} {n : Nat} {xs : List Value} (h : w.ownsRow base e size v n xs) (hC : C ≤ base) : w.ownsRow C e size v n xs := by
  obtain ⟨h1, h2⟩ := h
  refine ⟨h1, ?_⟩
  rcases h2 with h | ⟨g, cap, cur, a1, a2, a3⟩
  · exact .inl h
  · exact .inr ⟨g, cap, cur, a1, by omega, a3⟩
end Go.Proofs.YtaolinlginloaabDoor

/-
  Rows of words.
-/
namespace Go.Proofs.YtaolinlginloaabDoor
open Go.RowKit
open Dig

/-- A new row of words. -/
def Row (w : World) (e : Ending) (w' : World) (l : List Nat) : Prop := ∃ g cap : Nat, e = .returned (.slice (some ⟨g, 0, none⟩) l.length cap) ∧ w.heap.size ≤ g ∧ WordsAt w' g l ∧ Below w.heap.size w w'
/-- A new row of words that the call owns, as appends take it. -/
def Own (w : World) (e : Ending) (w' : World) (l : List Nat) : Prop := ∃ v : Value, e = .returned v ∧ w'.ownsRow w.heap.size 42 1 v l.length (wcells l) ∧ Below w.heap.size w w'
theorem words_new (w : World) (l : List Nat) (C : Array Value) (hC : C.toList = wcells l) : WordsAt (w.alloc (.cells C 42)) w.heap.size l := by
  refine ⟨by simp, fun j hj => ?_⟩
  rw [World.cell?_alloc_mark]
  have : C[j]? = (wcells l)[j]? := by rw [← hC]; simp
  rw [this, wcells_at l j hj]
end Go.Proofs.YtaolinlginloaabDoor
