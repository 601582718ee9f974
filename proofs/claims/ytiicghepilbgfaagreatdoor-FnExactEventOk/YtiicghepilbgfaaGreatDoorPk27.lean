/-
  Own; Kept2; OwnC
-/
import Derived.Test.YtiicghepilbgfaaGreatDoorPk0
import Derived.Deep.MidRow
/-
  Rows that the call owns, over calls that lay new blocks alone.
-/
namespace Go.Proofs.YtiicghepilbgfaaGreatDoor
open Go.RowKit

theorem own_below {w w' : World} {base : Nat} {e : TypeId} {size : Nat} {v : Value} {n : Nat} {xs : List Value} (h : w.ownsRow base e size v n xs) (hb : Below w.heap.size w w') : w'.ownsRow base e size v n xs := by
  obtain ⟨h1, h2⟩ := h
  refine ⟨h1, ?_⟩
  rcases h2 with h | ⟨g, cap, cur, a1, a2, a3, a4⟩
  · exact .inl h
  · have hg : g < w.heap.size := (Array.getElem?_eq_some_iff.1 a3).1
    exact .inr ⟨g, cap, cur, a1, a2, by rw [hb.block g hg]; exact a3, a4⟩
theorem own_lower {w : World} {base C : Nat} {e : TypeId} {size : Nat} {v : Value} {n : Nat} {xs : List Value} (h : w.ownsRow base e size v n xs) (hC : C ≤ base) : w.ownsRow C e size v n xs := by
  obtain ⟨h1, h2⟩ := h
  refine ⟨h1, ?_⟩
  rcases h2 with h | ⟨g, cap, cur, a1, a2, a3⟩
  · exact .inl h
  · exact .inr ⟨g, cap, cur, a1, by omega, a3⟩
end Go.Proofs.YtiicghepilbgfaaGreatDoor

/-
  Worlds in which all old blocks but some are as they were.
-/
namespace Go.Proofs.YtiicghepilbgfaaGreatDoor
open Go.RowKit

/-- All old blocks of which 'ok' holds are as they were. -/
def Kept2 (w w' : World) (ok : Nat → Prop) : Prop := w'.os = w.os ∧ w'.tape = w.tape ∧ w'.output = w.output ∧ w.heap.size ≤ w'.heap.size ∧ ∀ i, i < w.heap.size → ok i → w'.heap[i]? = w.heap[i]?
theorem Kept2.refl (w : World) (ok : Nat → Prop) : Kept2 w w ok := ⟨rfl, rfl, rfl, Nat.le_refl _, fun _ _ _ => rfl⟩
theorem Kept2.trans {a b c : World} {ok : Nat → Prop} (h : Kept2 a b ok) (k : Kept2 b c ok) : Kept2 a c ok :=
  ⟨k.1.trans h.1, k.2.1.trans h.2.1, k.2.2.1.trans h.2.2.1, Nat.le_trans h.2.2.2.1 k.2.2.2.1, fun i hi ho => (k.2.2.2.2 i (Nat.lt_of_lt_of_le hi h.2.2.2.1) ho).trans (h.2.2.2.2 i hi ho)⟩
theorem Kept2.grown {a b : World} {ok : Nat → Prop} {row : Option Nat} (h : a.grownBy b row) (hr : ∀ j, row = some j → ¬ ok j) : Kept2 a b ok :=
  ⟨h.os, h.tape, h.output, h.size, fun i hi ho => h.block i hi (fun e => hr i e.symm ho)⟩
theorem Kept2.below {a b : World} {ok : Nat → Prop} (h : Below a.heap.size a b) : Kept2 a b ok := ⟨h.os, h.tape, h.output, h.size, fun i hi _ => h.block i hi⟩
theorem Kept2.down {a b : World} {ok : Nat → Prop} {B : Nat} (h : Kept2 a b ok) (hB : B ≤ a.heap.size) (ho : ∀ i, i < B → ok i) : Below B a b := ⟨h.1, h.2.1, h.2.2.1, h.2.2.2.1, fun i hi => h.2.2.2.2 i (Nat.lt_of_lt_of_le hi hB) (ho i hi)⟩
theorem grown_old {a b : World} (h : Below a.heap.size a b) (row : Option Nat) : a.grownBy b row := ⟨h.os, h.tape, h.output, h.size, fun i hi _ => h.block i hi⟩
end Go.Proofs.YtiicghepilbgfaaGreatDoor

/-
  Rows that a call owns: a cell written elsewhere, a lower bound.
-/
namespace Go.Proofs.YtiicghepilbgfaaGreatDoor
open Go.RowKit

theorem row_set {w : World} {g : Nat} {cs : Array Value} {t : TypeId} (h : w.heap[g]? = some (.cells cs t (0, 0))) (i : Nat) (u : Value) : (w.setCell ⟨g, i, none⟩ u).heap[g]? = some (.cells (cs.setIfInBounds i u) t (0, 0)) := by
  rw [setCell_eq_setRow w g i cs t (0, 0) u h]
  exact setRow_heap w g cs _ t _ h
theorem row_set_ne {w : World} {g g' : Nat} {o : Obj} (h : w.heap[g]? = some o) (hn : g ≠ g') (i : Nat) (u : Value) : (w.setCell ⟨g', i, none⟩ u).heap[g]? = some o := (Below.heap_setCell _ _ _ _ hn).trans h
theorem own_down {w : World} {B B' : Nat} {e : TypeId} {size n : Nat} {v : Value} {xs : List Value} (h : w.ownsRow B e size v n xs) (hb : B' ≤ B) : w.ownsRow B' e size v n xs := by
  obtain ⟨h1, h2⟩ := h
  refine ⟨h1, ?_⟩
  rcases h2 with h | ⟨g, cap, cur, rfl, a2, a3⟩
  · exact .inl h
  · exact .inr ⟨g, cap, cur, rfl, by omega, a3⟩
theorem own_cell {w : World} {B : Nat} {e : TypeId} {size n : Nat} {v : Value} {xs : List Value} (h : w.ownsRow B e size v n xs) {g : Nat} (hg : g < B) (i : Nat) (u : Value) : (w.setCell ⟨g, i, none⟩ u).ownsRow B e size v n xs := by
  obtain ⟨h1, h2⟩ := h
  refine ⟨h1, ?_⟩
  rcases h2 with h | ⟨g', cap, cur, rfl, a2, a3, a4⟩
  · exact .inl h
  · exact .inr ⟨g', cap, cur, rfl, a2, row_set_ne a3 (by omega) _ _, a4⟩
theorem own_block_lt {w : World} {B : Nat} {e : TypeId} {size n : Nat} {v : Value} {xs : List Value} (h : w.ownsRow B e size v n xs) : ∀ g, v.ownBlock = some g → B ≤ g ∧ g < w.heap.size := by
  intro g hg
  exact h.lt g hg
theorem fown_set {w : World} {base : Nat} {e : TypeId} {size n : Nat} {v : Value} {xs : List Value} {g cap : Nat} (h : w.ownsRow base e size v n xs) (hv : v = .slice (some ⟨g, 0, none⟩) n cap) (k : Nat) (u : Value) :
    (w.setCell ⟨g, k, none⟩ u).ownsRow base e size v n (xs.set k u) := by
  obtain ⟨h1, h2⟩ := h
  refine ⟨by simpa using h1, ?_⟩
  rcases h2 with ⟨h3, -⟩ | ⟨g', cap', cur, h3, h4, h5, h6, h7, h8, h9⟩
  · rw [hv] at h3; cases h3
  · right
    have hg : g' = g := by rw [hv] at h3; injection h3 with a; simp at a; exact a.symm
    subst hg
    refine ⟨g', cap', cur.setIfInBounds k u, h3, h4, ?_, h6, h7, by simpa using h8, ?_⟩
    · rw [setCell_eq_setRow w g' k cur e (0, 0) u h5]
      exact setRow_heap w g' cur _ e _ h5
    · rw [Array.toList_setIfInBounds, List.take_set, h9]
theorem grown_cell (w : World) (g k : Nat) (u : Value) : w.grownBy (w.setCell ⟨g, k, none⟩ u) (some g) :=
  ⟨rfl, rfl, rfl, by simp [World.setCell], fun i _ hi => Below.heap_setCell _ _ _ _ (fun e => hi (by rw [e]))⟩
end Go.Proofs.YtiicghepilbgfaaGreatDoor
