/-
  A hasher that lies in a block and may be written.
-/
import Derived.Test.YtaolinlginloaabDoorBoxes
namespace Go.Proofs.YtaolinlginloaabDoor
open Go.RowKit

/-- A hasher that lies in block g and may be written. -/
def HAt (w : World) (g : Nat) (s r : ByteArray) (c : Int) : Prop := g < w.heap.size ∧ w.cell? ⟨g, 0, none⟩ = some (.string s) ∧ w.cell? ⟨g, 1, none⟩ = some (.string r) ∧ w.cell? ⟨g, 2, none⟩ = some (.int .i64 c) ∧
  w.frozen? ⟨g, 0, none⟩ = false ∧ w.frozen? ⟨g, 1, none⟩ = false ∧ w.frozen? ⟨g, 2, none⟩ = false
theorem HAt.grown {w w' : World} {g p : Nat} {s r : ByteArray} {c : Int} (h : HAt w g s r c) (hg : w.grownBy w' (some p)) (hne : g ≠ p) : HAt w' g s r c := by
  obtain ⟨h1, h2, h3, h4, h5, h6, h7⟩ := h
  have hb := hg.block g h1 (by simpa using hne)
  have e : ∀ j, w'.cell? ⟨g, j, none⟩ = w.cell? ⟨g, j, none⟩ := fun j => World.cell?_of_block hb
  have f : ∀ j, w'.frozen? ⟨g, j, none⟩ = w.frozen? ⟨g, j, none⟩ := fun j => World.frozen?_of_block hb
  exact ⟨Nat.lt_of_lt_of_le h1 hg.size, by rw [e]; exact h2, by rw [e]; exact h3, by rw [e]; exact h4, by rw [f]; exact h5, by rw [f]; exact h6, by rw [f]; exact h7⟩
theorem HAt.below {w w' : World} {g C : Nat} {s r : ByteArray} {c : Int} (h : HAt w g s r c) (hb : Below C w w') (hC : g < C) : HAt w' g s r c := by
  obtain ⟨h1, h2, h3, h4, h5, h6, h7⟩ := h
  have e : ∀ j, w'.cell? ⟨g, j, none⟩ = w.cell? ⟨g, j, none⟩ := fun j => hb.cell (show g < C from hC)
  have f : ∀ j, w'.frozen? ⟨g, j, none⟩ = w.frozen? ⟨g, j, none⟩ := fun j => hb.frozen (show g < C from hC)
  exact ⟨Nat.lt_of_lt_of_le h1 hb.size, by rw [e]; exact h2, by rw [e]; exact h3, by rw [e]; exact h4, by rw [f]; exact h5, by rw [f]; exact h6, by rw [f]; exact h7⟩
theorem HAt.set {w : World} {g : Nat} {s r s' r' : ByteArray} {c c' : Int} (h : HAt w g s r c) : HAt (((w.setCell ⟨g, 0, none⟩ (.string s')).setCell ⟨g, 1, none⟩ (.string r')).setCell ⟨g, 2, none⟩ (.int .i64 c')) g s' r' c' := by
  obtain ⟨h1, h2, h3, h4, h5, h6, h7⟩ := h
  obtain ⟨k1, k2, k3⟩ := three (a := .string s') (b := .string r') (c := .int .i64 c') h2 h3 h4
  exact ⟨by simpa using h1, k1, k2, k3, by simpa using h5, by simpa using h6, by simpa using h7⟩
theorem HAt.far {w : World} {g q : Nat} {s r : ByteArray} {c : Int} {a b d : Value} (h : HAt w g s r c) (hne : q ≠ g) : HAt (((w.setCell ⟨q, 0, none⟩ a).setCell ⟨q, 1, none⟩ b).setCell ⟨q, 2, none⟩ d) g s r c := by
  obtain ⟨h1, h2, h3, h4, h5, h6, h7⟩ := h
  have e : ∀ (w : World) (i j : Nat) (u : Value), (w.setCell ⟨q, i, none⟩ u).cell? ⟨g, j, none⟩ = w.cell? ⟨g, j, none⟩ := fun w i j u => World.cell?_setCell_other _ _ _ _ (fun e => hne (by injection e))
  exact ⟨by simpa using h1, by rw [e, e, e]; exact h2, by rw [e, e, e]; exact h3, by rw [e, e, e]; exact h4, by simpa using h5, by simpa using h6, by simpa using h7⟩

theorem HAt.set1 {w : World} {g : Nat} {s r : ByteArray} {c : Int} (h : HAt w g s r c) :
    (∀ s', HAt (w.setCell ⟨g, 0, none⟩ (.string s')) g s' r c) ∧ (∀ r', HAt (w.setCell ⟨g, 1, none⟩ (.string r')) g s r' c) ∧ (∀ c', HAt (w.setCell ⟨g, 2, none⟩ (.int .i64 c')) g s r c') := by
  obtain ⟨h1, h2, h3, h4, h5, h6, h7⟩ := h
  have o : ∀ (i j : Nat) (u : Value), i ≠ j → (w.setCell ⟨g, i, none⟩ u).cell? ⟨g, j, none⟩ = w.cell? ⟨g, j, none⟩ := fun i j u hij => World.cell?_setCell_other _ _ _ _ (fun e => hij (by injection e))
  refine ⟨fun s' => ⟨by simpa using h1, World.cell?_setCell_same _ _ _ h2, by rw [o 0 1 _ (by omega)]; exact h3, by rw [o 0 2 _ (by omega)]; exact h4, by simpa using h5, by simpa using h6, by simpa using h7⟩,
    fun r' => ⟨by simpa using h1, by rw [o 1 0 _ (by omega)]; exact h2, World.cell?_setCell_same _ _ _ h3, by rw [o 1 2 _ (by omega)]; exact h4, by simpa using h5, by simpa using h6, by simpa using h7⟩,
    fun c' => ⟨by simpa using h1, by rw [o 2 0 _ (by omega)]; exact h2, by rw [o 2 1 _ (by omega)]; exact h3, World.cell?_setCell_same _ _ _ h4, by simpa using h5, by simpa using h6, by simpa using h7⟩⟩
theorem HAt.far1 {w : World} {g q i : Nat} {s r : ByteArray} {c : Int} {a : Value} (h : HAt w g s r c) (hne : q ≠ g) : HAt (w.setCell ⟨q, i, none⟩ a) g s r c := by
  obtain ⟨h1, h2, h3, h4, h5, h6, h7⟩ := h
  have e : ∀ (j : Nat) (u : Value), (w.setCell ⟨q, i, none⟩ u).cell? ⟨g, j, none⟩ = w.cell? ⟨g, j, none⟩ := fun j u => World.cell?_setCell_other _ _ _ _ (fun e => hne (by injection e))
  exact ⟨by simpa using h1, by rw [e]; exact h2, by rw [e]; exact h3, by rw [e]; exact h4, by simpa using h5, by simpa using h6, by simpa using h7⟩
end Go.Proofs.YtaolinlginloaabDoor
