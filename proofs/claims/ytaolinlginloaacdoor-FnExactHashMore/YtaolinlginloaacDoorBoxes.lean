/-
  A hasher's cells.
-/
import Derived.Test.YtaolinlginloaacDoorBase
import Derived.Test.YtaolinlginloaacDoorDMath
namespace Go.Proofs.YtaolinlginloaacDoor
open Go.RowKit
open Dig

/-- What a call that takes a hasher and gives one has laid ahead of its first call: the hasher, and the result's cell. -/
theorem boxed {w w1 : World} {a b c d e f : Value} {t1 t2 : TypeId} (hb : Below (w.heap.size + 1 + 1) ((w.alloc (.cells #[a, b, c] t1)).alloc (.cells #[d, e, f] t2)) w1) :
    (w1.cell? ⟨w.heap.size, 0, none⟩ = some a ∧ w1.cell? ⟨w.heap.size, 1, none⟩ = some b ∧ w1.cell? ⟨w.heap.size, 2, none⟩ = some c) ∧
    (w1.cell? ⟨w.heap.size + 1, 0, none⟩ = some d ∧ w1.cell? ⟨w.heap.size + 1, 1, none⟩ = some e ∧ w1.cell? ⟨w.heap.size + 1, 2, none⟩ = some f) ∧
    (∀ j, w1.frozen? ⟨w.heap.size + 1, j, none⟩ = false) ∧ w.heap.size + 2 ≤ w1.heap.size ∧ Below w.heap.size w w1 := by
  have hs := hb.size
  have h0 : ∀ j, w1.cell? ⟨w.heap.size, j, none⟩ = ((w.alloc (.cells #[a, b, c] t1)).alloc (.cells #[d, e, f] t2)).cell? ⟨w.heap.size, j, none⟩ := fun j => hb.cell (show w.heap.size < _ by omega)
  have h1 : ∀ j, w1.cell? ⟨w.heap.size + 1, j, none⟩ = ((w.alloc (.cells #[a, b, c] t1)).alloc (.cells #[d, e, f] t2)).cell? ⟨w.heap.size + 1, j, none⟩ := fun j => hb.cell (show w.heap.size + 1 < _ by omega)
  have h2 : ∀ j, w1.frozen? ⟨w.heap.size + 1, j, none⟩ = ((w.alloc (.cells #[a, b, c] t1)).alloc (.cells #[d, e, f] t2)).frozen? ⟨w.heap.size + 1, j, none⟩ := fun j => hb.frozen (show w.heap.size + 1 < _ by omega)
  refine ⟨⟨by rw [h0]; simp, by rw [h0]; simp, by rw [h0]; simp⟩, ⟨by rw [h1]; simp, by rw [h1]; simp, by rw [h1]; simp⟩, fun j => by rw [h2]; simp, by simp at hs; omega, ?_⟩
  exact (((Below.refl _ _).alloc (Nat.le_refl _) _).alloc (by simp) _).trans (hb.mono (by omega))

/-- Three cells written one behind the other. -/
theorem three {w : World} {g : Nat} {a b c d e f : Value} (h0 : w.cell? ⟨g, 0, none⟩ = some d) (h1 : w.cell? ⟨g, 1, none⟩ = some e) (h2 : w.cell? ⟨g, 2, none⟩ = some f) :
    (((w.setCell ⟨g, 0, none⟩ a).setCell ⟨g, 1, none⟩ b).setCell ⟨g, 2, none⟩ c).cell? ⟨g, 0, none⟩ = some a ∧
    (((w.setCell ⟨g, 0, none⟩ a).setCell ⟨g, 1, none⟩ b).setCell ⟨g, 2, none⟩ c).cell? ⟨g, 1, none⟩ = some b ∧
    (((w.setCell ⟨g, 0, none⟩ a).setCell ⟨g, 1, none⟩ b).setCell ⟨g, 2, none⟩ c).cell? ⟨g, 2, none⟩ = some c := by
  have n01 : (⟨g, 0, none⟩ : Addr) ≠ ⟨g, 1, none⟩ := by simp
  have n02 : (⟨g, 0, none⟩ : Addr) ≠ ⟨g, 2, none⟩ := by simp
  have n12 : (⟨g, 1, none⟩ : Addr) ≠ ⟨g, 2, none⟩ := by simp
  have k0 := World.cell?_setCell_same w ⟨g, 0, none⟩ a h0
  have k1 : (w.setCell ⟨g, 0, none⟩ a).cell? ⟨g, 1, none⟩ = some e := by rw [World.cell?_setCell_other _ _ _ _ n01]; exact h1
  have k2 : ((w.setCell ⟨g, 0, none⟩ a).setCell ⟨g, 1, none⟩ b).cell? ⟨g, 2, none⟩ = some f := by rw [World.cell?_setCell_other _ _ _ _ n12, World.cell?_setCell_other _ _ _ _ n02]; exact h2
  refine ⟨?_, ?_, World.cell?_setCell_same _ _ _ k2⟩
  · rw [World.cell?_setCell_other _ _ _ _ n02.symm, World.cell?_setCell_other _ _ _ _ n01.symm]; exact k0
  · rw [World.cell?_setCell_other _ _ _ _ n12.symm]; exact World.cell?_setCell_same _ _ _ k1
/-- Three cells that were laid last, over calls that lay new blocks alone. -/
theorem kept3 {w w' : World} {a b c : Value} {t : TypeId} (h : Below (w.alloc (.cells #[a, b, c] t)).heap.size (w.alloc (.cells #[a, b, c] t)) w') :
    (w'.cell? ⟨w.heap.size, 0, none⟩ = some a ∧ w'.cell? ⟨w.heap.size, 1, none⟩ = some b ∧ w'.cell? ⟨w.heap.size, 2, none⟩ = some c) ∧ Below w.heap.size w w' ∧ w.heap.size + 1 ≤ w'.heap.size := by
  have hs := h.size
  have hl : w.heap.size < (w.alloc (.cells #[a, b, c] t)).heap.size := by simp
  have e : ∀ j, w'.cell? ⟨w.heap.size, j, none⟩ = (w.alloc (.cells #[a, b, c] t)).cell? ⟨w.heap.size, j, none⟩ := fun j => h.cell hl
  refine ⟨⟨by rw [e]; simp, by rw [e]; simp, by rw [e]; simp⟩, ((Below.refl _ _).alloc (Nat.le_refl _) _).trans (h.mono (by simp)), by simpa using hs⟩
end Go.Proofs.YtaolinlginloaacDoor
