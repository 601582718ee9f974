/-
  SRd; SCur
-/
import Derived.Test.YtddekdgbfnjhdahPk11
import Derived.Test.YtddekdgbfnjhdahPk10
import Derived.Deep.RegionWith
import Derived.Deep.RegionHeld3
import Derived.Laws.DeepStrings4
import Derived.Deep.QuietTactic
import Derived.BigQuiet
import Derived.Lib.Strings
import Derived.WalkSmall
import Derived.Test.YtddekdgbfnjhdahPk1
import Derived.Laws.Rows
/-
  The walk of spec.ReadVar.
-/
namespace Go.Proofs.Ytddekdgbfnjhdah
open Go.RowKit
open Words

end Go.Proofs.Ytddekdgbfnjhdah

/-
  spec.l06Var, on its cursor.
-/
namespace Go.Proofs.Ytddekdgbfnjhdah
open Go.RowKit
open Words


theorem readV_far (l : List UInt8) (q : Nat) (h : l.length < q) : readV l q = none := by
  unfold readV
  rw [List.drop_eq_nil_of_le (by omega)]
  rfl
/-- The cursor that lies in block g. -/
def CAt (w : World) (g : Nat) (t : ByteArray) (i : Int) (bad : Bool) : Prop := g < w.heap.size ∧ w.cell? ⟨g, 0, none⟩ = some (.string t) ∧ w.cell? ⟨g, 1, none⟩ = some (.int .i64 i) ∧ w.cell? ⟨g, 2, none⟩ = some (.bool bad) ∧ w.frozen? ⟨g, 1, none⟩ = false ∧ w.frozen? ⟨g, 2, none⟩ = false
def MovedC (w w' : World) (g : Nat) (t : ByteArray) (i : Int) (bad : Bool) : Prop := Kept2 w w' (· ≠ g) ∧ CAt w' g t i bad
theorem CAt.below {w w' : World} {g : Nat} {t : ByteArray} {i : Int} {bad : Bool} (h : CAt w g t i bad) (hb : Below w.heap.size w w') : CAt w' g t i bad := by
  obtain ⟨h1, h2, h3, h4, h5, h6⟩ := h
  have e : ∀ j, w'.cell? ⟨g, j, none⟩ = w.cell? ⟨g, j, none⟩ := fun j => hb.cell (show g < w.heap.size from h1)
  have f : ∀ j, w'.frozen? ⟨g, j, none⟩ = w.frozen? ⟨g, j, none⟩ := fun j => hb.frozen (show g < w.heap.size from h1)
  exact ⟨Nat.lt_of_lt_of_le h1 hb.size, by rw [e]; exact h2, by rw [e]; exact h3, by rw [e]; exact h4, by rw [f]; exact h5, by rw [f]; exact h6⟩
theorem CAt.set1 {w : World} {g : Nat} {t : ByteArray} {i i' : Int} {bad : Bool} (h : CAt w g t i bad) : CAt (w.setCell ⟨g, 1, none⟩ (.int .i64 i')) g t i' bad := by
  obtain ⟨h1, h2, h3, h4, h5, h6⟩ := h
  have o : ∀ (i j : Nat) (u : Value), i ≠ j → (w.setCell ⟨g, i, none⟩ u).cell? ⟨g, j, none⟩ = w.cell? ⟨g, j, none⟩ := fun i j u hij => World.cell?_setCell_other _ _ _ _ (fun e => hij (by injection e))
  exact ⟨by simpa using h1, by rw [o 1 0 _ (by omega)]; exact h2, World.cell?_setCell_same _ _ _ h3, by rw [o 1 2 _ (by omega)]; exact h4, by simpa using h5, by simpa using h6⟩
theorem CAt.set2 {w : World} {g : Nat} {t : ByteArray} {i : Int} {bad bad' : Bool} (h : CAt w g t i bad) : CAt (w.setCell ⟨g, 2, none⟩ (.bool bad')) g t i bad' := by
  obtain ⟨h1, h2, h3, h4, h5, h6⟩ := h
  have o : ∀ (i j : Nat) (u : Value), i ≠ j → (w.setCell ⟨g, i, none⟩ u).cell? ⟨g, j, none⟩ = w.cell? ⟨g, j, none⟩ := fun i j u hij => World.cell?_setCell_other _ _ _ _ (fun e => hij (by injection e))
  exact ⟨by simpa using h1, by rw [o 2 0 _ (by omega)]; exact h2, by rw [o 2 1 _ (by omega)]; exact h3, World.cell?_setCell_same _ _ _ h4, by simpa using h5, by simpa using h6⟩
theorem ckept_set (w : World) (g j : Nat) (v : Value) : Kept2 w (w.setCell ⟨g, j, none⟩ v) (· ≠ g) := by
  refine ⟨rfl, rfl, rfl, by simp, fun i _ hne => ?_⟩
  exact Below.heap_setCell _ _ _ _ hne
theorem MovedC.set1 {w w' : World} {g : Nat} {t : ByteArray} {i i' : Int} {bad : Bool} (h : CAt w g t i bad) (hb : Below w.heap.size w w') : MovedC w (w'.setCell ⟨g, 1, none⟩ (.int .i64 i')) g t i' bad :=
  ⟨(Kept2.below hb).trans (ckept_set _ _ _ _), (h.below hb).set1⟩
theorem MovedC.set2 {w w' : World} {g : Nat} {t : ByteArray} {i : Int} {bad bad' : Bool} (h : CAt w g t i bad) (hb : Below w.heap.size w w') : MovedC w (w'.setCell ⟨g, 2, none⟩ (.bool bad')) g t i bad' :=
  ⟨(Kept2.below hb).trans (ckept_set _ _ _ _), (h.below hb).set2⟩

def stepV (l : List UInt8) (i : Nat) : Bool → Nat × Nat × Bool
  | true => (0, i, true)
  | false => match readV l i with
    | some (n, j) => (n, j, false)
    | none => (0, i, true)

theorem stepV_ok {l : List UInt8} {i n j : Nat} {b : Bool} (h : stepV l i b = (n, j, false)) : b = false ∧ readV l i = some (n, j) := by
  cases b with
  | true => simp [stepV] at h
  | false =>
    cases hv : readV l i with
    | none => simp [stepV, hv] at h
    | some x =>
      obtain ⟨a, c⟩ := x
      simp only [stepV, hv] at h
      cases h
      exact ⟨rfl, rfl⟩
theorem stepV_bad {l : List UInt8} {i n j : Nat} {b : Bool} (h : stepV l i b = (n, j, true)) : b = true ∨ readV l i = none := by
  cases b with
  | true => exact .inl rfl
  | false =>
    cases hv : readV l i with
    | none => exact .inr rfl
    | some x =>
      obtain ⟨a, c⟩ := x
      simp only [stepV, hv] at h
      cases h
end Go.Proofs.Ytddekdgbfnjhdah
