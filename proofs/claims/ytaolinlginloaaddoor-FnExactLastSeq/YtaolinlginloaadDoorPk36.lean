/-
  FdC; SRow
-/
import Derived.Test.YtaolinlginloaadDoorPk0
import Derived.Test.YtaolinlginloaadDoorPk34
import Derived.Test.YtaolinlginloaadDoorPk1
import Derived.Test.YtaolinlginloaadDoorPk18
import Derived.Laws.Rows
/-
  The cells of what a scan found, in a row.
-/
namespace Go.Proofs.YtaolinlginloaadDoor
open Go.RowKit
open Words

def fdVal (x : Fnd) : Value := .agg #[.int .i64 x.block, .int .i64 x.leaf, .int .i64 x.page.kind, .int .i64 x.page.seq, .int .i64 x.page.tx, .int .i64 x.page.part, .int .i64 x.page.count, .string x.page.text]
def fdCells (x : Fnd) : List Value := [.int .i64 x.block, .int .i64 x.leaf, .int .i64 x.page.kind, .int .i64 x.page.seq, .int .i64 x.page.tx, .int .i64 x.page.part, .int .i64 x.page.count, .string x.page.text]
theorem infoFound : (Tryd.prog.info? 49).map (fun i => (i.zero, i.size, i.bytes)) = some (some (.agg #[.int .i64 0, .int .i64 0, .int .i64 0, .int .i64 0, .int .i64 0, .int .i64 0, .int .i64 0, .string ⟨#[]⟩]), 8, 72) := by kernel_rfl
def fcells (l : List Fnd) : List Value := l.flatMap fdCells
theorem fcells_len (l : List Fnd) : (fcells l).length = l.length * 8 := by
  induction l with
  | nil => rfl
  | cons x l ih => simp only [fcells, List.flatMap_cons, List.length_append, List.length_cons] at ih ⊢; rw [ih]; show 8 + _ = _; omega
theorem fcells_snoc (l : List Fnd) (x : Fnd) : fcells l ++ fdCells x = fcells (l ++ [x]) := by simp [fcells]
theorem fd_one (x : Fnd) : ∀ u ∈ fdCells x, u.oneCell' = true := by
  intro u hu
  simp [fdCells] at hu
  rcases hu with h | h | h | h | h | h | h | h <;> subst h <;> rfl
theorem fcells_at : ∀ (l : List Fnd) (i : Nat) (x : Fnd), l[i]? = some x → ∀ j v, (fdCells x)[j]? = some v → (fcells l)[i * 8 + j]? = some v := by
  intro l
  induction l with
  | nil => intro i x h; simp at h
  | cons y l ih =>
    intro i x h j v hv
    have hj : j < 8 := (List.getElem?_eq_some_iff.1 hv).1
    have e : fcells (y :: l) = fdCells y ++ fcells l := by simp [fcells]
    rw [e]
    cases i with
    | zero =>
      simp at h
      subst h
      rw [List.getElem?_append_left (by show 0 * 8 + j < 8; omega)]
      simpa using hv
    | succ i =>
      rw [List.getElem?_cons_succ] at h
      rw [List.getElem?_append_right (by show 8 ≤ (i + 1) * 8 + j; omega)]
      have : (i + 1) * 8 + j - (fdCells y).length = i * 8 + j := by show (i + 1) * 8 + j - 8 = _; omega
      rw [this]
      exact ih i x h j v hv
/-- The cells of what a scan found, by their places. -/
theorem fcells_back (M : List Fnd) (i : Nat) (v : Value) (h : (fcells M)[i]? = some v) : ∃ x, M[i / 8]? = some x ∧ (fdCells x)[i % 8]? = some v := by
  have hl := (List.getElem?_eq_some_iff.1 h).1
  rw [fcells_len] at hl
  obtain ⟨x, hx⟩ : ∃ x, M[i / 8]? = some x := ⟨_, List.getElem?_eq_getElem (by omega)⟩
  obtain ⟨u, hu⟩ : ∃ u, (fdCells x)[i % 8]? = some u := ⟨_, List.getElem?_eq_getElem (by show i % 8 < 8; omega)⟩
  have := fcells_at M (i / 8) x hx (i % 8) u hu
  rw [show i / 8 * 8 + i % 8 = i by omega, h] at this
  cases this
  exact ⟨x, hx, hu⟩
end Go.Proofs.YtaolinlginloaadDoor

/-
  A row of what a scan found, in a block.
-/
namespace Go.Proofs.YtaolinlginloaadDoor
open Go.RowKit
open Words

/-- The row D lies in block g. -/
def SRow (w : World) (g : Nat) (D : List Fnd) : Prop := ∃ cs : Array Value, w.heap[g]? = some (.cells cs 49 (0, 0)) ∧ ∀ i x, D[i]? = some x → ∀ j v, (fdCells x)[j]? = some v → cs[i * 8 + j]? = some v
/-- A call that has changed the row alone, and laid new blocks. -/
def Sorted (w w' : World) (g : Nat) (D : List Fnd) : Prop := Kept2 w w' (· ≠ g) ∧ SRow w' g D

theorem SRow.lt {w : World} {g : Nat} {D : List Fnd} (h : SRow w g D) : g < w.heap.size := by
  obtain ⟨cs, h1, -⟩ := h
  exact (Array.getElem?_eq_some_iff.1 h1).1
theorem SRow.frozen {w : World} {g : Nat} {D : List Fnd} (h : SRow w g D) (o : Nat) : w.frozen? ⟨g, o, none⟩ = false := by
  obtain ⟨cs, h1, -⟩ := h
  exact frozen_of_row _ _ o _ _ h1
theorem SRow.cell {w : World} {g : Nat} {D : List Fnd} (h : SRow w g D) {i : Nat} {x : Fnd} (hi : D[i]? = some x) (j : Nat) {v : Value} (hj : (fdCells x)[j]? = some v) : w.cell? ⟨g, i * 8 + j, none⟩ = some v := by
  obtain ⟨cs, h1, h2⟩ := h
  rw [cell_of_row _ _ (i * 8 + j) _ _ _ h1]
  exact h2 i x hi j v hj
theorem SRow.below {w w' : World} {g : Nat} {D : List Fnd} (h : SRow w g D) (hb : Below w.heap.size w w') : SRow w' g D := by
  have hl := h.lt
  obtain ⟨cs, h1, h2⟩ := h
  exact ⟨cs, (hb.block _ hl).trans h1, h2⟩

/-- Eight cells are laid. -/
def put8 (w : World) (g o : Nat) (x : Fnd) : World :=
  (((((((w.setCell ⟨g, o, none⟩ (.int .i64 x.block)).setCell ⟨g, o + 1, none⟩ (.int .i64 x.leaf)).setCell ⟨g, o + 2, none⟩ (.int .i64 x.page.kind)).setCell ⟨g, o + 3, none⟩ (.int .i64 x.page.seq)).setCell ⟨g, o + 4, none⟩ (.int .i64 x.page.tx)).setCell ⟨g, o + 5, none⟩ (.int .i64 x.page.part)).setCell ⟨g, o + 6, none⟩ (.int .i64 x.page.count)).setCell ⟨g, o + 7, none⟩ (.string x.page.text)
theorem put8_heap (w : World) (g o : Nat) (x : Fnd) (i : Nat) (h : i ≠ g) : (put8 w g o x).heap[i]? = w.heap[i]? := by
  unfold put8
  rw [Below.heap_setCell _ ⟨g, o + 7, none⟩ _ _ h, Below.heap_setCell _ ⟨g, o + 6, none⟩ _ _ h, Below.heap_setCell _ ⟨g, o + 5, none⟩ _ _ h, Below.heap_setCell _ ⟨g, o + 4, none⟩ _ _ h, Below.heap_setCell _ ⟨g, o + 3, none⟩ _ _ h, Below.heap_setCell _ ⟨g, o + 2, none⟩ _ _ h, Below.heap_setCell _ ⟨g, o + 1, none⟩ _ _ h, Below.heap_setCell _ ⟨g, o, none⟩ _ _ h]
theorem kset (w : World) (g j : Nat) (v : Value) : Kept2 w (w.setCell ⟨g, j, none⟩ v) (· ≠ g) := by
  refine ⟨rfl, rfl, rfl, by simp, fun i _ hne => ?_⟩
  exact Below.heap_setCell _ _ _ _ hne
theorem put8_kept (w : World) (g o : Nat) (x : Fnd) : Kept2 w (put8 w g o x) (· ≠ g) :=
  (((((((kset _ _ _ _).trans (kset _ _ _ _)).trans (kset _ _ _ _)).trans (kset _ _ _ _)).trans (kset _ _ _ _)).trans (kset _ _ _ _)).trans (kset _ _ _ _)).trans (kset _ _ _ _)
theorem SRow.put {w : World} {g : Nat} {D : List Fnd} (h : SRow w g D) {i : Nat} (hi : i < D.length) (x : Fnd) : SRow (put8 w g (i * 8) x) g (D.set i x) := by
  obtain ⟨cs, h1, h2⟩ := h
  have hd : D[i]? = some D[i] := List.getElem?_eq_getElem hi
  have hsz : ∀ j, j < 8 → i * 8 + j < cs.size := fun j hj => by
    have : ∃ v, (fdCells D[i])[j]? = some v := by
      have hl : j < (fdCells D[i]).length := hj
      exact ⟨_, List.getElem?_eq_getElem hl⟩
    obtain ⟨v, hv⟩ := this
    exact (Array.getElem?_eq_some_iff.1 (h2 i _ hd j v hv)).1
  have s7 := hsz 7 (by omega)
  refine ⟨_, heap_setCell_same _ _ _ _ _ _ (heap_setCell_same _ _ _ _ _ _ (heap_setCell_same _ _ _ _ _ _ (heap_setCell_same _ _ _ _ _ _ (heap_setCell_same _ _ _ _ _ _ (heap_setCell_same _ _ _ _ _ _ (heap_setCell_same _ _ _ _ _ _ (heap_setCell_same _ _ _ _ _ _ h1))))))), ?_⟩
  intro i' y hy j v hv
  have hj : j < 8 := (List.getElem?_eq_some_iff.1 hv).1
  by_cases e : i' = i
  · subst e
    rw [List.getElem?_set_self hi] at hy
    cases hy
    simp only [Array.getElem?_setIfInBounds, Array.size_setIfInBounds]
    match j, hj with
    | 0, _ => rw [if_neg (by omega), if_neg (by omega), if_neg (by omega), if_neg (by omega), if_neg (by omega), if_neg (by omega), if_neg (by omega), if_pos (by omega), if_pos (by omega)]; exact hv
    | 1, _ => rw [if_neg (by omega), if_neg (by omega), if_neg (by omega), if_neg (by omega), if_neg (by omega), if_neg (by omega), if_pos (by omega), if_pos (by omega)]; exact hv
    | 2, _ => rw [if_neg (by omega), if_neg (by omega), if_neg (by omega), if_neg (by omega), if_neg (by omega), if_pos (by omega), if_pos (by omega)]; exact hv
    | 3, _ => rw [if_neg (by omega), if_neg (by omega), if_neg (by omega), if_neg (by omega), if_pos (by omega), if_pos (by omega)]; exact hv
    | 4, _ => rw [if_neg (by omega), if_neg (by omega), if_neg (by omega), if_pos (by omega), if_pos (by omega)]; exact hv
    | 5, _ => rw [if_neg (by omega), if_neg (by omega), if_pos (by omega), if_pos (by omega)]; exact hv
    | 6, _ => rw [if_neg (by omega), if_pos (by omega), if_pos (by omega)]; exact hv
    | 7, _ => rw [if_pos (by omega), if_pos (by omega)]; exact hv
  · rw [List.getElem?_set_ne (fun q => e q.symm)] at hy
    simp only [Array.getElem?_setIfInBounds, Array.size_setIfInBounds]
    rw [if_neg (by omega), if_neg (by omega), if_neg (by omega), if_neg (by omega), if_neg (by omega), if_neg (by omega), if_neg (by omega), if_neg (by omega)]
    exact h2 i' y hy j v hv
end Go.Proofs.YtaolinlginloaadDoor
