/-
  Rows of tokens of any numbers that the call owns.
-/
import Derived.Test.YtaolinlginloaabRows3
import Derived.Test.YtaolinlginloaabMtConv
namespace Go.Proofs.Ytaolinlginloaab
open Go.RowKit

/-- The cells of tokens of any numbers. -/
def gcell (t : Int × Int × ByteArray) : List Value := [.int .i64 t.1, .int .i64 t.2.1, .string t.2.2]
def gcells (l : List (Int × Int × ByteArray)) : List Value := l.flatMap gcell
def gtok (t : Nat × Nat × List UInt8) : Int × Int × ByteArray := ((t.1 : Int), (t.2.1 : Int), ⟨t.2.2.toArray⟩)
theorem tcells_g (l : List (Nat × Nat × List UInt8)) : tcells l = gcells (l.map gtok) := by
  simp [tcells, gcells, List.flatMap_map, gtok, gcell]
  rfl
theorem gcells_len (l : List (Int × Int × ByteArray)) : (gcells l).length = l.length * 3 := by
  induction l with
  | nil => rfl
  | cons t l ih => simp [gcells, gcell] at ih ⊢; omega
theorem gcells_app (a b : List (Int × Int × ByteArray)) : gcells (a ++ b) = gcells a ++ gcells b := by simp [gcells]
theorem gcells_at (l : List (Int × Int × ByteArray)) (k : Nat) (t : Int × Int × ByteArray) (h : l[k]? = some t) : (gcells l)[k * 3]? = some (.int .i64 t.1) ∧ (gcells l)[k * 3 + 1]? = some (.int .i64 t.2.1) ∧ (gcells l)[k * 3 + 2]? = some (.string t.2.2) := by
  induction l generalizing k with
  | nil => simp at h
  | cons a l ih =>
    cases k with
    | zero =>
      simp at h
      subst h
      exact ⟨rfl, rfl, rfl⟩
    | succ k =>
      have := ih k (by simpa using h)
      have e : gcells (a :: l) = gcell a ++ gcells l := by simp [gcells]
      have hl : (gcell a).length = 3 := rfl
      rw [e, List.getElem?_append_right (by rw [hl]; omega), List.getElem?_append_right (by rw [hl]; omega), List.getElem?_append_right (by rw [hl]; omega), hl, show (k + 1) * 3 - 3 = k * 3 by omega, show (k + 1) * 3 + 1 - 3 = k * 3 + 1 by omega, show (k + 1) * 3 + 2 - 3 = k * 3 + 2 by omega]
      exact this
theorem gown_cells {w : World} {B n cap g k : Nat} {l : List (Int × Int × ByteArray)} {t : Int × Int × ByteArray} (h : w.ownsRow B 46 3 (.slice (some ⟨g, 0, none⟩) n cap) n (gcells l)) (ht : l[k]? = some t) :
    w.cell? ⟨g, k * 3, none⟩ = some (.int .i64 t.1) ∧ w.cell? ⟨g, k * 3 + 1, none⟩ = some (.int .i64 t.2.1) ∧ w.cell? ⟨g, k * 3 + 2, none⟩ = some (.string t.2.2) := by
  obtain ⟨h1, h2, h3⟩ := gcells_at l k t ht
  have c1 := h.cells (g := g) rfl _ _ h1
  have c2 := h.cells (g := g) rfl _ _ h2
  have c3 := h.cells (g := g) rfl _ _ h3
  rw [addr_at] at c1 c2 c3
  exact ⟨c1, c2, c3⟩
theorem row_form3 {w : World} {B : Nat} {e : TypeId} {z : Nat} {v : Value} {n : Nat} {xs : List Value} (h : w.ownsRow B e z v n xs) :
    ∃ ad cap, v = .slice ad n cap ∧ n ≤ cap ∧ cap ≤ maxLen ∧ (0 < n → ∃ g, ad = some ⟨g, 0, none⟩ ∧ B ≤ g ∧ g < w.heap.size) := by
  have hlt := h.lt
  rcases h.2 with ⟨h1, h2⟩ | ⟨g, cap, cur, h1, -, -, h3, h4, -⟩
  · exact ⟨none, 0, by rw [h1, h2], by omega, by unfold maxLen; omega, fun h => by omega⟩
  · subst h1
    exact ⟨_, cap, rfl, h3, h4, fun _ => ⟨g, rfl, hlt g rfl⟩⟩

end Go.Proofs.Ytaolinlginloaab
