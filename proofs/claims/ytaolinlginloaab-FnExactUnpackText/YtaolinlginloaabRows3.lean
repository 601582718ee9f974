/-
  Rows of tokens that the call owns.
-/
import Derived.Test.YtaolinlginloaabBase
import Derived.Test.YtaolinlginloaabOwn
import Derived.Test.YtaolinlginloaabTMath
namespace Go.Proofs.Ytaolinlginloaab
open Go.RowKit
open Pack

theorem infoTok : (Try.prog.info? 46).map (fun i => (i.zero, i.size, i.bytes)) = some (some (.agg #[.int .i64 0, .int .i64 0, .string ⟨#[]⟩]), 3, 32) := by kernel_rfl
/-- The cells of tokens. -/
def tcell (t : Nat × Nat × List UInt8) : List Value := [.int .i64 (t.1 : Nat), .int .i64 (t.2.1 : Nat), .string ⟨t.2.2.toArray⟩]
def tcells (l : List (Nat × Nat × List UInt8)) : List Value := l.flatMap tcell
theorem tcells_len (l : List (Nat × Nat × List UInt8)) : (tcells l).length = l.length * 3 := by
  induction l with
  | nil => rfl
  | cons t l ih => simp [tcells, tcell] at ih ⊢; omega
theorem tcells_snoc (l : List (Nat × Nat × List UInt8)) (t : Nat × Nat × List UInt8) : tcells l ++ tcell t = tcells (l ++ [t]) := by simp [tcells]
theorem tcells_at (l : List (Nat × Nat × List UInt8)) (k : Nat) (t : Nat × Nat × List UInt8) (h : l[k]? = some t) : (tcells l)[3 * k]? = some (.int .i64 (t.1 : Nat)) ∧ (tcells l)[3 * k + 1]? = some (.int .i64 (t.2.1 : Nat)) ∧ (tcells l)[3 * k + 2]? = some (.string ⟨t.2.2.toArray⟩) := by
  induction l generalizing k with
  | nil => simp at h
  | cons a l ih =>
    cases k with
    | zero =>
      simp at h
      subst h
      exact ⟨rfl, rfl, rfl⟩
    | succ k =>
      have := ih k (by simpa using h)
      have e : tcells (a :: l) = tcell a ++ tcells l := by simp [tcells]
      have hl : (tcell a).length = 3 := rfl
      rw [e, List.getElem?_append_right (by rw [hl]; omega), List.getElem?_append_right (by rw [hl]; omega), List.getElem?_append_right (by rw [hl]; omega), hl, show 3 * (k + 1) - 3 = 3 * k by omega, show 3 * (k + 1) + 1 - 3 = 3 * k + 1 by omega, show 3 * (k + 1) + 2 - 3 = 3 * k + 2 by omega]
      exact this
theorem tcells_one (l : List (Nat × Nat × List UInt8)) : ∀ v ∈ tcells l, v.oneCell' = true := by
  intro v hv
  obtain ⟨t, -, ht⟩ := List.mem_flatMap.1 hv
  simp [tcell] at ht
  rcases ht with h | h | h <;> subst h <;> rfl
theorem tcell_one (t : Nat × Nat × List UInt8) : ∀ v ∈ tcell t, v.oneCell' = true := by
  intro v hv
  simp [tcell] at hv
  rcases hv with h | h | h <;> subst h <;> rfl
/-- The last token's text is another one. -/
theorem tcells_text (l : List (Nat × Nat × List UInt8)) (b z : Nat) (x y : List UInt8) : (tcells (l ++ [(b, z, x)])).set (3 * l.length + 2) (.string ⟨y.toArray⟩) = tcells (l ++ [(b, z, y)]) := by
  rw [← tcells_snoc, ← tcells_snoc, List.set_append_right _ _ (by rw [tcells_len]; omega), tcells_len, show 3 * l.length + 2 - l.length * 3 = 2 by omega]
  rfl
/-- A cell of a row that the call owns is written. -/
theorem own_set {w : World} {base : Nat} {e : TypeId} {size n : Nat} {v : Value} {xs : List Value} {g cap : Nat} (h : w.ownsRow base e size v n xs) (hv : v = .slice (some ⟨g, 0, none⟩) n cap) (k : Nat) (u : Value) :
    (w.setCell ⟨g, k, none⟩ u).ownsRow base e size v n (xs.set k u) := by
  obtain ⟨h1, h2⟩ := h
  refine ⟨by simpa using h1, ?_⟩
  rcases h2 with ⟨h3, -⟩ | ⟨g', cap', cur, h3, h4, h5, h6, h7, h8, h9⟩
  · rw [hv] at h3; cases h3
  · right
    have hg : g' = g := by rw [hv] at h3; injection h3 with a; simp at a; exact a.symm
    subst hg
    refine ⟨g', cap', cur.setIfInBounds k u, h3, h4, ?_, h6, h7, by simpa using h8, ?_⟩
    · rw [setCell_eq_setRow w g' k cur e (0, 0) u h5]
      exact setRow_heap w g' cur _ e _ h5
    · rw [Array.toList_setIfInBounds, List.take_set, h9]
end Go.Proofs.Ytaolinlginloaab
