/-
  The cells of what a scan found, in a row.
-/
import Derived.Test.YtogfdhfmamabiaaBase
import Derived.Test.YtogfdhfmamabiaaSoMath
namespace Go.Proofs.Ytogfdhfmamabiaa
open Go.RowKit
open Words

def fdVal (x : Fnd) : Value := .agg #[.int .i64 x.block, .int .i64 x.leaf, .int .i64 x.page.kind, .int .i64 x.page.seq, .int .i64 x.page.tx, .int .i64 x.page.part, .int .i64 x.page.count, .string x.page.text]
def fdCells (x : Fnd) : List Value := [.int .i64 x.block, .int .i64 x.leaf, .int .i64 x.page.kind, .int .i64 x.page.seq, .int .i64 x.page.tx, .int .i64 x.page.part, .int .i64 x.page.count, .string x.page.text]
theorem infoFound : (Try.prog.info? 42).map (fun i => (i.zero, i.size, i.bytes)) = some (some (.agg #[.int .i64 0, .int .i64 0, .int .i64 0, .int .i64 0, .int .i64 0, .int .i64 0, .int .i64 0, .string ⟨#[]⟩]), 8, 72) := by kernel_rfl
def fcells (l : List Fnd) : List Value := l.flatMap fdCells
theorem fcells_len (l : List Fnd) : (fcells l).length = l.length * 8 := by
  induction l with
  | nil => rfl
  | cons x l ih => simp only [fcells, List.flatMap_cons, List.length_append, List.length_cons] at ih ⊢; rw [ih]; show 8 + _ = _; omega
theorem fcells_snoc (l : List Fnd) (x : Fnd) : fcells l ++ fdCells x = fcells (l ++ [x]) := by simp [fcells]
theorem fd_one (x : Fnd) : ∀ u ∈ fdCells x, u.oneCell' = true := by
  intro u hu
  simp [fdCells] at hu
  rcases hu with h | h | h | h | h | h | h | h <;> subst h <;> rfl
theorem fcells_at : ∀ (l : List Fnd) (i : Nat) (x : Fnd), l[i]? = some x → ∀ j v, (fdCells x)[j]? = some v → (fcells l)[i * 8 + j]? = some v := by
  intro l
  induction l with
  | nil => intro i x h; simp at h
  | cons y l ih =>
    intro i x h j v hv
    have hj : j < 8 := (List.getElem?_eq_some_iff.1 hv).1
    have e : fcells (y :: l) = fdCells y ++ fcells l := by simp [fcells]
    rw [e]
    cases i with
    | zero =>
      simp at h
      subst h
      rw [List.getElem?_append_left (by show 0 * 8 + j < 8; omega)]
      simpa using hv
    | succ i =>
      rw [List.getElem?_cons_succ] at h
      rw [List.getElem?_append_right (by show 8 ≤ (i + 1) * 8 + j; omega)]
      have : (i + 1) * 8 + j - (fdCells y).length = i * 8 + j := by show (i + 1) * 8 + j - 8 = _; omega
      rw [this]
      exact ih i x h j v hv
/-- The cells of what a scan found, by their places. -/
theorem fcells_back (M : List Fnd) (i : Nat) (v : Value) (h : (fcells M)[i]? = some v) : ∃ x, M[i / 8]? = some x ∧ (fdCells x)[i % 8]? = some v := by
  have hl := (List.getElem?_eq_some_iff.1 h).1
  rw [fcells_len] at hl
  obtain ⟨x, hx⟩ : ∃ x, M[i / 8]? = some x := ⟨_, List.getElem?_eq_getElem (by omega)⟩
  obtain ⟨u, hu⟩ : ∃ u, (fdCells x)[i % 8]? = some u := ⟨_, List.getElem?_eq_getElem (by show i % 8 < 8; omega)⟩
  have := fcells_at M (i / 8) x hx (i % 8) u hu
  rw [show i / 8 * 8 + i % 8 = i by omega, h] at this
  cases this
  exact ⟨x, hx, hu⟩
end Go.Proofs.Ytogfdhfmamabiaa
