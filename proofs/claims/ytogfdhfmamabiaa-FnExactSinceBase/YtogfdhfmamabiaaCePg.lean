/-
  The cells of Pages in a row.
-/
import Derived.Test.YtogfdhfmamabiaaBase
namespace Go.Proofs.Ytogfdhfmamabiaa
open Go.RowKit

/-- The cells of elements. -/
def pgcell (t : Int × Int × Int × Int × Int × ByteArray) : List Value := [.int .i64 t.1, .int .i64 t.2.1, .int .i64 t.2.2.1, .int .i64 t.2.2.2.1, .int .i64 t.2.2.2.2.1, .string t.2.2.2.2.2]
def pgcells (l : List (Int × Int × Int × Int × Int × ByteArray)) : List Value := l.flatMap pgcell
theorem pgcells_len (l : List (Int × Int × Int × Int × Int × ByteArray)) : (pgcells l).length = l.length * 6 := by
  induction l with
  | nil => rfl
  | cons t l ih => simp [pgcells, pgcell] at ih ⊢; omega
theorem pgcells_app (a b : List (Int × Int × Int × Int × Int × ByteArray)) : pgcells (a ++ b) = pgcells a ++ pgcells b := by simp [pgcells]
theorem pgcells_cons (t : Int × Int × Int × Int × Int × ByteArray) (l : List (Int × Int × Int × Int × Int × ByteArray)) : pgcells (t :: l) = pgcell t ++ pgcells l := by simp [pgcells]
theorem pgcells_at (l : List (Int × Int × Int × Int × Int × ByteArray)) (k : Nat) (t : Int × Int × Int × Int × Int × ByteArray) (h : l[k]? = some t) (j : Nat) (v : Value) (hj : (pgcell t)[j]? = some v) : (pgcells l)[k * 6 + j]? = some v := by
  have hlt : j < 6 := (List.getElem?_eq_some_iff.1 hj).1
  induction l generalizing k with
  | nil => simp at h
  | cons a l ih =>
    rw [pgcells_cons]
    cases k with
    | zero =>
      simp at h
      subst h
      rw [List.getElem?_append_left (by show _ < 6; omega), Nat.zero_mul, Nat.zero_add]
      exact hj
    | succ k =>
      rw [List.getElem?_append_right (by show 6 ≤ _; omega), show (k + 1) * 6 + j - (pgcell a).length = k * 6 + j by show _ - 6 = _; omega]
      exact ih k (by simpa using h)
theorem pgcells_one (l : List (Int × Int × Int × Int × Int × ByteArray)) : ∀ v ∈ pgcells l, v.oneCell' = true := by
  intro v hv
  obtain ⟨t, -, ht⟩ := List.mem_flatMap.1 hv
  simp [pgcell] at ht
  rcases ht with h | h | h | h | h | h <;> subst h <;> rfl
theorem infoPg : (Try.prog.info? 40).map (fun i => (i.zero, i.size, i.bytes)) = some (some (.agg #[.int .i64 0, .int .i64 0, .int .i64 0, .int .i64 0, .int .i64 0, .string ⟨#[]⟩]), 6, 56) := by kernel_rfl
theorem infoPgz : (Try.prog.info? 40).map (·.size) = some 6 := by kernel_rfl
end Go.Proofs.Ytogfdhfmamabiaa
