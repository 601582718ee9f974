/-
  The cells of Steps in a row.
-/
import Derived.Test.YthgfhjfnlecolapPk0
namespace Go.Proofs.Ythgfhjfnlecolap
open Go.RowKit

/-- The cells of elements. -/
def stcell (t : Int × Int × Int × ByteArray) : List Value := [.int .i64 t.1, .int .i64 t.2.1, .int .i64 t.2.2.1, .string t.2.2.2]
def stcells (l : List (Int × Int × Int × ByteArray)) : List Value := l.flatMap stcell
theorem stcells_len (l : List (Int × Int × Int × ByteArray)) : (stcells l).length = l.length * 4 := by
  induction l with
  | nil => rfl
  | cons t l ih => simp [stcells, stcell] at ih ⊢; omega
theorem stcells_app (a b : List (Int × Int × Int × ByteArray)) : stcells (a ++ b) = stcells a ++ stcells b := by simp [stcells]
theorem stcells_cons (t : Int × Int × Int × ByteArray) (l : List (Int × Int × Int × ByteArray)) : stcells (t :: l) = stcell t ++ stcells l := by simp [stcells]
theorem stcells_at (l : List (Int × Int × Int × ByteArray)) (k : Nat) (t : Int × Int × Int × ByteArray) (h : l[k]? = some t) (j : Nat) (v : Value) (hj : (stcell t)[j]? = some v) : (stcells l)[k * 4 + j]? = some v := by
  have hlt : j < 4 := (List.getElem?_eq_some_iff.1 hj).1
  induction l generalizing k with
  | nil => simp at h
  | cons a l ih =>
    rw [stcells_cons]
    cases k with
    | zero =>
      simp at h
      subst h
      rw [List.getElem?_append_left (by show _ < 4; omega), Nat.zero_mul, Nat.zero_add]
      exact hj
    | succ k =>
      rw [List.getElem?_append_right (by show 4 ≤ _; omega), show (k + 1) * 4 + j - (stcell a).length = k * 4 + j by show _ - 4 = _; omega]
      exact ih k (by simpa using h)
theorem stcells_one (l : List (Int × Int × Int × ByteArray)) : ∀ v ∈ stcells l, v.oneCell' = true := by
  intro v hv
  obtain ⟨t, -, ht⟩ := List.mem_flatMap.1 hv
  simp [stcell] at ht
  rcases ht with h | h | h | h <;> subst h <;> rfl
theorem infoSt : (Try.prog.info? 40).map (fun i => (i.zero, i.size, i.bytes)) = some (some (.agg #[.int .i64 0, .int .i64 0, .int .i64 0, .string ⟨#[]⟩]), 4, 40) := by kernel_rfl
theorem infoStz : (Try.prog.info? 40).map (·.size) = some 4 := by kernel_rfl
end Go.Proofs.Ythgfhjfnlecolap
