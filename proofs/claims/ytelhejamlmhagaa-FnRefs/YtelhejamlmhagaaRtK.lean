/-
  New roots of volumes, one by one.
-/
import Derived.Test.YtelhejamlmhagaaPk19
import Derived.Test.YtelhejamlmhagaaStoM
namespace Go.Proofs.Ytelhejamlmhagaa
open Words

/-- The new roots of the first k volumes. -/
def rtK (vs : List (Int × Int)) (R : List Int) (k : Nat) : List (Int × Int) := (List.zipWith (fun v r => (v.1, r)) vs R).take k ++ vs.drop k
theorem rtK_at {vs : List (Int × Int)} {R : List Int} {k : Nat} (h : vs.length = R.length) (hk : k < vs.length) : (rtK vs R k)[k]? = vs[k]? := by
  rw [rtK, List.getElem?_append_right (by simp; omega), List.getElem?_drop]
  congr 1
  simp
  all_goals omega
theorem rtK_succ {vs : List (Int × Int)} {R : List Int} {k : Nat} {v : Int × Int} {r : Int} (h : vs.length = R.length) (hv : vs[k]? = some v) (hr : R[k]? = some r) : (rtK vs R k).set k (v.1, r) = rtK vs R (k + 1) := by
  have hk := (List.getElem?_eq_some_iff.1 hv).1
  refine part_set ?_ (by simp; omega)
  rw [List.getElem?_zipWith, hv, hr]
theorem rtK_len (vs : List (Int × Int)) (R : List Int) (k : Nat) (h : vs.length = R.length) (hk : k ≤ vs.length) : (rtK vs R k).length = vs.length := by
  rw [rtK]
  simp
  omega
theorem rtK_all {vs : List (Int × Int)} {R : List Int} (h : vs.length = R.length) : rtK vs R vs.length = List.zipWith (fun v r => (v.1, r)) vs R := by
  rw [rtK, List.take_of_length_le (by simp; omega), List.drop_eq_nil_of_le (Nat.le_refl _), List.append_nil]
end Go.Proofs.Ytelhejamlmhagaa
