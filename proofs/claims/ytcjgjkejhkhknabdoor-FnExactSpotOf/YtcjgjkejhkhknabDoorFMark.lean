/-
  The walks of the law's own helpers over flashes: marked.
-/
import Derived.Test.YtcjgjkejhkhknabDoorFRow
import Derived.Test.YtcjgjkejhkhknabDoorPq2
namespace Go.Proofs.YtcjgjkejhkhknabDoor
open Go.RowKit

/-- Leaves that are marked from k on. -/
def markLf (k i : Nat) : Int × ByteArray := (((k + 2 * i : Nat) : Int), ⟨(markL (k + 2 * i + 1)).toArray⟩)
def marksL (k n : Nat) : List (Int × ByteArray) := (List.range n).map (markLf k)
theorem marksL_len (k n : Nat) : (marksL k n).length = n := by simp [marksL]
theorem marksL_succ (k n : Nat) : marksL k (n + 1) = marksL k n ++ [markLf k n] := by simp [marksL, List.range_succ]
theorem marksL_at (k n i : Nat) (h : i < n) : (marksL k n)[i]? = some (markLf k i) := by simp [marksL, h]
/-- Blocks that are marked from k on. -/
def marksB : Nat → List Rw → List Rw
  | _, [] => []
  | k, r :: rs => (decide (k % 3 = 0), ((k + 1 : Nat) : Int), r.2.2.1, marksL (k + 2) r.2.2.2.length) :: marksB (k + 2 + 2 * r.2.2.2.length) rs
def endB : Nat → List Rw → Nat
  | k, [] => k
  | k, r :: rs => endB (k + 2 + 2 * r.2.2.2.length) rs
theorem marksB_len (k : Nat) (rs : List Rw) : (marksB k rs).length = rs.length := by
  induction rs generalizing k with
  | nil => rfl
  | cons r rs ih => simp [marksB, ih]
theorem endB_le (k : Nat) (rs : List Rw) : k ≤ endB k rs := by
  induction rs generalizing k with
  | nil => exact Nat.le_refl _
  | cons r rs ih => have := ih (k + 2 + 2 * r.2.2.2.length); unfold endB; omega
theorem endB_snoc (k : Nat) (rs : List Rw) (r : Rw) : endB k (rs ++ [r]) = endB k rs + 2 + 2 * r.2.2.2.length := by
  induction rs generalizing k with
  | nil => rfl
  | cons a rs ih => exact ih _
theorem marksB_snoc (k : Nat) (rs : List Rw) (r : Rw) : marksB k (rs ++ [r]) = marksB k rs ++ [(decide (endB k rs % 3 = 0), ((endB k rs + 1 : Nat) : Int), r.2.2.1, marksL (endB k rs + 2) r.2.2.2.length)] := by
  induction rs generalizing k with
  | nil => rfl
  | cons a rs ih =>
    show _ :: marksB _ (rs ++ [r]) = _ :: marksB _ rs ++ _
    rw [ih]
    rfl
theorem endB_take (k : Nat) (rs : List Rw) (j : Nat) : endB k (rs.take j) ≤ endB k rs := by
  induction rs generalizing k j with
  | nil => simp
  | cons r rs ih =>
    cases j with
    | zero => exact endB_le k (r :: rs)
    | succ j => exact ih _ j
theorem marksB_set (k : Nat) (rs : List Rw) (j : Nat) (r : Rw) (h : rs[j]? = some r) : (marksB k (rs.take j) ++ rs.drop j).set j (decide (endB k (rs.take j) % 3 = 0), ((endB k (rs.take j) + 1 : Nat) : Int), r.2.2.1, marksL (endB k (rs.take j) + 2) r.2.2.2.length) = marksB k (rs.take (j + 1)) ++ rs.drop (j + 1) := by
  obtain ⟨h1, h2⟩ := List.getElem?_eq_some_iff.1 h
  have hl : (marksB k (rs.take j)).length = j := by rw [marksB_len, List.length_take]; omega
  rw [List.take_succ_eq_append_getElem h1, h2, marksB_snoc, List.set_append_right _ _ (by omega), hl, Nat.sub_self, List.drop_eq_getElem_cons h1, List.set_cons_zero]
  simp
theorem lcells_set2 (ls : List (Int × ByteArray)) (k j : Nat) (hj : j < ls.length) :
    ((lcells (marksL k j ++ ls.drop j)).set (j * 2) (.int .i64 ((k + 2 * j : Nat) : Int))).set (j * 2 + 1) (.string ⟨(markL (k + 2 * j + 1)).toArray⟩) = lcells (marksL k (j + 1) ++ ls.drop (j + 1)) := by
  have hm : (lcells (marksL k j)).length = j * 2 := by rw [lcells_len, marksL_len]
  have e1 : ∀ r, lcells (ls[j] :: r) = [.int .i64 ls[j].1, .string ls[j].2] ++ lcells r := fun r => lcells_cons _ _
  have e2 : lcells [markLf k j] = [.int .i64 ((k + 2 * j : Nat) : Int), .string ⟨(markL (k + 2 * j + 1)).toArray⟩] := rfl
  rw [marksL_succ, List.drop_eq_getElem_cons hj, lcells_app, lcells_app, lcells_app, e1, e2, List.set_append_right _ _ (by omega), List.set_append_right _ _ (by omega), hm, Nat.sub_self, Nat.add_sub_cancel_left, List.append_assoc]
  rfl

/-- Blocks outside of these bounds. -/
def Apart (lo hi i : Nat) : Prop := ¬ (lo ≤ i ∧ i < hi)

end Go.Proofs.YtcjgjkejhkhknabDoor
