/-
  Where to write next: what comes of each way.
-/
import Derived.Test.YtcjgjkejhkhknaaHpMath
namespace Go.Proofs.Ytcjgjkejhkhknaa

theorem place_no {bs : List Bk} (h : flOk bs = false) : placeF bs = (0, 0, false) := by unfold placeF; rw [h]; rfl
theorem place_open {bs : List Bk} {k : Nat} {b : Bk} (h : flOk bs = true) (hk : openF bs = k) (hb : bs[k]? = some b) : placeF bs = ((k : Int), ((nextB b.2.2 : Nat) : Int), true) := by
  unfold placeF leafs
  rw [h, hk, if_pos rfl, if_pos (by omega), Int.toNat_natCast, hb]
theorem place_least {bs : List Bk} {r : Wb} (h : flOk bs = true) (hk : openF bs = -1) (hr : IsLeast (wearL bs (freeL bs)) r) : placeF bs = (r.1, 0, true) := by
  unfold placeF
  rw [h, hk, if_pos rfl, if_neg (by omega), hr.is]
theorem place_full {bs : List Bk} (h : flOk bs = true) (hk : openF bs = -1) (hr : freeL bs = []) : placeF bs = (0, 0, false) := by
  unfold placeF
  rw [h, hk, if_pos rfl, if_neg (by omega), hr]
  rfl
theorem flOk_len {bs : List Bk} (h : flOk bs = true) : 3 ≤ bs.length ∧ bs.length ≤ 10 := by
  simp only [flOk, Bool.and_eq_true, decide_eq_true_eq] at h
  exact h.1
end Go.Proofs.Ytcjgjkejhkhknaa
