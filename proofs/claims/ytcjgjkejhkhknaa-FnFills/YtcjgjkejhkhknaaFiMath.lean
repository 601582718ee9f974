/-
  A flash that is written place by place.
-/
import Derived.Test.YtcjgjkejhkhknaaPlMath
namespace Go.Proofs.Ytcjgjkejhkhknaa

def oneX : ByteArray := ⟨#[120]⟩
/-- Four leaves, the first k of which are written. -/
def fillL (k : Nat) : List (Int × ByteArray) := (List.range 4).map (fun m => if m < k then (1, oneX) else (0, ⟨#[]⟩))
/-- n blocks on which i leaves are written. -/
def stF (n i : Nat) : List Bk := (List.range n).map (fun j => (false, 0, fillL (i - 4 * j)))
def chkF (n i : Nat) : Bool := flOk (stF n i) && decide (placeF (stF n i) = (((i / 4 : Nat) : Int), ((i % 4 : Nat) : Int), true)) && decide (programF (stF n i) ((i / 4 : Nat) : Int) ((i % 4 : Nat) : Int) oneX = (stF n (i + 1), true)) && decide (roomF (stF n i) = 4 * n - i)
def endF (n : Nat) : Bool := flOk (stF n (4 * n)) && decide (placeF (stF n (4 * n)) = (0, 0, false)) && decide (roomF (stF n (4 * n)) = 0) && decide (openF (stF n (4 * n)) = -1) && decide (freeL (stF n (4 * n)) = []) && decide (newF (n : Int) = stF n 0)
set_option maxRecDepth 100000 in
theorem all_chk : (List.range 8).all (fun a => (List.range (4 * (a + 3))).all (fun i => chkF (a + 3) i) && endF (a + 3)) = true := by kernel_rfl
theorem chk_at {n i : Nat} (h3 : 3 ≤ n) (h10 : n ≤ 10) (hi : i < 4 * n) : flOk (stF n i) = true ∧ placeF (stF n i) = (((i / 4 : Nat) : Int), ((i % 4 : Nat) : Int), true) ∧ programF (stF n i) ((i / 4 : Nat) : Int) ((i % 4 : Nat) : Int) oneX = (stF n (i + 1), true) ∧ roomF (stF n i) = 4 * n - i := by
  have h := List.all_eq_true.1 all_chk (n - 3) (List.mem_range.2 (by omega))
  rw [Bool.and_eq_true, show n - 3 + 3 = n by omega] at h
  have h2 := List.all_eq_true.1 h.1 i (List.mem_range.2 hi)
  simp only [chkF, Bool.and_eq_true, decide_eq_true_eq] at h2
  exact ⟨h2.1.1.1, h2.1.1.2, h2.1.2, h2.2⟩
theorem end_at {n : Nat} (h3 : 3 ≤ n) (h10 : n ≤ 10) : flOk (stF n (4 * n)) = true ∧ placeF (stF n (4 * n)) = (0, 0, false) ∧ roomF (stF n (4 * n)) = 0 ∧ openF (stF n (4 * n)) = -1 ∧ freeL (stF n (4 * n)) = [] ∧ newF (n : Int) = stF n 0 := by
  have h := List.all_eq_true.1 all_chk (n - 3) (List.mem_range.2 (by omega))
  rw [Bool.and_eq_true, show n - 3 + 3 = n by omega] at h
  have h2 := h.2
  simp only [endF, Bool.and_eq_true, decide_eq_true_eq] at h2
  exact ⟨h2.1.1.1.1.1, h2.1.1.1.1.2, h2.1.1.1.2, h2.1.1.2, h2.1.2, h2.2⟩
end Go.Proofs.Ytcjgjkejhkhknaa
