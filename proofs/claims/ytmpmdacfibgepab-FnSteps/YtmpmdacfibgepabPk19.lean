/-
  IAt; ISmall
-/
import Derived.Test.YtmpmdacfibgepabPk4
import Derived.Test.YtmpmdacfibgepabPk5
/-
  (impl.Flash).blockAt, (*impl.Block).leafAt, (impl.Flash).blockInUse.
-/
namespace Go.Proofs.Ytmpmdacfibgepab
open Go.RowKit

set_option maxHeartbeats 400000 in
set_option maxRecDepth 100000 in
theorem iat_in (g n cap k : Nat) (w : World) (_hn : n ≤ 1048576) (hk : k < n) :
    Calls Try.prog 72 #[.agg #[.slice (some ⟨g, 0, none⟩) n cap], .int .i64 k] w fun e w' => e = .returned (.pointer (some ⟨g, k * 3, none⟩)) ∧ Below w.heap.size w w' := by
  have HB := hide ((Below.refl w.heap.size w).alloc (Nat.le_refl _) (.cells #[.slice (some ⟨g, 0, none⟩) n cap] 26))
  have h1 : (0 : Int) ≤ k := by omega
  have h2 : (k : Int) < n := by omega
  go_enter Try.func72, Try.ntmps72
  go_wp2
  go_ret
  exact ⟨rfl, HB.out⟩
set_option maxHeartbeats 400000 in
set_option maxRecDepth 100000 in
theorem iat_out (ad : Option Addr) (n cap : Nat) (b : Int) (w : World) (_hn : n ≤ 1048576) (hb : ¬ (0 ≤ b ∧ b ≤ (n : Int) - 1)) :
    Calls Try.prog 72 #[.agg #[.slice ad n cap], .int .i64 b] w fun e w' => e = .returned (.pointer none) ∧ Below w.heap.size w w' := by
  have HB := hide ((Below.refl w.heap.size w).alloc (Nat.le_refl _) (.cells #[.slice ad n cap] 26))
  by_cases h0 : b < 0
  · go_enter Try.func72, Try.ntmps72
    go_wp2
    go_ret
    exact ⟨rfl, HB.out⟩
  · have h1 : (n : Int) ≤ b := by omega
    clear hb
    go_enter Try.func72, Try.ntmps72
    go_wp2
    go_ret
    exact ⟨rfl, HB.out⟩
set_option maxHeartbeats 400000 in
set_option maxRecDepth 100000 in
theorem ilat_in (g o gl n cap k : Nat) (w : World) (_hn : n ≤ 1048576) (hk : k < n) (hc : w.cell? ⟨g, o + 2, none⟩ = some (.slice (some ⟨gl, 0, none⟩) n cap)) :
    Calls Try.prog 73 #[.pointer (some ⟨g, o, none⟩), .int .i64 k] w fun e w' => e = .returned (.pointer (some ⟨gl, k * 2, none⟩)) ∧ w' = w := by
  have h1 : (0 : Int) ≤ k := by omega
  have h2 : (k : Int) < n := by omega
  go_enter Try.func73, Try.ntmps73
  go_wp2
  go_ret
  exact ⟨rfl, rfl⟩
set_option maxHeartbeats 400000 in
set_option maxRecDepth 100000 in
theorem ilat_off (g o gl lo n cap k : Nat) (w : World) (_hn : n ≤ 1048576) (hk : k < n) (hc : w.cell? ⟨g, o + 2, none⟩ = some (.slice (some ⟨gl, lo, none⟩) n cap)) :
    Calls Try.prog 73 #[.pointer (some ⟨g, o, none⟩), .int .i64 k] w fun e w' => e = .returned (.pointer (some ⟨gl, lo + k * 2, none⟩)) ∧ w' = w := by
  have h1 : (0 : Int) ≤ k := by omega
  have h2 : (k : Int) < n := by omega
  go_enter Try.func73, Try.ntmps73
  go_wp2
  go_ret
  exact ⟨rfl, rfl⟩
set_option maxHeartbeats 400000 in
set_option maxRecDepth 100000 in
theorem ilat_out (g o n cap : Nat) (ad : Option Addr) (b : Int) (w : World) (_hn : n ≤ 1048576) (hb : ¬ (0 ≤ b ∧ b ≤ (n : Int) - 1)) (hc : w.cell? ⟨g, o + 2, none⟩ = some (.slice ad n cap)) :
    Calls Try.prog 73 #[.pointer (some ⟨g, o, none⟩), .int .i64 b] w fun e w' => e = .returned (.pointer none) ∧ w' = w := by
  by_cases h0 : b < 0
  · go_enter Try.func73, Try.ntmps73
    go_wp2
    go_ret
    exact ⟨rfl, rfl⟩
  · have h1 : (n : Int) ≤ b := by omega
    clear hb
    go_enter Try.func73, Try.ntmps73
    go_wp2
    go_ret
    exact ⟨rfl, rfl⟩
end Go.Proofs.Ytmpmdacfibgepab

/-
  impl.isBlockCount, impl.fillsLeaf, (*impl.Leaf).isRight.
-/
namespace Go.Proofs.Ytmpmdacfibgepab
open Go.RowKit

set_option maxHeartbeats 400000 in
set_option maxRecDepth 100000 in
theorem icount_b (x : Int) (b : Bool) (w : World) (h : (3 ≤ x ∧ x ≤ 10 ∧ b = true) ∨ ((x < 3 ∨ 3 ≤ x ∧ ¬ x ≤ 10) ∧ b = false)) :
    Calls Try.prog 99 #[.int .i64 x] w fun e w' => e = .returned (.bool b) ∧ w' = w := by
  rcases h with ⟨h1, h2, rfl⟩ | ⟨h1 | ⟨h1, h2⟩, rfl⟩
  all_goals
    go_enter Try.func99, Try.ntmps99
    go_wp2
    go_ret
    exact ⟨rfl, rfl⟩
theorem icount_any (x : Int) (w : World) :
    Calls Try.prog 99 #[.int .i64 x] w fun e w' => e = .returned (.bool (decide (3 ≤ x ∧ x ≤ 10))) ∧ w' = w := by
  apply icount_b
  by_cases h : 3 ≤ x ∧ x ≤ 10
  · exact .inl ⟨h.1, h.2, decide_eq_true h⟩
  · exact .inr ⟨by omega, decide_eq_false h⟩
theorem empty_size (t : ByteArray) : t.toList.isEmpty = decide (t.size = 0) := by
  rw [Lib.toList_data]
  have hsz : t.size = t.data.toList.length := rfl
  cases hc : t.data.toList with
  | nil => rw [hc] at hsz; exact (decide_eq_true hsz).symm
  | cons a l => rw [hc] at hsz; exact (decide_eq_false (by simp only [List.length_cons] at hsz; omega)).symm
def fillsP (t : ByteArray) : Bool := decide ((1 : Int) ≤ t.size ∧ (t.size : Int) ≤ 120)
set_option maxHeartbeats 400000 in
set_option maxRecDepth 100000 in
theorem fills_any (t : ByteArray) (w : World) :
    Calls Try.prog 138 #[.string t] w fun e w' => e = .returned (.bool (fillsP t)) ∧ w' = w := by
  by_cases h0 : t.size = 0
  · have he : t.toList.isEmpty = true := by rw [empty_size]; exact decide_eq_true h0
    have HE : Hid (fillsP t = false) := decide_eq_false (by omega)
    go_enter Try.func138, Try.ntmps138
    go_wp2
    go_ret
    exact ⟨by rw [HE.out]; rfl, rfl⟩
  · have he : t.toList.isEmpty = false := by rw [empty_size]; exact decide_eq_false h0
    have HE : Hid (fillsP t = decide ((t.size : Int) ≤ 120)) := by
      show _ = _
      unfold fillsP
      congr 1
      apply propext
      omega
    go_enter Try.func138, Try.ntmps138
    go_wp2
    go_ret
    exact ⟨by rw [HE.out]; rfl, rfl⟩
set_option maxHeartbeats 400000 in
set_option maxRecDepth 100000 in
theorem ileaf_any (g o : Nat) (x : Int) (t : ByteArray) (w : World) (h1 : w.cell? ⟨g, o, none⟩ = some (.int .i64 x)) (h2 : w.cell? ⟨g, o + 1, none⟩ = some (.string t)) :
    Calls Try.prog 121 #[.pointer (some ⟨g, o, none⟩)] w fun e w' => e = .returned (.bool (leafOk (x, t))) ∧ w' = w := by
  by_cases h0 : x = 0
  · subst h0
    have HE : Hid (leafOk (0, t) = t.toList.isEmpty) := by
      show _ = _
      rw [empty_size]
      simp only [leafOk]
      congr 1
      apply propext
      simp
    go_enter Try.func121, Try.ntmps121
    go_wp2
    go_ret
    exact ⟨by rw [HE.out]; rfl, rfl⟩
  · by_cases h1 : x = 1
    · subst h1
      have HE : Hid (leafOk (1, t) = fillsP t) := by
        show _ = _
        simp only [leafOk, fillsP]
        congr 1
        apply propext
        simp
        omega
      go_enter Try.func121, Try.ntmps121
      go_wp2_with fail
      refine (fills_any t _).mono ?_
      rintro e w1 ⟨rfl, rfl⟩
      rw [← HE.out]
      clear HE
      go_wp2
      go_ret
      exact ⟨rfl, rfl⟩
    · have e0 : (x == 0) = false := by simpa using h0
      have e1 : (x == 1) = false := by simpa using h1
      by_cases h2 : x = 2
      · subst h2
        have HE : Hid (leafOk (2, t) = decide ((t.size : Int) ≤ 120)) := by
          show _ = _
          simp only [leafOk]
          congr 1
          apply propext
          simp
          omega
        go_enter Try.func121, Try.ntmps121
        go_wp2
        go_ret
        exact ⟨by rw [HE.out]; rfl, rfl⟩
      · have e2 : (x == 2) = false := by simpa using h2
        have HE : Hid (leafOk (x, t) = false) := by
          show _ = _
          simp only [leafOk]
          exact decide_eq_false (by omega)
        go_enter Try.func121, Try.ntmps121
        go_wp2
        go_ret
        exact ⟨by rw [HE.out]; rfl, rfl⟩
end Go.Proofs.Ytmpmdacfibgepab
