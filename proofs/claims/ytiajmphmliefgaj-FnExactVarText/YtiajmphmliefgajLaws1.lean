/-
  The walks of the law on VarText, and of spec.VarText.
-/
import Derived.Test.YtiajmphmliefgajWalks
namespace Go.Proofs.Ytiajmphmliefgaj
open Go.RowKit
open Words

set_option maxHeartbeats 400000 in
theorem specVar_yes (n : Nat) (w : World) (hn : n ≤ 1000000000) :
    Calls Try.prog 9 #[.int .i64 n] w fun e w' => e = .returned (.tuple #[.string ⟨(varL n).toArray⟩, .bool true]) ∧ Below w.heap.size w w' := by
  have g : decide ((0 : Int) ≤ n ∧ (n : Int) ≤ 1000000000) = true := by simp; omega
  go_enter Try.func9, Try.ntmps9
  go_wp2_with fail
  refine (l01In_any _ _ _ _).mono ?_
  rintro e w' ⟨rfl, rfl⟩
  rw [g]
  go_wp2_with fail
  refine (l01Var_any _ _ (by omega)).mono ?_
  rintro e w' ⟨rfl, hb⟩
  go_wp2
  go_ret2
  exact ⟨rfl, hb⟩

theorem specVar_no (n : Int) (w : World) (hn : ¬ (0 ≤ n ∧ n ≤ 1000000000)) :
    Calls Try.prog 9 #[.int .i64 n] w fun e w' => e = .returned (.tuple #[.string ⟨#[]⟩, .bool false]) ∧ w' = w := by
  have g : decide ((0 : Int) ≤ n ∧ (n : Int) ≤ 1000000000) = false := by simp only [decide_eq_false_iff_not]; exact hn
  go_enter Try.func9, Try.ntmps9
  go_wp2_with fail
  refine (l01In_any _ _ _ _).mono ?_
  rintro e w' ⟨rfl, rfl⟩
  rw [g]
  go_wp2
  go_ret2
  exact ⟨rfl, rfl⟩

set_option maxHeartbeats 400000 in
theorem lawVar (a0 : Int) (w0 : (Lit.int .i64 a0).wf = true) (w : World) :
    Calls Try.prog 3 #[.int .i64 a0] w fun e w' => e = .returned (.bool true) ∧ Below w.heap.size w w' := by
  by_cases h : 0 ≤ a0 ∧ a0 ≤ 1000000000
  · obtain ⟨n, rfl⟩ := Int.eq_ofNat_of_zero_le h.1
    go_enter Try.func3, Try.ntmps3
    go_wp2_with fail
    refine (specVar_yes n _ (by omega)).mono ?_
    rintro e w1 ⟨rfl, hb1⟩
    go_wp2_with fail
    refine (implVar_yes n _ (by omega)).mono ?_
    rintro e w2 ⟨rfl, hb2⟩
    go_wp2
    go_ret
    exact ⟨rfl, hb1.trans (hb2.mono hb1.size)⟩
  · go_enter Try.func3, Try.ntmps3
    go_wp2_with fail
    refine (specVar_no a0 _ h).mono ?_
    rintro e w1 ⟨rfl, rfl⟩
    go_wp2_with fail
    refine (implVar_no a0 _ (by omega)).mono ?_
    rintro e w2 ⟨rfl, rfl⟩
    go_wp2
    go_ret
    exact ⟨rfl, Below.refl _ _⟩
end Go.Proofs.Ytiajmphmliefgaj
