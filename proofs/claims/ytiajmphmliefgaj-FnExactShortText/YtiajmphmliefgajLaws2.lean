/-
  The walk of the law on ReadVar.
-/
import Derived.Test.YtiajmphmliefgajRead2
namespace Go.Proofs.Ytiajmphmliefgaj
open Go.RowKit
open Words

theorem rv_cases (o : Option (Nat × Nat)) : (∃ n j : Nat, rvRes o = .tuple #[.int .i64 n, .int .i64 j, .bool true]) ∨ rvRes o = .tuple #[.int .i64 0, .int .i64 0, .bool false] := by
  match o with
  | none => exact .inr rfl
  | some (n, j) => exact .inl ⟨n, j, rfl⟩

theorem specRead_all (s : ByteArray) (q : Int) (hs : s.size ≤ 1048576) : ∃ o, (∀ n j, o = some (n, j) → j ≤ s.size ∧ n ≤ 1000000000) ∧ (∀ w, Calls Try.prog 11 #[.string s, .int .i64 q] w fun e w' => e = .returned (rvRes o) ∧ Below w.heap.size w w') ∧
    (∀ w, Calls Try.prog 12 #[.string s, .int .i64 q] w fun e w' => e = .returned (rvRes o) ∧ w' = w) := by
  by_cases h : 0 ≤ q ∧ q ≤ s.size
  · obtain ⟨n, rfl⟩ := Int.eq_ofNat_of_zero_le h.1
    exact ⟨_, fun n j h => by simpa using readV_le _ _ n j (by simp; omega) h, fun w => specRead s n w hs (by omega), fun w => implRead s n w hs (by omega)⟩
  · refine ⟨none, fun n j h => (by cases h), fun w => (specRead_out s q w (by omega)).mono ?_, fun w => implRead_out s q w (by omega)⟩
    rintro e w' ⟨rfl, rfl⟩
    exact ⟨rfl, Below.refl _ _⟩

set_option maxHeartbeats 400000 in
theorem lawRead (a0 : ByteArray) (a1 : Int) (w0 : a0.size ≤ maxLen) (_w1 : (Lit.int .i64 a1).wf = true) (w : World) :
    Calls Try.prog 4 #[.string a0, .int .i64 a1] w fun e w' => e = .returned (.bool true) ∧ Below w.heap.size w w' := by
  unfold maxLen at w0
  by_cases hs : (1048576 : Int) < a0.size
  · go_enter Try.func4, Try.ntmps4
    go_wp2
    go_ret
    exact ⟨rfl, Below.refl _ _⟩
  · obtain ⟨o, _, h1, h2⟩ := specRead_all a0 a1 (by omega)
    have H1 := hide h1
    have H2 := hide h2
    clear h1 h2
    rcases rv_cases o with ⟨n, j, ho⟩ | ho
    all_goals
      rw [ho] at H1 H2
      clear ho
      go_enter Try.func4, Try.ntmps4
      go_wp2_with fail
      refine (unhide H1 _).mono ?_
      rintro e w1 ⟨rfl, hb⟩
      go_wp2_with fail
      refine (unhide H2 _).mono ?_
      rintro e w2 ⟨rfl, rfl⟩
      go_wp2
      go_ret
      exact ⟨rfl, hb⟩
end Go.Proofs.Ytiajmphmliefgaj
