/-
  The walk of the specification's HasherOk.
-/
import Derived.Test.YtaolinlginloaacDoorDecI
import Derived.Test.YtaolinlginloaacDoorBase
import Derived.Test.YtaolinlginloaacDoorDMath
namespace Go.Proofs.YtaolinlginloaacDoor
open Go.RowKit
open Dig

/-- A hasher that is right. -/
def HRight (s r : ByteArray) (c : Int) : Prop := s.size = 32 ∧ r.size < 64 ∧ 0 ≤ c ∧ c ≤ 1000000000 ∧ c % 64 = r.size
abbrev decH (s r : ByteArray) (c : Int) : Decidable (HRight s r c) := by unfold HRight; exact inferInstance

theorem in_bD (x lo hi : Int) (b : Bool) (w : World) (h : (lo ≤ x ∧ x ≤ hi ∧ b = true) ∨ ((x < lo ∨ lo ≤ x ∧ ¬ x ≤ hi) ∧ b = false)) :
    Calls Tryd.prog 52 #[.int .i64 x, .int .i64 lo, .int .i64 hi] w fun e w' => e = .returned (.bool b) ∧ w' = w := by
  rcases h with ⟨h1, h2, rfl⟩ | ⟨h1 | ⟨h1, h2⟩, rfl⟩
  all_goals
    go_enter Tryd.func52, Tryd.ntmps52
    go_wp2
    go_ret
    exact ⟨rfl, rfl⟩
theorem in_anyD (x lo hi : Int) (w : World) :
    Calls Tryd.prog 52 #[.int .i64 x, .int .i64 lo, .int .i64 hi] w fun e w' => e = .returned (.bool (decide (lo ≤ x ∧ x ≤ hi))) ∧ w' = w := by
  apply in_bD
  by_cases h : lo ≤ x ∧ x ≤ hi
  · exact .inl ⟨h.1, h.2, dcY h⟩
  · exact .inr ⟨by omega, dcN h⟩

set_option maxHeartbeats 400000 in
theorem specOk_any (s r : ByteArray) (c : Int) (w : World) (hr : r.size ≤ maxLen) :
    Calls Tryd.prog 35 #[.agg #[.string s, .string r, .int .i64 c]] w fun e w' => e = .returned (.bool (@decide (HRight s r c) (decH s r c))) ∧ Below w.heap.size w w' := by
  unfold maxLen at hr
  by_cases h1 : (s.size : Int) = 32
  · by_cases h2 : (r.size : Int) < 64
    · have EI := hide (in_anyD c 0 1000000000)
      by_cases h3 : 0 ≤ c ∧ c ≤ 1000000000
      · have d3 : decide (0 ≤ c ∧ c ≤ 1000000000) = true := dcY h3
        by_cases h4 : c % 64 = r.size
        · have E : Hid (@decide (HRight s r c) (decH s r c) = true) := dcY ⟨by omega, by omega, h3.1, h3.2, h4⟩
          go_enter Tryd.func35, Tryd.ntmps35
          go_wp2_with fail
          refine (EI.out _).mono ?_
          rintro e w1 ⟨rfl, rfl⟩
          rw [d3]
          go_wp2
          go_ret
          exact ⟨by rw [E.out]; rfl, (Below.refl _ _).alloc (Nat.le_refl _) _⟩
        · have E : Hid (@decide (HRight s r c) (decH s r c) = false) := dcN (fun h => h4 h.2.2.2.2)
          have t4 : (c % 64 == (r.size : Int)) = false := by rw [beq_eq_false_iff_ne]; exact h4
          clear h4
          go_enter Tryd.func35, Tryd.ntmps35
          go_wp2_with fail
          refine (EI.out _).mono ?_
          rintro e w1 ⟨rfl, rfl⟩
          rw [d3]
          go_wp2
          go_ret
          exact ⟨by rw [E.out]; rfl, (Below.refl _ _).alloc (Nat.le_refl _) _⟩
      · have d3 : decide (0 ≤ c ∧ c ≤ 1000000000) = false := dcN h3
        have E : Hid (@decide (HRight s r c) (decH s r c) = false) := dcN (fun h => h3 ⟨h.2.2.1, h.2.2.2.1⟩)
        clear h3
        go_enter Tryd.func35, Tryd.ntmps35
        go_wp2_with fail
        refine (EI.out _).mono ?_
        rintro e w1 ⟨rfl, rfl⟩
        rw [d3]
        go_wp2
        go_ret
        exact ⟨by rw [E.out]; rfl, (Below.refl _ _).alloc (Nat.le_refl _) _⟩
    · have E : Hid (@decide (HRight s r c) (decH s r c) = false) := dcN (fun h => h2 (by have := h.2.1; omega))
      go_enter Tryd.func35, Tryd.ntmps35
      go_wp2
      go_ret
      exact ⟨by rw [E.out]; rfl, (Below.refl _ _).alloc (Nat.le_refl _) _⟩
  · have E : Hid (@decide (HRight s r c) (decH s r c) = false) := dcN (fun h => h1 (by have := h.1; omega))
    have t1 : ((s.size : Int) == 32) = false := by rw [beq_eq_false_iff_ne]; exact h1
    clear h1
    go_enter Tryd.func35, Tryd.ntmps35
    go_wp2
    go_ret
    exact ⟨by rw [E.out]; rfl, (Below.refl _ _).alloc (Nat.le_refl _) _⟩
end Go.Proofs.YtaolinlginloaacDoor
