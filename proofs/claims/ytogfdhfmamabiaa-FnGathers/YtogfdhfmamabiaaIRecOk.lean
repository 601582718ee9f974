/-
  impl.isWithin, impl.RecOk.
-/
import Derived.Test.YtogfdhfmamabiaaSRecOk
namespace Go.Proofs.Ytogfdhfmamabiaa
open Go.RowKit
open Words

set_option maxHeartbeats 400000 in
set_option maxRecDepth 100000 in
theorem iwithin (x lo hi : Int) (b : Bool) (w : World) (h : (lo ≤ x ∧ x ≤ hi ∧ b = true) ∨ ((x < lo ∨ lo ≤ x ∧ ¬ x ≤ hi) ∧ b = false)) :
    Calls Try.prog 35 #[.int .i64 x, .int .i64 lo, .int .i64 hi] w fun e w' => e = .returned (.bool b) ∧ w' = w := by
  rcases h with ⟨h1, h2, rfl⟩ | ⟨h1 | ⟨h1, h2⟩, rfl⟩
  all_goals
    go_enter Try.func35, Try.ntmps35
    go_wp2
    go_ret
    exact ⟨rfl, rfl⟩
set_option maxHeartbeats 1000000 in
set_option maxRecDepth 100000 in
theorem irecOk (r : Rc) (w : World) :
    Calls Try.prog 75 #[rcVal r] w fun e w' => e = .returned (.bool (@decide r.Right r.decR)) ∧ Below w.heap.size w w' := by
  obtain ⟨k, v, a, c⟩ := r
  have HE := hide (rc_spec k v a c)
  have HB := hide ((Below.refl w.heap.size w).alloc (Nat.le_refl _) (.cells #[.int .i64 k, .int .i64 v, .int .i64 a, .int .i64 c] 34))
  unfold rcVal
  simp only
  by_cases a1 : 1 ≤ k ∧ k ≤ 5
  · obtain a5 | a5 | a5 | a5 | a5 : k = 1 ∨ k = 2 ∨ k = 3 ∨ k = 4 ∨ k = 5 := by omega
    · subst a5
      by_cases a2 : 0 ≤ a ∧ a ≤ 1000000000
      · by_cases a3 : (v == 0) = true
        · go_enter Try.func75, Try.ntmps75
          go_wp2_with fail
          refine (iwithin a 0 1000000000 true _ (.inl ⟨by omega, by omega, rfl⟩)).mono ?_
          rintro e w1 ⟨rfl, rfl⟩
          go_wp2
          go_ret
          refine ⟨?_, by first | exact HB.out | exact (Below.refl _ _).alloc (Nat.le_refl _) _ | (repeat (first | exact HB.out | exact (Below.refl _ _).alloc (Nat.le_refl _) _ | refine Below.setCell ?_ (by simp) _))⟩
          have e : @decide (Rc.mk 1 v a c).Right (Rc.mk 1 v a c).decR = (c == 0) := by
            cases hq : (c == 0) with
            | true => exact dcY (HE.out.2 (by first | omega | (simp_all; done) | (simp_all; omega)))
            | false => exact dcN (fun h => by have := HE.out.1 h; first | omega | (simp_all; done) | (simp_all; omega))
          rw [e]
          rfl
        · have a3 : (v == 0) = false := by simpa using a3
          go_enter Try.func75, Try.ntmps75
          go_wp2_with fail
          refine (iwithin a 0 1000000000 true _ (.inl ⟨by omega, by omega, rfl⟩)).mono ?_
          rintro e w1 ⟨rfl, rfl⟩
          go_wp2
          go_ret
          exact ⟨by rw [dcN (fun h => by have := HE.out.1 h; first | omega | (simp at this; omega) | (simp_all; done) | (simp_all; omega))]; rfl, by first | exact HB.out | exact (Below.refl _ _).alloc (Nat.le_refl _) _ | (repeat (first | exact HB.out | exact (Below.refl _ _).alloc (Nat.le_refl _) _ | refine Below.setCell ?_ (by simp) _))⟩
      · go_enter Try.func75, Try.ntmps75
        go_wp2_with fail
        refine (iwithin a 0 1000000000 false _ (.inr ⟨by omega, rfl⟩)).mono ?_
        rintro e w1 ⟨rfl, rfl⟩
        go_wp2
        go_ret
        exact ⟨by rw [dcN (fun h => by have := HE.out.1 h; first | omega | (simp at this; omega) | (simp_all; done) | (simp_all; omega))]; rfl, by first | exact HB.out | exact (Below.refl _ _).alloc (Nat.le_refl _) _ | (repeat (first | exact HB.out | exact (Below.refl _ _).alloc (Nat.le_refl _) _ | refine Below.setCell ?_ (by simp) _))⟩
    · subst a5
      by_cases a2 : 1 ≤ v ∧ v ≤ 9
      · by_cases a3 : 0 ≤ a ∧ a ≤ 9
        · go_enter Try.func75, Try.ntmps75
          go_wp2_with fail
          refine (iwithin v 1 9 true _ (.inl ⟨by omega, by omega, rfl⟩)).mono ?_
          rintro e w1 ⟨rfl, rfl⟩
          go_wp2_with fail
          refine (iwithin a 0 9 true _ (.inl ⟨by omega, by omega, rfl⟩)).mono ?_
          rintro e w1 ⟨rfl, rfl⟩
          go_wp2_with fail
          refine (iwithin a 0 1000000000 true _ (.inl ⟨by omega, by omega, rfl⟩)).mono ?_
          rintro e w1 ⟨rfl, rfl⟩
          go_wp2
          go_ret
          refine ⟨?_, by first | exact HB.out | exact (Below.refl _ _).alloc (Nat.le_refl _) _ | (repeat (first | exact HB.out | exact (Below.refl _ _).alloc (Nat.le_refl _) _ | refine Below.setCell ?_ (by simp) _))⟩
          have e : @decide (Rc.mk 2 v a c).Right (Rc.mk 2 v a c).decR = (c == 0) := by
            cases hq : (c == 0) with
            | true => exact dcY (HE.out.2 (by first | omega | (simp_all; done) | (simp_all; omega)))
            | false => exact dcN (fun h => by have := HE.out.1 h; first | omega | (simp_all; done) | (simp_all; omega))
          rw [e]
          rfl
        · go_enter Try.func75, Try.ntmps75
          go_wp2_with fail
          refine (iwithin v 1 9 true _ (.inl ⟨by omega, by omega, rfl⟩)).mono ?_
          rintro e w1 ⟨rfl, rfl⟩
          go_wp2_with fail
          refine (iwithin a 0 9 false _ (.inr ⟨by omega, rfl⟩)).mono ?_
          rintro e w1 ⟨rfl, rfl⟩
          go_wp2
          go_ret
          exact ⟨by rw [dcN (fun h => by have := HE.out.1 h; first | omega | (simp at this; omega) | (simp_all; done) | (simp_all; omega))]; rfl, by first | exact HB.out | exact (Below.refl _ _).alloc (Nat.le_refl _) _ | (repeat (first | exact HB.out | exact (Below.refl _ _).alloc (Nat.le_refl _) _ | refine Below.setCell ?_ (by simp) _))⟩
      · go_enter Try.func75, Try.ntmps75
        go_wp2_with fail
        refine (iwithin v 1 9 false _ (.inr ⟨by omega, rfl⟩)).mono ?_
        rintro e w1 ⟨rfl, rfl⟩
        go_wp2
        go_ret
        exact ⟨by rw [dcN (fun h => by have := HE.out.1 h; first | omega | (simp at this; omega) | (simp_all; done) | (simp_all; omega))]; rfl, by first | exact HB.out | exact (Below.refl _ _).alloc (Nat.le_refl _) _ | (repeat (first | exact HB.out | exact (Below.refl _ _).alloc (Nat.le_refl _) _ | refine Below.setCell ?_ (by simp) _))⟩
    · subst a5
      by_cases a2 : a = 0
      · subst a2
        by_cases a3 : 1 ≤ v ∧ v ≤ 9
        · go_enter Try.func75, Try.ntmps75
          go_wp2_with fail
          refine (iwithin v 1 9 true _ (.inl ⟨by omega, by omega, rfl⟩)).mono ?_
          rintro e w1 ⟨rfl, rfl⟩
          go_wp2_with fail
          refine (iwithin 0 0 9 true _ (.inl ⟨by omega, by omega, rfl⟩)).mono ?_
          rintro e w1 ⟨rfl, rfl⟩
          go_wp2_with fail
          refine (iwithin 0 0 1000000000 true _ (.inl ⟨by omega, by omega, rfl⟩)).mono ?_
          rintro e w1 ⟨rfl, rfl⟩
          go_wp2
          go_ret
          refine ⟨?_, by first | exact HB.out | exact (Below.refl _ _).alloc (Nat.le_refl _) _ | (repeat (first | exact HB.out | exact (Below.refl _ _).alloc (Nat.le_refl _) _ | refine Below.setCell ?_ (by simp) _))⟩
          have e : @decide (Rc.mk 3 v 0 c).Right (Rc.mk 3 v 0 c).decR = (c == 0) := by
            cases hq : (c == 0) with
            | true => exact dcY (HE.out.2 (by first | omega | (simp_all; done) | (simp_all; omega)))
            | false => exact dcN (fun h => by have := HE.out.1 h; first | omega | (simp_all; done) | (simp_all; omega))
          rw [e]
          rfl
        · go_enter Try.func75, Try.ntmps75
          go_wp2_with fail
          refine (iwithin v 1 9 false _ (.inr ⟨by omega, rfl⟩)).mono ?_
          rintro e w1 ⟨rfl, rfl⟩
          go_wp2
          go_ret
          exact ⟨by rw [dcN (fun h => by have := HE.out.1 h; first | omega | (simp at this; omega) | (simp_all; done) | (simp_all; omega))]; rfl, by first | exact HB.out | exact (Below.refl _ _).alloc (Nat.le_refl _) _ | (repeat (first | exact HB.out | exact (Below.refl _ _).alloc (Nat.le_refl _) _ | refine Below.setCell ?_ (by simp) _))⟩
      · have a2 : (a != 0) = true := by simpa using a2
        go_enter Try.func75, Try.ntmps75
        go_wp2
        go_ret
        exact ⟨by rw [dcN (fun h => by have := HE.out.1 h; first | omega | (simp at this; omega) | (simp_all; done) | (simp_all; omega))]; rfl, by first | exact HB.out | exact (Below.refl _ _).alloc (Nat.le_refl _) _ | (repeat (first | exact HB.out | exact (Below.refl _ _).alloc (Nat.le_refl _) _ | refine Below.setCell ?_ (by simp) _))⟩
    · subst a5
      by_cases a2 : 1 ≤ c ∧ c ≤ 1000000000
      · by_cases a3 : 0 ≤ a ∧ a ≤ 15
        · by_cases a4 : 1 ≤ v ∧ v ≤ 9
          · go_enter Try.func75, Try.ntmps75
            go_wp2_with fail
            refine (iwithin c 1 1000000000 true _ (.inl ⟨by omega, by omega, rfl⟩)).mono ?_
            rintro e w1 ⟨rfl, rfl⟩
            go_wp2_with fail
            refine (iwithin a 0 15 true _ (.inl ⟨by omega, by omega, rfl⟩)).mono ?_
            rintro e w1 ⟨rfl, rfl⟩
            go_wp2_with fail
            refine (iwithin v 1 9 true _ (.inl ⟨by omega, by omega, rfl⟩)).mono ?_
            rintro e w1 ⟨rfl, rfl⟩
            go_wp2_with fail
            refine (iwithin 0 0 9 true _ (.inl ⟨by omega, by omega, rfl⟩)).mono ?_
            rintro e w1 ⟨rfl, rfl⟩
            go_wp2_with fail
            refine (iwithin 0 0 1000000000 true _ (.inl ⟨by omega, by omega, rfl⟩)).mono ?_
            rintro e w1 ⟨rfl, rfl⟩
            go_wp2
            go_ret
            exact ⟨by rw [dcY (HE.out.2 (by first | omega | (simp; omega)))]; rfl, by first | exact HB.out | exact (Below.refl _ _).alloc (Nat.le_refl _) _ | (repeat (first | exact HB.out | exact (Below.refl _ _).alloc (Nat.le_refl _) _ | refine Below.setCell ?_ (by simp) _))⟩
          · go_enter Try.func75, Try.ntmps75
            go_wp2_with fail
            refine (iwithin c 1 1000000000 true _ (.inl ⟨by omega, by omega, rfl⟩)).mono ?_
            rintro e w1 ⟨rfl, rfl⟩
            go_wp2_with fail
            refine (iwithin a 0 15 true _ (.inl ⟨by omega, by omega, rfl⟩)).mono ?_
            rintro e w1 ⟨rfl, rfl⟩
            go_wp2_with fail
            refine (iwithin v 1 9 false _ (.inr ⟨by omega, rfl⟩)).mono ?_
            rintro e w1 ⟨rfl, rfl⟩
            go_wp2
            go_ret
            exact ⟨by rw [dcN (fun h => by have := HE.out.1 h; first | omega | (simp at this; omega) | (simp_all; done) | (simp_all; omega))]; rfl, by first | exact HB.out | exact (Below.refl _ _).alloc (Nat.le_refl _) _ | (repeat (first | exact HB.out | exact (Below.refl _ _).alloc (Nat.le_refl _) _ | refine Below.setCell ?_ (by simp) _))⟩
        · go_enter Try.func75, Try.ntmps75
          go_wp2_with fail
          refine (iwithin c 1 1000000000 true _ (.inl ⟨by omega, by omega, rfl⟩)).mono ?_
          rintro e w1 ⟨rfl, rfl⟩
          go_wp2_with fail
          refine (iwithin a 0 15 false _ (.inr ⟨by omega, rfl⟩)).mono ?_
          rintro e w1 ⟨rfl, rfl⟩
          go_wp2
          go_ret
          exact ⟨by rw [dcN (fun h => by have := HE.out.1 h; first | omega | (simp at this; omega) | (simp_all; done) | (simp_all; omega))]; rfl, by first | exact HB.out | exact (Below.refl _ _).alloc (Nat.le_refl _) _ | (repeat (first | exact HB.out | exact (Below.refl _ _).alloc (Nat.le_refl _) _ | refine Below.setCell ?_ (by simp) _))⟩
      · go_enter Try.func75, Try.ntmps75
        go_wp2_with fail
        refine (iwithin c 1 1000000000 false _ (.inr ⟨by omega, rfl⟩)).mono ?_
        rintro e w1 ⟨rfl, rfl⟩
        go_wp2
        go_ret
        exact ⟨by rw [dcN (fun h => by have := HE.out.1 h; first | omega | (simp at this; omega) | (simp_all; done) | (simp_all; omega))]; rfl, by first | exact HB.out | exact (Below.refl _ _).alloc (Nat.le_refl _) _ | (repeat (first | exact HB.out | exact (Below.refl _ _).alloc (Nat.le_refl _) _ | refine Below.setCell ?_ (by simp) _))⟩
    · subst a5
      by_cases a3 : 0 ≤ a ∧ a ≤ 15
      · by_cases a4 : 1 ≤ v ∧ v ≤ 9
        · go_enter Try.func75, Try.ntmps75
          go_wp2_with fail
          refine (iwithin a 0 15 true _ (.inl ⟨by omega, by omega, rfl⟩)).mono ?_
          rintro e w1 ⟨rfl, rfl⟩
          go_wp2_with fail
          refine (iwithin v 1 9 true _ (.inl ⟨by omega, by omega, rfl⟩)).mono ?_
          rintro e w1 ⟨rfl, rfl⟩
          go_wp2_with fail
          refine (iwithin 0 0 9 true _ (.inl ⟨by omega, by omega, rfl⟩)).mono ?_
          rintro e w1 ⟨rfl, rfl⟩
          go_wp2_with fail
          refine (iwithin 0 0 1000000000 true _ (.inl ⟨by omega, by omega, rfl⟩)).mono ?_
          rintro e w1 ⟨rfl, rfl⟩
          go_wp2
          go_ret
          refine ⟨?_, by first | exact HB.out | exact (Below.refl _ _).alloc (Nat.le_refl _) _ | (repeat (first | exact HB.out | exact (Below.refl _ _).alloc (Nat.le_refl _) _ | refine Below.setCell ?_ (by simp) _))⟩
          have e : @decide (Rc.mk 5 v a c).Right (Rc.mk 5 v a c).decR = (c == 0) := by
            cases hq : (c == 0) with
            | true => exact dcY (HE.out.2 (by first | omega | (simp_all; done) | (simp_all; omega)))
            | false => exact dcN (fun h => by have := HE.out.1 h; first | omega | (simp_all; done) | (simp_all; omega))
          rw [e]
          rfl
        · go_enter Try.func75, Try.ntmps75
          go_wp2_with fail
          refine (iwithin a 0 15 true _ (.inl ⟨by omega, by omega, rfl⟩)).mono ?_
          rintro e w1 ⟨rfl, rfl⟩
          go_wp2_with fail
          refine (iwithin v 1 9 false _ (.inr ⟨by omega, rfl⟩)).mono ?_
          rintro e w1 ⟨rfl, rfl⟩
          go_wp2
          go_ret
          exact ⟨by rw [dcN (fun h => by have := HE.out.1 h; first | omega | (simp at this; omega) | (simp_all; done) | (simp_all; omega))]; rfl, by first | exact HB.out | exact (Below.refl _ _).alloc (Nat.le_refl _) _ | (repeat (first | exact HB.out | exact (Below.refl _ _).alloc (Nat.le_refl _) _ | refine Below.setCell ?_ (by simp) _))⟩
      · go_enter Try.func75, Try.ntmps75
        go_wp2_with fail
        refine (iwithin a 0 15 false _ (.inr ⟨by omega, rfl⟩)).mono ?_
        rintro e w1 ⟨rfl, rfl⟩
        go_wp2
        go_ret
        exact ⟨by rw [dcN (fun h => by have := HE.out.1 h; first | omega | (simp at this; omega) | (simp_all; done) | (simp_all; omega))]; rfl, by first | exact HB.out | exact (Below.refl _ _).alloc (Nat.le_refl _) _ | (repeat (first | exact HB.out | exact (Below.refl _ _).alloc (Nat.le_refl _) _ | refine Below.setCell ?_ (by simp) _))⟩
  · have n1 : (k == 1) = false := by simp; omega
    have n2 : (k == 2) = false := by simp; omega
    have n3 : (k == 3) = false := by simp; omega
    have n4 : (k == 4) = false := by simp; omega
    have n5 : (k == 5) = false := by simp; omega
    go_enter Try.func75, Try.ntmps75
    go_wp2
    go_ret
    exact ⟨by rw [dcN (fun h => by have := HE.out.1 h; first | omega | (simp at this; omega) | (simp_all; done) | (simp_all; omega))]; rfl, by first | exact HB.out | exact (Below.refl _ _).alloc (Nat.le_refl _) _ | (repeat (first | exact HB.out | exact (Below.refl _ _).alloc (Nat.le_refl _) _ | refine Below.setCell ?_ (by simp) _))⟩
end Go.Proofs.Ytogfdhfmamabiaa
