/-
  spec.RecOk.
-/
import Derived.Test.YtogfdhfmamabiaaPk0
import Derived.Test.YtogfdhfmamabiaaPk4
namespace Go.Proofs.Ytogfdhfmamabiaa
open Go.RowKit
open Words

def rcVal (r : Rc) : Value := .agg #[.int .i64 r.kind, .int .i64 r.vol, .int .i64 r.arg, .int .i64 r.chunk]

theorem rc_spec (k v a c : Int) : (Rc.mk k v a c).Right ↔ (0 ≤ a ∧ a ≤ 1000000000) ∧ (k = 1 ∧ v = 0 ∧ c = 0 ∨ (1 ≤ v ∧ v ≤ 9) ∧ (k = 2 ∧ a ≤ 9 ∧ c = 0 ∨ k = 3 ∧ a = 0 ∧ c = 0 ∨ k = 4 ∧ a < 16 ∧ 1 ≤ c ∧ c ≤ 1000000000 ∨ k = 5 ∧ a < 16 ∧ c = 0)) := Iff.rfl

set_option maxHeartbeats 1000000 in
set_option maxRecDepth 100000 in
theorem srecOk (r : Rc) (w : World) :
    Calls Try.prog 73 #[rcVal r] w fun e w' => e = .returned (.bool (@decide r.Right r.decR)) ∧ Below w.heap.size w w' := by
  obtain ⟨k, v, a, c⟩ := r
  have HE := hide (rc_spec k v a c)
  have HB := hide ((Below.refl w.heap.size w).alloc (Nat.le_refl _) (.cells #[.int .i64 k, .int .i64 v, .int .i64 a, .int .i64 c] 34))
  unfold rcVal
  simp only
  by_cases a1 : 0 ≤ a ∧ a ≤ 1000000000
  · by_cases a2 : k = 1
    · subst a2
      by_cases a3 : (v == 0) = true
      · go_enter Try.func73, Try.ntmps73
        go_wp2_with fail
        refine (sin_b a 0 1000000000 true _ (.inl ⟨by omega, by omega, rfl⟩)).mono ?_
        rintro e w1 ⟨rfl, rfl⟩
        go_wp2
        go_ret
        refine ⟨?_, HB.out⟩
        have e : @decide (Rc.mk 1 v a c).Right (Rc.mk 1 v a c).decR = (c == 0) := by
          cases hq : (c == 0) with
          | true => exact dcY (HE.out.2 (by first | omega | (simp_all; done) | (simp_all; omega)))
          | false => exact dcN (fun h => by have := HE.out.1 h; first | omega | (simp_all; done) | (simp_all; omega))
        rw [e]
        rfl
      · have a3 : (v == 0) = false := by simpa using a3
        go_enter Try.func73, Try.ntmps73
        go_wp2_with fail
        refine (sin_b a 0 1000000000 true _ (.inl ⟨by omega, by omega, rfl⟩)).mono ?_
        rintro e w1 ⟨rfl, rfl⟩
        go_wp2
        go_ret
        exact ⟨by rw [dcN (fun h => by have := HE.out.1 h; first | omega | (simp at this; omega) | (simp_all; done) | (simp_all; omega))]; rfl, HB.out⟩
    · have a2 : (k == 1) = false := by simpa using a2
      by_cases a3 : 2 ≤ k ∧ k ≤ 5
      · by_cases a4 : 1 ≤ v ∧ v ≤ 9
        · obtain a5 | a5 | a5 | a5 : k = 2 ∨ k = 3 ∨ k = 4 ∨ k = 5 := by omega
          · subst a5
            by_cases a6 : (c == 0) = true
            · go_enter Try.func73, Try.ntmps73
              go_wp2_with fail
              refine (sin_b a 0 1000000000 true _ (.inl ⟨by omega, by omega, rfl⟩)).mono ?_
              rintro e w1 ⟨rfl, rfl⟩
              go_wp2_with fail
              refine (sin_b 2 2 5 true _ (.inl ⟨by omega, by omega, rfl⟩)).mono ?_
              rintro e w1 ⟨rfl, rfl⟩
              go_wp2_with fail
              refine (sin_b v 1 9 true _ (.inl ⟨by omega, by omega, rfl⟩)).mono ?_
              rintro e w1 ⟨rfl, rfl⟩
              go_wp2
              go_ret
              refine ⟨?_, HB.out⟩
              have e : @decide (Rc.mk 2 v a c).Right (Rc.mk 2 v a c).decR = decide (a ≤ 9) := by
                cases hq : decide (a ≤ 9) with
                | true => exact dcY (HE.out.2 (by first | omega | (simp_all; done) | (simp_all; omega)))
                | false => exact dcN (fun h => by have := HE.out.1 h; first | omega | (simp_all; done) | (simp_all; omega))
              rw [e]
              rfl
            · have a6 : (c == 0) = false := by simpa using a6
              go_enter Try.func73, Try.ntmps73
              go_wp2_with fail
              refine (sin_b a 0 1000000000 true _ (.inl ⟨by omega, by omega, rfl⟩)).mono ?_
              rintro e w1 ⟨rfl, rfl⟩
              go_wp2_with fail
              refine (sin_b 2 2 5 true _ (.inl ⟨by omega, by omega, rfl⟩)).mono ?_
              rintro e w1 ⟨rfl, rfl⟩
              go_wp2_with fail
              refine (sin_b v 1 9 true _ (.inl ⟨by omega, by omega, rfl⟩)).mono ?_
              rintro e w1 ⟨rfl, rfl⟩
              go_wp2
              go_ret
              exact ⟨by rw [dcN (fun h => by have := HE.out.1 h; first | omega | (simp at this; omega) | (simp_all; done) | (simp_all; omega))]; rfl, HB.out⟩
          · subst a5
            by_cases a6 : (c == 0) = true
            · go_enter Try.func73, Try.ntmps73
              go_wp2_with fail
              refine (sin_b a 0 1000000000 true _ (.inl ⟨by omega, by omega, rfl⟩)).mono ?_
              rintro e w1 ⟨rfl, rfl⟩
              go_wp2_with fail
              refine (sin_b 3 2 5 true _ (.inl ⟨by omega, by omega, rfl⟩)).mono ?_
              rintro e w1 ⟨rfl, rfl⟩
              go_wp2_with fail
              refine (sin_b v 1 9 true _ (.inl ⟨by omega, by omega, rfl⟩)).mono ?_
              rintro e w1 ⟨rfl, rfl⟩
              go_wp2
              go_ret
              refine ⟨?_, HB.out⟩
              have e : @decide (Rc.mk 3 v a c).Right (Rc.mk 3 v a c).decR = (a == 0) := by
                cases hq : (a == 0) with
                | true => exact dcY (HE.out.2 (by first | omega | (simp_all; done) | (simp_all; omega)))
                | false => exact dcN (fun h => by have := HE.out.1 h; first | omega | (simp_all; done) | (simp_all; omega))
              rw [e]
              rfl
            · have a6 : (c == 0) = false := by simpa using a6
              go_enter Try.func73, Try.ntmps73
              go_wp2_with fail
              refine (sin_b a 0 1000000000 true _ (.inl ⟨by omega, by omega, rfl⟩)).mono ?_
              rintro e w1 ⟨rfl, rfl⟩
              go_wp2_with fail
              refine (sin_b 3 2 5 true _ (.inl ⟨by omega, by omega, rfl⟩)).mono ?_
              rintro e w1 ⟨rfl, rfl⟩
              go_wp2_with fail
              refine (sin_b v 1 9 true _ (.inl ⟨by omega, by omega, rfl⟩)).mono ?_
              rintro e w1 ⟨rfl, rfl⟩
              go_wp2
              go_ret
              exact ⟨by rw [dcN (fun h => by have := HE.out.1 h; first | omega | (simp at this; omega) | (simp_all; done) | (simp_all; omega))]; rfl, HB.out⟩
          · subst a5
            by_cases a6 : a < 16
            · by_cases a7 : 1 ≤ c ∧ c ≤ 1000000000
              · go_enter Try.func73, Try.ntmps73
                go_wp2_with fail
                refine (sin_b a 0 1000000000 true _ (.inl ⟨by omega, by omega, rfl⟩)).mono ?_
                rintro e w1 ⟨rfl, rfl⟩
                go_wp2_with fail
                refine (sin_b 4 2 5 true _ (.inl ⟨by omega, by omega, rfl⟩)).mono ?_
                rintro e w1 ⟨rfl, rfl⟩
                go_wp2_with fail
                refine (sin_b v 1 9 true _ (.inl ⟨by omega, by omega, rfl⟩)).mono ?_
                rintro e w1 ⟨rfl, rfl⟩
                go_wp2_with fail
                refine (sin_b c 1 1000000000 true _ (.inl ⟨by omega, by omega, rfl⟩)).mono ?_
                rintro e w1 ⟨rfl, rfl⟩
                go_wp2
                go_ret
                exact ⟨by rw [dcY (HE.out.2 (by first | omega | (simp; omega)))]; rfl, HB.out⟩
              · go_enter Try.func73, Try.ntmps73
                go_wp2_with fail
                refine (sin_b a 0 1000000000 true _ (.inl ⟨by omega, by omega, rfl⟩)).mono ?_
                rintro e w1 ⟨rfl, rfl⟩
                go_wp2_with fail
                refine (sin_b 4 2 5 true _ (.inl ⟨by omega, by omega, rfl⟩)).mono ?_
                rintro e w1 ⟨rfl, rfl⟩
                go_wp2_with fail
                refine (sin_b v 1 9 true _ (.inl ⟨by omega, by omega, rfl⟩)).mono ?_
                rintro e w1 ⟨rfl, rfl⟩
                go_wp2_with fail
                refine (sin_b c 1 1000000000 false _ (.inr ⟨by omega, rfl⟩)).mono ?_
                rintro e w1 ⟨rfl, rfl⟩
                go_wp2
                go_ret
                exact ⟨by rw [dcN (fun h => by have := HE.out.1 h; first | omega | (simp at this; omega) | (simp_all; done) | (simp_all; omega))]; rfl, HB.out⟩
            · go_enter Try.func73, Try.ntmps73
              go_wp2_with fail
              refine (sin_b a 0 1000000000 true _ (.inl ⟨by omega, by omega, rfl⟩)).mono ?_
              rintro e w1 ⟨rfl, rfl⟩
              go_wp2_with fail
              refine (sin_b 4 2 5 true _ (.inl ⟨by omega, by omega, rfl⟩)).mono ?_
              rintro e w1 ⟨rfl, rfl⟩
              go_wp2_with fail
              refine (sin_b v 1 9 true _ (.inl ⟨by omega, by omega, rfl⟩)).mono ?_
              rintro e w1 ⟨rfl, rfl⟩
              go_wp2
              go_ret
              exact ⟨by rw [dcN (fun h => by have := HE.out.1 h; first | omega | (simp at this; omega) | (simp_all; done) | (simp_all; omega))]; rfl, HB.out⟩
          · subst a5
            by_cases a6 : (c == 0) = true
            · go_enter Try.func73, Try.ntmps73
              go_wp2_with fail
              refine (sin_b a 0 1000000000 true _ (.inl ⟨by omega, by omega, rfl⟩)).mono ?_
              rintro e w1 ⟨rfl, rfl⟩
              go_wp2_with fail
              refine (sin_b 5 2 5 true _ (.inl ⟨by omega, by omega, rfl⟩)).mono ?_
              rintro e w1 ⟨rfl, rfl⟩
              go_wp2_with fail
              refine (sin_b v 1 9 true _ (.inl ⟨by omega, by omega, rfl⟩)).mono ?_
              rintro e w1 ⟨rfl, rfl⟩
              go_wp2
              go_ret
              refine ⟨?_, HB.out⟩
              have e : @decide (Rc.mk 5 v a c).Right (Rc.mk 5 v a c).decR = decide (a < 16) := by
                cases hq : decide (a < 16) with
                | true => exact dcY (HE.out.2 (by first | omega | (simp_all; done) | (simp_all; omega)))
                | false => exact dcN (fun h => by have := HE.out.1 h; first | omega | (simp_all; done) | (simp_all; omega))
              rw [e]
              rfl
            · have a6 : (c == 0) = false := by simpa using a6
              go_enter Try.func73, Try.ntmps73
              go_wp2_with fail
              refine (sin_b a 0 1000000000 true _ (.inl ⟨by omega, by omega, rfl⟩)).mono ?_
              rintro e w1 ⟨rfl, rfl⟩
              go_wp2_with fail
              refine (sin_b 5 2 5 true _ (.inl ⟨by omega, by omega, rfl⟩)).mono ?_
              rintro e w1 ⟨rfl, rfl⟩
              go_wp2_with fail
              refine (sin_b v 1 9 true _ (.inl ⟨by omega, by omega, rfl⟩)).mono ?_
              rintro e w1 ⟨rfl, rfl⟩
              go_wp2
              go_ret
              exact ⟨by rw [dcN (fun h => by have := HE.out.1 h; first | omega | (simp at this; omega) | (simp_all; done) | (simp_all; omega))]; rfl, HB.out⟩
        · go_enter Try.func73, Try.ntmps73
          go_wp2_with fail
          refine (sin_b a 0 1000000000 true _ (.inl ⟨by omega, by omega, rfl⟩)).mono ?_
          rintro e w1 ⟨rfl, rfl⟩
          go_wp2_with fail
          refine (sin_b k 2 5 true _ (.inl ⟨by omega, by omega, rfl⟩)).mono ?_
          rintro e w1 ⟨rfl, rfl⟩
          go_wp2_with fail
          refine (sin_b v 1 9 false _ (.inr ⟨by omega, rfl⟩)).mono ?_
          rintro e w1 ⟨rfl, rfl⟩
          go_wp2
          go_ret
          exact ⟨by rw [dcN (fun h => by have := HE.out.1 h; first | omega | (simp at this; omega) | (simp_all; done) | (simp_all; omega))]; rfl, HB.out⟩
      · go_enter Try.func73, Try.ntmps73
        go_wp2_with fail
        refine (sin_b a 0 1000000000 true _ (.inl ⟨by omega, by omega, rfl⟩)).mono ?_
        rintro e w1 ⟨rfl, rfl⟩
        go_wp2_with fail
        refine (sin_b k 2 5 false _ (.inr ⟨by omega, rfl⟩)).mono ?_
        rintro e w1 ⟨rfl, rfl⟩
        go_wp2
        go_ret
        exact ⟨by rw [dcN (fun h => by have := HE.out.1 h; first | omega | (simp at this; omega) | (simp_all; done) | (simp_all; omega))]; rfl, HB.out⟩
  · go_enter Try.func73, Try.ntmps73
    go_wp2_with fail
    refine (sin_b a 0 1000000000 false _ (.inr ⟨by omega, rfl⟩)).mono ?_
    rintro e w1 ⟨rfl, rfl⟩
    go_wp2
    go_ret
    exact ⟨by rw [dcN (fun h => by have := HE.out.1 h; first | omega | (simp at this; omega) | (simp_all; done) | (simp_all; omega))]; rfl, HB.out⟩
end Go.Proofs.Ytogfdhfmamabiaa
