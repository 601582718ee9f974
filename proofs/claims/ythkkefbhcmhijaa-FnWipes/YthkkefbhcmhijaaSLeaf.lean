/-
  spec.l05Leaf.
-/
import Derived.Test.YthkkefbhcmhijaaPq4
import Derived.Test.YthkkefbhcmhijaaPq13
namespace Go.Proofs.Ythkkefbhcmhijaa
open Go.RowKit

set_option maxHeartbeats 400000 in
set_option maxRecDepth 100000 in
theorem sleaf_any (x : Int) (t : ByteArray) (w : World) :
    Calls Try.prog 42 #[.agg #[.int .i64 x, .string t]] w fun e w' => e = .returned (.bool (leafOk (x, t))) ∧ Below w.heap.size w w' := by
  have HB := hide ((Below.refl w.heap.size w).alloc (Nat.le_refl _) (.cells #[.int .i64 x, .string t] 41))
  by_cases h0 : x = 0
  · subst h0
    have HE : Hid (leafOk (0, t) = t.toList.isEmpty) := by
      show _ = _
      simp only [leafOk]
      rw [Lib.toList_data]
      have hsz : t.size = t.data.toList.length := rfl
      cases hc : t.data.toList with
      | nil => rw [hc] at hsz; exact decide_eq_true (Or.inl ⟨trivial, hsz⟩)
      | cons a l => rw [hc] at hsz; exact decide_eq_false (by simp only [List.length_cons] at hsz; omega)
    go_enter Try.func42, Try.ntmps42
    go_wp2
    go_ret
    exact ⟨by rw [HE.out]; rfl, HB.out⟩
  · by_cases h1 : x = 1
    · subst h1
      have HE : Hid (leafOk (1, t) = decide ((1 : Int) ≤ t.size ∧ (t.size : Int) ≤ 120)) := by
        show _ = _
        simp only [leafOk]
        congr 1
        apply propext
        simp
        omega
      go_enter Try.func42, Try.ntmps42
      go_wp2_with fail
      refine (sin_any (t.size : Int) 1 120 _).mono ?_
      rintro e w1 ⟨rfl, rfl⟩
      rw [← HE.out]
      clear HE
      go_wp2
      go_ret
      exact ⟨rfl, HB.out⟩
    · have e0 : (x == 0) = false := by simpa using h0
      have e1 : (x == 1) = false := by simpa using h1
      by_cases h2 : x = 2
      · subst h2
        have HE : Hid (leafOk (2, t) = decide ((t.size : Int) ≤ 120)) := by
          show _ = _
          simp only [leafOk]
          congr 1
          apply propext
          simp
          omega
        go_enter Try.func42, Try.ntmps42
        go_wp2
        go_ret
        exact ⟨by rw [HE.out]; rfl, HB.out⟩
      · have e2 : (x == 2) = false := by simpa using h2
        have HE : Hid (leafOk (x, t) = false) := by
          show _ = _
          simp only [leafOk]
          exact decide_eq_false (by omega)
        go_enter Try.func42, Try.ntmps42
        go_wp2
        go_ret
        exact ⟨by rw [HE.out]; rfl, HB.out⟩
end Go.Proofs.Ythkkefbhcmhijaa
