/-
  Of all places ahead, those at which the same four bytes begin are enough to find the best match.
-/
import Derived.Test.YtaolinlginloaabPkMM
import Derived.Test.YtaolinlginloaabPKey
namespace Go.Proofs.Ytaolinlginloaab.Pack
open Go.Proofs.Ytaolinlginloaab

theorem filter_snoc (f : Nat → Bool) (n p : Nat) (L : List Nat) (h : (List.range n).filter f = L ++ [p]) : p < n ∧ f p = true ∧ (List.range p).filter f = L ∧ ∀ x, p < x → x < n → f x = false := by
  induction n with
  | zero => simp at h
  | succ n ih =>
    rw [List.range_succ, List.filter_append] at h
    by_cases hn : f n = true
    · have e1 : List.filter f [n] = [n] := by simp [hn]
      rw [e1] at h
      obtain ⟨h1, h2⟩ := List.append_inj' h rfl
      have hp : n = p := by simpa using h2
      subst hp
      exact ⟨by omega, hn, h1, fun x a b => by omega⟩
    · have e1 : List.filter f [n] = [] := by simp [hn]
      rw [e1, List.append_nil] at h
      obtain ⟨a, b, c, d⟩ := ih h
      refine ⟨by omega, b, c, fun x hx hx2 => ?_⟩
      by_cases he : x = n
      · subst he; simpa using hn
      · exact d x hx (by omega)
theorem filter_none (f : Nat → Bool) (n : Nat) (h : (List.range n).filter f = []) : ∀ x, x < n → f x = false := by
  intro x hx
  have := List.filter_eq_nil_iff.1 h x (List.mem_range.2 hx)
  simpa using this

theorem four_eq (s : List UInt8) (k : Nat) (h : k + 4 ≤ s.length) : fourAt s k = [s.getD k 0, s.getD (k + 1) 0, s.getD (k + 2) 0, s.getD (k + 3) 0] := by
  unfold fourAt
  rw [if_pos h, drop_cons s k (by omega), drop_cons s (k + 1) (by omega), drop_cons s (k + 1 + 1) (by omega), drop_cons s (k + 1 + 1 + 1) (by omega)]
  rfl
theorem mlen_four (s : List UInt8) (x k : Nat) (hx : x < k) (h : k + 4 ≤ s.length) : 4 ≤ mlen 31 (s.drop x) (s.drop k) ↔ fourAt s x = fourAt s k := by
  rw [four_eq s x (by omega), four_eq s k h]
  by_cases h0 : s.getD x 0 = s.getD k 0
  · rw [mlen_yes 30 s x k (by omega) (by omega) h0]
    by_cases h1 : s.getD (x + 1) 0 = s.getD (k + 1) 0
    · rw [mlen_yes 29 s (x + 1) (k + 1) (by omega) (by omega) h1]
      by_cases h2 : s.getD (x + 2) 0 = s.getD (k + 2) 0
      · rw [mlen_yes 28 s (x + 2) (k + 2) (by omega) (by omega) h2]
        by_cases h3 : s.getD (x + 3) 0 = s.getD (k + 3) 0
        · rw [mlen_yes 27 s (x + 3) (k + 3) (by omega) (by omega) h3, h0, h1, h2, h3]
          simp
        · rw [mlen_no 28 s (x + 3) (k + 3) (by omega) (by omega) h3]
          simp only [List.cons.injEq, h3, and_true, and_false, iff_false]
          omega
      · rw [mlen_no 29 s (x + 2) (k + 2) (by omega) (by omega) h2]
        simp only [List.cons.injEq, h2, and_true, false_and, and_false, iff_false]
        omega
    · rw [mlen_no 30 s (x + 1) (k + 1) (by omega) (by omega) h1]
      simp only [List.cons.injEq, h1, and_true, false_and, and_false, iff_false]
      omega
  · rw [mlen_no 31 s x k (by omega) (by omega) h0]
    simp only [List.cons.injEq, h0, and_true, false_and, iff_false]
    omega
theorem best_skip (s : List UInt8) (k c d : Nat) (h : ∀ x, x < k → k - (c + d) ≤ x → x < k - c → ¬ 4 ≤ mlen 31 (s.drop x) (s.drop k)) (hc : c + d ≤ k) : best s k (c + d) = best s k c := by
  induction d with
  | zero => rfl
  | succ d ih =>
    rw [← Nat.add_assoc, best_no, ih (fun x a b e => h x a (by omega) e) (by omega)]
    intro hh
    exact h (k - (c + d + 1)) (by omega) (by omega) (by omega) hh.1
theorem best_short (s : List UInt8) (k : Nat) (h : ¬ k + 4 ≤ s.length) : best s k k = (0, 0) := by
  have := best_skip s k 0 k (fun x _ _ _ h4 => by
    have := (mlen_le 31 (s.drop x) (s.drop k)).2
    rw [List.length_drop] at this
    omega) (by omega)
  rw [Nat.zero_add] at this
  exact this

/-- One place of the list: the next of the loop. -/
theorem best_place (s : List UInt8) (k c p : Nat) (L : List Nat) (hc : c ≤ k) (h4 : k + 4 ≤ s.length) (h : placesN s (fourAt s k) (k - c) = L ++ [p]) :
    p < k - c ∧ placesN s (fourAt s k) p = L ∧ 4 ≤ mlen 31 (s.drop p) (s.drop k) ∧
      ((best s k c).1 < mlen 31 (s.drop p) (s.drop k) → best s k (k - p) = (mlen 31 (s.drop p) (s.drop k), k - p)) ∧ (¬ (best s k c).1 < mlen 31 (s.drop p) (s.drop k) → best s k (k - p) = best s k c) := by
  obtain ⟨h1, h2, h3, h5⟩ := filter_snoc _ _ _ _ h
  have hp4 : fourAt s p = fourAt s k := by simp at h2; exact h2.2
  have hm := (mlen_four s p k (by omega) h4).2 hp4
  have hsk := best_skip s k c (k - p - 1 - c) (fun x a b d hh => by
    have e1 := (mlen_four s x k a h4).1 hh
    have := h5 x (by omega) d
    simp [e1] at this
    omega) (by omega)
  rw [show c + (k - p - 1 - c) = k - p - 1 by omega] at hsk
  have e2 : k - (k - p - 1 + 1) = p := by omega
  have e3 : k - p - 1 + 1 = k - p := by omega
  refine ⟨h1, h3, hm, fun hb => ?_, fun hb => ?_⟩
  · have := best_yes s k (k - p - 1) (by rw [e2]; exact hm) (by rw [e2, hsk]; exact hb)
    rw [e2, e3] at this
    exact this
  · have := best_no s k (k - p - 1) (by rw [e2, hsk]; exact fun hh => hb hh.2)
    rw [e3, hsk] at this
    exact this
theorem best_last (s : List UInt8) (k c : Nat) (hc : c ≤ k) (h4 : k + 4 ≤ s.length) (h : placesN s (fourAt s k) (k - c) = []) : best s k k = best s k c := by
  have := best_skip s k c (k - c) (fun x a b d hh => by
    have e1 := (mlen_four s x k a h4).1 hh
    have := filter_none _ _ h x d
    simp [e1] at this
    omega) (by omega)
  rwa [show c + (k - c) = k by omega] at this
end Go.Proofs.Ytaolinlginloaab.Pack
