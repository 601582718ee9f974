/-
  Plain facts on a word of four bytes that is said again and again: it is packed in few bytes.
-/
import Derived.Test.YtaolinlginloaaaZMath
import Derived.Test.YtaolinlginloaaaLMath
namespace Go.Proofs.Ytaolinlginloaaa.Pack
open Go.Proofs.Ytaolinlginloaaa

/-- What is said again every four bytes. -/
def PerL (s : List UInt8) : Prop := ∀ i, i + 4 < s.length → s.getD (i + 4) 0 = s.getD i 0
theorem per_shift (s : List UInt8) (hp : PerL s) (p k : Nat) (hpk : p < k) (h4 : ∀ i, i < 4 → s.getD (p + i) 0 = s.getD (k + i) 0) : ∀ i, k + i < s.length → s.getD (p + i) 0 = s.getD (k + i) 0 := by
  intro i
  induction i using Nat.strongRecOn with
  | ind i ih =>
    intro hi
    by_cases h : i < 4
    · exact h4 i h
    · obtain ⟨j, rfl⟩ : ∃ j, i = j + 4 := ⟨i - 4, by omega⟩
      have h1 := ih j (by omega) (by omega)
      have h2 := hp (k + j) (by omega)
      have h3 := hp (p + j) (by omega)
      rw [← Nat.add_assoc, ← Nat.add_assoc, h3, h2, h1]
theorem mlen_all (s : List UInt8) (f p k : Nat) (hpk : p < k) (hk : k ≤ s.length) (h : ∀ i, k + i < s.length → s.getD (p + i) 0 = s.getD (k + i) 0) : mlen f (s.drop p) (s.drop k) = min f (s.length - k) := by
  induction f generalizing p k with
  | zero =>
    have := (mlen_le 0 (s.drop p) (s.drop k)).1
    omega
  | succ f ih =>
    by_cases hkl : k < s.length
    · rw [mlen_yes f s p k (by omega) hkl (by simpa using h 0 (by omega)), ih (p + 1) (k + 1) (by omega) (by omega) (fun i hi => by
        have := h (i + 1) (by omega)
        rw [show p + 1 + i = p + (i + 1) by omega, show k + 1 + i = k + (i + 1) by omega]
        exact this)]
      omega
    · rw [mlen_end _ _ _ _ (by omega)]
      omega
theorem best_runs (s : List UInt8) (hp : PerL s) (k : Nat) (hk : k < s.length) : (best s k k).1 = 0 ∨ ((best s k k).1 = min 31 (s.length - k) ∧ 0 < (best s k k).2) := by
  rcases best_of s k k with h | ⟨h1, h2, h3, h4, h5⟩
  · rw [h]; exact Or.inl rfl
  · refine Or.inr ⟨?_, h3⟩
    have hle := (mlen_le 31 (s.drop (k - (best s k k).2)) (s.drop k)).2
    rw [List.length_drop, ← h5] at hle
    have hk4 : k + 4 ≤ s.length := by omega
    have hf := (mlen_four s (k - (best s k k).2) k (by omega) hk4).1 (by rw [← h5]; exact h1)
    rw [four_eq s _ (by omega), four_eq s k hk4] at hf
    simp only [List.cons.injEq, and_true] at hf
    rw [h5]
    refine mlen_all s 31 _ k (by omega) (by omega) (per_shift s hp _ k (by omega) (fun i hi => ?_))
    match i, hi with
    | 0, _ => exact hf.1
    | 1, _ => exact hf.2.1
    | 2, _ => exact hf.2.2.1
    | 3, _ => exact hf.2.2.2
theorem best_ge (s : List UInt8) (k d c : Nat) (hd : d < c) (h4 : 4 ≤ mlen 31 (s.drop (k - (d + 1))) (s.drop k)) : mlen 31 (s.drop (k - (d + 1))) (s.drop k) ≤ (best s k c).1 := by
  induction c with
  | zero => omega
  | succ c ih =>
    by_cases hdc : d = c
    · subst hdc
      by_cases hb : (best s k d).1 < mlen 31 (s.drop (k - (d + 1))) (s.drop k)
      · rw [best_yes s k d h4 hb]
        exact Nat.le_refl _
      · rw [best_no s k d (fun h => hb h.2)]
        omega
    · have h1 := ih (by omega)
      by_cases hb : 4 ≤ mlen 31 (s.drop (k - (c + 1))) (s.drop k) ∧ (best s k c).1 < mlen 31 (s.drop (k - (c + 1))) (s.drop k)
      · rw [best_yes s k c hb.1 hb.2]
        simp only
        omega
      · rw [best_no s k c hb]
        exact h1
theorem best_four (s : List UInt8) (hp : PerL s) (k : Nat) (h4 : 4 ≤ k) (hk : k + 4 ≤ s.length) : (best s k k).1 ≠ 0 := by
  have hm : mlen 31 (s.drop (k - (3 + 1))) (s.drop k) = min 31 (s.length - k) := mlen_all s 31 (k - 4) k (by omega) (by omega) (fun i hi => by
    have := hp (k - 4 + i) (by omega)
    rw [show k - 4 + i + 4 = k + i by omega] at this
    exact this.symm)
  have := best_ge s k 3 k (by omega) (by rw [hm]; omega)
  rw [hm] at this
  omega

/-- How many bytes tokens take. -/
def cost (l : List (Nat × Nat × List UInt8)) : Nat := (l.flatMap zTok).length
theorem cost_app (a b : List (Nat × Nat × List UInt8)) : cost (a ++ b) = cost a + cost b := by simp [cost]
theorem cost_one (t : Nat × Nat × List UInt8) : cost [t] = (zTok t).length := by simp [cost]
theorem text_cost (s : List UInt8) (k : Nat) (l : List (Nat × Nat × List UInt8)) (hb : (best s k k).1 = 0) : (stepT s (k, l)).1 = k + 1 ∧ cost (stepT s (k, l)).2 ≤ cost l + 2 := by
  have hnew : cost (l ++ [(0, 0, [s.getD k 0])]) ≤ cost l + 2 := by
    rw [cost_app, cost_one]
    simp [zTok]
  unfold stepT
  simp only
  rw [if_neg (by omega)]
  split
  · rename_i z t hlast
    split
    · refine ⟨rfl, ?_⟩
      obtain ⟨a, ha⟩ := List.getLast?_eq_some_iff.1 hlast
      rw [ha, List.dropLast_concat, cost_app, cost_app, cost_one, cost_one]
      simp [zTok]
      omega
    · exact ⟨rfl, hnew⟩
  · exact ⟨rfl, hnew⟩
theorem match_cost (s : List UInt8) (k : Nat) (l : List (Nat × Nat × List UInt8)) (hb : (best s k k).1 ≠ 0) (h2 : 0 < (best s k k).2) : (stepT s (k, l)).1 = k + (best s k k).1 ∧ cost (stepT s (k, l)).2 = cost l + 2 := by
  unfold stepT
  simp only
  rw [if_pos (by omega)]
  refine ⟨rfl, ?_⟩
  rw [cost_app, cost_one]
  unfold zTok
  rw [if_neg (by simp only; omega)]
  rfl
/-- What holds behind each step. -/
def RInv (L : Nat) (st : Nat × List (Nat × Nat × List UInt8)) : Prop :=
  (st.1 ≤ 4 ∧ cost st.2 ≤ 2 * st.1) ∨ (31 ≤ st.1 ∧ st.1 + 4 ≤ L ∧ L ≤ st.1 + 29 ∧ cost st.2 ≤ 10) ∨ (st.1 ≤ L ∧ L ≤ st.1 + 3 ∧ cost st.2 + 2 * (L - st.1) ≤ 16)
theorem run_inv (s : List UInt8) (hp : PerL s) (h1 : 20 ≤ s.length) (h2 : s.length ≤ 60) (m : Nat) : RInv s.length (stepsT m s) := by
  induction m with
  | zero => exact Or.inl ⟨by show 0 ≤ 4; omega, by show cost [] ≤ 0; exact Nat.le_refl _⟩
  | succ m ih =>
    obtain ⟨k, l, h⟩ : ∃ k l, stepsT m s = (k, l) := ⟨_, _, rfl⟩
    by_cases hk : k < s.length
    · rw [steps_one s m k l h hk]
      rw [h] at ih
      unfold RInv at ih ⊢
      simp only at ih
      rcases best_runs s hp k hk with hb | ⟨hb, hb2⟩
      · obtain ⟨e1, e2⟩ := text_cost s k l hb
        rw [e1]
        rcases ih with ⟨i1, i2⟩ | ⟨i1, i2, i3, i4⟩ | ⟨i1, i2, i3⟩
        · by_cases h4 : k = 4
          · exact absurd hb (best_four s hp k (by omega) (by omega))
          · exact Or.inl ⟨by omega, by omega⟩
        · exact absurd hb (best_four s hp k (by omega) (by omega))
        · exact Or.inr (Or.inr ⟨by omega, by omega, by omega⟩)
      · obtain ⟨e1, e2⟩ := match_cost s k l (by omega) hb2
        rw [e1, e2, hb]
        rcases ih with ⟨i1, i2⟩ | ⟨i1, i2, i3, i4⟩ | ⟨i1, i2, i3⟩
        · by_cases hl : s.length - k ≤ 31
          · exact Or.inr (Or.inr ⟨by omega, by omega, by omega⟩)
          · by_cases hl2 : s.length ≤ k + 31 + 3
            · exact Or.inr (Or.inr ⟨by omega, by omega, by omega⟩)
            · exact Or.inr (Or.inl ⟨by omega, by omega, by omega, by omega⟩)
        · exact Or.inr (Or.inr ⟨by omega, by omega, by omega⟩)
        · have := best_of s k k
          rcases this with e | ⟨e, _, _, _, e5⟩
          · rw [e] at hb
            simp at hb
            omega
          · omega
    · have hst : stepsT (m + 1) s = stepsT m s := steps_stay s m 1 (by rw [h]; simp only; omega)
      rw [hst]
      exact ih
theorem run_cost (s : List UInt8) (hp : PerL s) (h1 : 20 ≤ s.length) (h2 : s.length ≤ 60) : (zOf s).length ≤ 17 := by
  have hi := run_inv s hp h1 h2 s.length
  have hk := (kept_steps s (by omega) s.length).2
  unfold RInv at hi
  unfold zOf toks
  rw [List.length_cons]
  show cost _ + 1 ≤ 17
  rw [Nat.min_self] at hk
  rcases hi with ⟨i1, i2⟩ | ⟨i1, i2, i3, i4⟩ | ⟨i1, i2, i3⟩
  · omega
  · omega
  · omega
theorem run_pack (s : List UInt8) (hp : PerL s) (h1 : 20 ≤ s.length) (h2 : s.length ≤ 60) : packL s = some (zOf s) ∧ (zOf s).length < s.length := by
  have hc := run_cost s hp h1 h2
  unfold packL
  rw [if_neg (by omega), if_neg (by omega)]
  exact ⟨rfl, by omega⟩

/-- A word said so often. -/
def rep (wd : List UInt8) : Nat → List UInt8
  | 0 => []
  | n + 1 => rep wd n ++ wd
theorem rep_len (wd : List UInt8) (h : wd.length = 4) (n : Nat) : (rep wd n).length = 4 * n := by
  induction n with
  | zero => rfl
  | succ n ih => rw [rep, List.length_append, ih, h]; omega
theorem rep_at (wd : List UInt8) (h : wd.length = 4) (n i : Nat) (hi : i < 4 * n) : (rep wd n).getD i 0 = wd.getD (i % 4) 0 := by
  induction n with
  | zero => omega
  | succ n ih =>
    have hl := rep_len wd h n
    rw [rep, List.getD_eq_getElem?_getD]
    by_cases hin : i < 4 * n
    · rw [List.getElem?_append_left (by omega), ← List.getD_eq_getElem?_getD, ih hin]
    · rw [List.getElem?_append_right (by omega), hl, List.getD_eq_getElem?_getD]
      congr 2
      omega
theorem rep_per (wd : List UInt8) (h : wd.length = 4) (n : Nat) : PerL (rep wd n) := by
  intro i hi
  rw [rep_len wd h n] at hi
  rw [rep_at wd h n (i + 4) (by omega), rep_at wd h n i (by omega)]
  congr 1
  omega
end Go.Proofs.Ytaolinlginloaaa.Pack
