/-
  Plain facts on matches, as a loop finds them: no Go in them.
-/
import Derived.Test.YtaolinlginloaabTMath
namespace Go.Proofs.Ytaolinlginloaab.Pack

theorem drop_cons (s : List UInt8) (k : Nat) (h : k < s.length) : s.drop k = s.getD k 0 :: s.drop (k + 1) := by
  rw [List.drop_eq_getElem_cons h, List.getD_eq_getElem?_getD, List.getElem?_eq_getElem h]
  rfl
theorem mlen_yes (f : Nat) (s : List UInt8) (i j : Nat) (hi : i < s.length) (hj : j < s.length) (h : s.getD i 0 = s.getD j 0) : mlen (f + 1) (s.drop i) (s.drop j) = mlen f (s.drop (i + 1)) (s.drop (j + 1)) + 1 := by
  rw [drop_cons s i hi, drop_cons s j hj]
  exact if_pos h
theorem mlen_no (f : Nat) (s : List UInt8) (i j : Nat) (hi : i < s.length) (hj : j < s.length) (h : s.getD i 0 ≠ s.getD j 0) : mlen f (s.drop i) (s.drop j) = 0 := by
  cases f with
  | zero => rfl
  | succ f =>
    rw [drop_cons s i hi, drop_cons s j hj]
    exact if_neg h
theorem mlen_end (f : Nat) (s a : List UInt8) (j : Nat) (hj : s.length ≤ j) : mlen f a (s.drop j) = 0 := by
  rw [List.drop_eq_nil_of_le hj]
  cases f with
  | zero => rfl
  | succ f => cases a <;> rfl
theorem best_yes (s : List UInt8) (k m : Nat) (h : 4 ≤ mlen 31 (s.drop (k - (m + 1))) (s.drop k)) (h2 : (best s k m).1 < mlen 31 (s.drop (k - (m + 1))) (s.drop k)) : best s k (m + 1) = (mlen 31 (s.drop (k - (m + 1))) (s.drop k), m + 1) := by
  unfold best
  rw [if_pos ⟨h, h2⟩]
theorem best_no (s : List UInt8) (k m : Nat) (h : ¬ (4 ≤ mlen 31 (s.drop (k - (m + 1))) (s.drop k) ∧ (best s k m).1 < mlen 31 (s.drop (k - (m + 1))) (s.drop k))) : best s k (m + 1) = best s k m := by
  conv => lhs; unfold best
  rw [if_neg h]
theorem steps_one (s : List UInt8) (m k : Nat) (l : List (Nat × Nat × List UInt8)) (h : stepsT m s = (k, l)) (hk : k < s.length) : stepsT (m + 1) s = stepT s (k, l) := by
  conv => lhs; unfold stepsT
  rw [h, if_pos hk]
theorem steps_match (s : List UInt8) (m k b1 b2 : Nat) (l : List (Nat × Nat × List UInt8)) (hs : s.length ≤ 64) (h : stepsT m s = (k, l)) (hk : k < s.length) (hb : best s k k = (b1, b2)) (h0 : 0 < b1) : stepsT (m + 1) s = (k + b1, l ++ [(b2, b1, [])]) ∧ k + b1 ≤ s.length := by
  have e : stepsT (m + 1) s = (k + b1, l ++ [(b2, b1, [])]) := by
    rw [steps_one s m k l h hk]
    unfold stepT
    simp only [hb]
    rw [if_pos h0]
  refine ⟨e, ?_⟩
  have := (kept_steps s hs (m + 1)).1.1
  rw [e] at this
  exact this
theorem steps_more (s : List UInt8) (m k z : Nat) (l : List (Nat × Nat × List UInt8)) (t : List UInt8) (h : stepsT m s = (k, l ++ [(0, z, t)])) (hk : k < s.length) (hb : (best s k k).1 = 0) (ht : t.length < 31) : stepsT (m + 1) s = (k + 1, l ++ [(0, z, t ++ [s.getD k 0])]) := by
  rw [steps_one s m k _ h hk]
  unfold stepT
  simp only [hb]
  rw [if_neg (by omega)]
  simp [ht]
theorem steps_new (s : List UInt8) (m k : Nat) (l : List (Nat × Nat × List UInt8)) (h : stepsT m s = (k, l)) (hk : k < s.length) (hb : (best s k k).1 = 0) (hl : ∀ a z t, l = a ++ [(0, z, t)] → ¬ t.length < 31) : stepsT (m + 1) s = (k + 1, l ++ [(0, 0, [s.getD k 0])]) := by
  rw [steps_one s m k _ h hk]
  unfold stepT
  simp only [hb]
  rw [if_neg (by omega)]
  split
  · rename_i z t hlast
    obtain ⟨a, ha⟩ := List.getLast?_eq_some_iff.1 hlast
    rw [if_neg (hl a z t ha)]
  · rfl
theorem steps_stay (s : List UInt8) (m d : Nat) (h : s.length ≤ (stepsT m s).1) : stepsT (m + d) s = stepsT m s := by
  induction d with
  | zero => rfl
  | succ d ih =>
    have e : stepsT (m + (d + 1)) s = if (stepsT (m + d) s).1 < s.length then stepT s (stepsT (m + d) s) else stepsT (m + d) s := rfl
    rw [e, ih, if_neg (by omega)]
theorem steps_end (s : List UInt8) (m : Nat) (l : List (Nat × Nat × List UInt8)) (h : stepsT m s = (s.length, l)) (hm : m ≤ s.length) : toks s = l := by
  have := steps_stay s m (s.length - m) (by rw [h]; exact Nat.le_refl _)
  rw [show m + (s.length - m) = s.length by omega] at this
  unfold toks
  rw [this, h]
end Go.Proofs.Ytaolinlginloaab.Pack
