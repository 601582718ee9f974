/-
  Trees that share, in plain words: how many knots two trees share.
-/
import Derived.Test.YtmpmdacfibgepagTrMath2
namespace Go.Proofs.Ytmpmdacfibgepag
namespace Words

theorem count_out (p : Nat → Bool) (a : Nat) : ∀ n, (List.range n).countP p ≤ (List.range n).countP (fun i => p i && !(i == a)) + (if a < n then 1 else 0) := by
  intro n
  induction n with
  | zero => simp
  | succ n ih =>
    rw [List.range_succ, List.countP_append, List.countP_append, List.countP_singleton, List.countP_singleton]
    by_cases e : n = a
    · subst e
      simp only [beq_self_eq_true, Bool.not_true, Bool.and_false, Bool.false_eq_true, if_false]
      rw [if_neg (by omega)] at ih
      rw [if_pos (show n < n + 1 by omega)]
      split <;> omega
    · have e2 : (n == a) = false := by simpa using e
      rw [e2]
      simp only [Bool.not_false, Bool.and_true]
      by_cases h : a < n
      · rw [if_pos h] at ih
        rw [if_pos (show a < n + 1 by omega)]
        omega
      · rw [if_neg h] at ih
        rw [if_neg (show ¬ a < n + 1 by omega)]
        omega
/-- No more than there are to choose from. -/
theorem count_le : ∀ (c : List Nat) (n : Nat) (p : Nat → Bool), (∀ i, p i = true → i ∈ c) → (List.range n).countP p ≤ c.length := by
  intro c
  induction c with
  | nil =>
    intro n p h
    rw [List.countP_eq_zero.2 (fun i _ hp => by have := h i hp; cases this)]
    exact Nat.le_refl _
  | cons a c ih =>
    intro n p h
    have h1 := count_out p a n
    have h2 := ih n (fun i => p i && !(i == a)) (fun i hi => by
      simp only [Bool.and_eq_true, Bool.not_eq_true', beq_eq_false_iff_ne] at hi
      rcases List.mem_cons.1 (h i hi.1) with e | e
      · exact absurd e hi.2
      · exact e)
    rw [List.length_cons]
    split at h1 <;> omega
theorem count_two {p : Nat → Bool} {a b : Nat} (hab : a < b) (ha : p a = true) (hb : p b = true) : ∀ n, (if a < n then 1 else 0) + (if b < n then 1 else 0) ≤ (List.range n).countP p := by
  intro n
  induction n with
  | zero => simp
  | succ n ih =>
    rw [List.range_succ, List.countP_append, List.countP_singleton]
    by_cases e1 : n = a
    · subst e1
      rw [ha, if_pos rfl, if_pos (by omega), if_neg (by omega)]
      omega
    · by_cases e2 : n = b
      · subst e2
        rw [hb, if_pos rfl, if_pos (by omega), if_pos (by omega)]
        rw [if_pos (by omega), if_neg (by omega)] at ih
        omega
      · have q1 : (a < n + 1) ↔ (a < n) := by omega
        have q2 : (b < n + 1) ↔ (b < n) := by omega
        simp only [q1, q2]
        omega
theorem has_none {l : List Kn} {r : Int} {i : Nat} (h : r < 0) : hasB l r i = false := by rw [hasB, decide_eq_false (by omega), Bool.false_and]
theorem share_none {l : List Kn} {r s : Int} (h : r < 0 ∨ s < 0) : shareN l r s = 0 := by
  rw [shareN, List.countP_eq_zero]
  intro i _
  rcases h with h | h
  · rw [has_none h]; simp
  · rw [has_none h]; simp
theorem has_iff {l : List Kn} {r : Int} {i : Nat} (h : 0 ≤ r) : hasB l r i = true ↔ r = i ∨ ∃ k, k < 4 ∧ kidAt l r k = i := by
  rw [hasB, decide_eq_true h, Bool.true_and, Bool.or_eq_true, decide_eq_true_eq, List.any_eq_true]
  constructor
  · rintro (h | ⟨k, hk, e⟩)
    · exact .inl h
    · exact .inr ⟨k, List.mem_range.1 hk, by simpa using e⟩
  · rintro (h | ⟨k, hk, e⟩)
    · exact .inl h
    · exact .inr ⟨k, List.mem_range.2 hk, by simpa using e⟩
section
variable {l : List Kn} {r : Int} {s : Nat} {n : Int}
/-- The new tree has two new knots. -/
theorem share_self (ha : arB l = true) (hr : rootB l r = true) (hs : s ≤ 15) : 2 ≤ shareN (l ++ [putLf l r s n, putTop l r s]) ((l.length : Int) + 1) ((l.length : Int) + 1) := by
  have h0 : (0 : Int) ≤ (l.length : Int) + 1 := by omega
  have hk : kidAt (l ++ [putLf l r s n, putTop l r s]) ((l.length : Int) + 1) (s / 4) = l.length := put_kid (by rw [List.getElem?_set_self (by rw [top_len ha hr]; omega)])
  have p1 : hasB (l ++ [putLf l r s n, putTop l r s]) ((l.length : Int) + 1) l.length = true := (has_iff h0).2 (.inr ⟨s / 4, by omega, hk⟩)
  have p2 : hasB (l ++ [putLf l r s n, putTop l r s]) ((l.length : Int) + 1) (l.length + 1) = true := (has_iff h0).2 (.inl (by omega))
  have h := count_two (p := fun i => hasB (l ++ [putLf l r s n, putTop l r s]) ((l.length : Int) + 1) i && hasB (l ++ [putLf l r s n, putTop l r s]) ((l.length : Int) + 1) i) (Nat.lt_succ_self l.length) (by simp only [p1]; rfl) (by simp only [p2]; rfl) (l.length + 2)
  rw [if_pos (by omega), if_pos (by omega)] at h
  unfold shareN
  rw [List.length_append]
  exact h
/-- The new tree and the one that it came of share no more than three leaves. -/
theorem share_three (ha : arB l = true) (hr : rootB l r = true) (hs : s ≤ 15) : shareN (l ++ [putLf l r s n, putTop l r s]) ((l.length : Int) + 1) r ≤ 3 := by
  by_cases h0 : r < 0
  · rw [share_none (.inr h0)]; omega
  · have h1 : (0 : Int) ≤ (l.length : Int) + 1 := by omega
    have hr0 : 0 ≤ r := by omega
    obtain ⟨x, hx, hxl⟩ := rootB_pos hr hr0
    have hlt := (List.getElem?_eq_some_iff.1 hx).1
    have hc : ((List.range 4).filter (fun k => !(k == s / 4))).length = 3 := by
      have : s / 4 = 0 ∨ s / 4 = 1 ∨ s / 4 = 2 ∨ s / 4 = 3 := by omega
      rcases this with e | e | e | e <;> rw [e] <;> rfl
    have h := count_le (((List.range 4).filter (fun k => !(k == s / 4))).map (fun k => (kidAt l r k).toNat)) (l.length + 2) (fun i => hasB (l ++ [putLf l r s n, putTop l r s]) ((l.length : Int) + 1) i && hasB (l ++ [putLf l r s n, putTop l r s]) r i) (fun i hi => by
      simp only [Bool.and_eq_true] at hi
      obtain ⟨i1, i2⟩ := hi
      rw [has_iff h1] at i1
      rw [has_iff hr0] at i2
      have hil : i < l.length := by
        rcases i2 with e | ⟨k, hk, e⟩
        · omega
        · rw [kidAt_old hlt] at e
          obtain ⟨m, hm, hcase⟩ := inner_kid ha hx hxl hk
          rw [kidAt_some hx hm] at e
          rcases hcase with q | ⟨q1, q2, -⟩
          · omega
          · omega
      rcases i1 with e | ⟨k, hk, e⟩
      · omega
      · obtain ⟨m, hm, -, hme⟩ := top_at ha hr hk
        by_cases hks : k = s / 4
        · rw [hks, put_kid (m := (l.length : Int)) (by rw [List.getElem?_set_self (by rw [top_len ha hr]; omega)])] at e
          omega
        · rw [put_kid (m := m) (by rw [List.getElem?_set_ne (fun q => hks q.symm)]; exact hm)] at e
          rw [if_neg h0] at hme
          refine List.mem_map.2 ⟨k, List.mem_filter.2 ⟨List.mem_range.2 hk, by simpa using hks⟩, ?_⟩
          rw [← hme, e, Int.toNat_natCast])
    rw [List.length_map, hc] at h
    unfold shareN
    rw [List.length_append]
    exact h
end
end Words
end Go.Proofs.Ytmpmdacfibgepag
