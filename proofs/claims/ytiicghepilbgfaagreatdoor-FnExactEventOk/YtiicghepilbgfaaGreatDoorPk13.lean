/-
  TrMath3; TrMath4
-/
import Derived.Test.YtiicghepilbgfaaGreatDoorPk12
/-
  Trees that share, in plain words: how many knots two trees share.
-/
namespace Go.Proofs.YtiicghepilbgfaaGreatDoor
namespace Words

theorem count_out (p : Nat → Bool) (a : Nat) : ∀ n, (List.range n).countP p ≤ (List.range n).countP (fun i => p i && !(i == a)) + (if a < n then 1 else 0) := by
  intro n
  induction n with
  | zero => simp
  | succ n ih =>
    rw [List.range_succ, List.countP_append, List.countP_append, List.countP_singleton, List.countP_singleton]
    by_cases e : n = a
    · subst e
      simp only [beq_self_eq_true, Bool.not_true, Bool.and_false, Bool.false_eq_true, if_false]
      rw [if_neg (by omega)] at ih
      rw [if_pos (show n < n + 1 by omega)]
      split <;> omega
    · have e2 : (n == a) = false := by simpa using e
      rw [e2]
      simp only [Bool.not_false, Bool.and_true]
      by_cases h : a < n
      · rw [if_pos h] at ih
        rw [if_pos (show a < n + 1 by omega)]
        omega
      · rw [if_neg h] at ih
        rw [if_neg (show ¬ a < n + 1 by omega)]
        omega
/-- No more than there are to choose from. -/
theorem count_le : ∀ (c : List Nat) (n : Nat) (p : Nat → Bool), (∀ i, p i = true → i ∈ c) → (List.range n).countP p ≤ c.length := by
  intro c
  induction c with
  | nil =>
    intro n p h
    rw [List.countP_eq_zero.2 (fun i _ hp => by have := h i hp; cases this)]
    exact Nat.le_refl _
  | cons a c ih =>
    intro n p h
    have h1 := count_out p a n
    have h2 := ih n (fun i => p i && !(i == a)) (fun i hi => by
      simp only [Bool.and_eq_true, Bool.not_eq_true', beq_eq_false_iff_ne] at hi
      rcases List.mem_cons.1 (h i hi.1) with e | e
      · exact absurd e hi.2
      · exact e)
    rw [List.length_cons]
    split at h1 <;> omega
theorem count_two {p : Nat → Bool} {a b : Nat} (hab : a < b) (ha : p a = true) (hb : p b = true) : ∀ n, (if a < n then 1 else 0) + (if b < n then 1 else 0) ≤ (List.range n).countP p := by
  intro n
  induction n with
  | zero => simp
  | succ n ih =>
    rw [List.range_succ, List.countP_append, List.countP_singleton]
    by_cases e1 : n = a
    · subst e1
      rw [ha, if_pos rfl, if_pos (by omega), if_neg (by omega)]
      omega
    · by_cases e2 : n = b
      · subst e2
        rw [hb, if_pos rfl, if_pos (by omega), if_pos (by omega)]
        rw [if_pos (by omega), if_neg (by omega)] at ih
        omega
      · have q1 : (a < n + 1) ↔ (a < n) := by omega
        have q2 : (b < n + 1) ↔ (b < n) := by omega
        simp only [q1, q2]
        omega
theorem has_none {l : List Kn} {r : Int} {i : Nat} (h : r < 0) : hasB l r i = false := by rw [hasB, decide_eq_false (by omega), Bool.false_and]
theorem share_none {l : List Kn} {r s : Int} (h : r < 0 ∨ s < 0) : shareN l r s = 0 := by
  rw [shareN, List.countP_eq_zero]
  intro i _
  rcases h with h | h
  · rw [has_none h]; simp
  · rw [has_none h]; simp
theorem has_iff {l : List Kn} {r : Int} {i : Nat} (h : 0 ≤ r) : hasB l r i = true ↔ r = i ∨ ∃ k, k < 4 ∧ kidAt l r k = i := by
  rw [hasB, decide_eq_true h, Bool.true_and, Bool.or_eq_true, decide_eq_true_eq, List.any_eq_true]
  constructor
  · rintro (h | ⟨k, hk, e⟩)
    · exact .inl h
    · exact .inr ⟨k, List.mem_range.1 hk, by simpa using e⟩
  · rintro (h | ⟨k, hk, e⟩)
    · exact .inl h
    · exact .inr ⟨k, List.mem_range.2 hk, by simpa using e⟩
section
variable {l : List Kn} {r : Int} {s : Nat} {n : Int}
/-- The new tree has two new knots. -/
theorem share_self (ha : arB l = true) (hr : rootB l r = true) (hs : s ≤ 15) : 2 ≤ shareN (l ++ [putLf l r s n, putTop l r s]) ((l.length : Int) + 1) ((l.length : Int) + 1) := by
  have h0 : (0 : Int) ≤ (l.length : Int) + 1 := by omega
  have hk : kidAt (l ++ [putLf l r s n, putTop l r s]) ((l.length : Int) + 1) (s / 4) = l.length := put_kid (by rw [List.getElem?_set_self (by rw [top_len ha hr]; omega)])
  have p1 : hasB (l ++ [putLf l r s n, putTop l r s]) ((l.length : Int) + 1) l.length = true := (has_iff h0).2 (.inr ⟨s / 4, by omega, hk⟩)
  have p2 : hasB (l ++ [putLf l r s n, putTop l r s]) ((l.length : Int) + 1) (l.length + 1) = true := (has_iff h0).2 (.inl (by omega))
  have h := count_two (p := fun i => hasB (l ++ [putLf l r s n, putTop l r s]) ((l.length : Int) + 1) i && hasB (l ++ [putLf l r s n, putTop l r s]) ((l.length : Int) + 1) i) (Nat.lt_succ_self l.length) (by simp only [p1]; rfl) (by simp only [p2]; rfl) (l.length + 2)
  rw [if_pos (by omega), if_pos (by omega)] at h
  unfold shareN
  rw [List.length_append]
  exact h
/-- The new tree and the one that it came of share no more than three leaves. -/
theorem share_three (ha : arB l = true) (hr : rootB l r = true) (hs : s ≤ 15) : shareN (l ++ [putLf l r s n, putTop l r s]) ((l.length : Int) + 1) r ≤ 3 := by
  by_cases h0 : r < 0
  · rw [share_none (.inr h0)]; omega
  · have h1 : (0 : Int) ≤ (l.length : Int) + 1 := by omega
    have hr0 : 0 ≤ r := by omega
    obtain ⟨x, hx, hxl⟩ := rootB_pos hr hr0
    have hlt := (List.getElem?_eq_some_iff.1 hx).1
    have hc : ((List.range 4).filter (fun k => !(k == s / 4))).length = 3 := by
      have : s / 4 = 0 ∨ s / 4 = 1 ∨ s / 4 = 2 ∨ s / 4 = 3 := by omega
      rcases this with e | e | e | e <;> rw [e] <;> rfl
    have h := count_le (((List.range 4).filter (fun k => !(k == s / 4))).map (fun k => (kidAt l r k).toNat)) (l.length + 2) (fun i => hasB (l ++ [putLf l r s n, putTop l r s]) ((l.length : Int) + 1) i && hasB (l ++ [putLf l r s n, putTop l r s]) r i) (fun i hi => by
      simp only [Bool.and_eq_true] at hi
      obtain ⟨i1, i2⟩ := hi
      rw [has_iff h1] at i1
      rw [has_iff hr0] at i2
      have hil : i < l.length := by
        rcases i2 with e | ⟨k, hk, e⟩
        · omega
        · rw [kidAt_old hlt] at e
          obtain ⟨m, hm, hcase⟩ := inner_kid ha hx hxl hk
          rw [kidAt_some hx hm] at e
          rcases hcase with q | ⟨q1, q2, -⟩
          · omega
          · omega
      rcases i1 with e | ⟨k, hk, e⟩
      · omega
      · obtain ⟨m, hm, -, hme⟩ := top_at ha hr hk
        by_cases hks : k = s / 4
        · rw [hks, put_kid (m := (l.length : Int)) (by rw [List.getElem?_set_self (by rw [top_len ha hr]; omega)])] at e
          omega
        · rw [put_kid (m := m) (by rw [List.getElem?_set_ne (fun q => hks q.symm)]; exact hm)] at e
          rw [if_neg h0] at hme
          refine List.mem_map.2 ⟨k, List.mem_filter.2 ⟨List.mem_range.2 hk, by simpa using hks⟩, ?_⟩
          rw [← hme, e, Int.toNat_natCast])
    rw [List.length_map, hc] at h
    unfold shareN
    rw [List.length_append]
    exact h
end
end Words
end Go.Proofs.YtiicghepilbgfaaGreatDoor

/-
  Trees that share, in plain words: puts again, and in another order.
-/
namespace Go.Proofs.YtiicghepilbgfaaGreatDoor
namespace Words

/-- An arena with what was put; its new root is behind all. -/
def pt (l : List Kn) (r : Int) (s : Nat) (n : Int) : List Kn := l ++ [putLf l r s n, putTop l r s]
def ptR (l : List Kn) : Int := (l.length : Int) + 1
/-- An arena and a tree in it. -/
def TrOk (l : List Kn) (r : Int) : Prop := arB l = true ∧ rootB l r = true
theorem pt_ok {l : List Kn} {r n : Int} {s : Nat} (h : TrOk l r) (hs : s ≤ 15) (hn : 0 ≤ n) : TrOk (pt l r s n) (ptR l) := ⟨put_right h.1 h.2 hs hn, put_root⟩
theorem pt_old {l : List Kn} {r n k : Int} {s : Nat} (h : TrOk l r) (hs : s ≤ 15) (hn : 0 ≤ n) (hk : rootB l k = true) : TrOk (pt l r s n) k := ⟨put_right h.1 h.2 hs hn, root_old hk⟩
theorem pt_put {l : List Kn} {r n : Int} {s : Nat} (h : TrOk l r) (hs : s ≤ 15) (hn : 0 ≤ n) : putL l r (s : Int) n = pt l r s n ∧ putR l r (s : Int) n = ptR l := by
  have hb : putB l r (s : Int) n = true := by rw [putB, askB, h.1, h.2, decide_eq_true (show (0 : Int) ≤ (s : Int) by omega), decide_eq_true (show (s : Int) ≤ 15 by omega), decide_eq_true hn]; rfl
  exact ⟨by rw [putL, if_pos hb, Int.toNat_natCast]; rfl, by rw [putR, if_pos hb]; rfl⟩
theorem getT_ok {l : List Kn} {r : Int} {i : Nat} (h : TrOk l r) (hi : i ≤ 15) : getT l r (i : Int) = getP l r i := by
  rw [getT, askB, h.1, h.2, decide_eq_true (show (0 : Int) ≤ (i : Int) by omega), decide_eq_true (show (i : Int) ≤ 15 by omega), Int.toNat_natCast]
  rfl
theorem getT_out {l : List Kn} {r s : Int} (h : 15 < s) : getT l r s = 0 := by
  rw [getT, askB, decide_eq_false (show ¬ s ≤ 15 by omega), Bool.and_false, Bool.and_false]
  rfl
/-- What was put is read; all else of that tree is as it was. -/
theorem pt_get {l : List Kn} {r n : Int} {s i : Nat} (h : TrOk l r) (hs : s ≤ 15) (hn : 0 ≤ n) (hi : i ≤ 15) : getT (pt l r s n) (ptR l) (i : Int) = if i = s then n else getT l r (i : Int) := by
  rw [getT_ok (pt_ok h hs hn) hi, getT_ok h hi]
  exact put_get h.1 h.2 hs hi
/-- Every other tree is as it was. -/
theorem pt_keep {l : List Kn} {r n k : Int} {s i : Nat} (h : TrOk l r) (hs : s ≤ 15) (hn : 0 ≤ n) (hk : rootB l k = true) (hi : i ≤ 15) : getT (pt l r s n) k (i : Int) = getT l k (i : Int) := by
  rw [getT_ok (pt_old h hs hn hk) hi, getT_ok ⟨h.1, hk⟩ hi]
  exact get_old h.1 hk hi
theorem all_eq {l m : List Kn} {r k : Int} (h : ∀ i : Nat, i ≤ 15 → getT l r (i : Int) = getT m k (i : Int)) : allT l r = allT m k := by
  refine List.map_congr_left (fun i hi => ?_)
  have := List.mem_range.1 hi
  exact h i (by omega)
theorem all_keep {l : List Kn} {r n k : Int} {s : Nat} (h : TrOk l r) (hs : s ≤ 15) (hn : 0 ≤ n) (hk : rootB l k = true) : allT (pt l r s n) k = allT l k := all_eq (fun _ hi => pt_keep h hs hn hk hi)
/-- The same put again changes nothing that is read. -/
theorem all_again {l : List Kn} {r n : Int} {s : Nat} (h : TrOk l r) (hs : s ≤ 15) (hn : 0 ≤ n) : allT (pt (pt l r s n) (ptR l) s n) (ptR (pt l r s n)) = allT (pt l r s n) (ptR l) :=
  all_eq (fun i hi => by
    rw [pt_get (pt_ok h hs hn) hs hn hi]
    by_cases e : i = s
    · rw [if_pos e, pt_get h hs hn hi, if_pos e]
    · rw [if_neg e])
/-- Two puts of two sectors, in either order. -/
theorem all_order {l : List Kn} {r n m : Int} {s t : Nat} (h : TrOk l r) (hs : s ≤ 15) (ht : t ≤ 15) (hn : 0 ≤ n) (hm : 0 ≤ m) (hst : s ≠ t) : allT (pt (pt l r s n) (ptR l) t m) (ptR (pt l r s n)) = allT (pt (pt l r t m) (ptR l) s n) (ptR (pt l r t m)) :=
  all_eq (fun i hi => by
    rw [pt_get (pt_ok h hs hn) ht hm hi, pt_get h hs hn hi, pt_get (pt_ok h ht hm) hs hn hi, pt_get h ht hm hi]
    by_cases e1 : i = s
    · rw [if_pos e1, if_neg (by omega), if_pos e1]
    · rw [if_neg e1, if_neg e1])
theorem get_both {l : List Kn} {r n m : Int} {s t : Nat} (h : TrOk l r) (hs : s ≤ 15) (ht : t ≤ 15) (hn : 0 ≤ n) (hm : 0 ≤ m) (hst : s ≠ t) : getT (pt (pt l r s n) (ptR l) t m) (ptR (pt l r s n)) (s : Int) = n ∧ getT (pt (pt l r s n) (ptR l) t m) (ptR (pt l r s n)) (t : Int) = m := by
  rw [pt_get (pt_ok h hs hn) ht hm hs, if_neg hst, pt_get h hs hn hs, if_pos rfl, pt_get (pt_ok h hs hn) ht hm ht, if_pos rfl]
  exact ⟨rfl, rfl⟩
/-- How many knots are shared. -/
theorem share_put {l : List Kn} {r n : Int} {s : Nat} (h : TrOk l r) (hs : s ≤ 15) (hn : 0 ≤ n) : 2 ≤ shareT (pt l r s n) (ptR l) (ptR l) ∧ shareT (pt l r s n) (ptR l) r ≤ 3 ∧ shareT (pt l r s n) (-1) (ptR l) = 0 := by
  have ho := pt_ok (n := n) h hs hn
  have hr : rootB (pt l r s n) r = true := root_old h.2
  have h1 : rootB (pt l r s n) (-1) = true := by rw [rootB]; rfl
  refine ⟨?_, ?_, ?_⟩
  · rw [shareT, ho.1, ho.2]
    have := share_self (n := n) h.1 h.2 hs
    show (2 : Int) ≤ ((shareN (pt l r s n) (ptR l) (ptR l) : Nat) : Int)
    unfold pt ptR
    omega
  · rw [shareT, ho.1, ho.2, hr]
    have := share_three (n := n) h.1 h.2 hs
    show ((shareN (pt l r s n) (ptR l) r : Nat) : Int) ≤ 3
    unfold pt ptR
    omega
  · rw [shareT, ho.1, h1, ho.2]
    show ((shareN (pt l r s n) (-1) (ptR l) : Nat) : Int) = 0
    rw [share_none (.inl (by omega))]
    rfl
end Words
end Go.Proofs.YtiicghepilbgfaaGreatDoor
