/-
  What refers to chunks, and clones, in plain words.
-/
import Derived.Test.YtiicghepilbgfaaGreatDoorStoM3
namespace Go.Proofs.YtiicghepilbgfaaGreatDoor
namespace Words

/-- A right store has few knots. -/
theorem right_small {s : Sto} (h : s.Right) : s.kns.length ≤ 15 := by
  have e : (List.range s.kns.length).countP (swU s.kns (rootsV s.vols)) = s.kns.length := swN_all h.used _ (Nat.le_refl _)
  have c := count_le ((rootsV s.vols).flatMap (fun r => r.toNat :: (List.range 4).map (fun k => (kidAt s.kns r k).toNat))) s.kns.length (swU s.kns (rootsV s.vols)) (by
    intro i hi
    rw [swU, List.any_eq_true] at hi
    obtain ⟨r, hr, hb⟩ := hi
    rw [List.mem_flatMap]
    refine ⟨r, hr, ?_⟩
    rcases (has_iff (has_pos hb)).1 hb with q | ⟨k, hk, q⟩
    · rw [List.mem_cons]; left; omega
    · rw [List.mem_cons, List.mem_map]; right; exact ⟨k, List.mem_range.2 hk, by omega⟩)
  have hl : ((rootsV s.vols).flatMap (fun r => r.toNat :: (List.range 4).map (fun k => (kidAt s.kns r k).toNat))).length = 5 * s.vols.length := by
    unfold rootsV
    generalize s.vols = l
    induction l with
    | nil => rfl
    | cons v l ih => rw [List.map_cons, List.flatMap_cons, List.length_append, ih]; simp; omega
  have := h.few
  omega
/-- Ascending, above 0. -/
def AscP (l : List Int) : Prop := l.Pairwise (fun a b => a < b) ∧ ∀ x ∈ l, 0 < x
theorem insI_mem {l : List Int} (h : AscP l) {x y : Int} : y ∈ insI l x ↔ y ∈ l ∨ (0 < x ∧ y = x) := by
  unfold insI
  rw [List.mem_append, List.mem_append, List.mem_filter, List.mem_filter]
  simp only [decide_eq_true_eq]
  constructor
  · rintro ((q | q) | q)
    · exact .inl q.1
    · split at q
      · rename_i hx; rw [List.mem_singleton] at q; exact .inr ⟨hx, q⟩
      · cases q
    · exact .inl q.1
  · rintro (q | ⟨q1, q2⟩)
    · have := h.2 y q
      by_cases e : y = x
      · subst e; rw [if_pos this]; exact .inl (.inr (List.mem_singleton.2 rfl))
      · by_cases hlt : y < x
        · exact .inl (.inl ⟨q, hlt⟩)
        · exact .inr ⟨q, by omega⟩
    · subst q2; rw [if_pos q1]; exact .inl (.inr (List.mem_singleton.2 rfl))
theorem insI_asc {l : List Int} (h : AscP l) (x : Int) : AscP (insI l x) := by
  refine ⟨?_, fun y hy => ?_⟩
  · unfold insI
    rw [List.append_assoc, List.pairwise_append, List.pairwise_append]
    refine ⟨h.1.filter _, ⟨?_, h.1.filter _, ?_⟩, ?_⟩
    · split
      · exact List.pairwise_singleton _ _
      · exact List.Pairwise.nil
    · intro a ha b hb
      have hb2 : x < b := by simpa using (List.mem_filter.1 hb).2
      split at ha
      · rw [List.mem_singleton] at ha; omega
      · cases ha
    · intro a ha b hb
      have ha2 : a < x := by simpa using (List.mem_filter.1 ha).2
      rcases List.mem_append.1 hb with hb | hb
      · split at hb
        · rw [List.mem_singleton] at hb; omega
        · cases hb
      · have hb2 : x < b := by simpa using (List.mem_filter.1 hb).2
        omega
  · rcases (insI_mem h).1 hy with q | ⟨q1, q2⟩
    · exact h.2 y q
    · omega
theorem foldI {l : List Int} (h : AscP l) (L : List Int) : AscP (L.foldl insI l) ∧ ∀ y, y ∈ L.foldl insI l ↔ y ∈ l ∨ (0 < y ∧ y ∈ L) := by
  induction L generalizing l with
  | nil => exact ⟨h, fun y => by simp⟩
  | cons x L ih =>
    obtain ⟨h1, h2⟩ := ih (insI_asc h x)
    refine ⟨h1, fun y => ?_⟩
    rw [List.foldl_cons, h2, insI_mem h, List.mem_cons]
    constructor
    · rintro ((q | ⟨q1, q2⟩) | ⟨q1, q2⟩)
      · exact .inl q
      · subst q2; exact .inr ⟨q1, .inl rfl⟩
      · exact .inr ⟨q1, .inr q2⟩
    · rintro (q | ⟨q1, q2 | q2⟩)
      · exact .inl (.inl q)
      · subst q2; exact .inl (.inr ⟨q1, rfl⟩)
      · exact .inr ⟨q1, q2⟩
/-- All that the sectors of a store have. -/
def allS (s : Sto) : List Int := s.vols.flatMap (fun v => allT s.kns v.2)
theorem live_fold (s : Sto) : liveS s = (allS s).foldl insI [] := by
  unfold liveS allS
  generalize ([] : List Int) = acc
  generalize s.vols = l
  induction l generalizing acc with
  | nil => rfl
  | cons v l ih => rw [List.foldl_cons, ih, List.flatMap_cons, List.foldl_append]
theorem live_asc (s : Sto) : AscP (liveS s) := by
  rw [live_fold]
  exact (foldI ⟨List.Pairwise.nil, fun _ h => by cases h⟩ _).1
theorem live_mem (s : Sto) (y : Int) : y ∈ liveS s ↔ 0 < y ∧ y ∈ allS s := by
  rw [live_fold, (foldI ⟨List.Pairwise.nil, fun _ h => by cases h⟩ _).2]
  simp
theorem refs_count (s : Sto) {c : Int} (h : 0 < c) : refsS s c = (allS s).count c := by
  rw [refsS, if_pos h, allS, List.count_flatMap]
  rfl
/-- References of all that live are as many as sectors that have something. -/
theorem sum_count {live : List Int} (hn : live.Pairwise (fun a b => a < b)) (hp : ∀ x ∈ live, 0 < x) (M : List Int) (hm : ∀ y ∈ M, 0 < y → y ∈ live) : (live.map (fun x => M.count x)).sum = M.countP (fun y => decide (0 < y)) := by
  have one : ∀ (l : List Int) (m : Int), l.Pairwise (fun a b => a < b) → (l.map (fun x => if m = x then 1 else 0)).sum = (if m ∈ l then 1 else 0) := by
    intro l m
    induction l with
    | nil => intro _; rfl
    | cons x l ih =>
      intro h
      rw [List.pairwise_cons] at h
      rw [List.map_cons, List.sum_cons, ih h.2]
      by_cases e : m = x
      · subst e
        have : ¬ m ∈ l := fun q => by have := h.1 m q; omega
        rw [if_pos rfl, if_neg this, if_pos List.mem_cons_self]
      · rw [if_neg e]
        by_cases q : m ∈ l
        · rw [if_pos q, if_pos (List.mem_cons_of_mem _ q)]
        · rw [if_neg q, if_neg (fun r => by rcases List.mem_cons.1 r with r | r; exact e r; exact q r)]
  have add : ∀ (l : List Int) (f g : Int → Nat), (l.map (fun x => f x + g x)).sum = (l.map f).sum + (l.map g).sum := by
    intro l f g
    induction l with
    | nil => rfl
    | cons x l ih => rw [List.map_cons, List.map_cons, List.map_cons, List.sum_cons, List.sum_cons, List.sum_cons, ih]; omega
  induction M with
  | nil =>
    have : ∀ l : List Int, (l.map (fun x => ([] : List Int).count x)).sum = 0 := by
      intro l
      induction l with
      | nil => rfl
      | cons x l ih => rw [List.map_cons, List.sum_cons, ih]; rfl
    exact this live
  | cons m M ih =>
    have i := ih (fun y hy => hm y (List.mem_cons_of_mem _ hy))
    have e : (fun x => (m :: M).count x) = (fun x => M.count x + if m = x then 1 else 0) := by
      funext x
      rw [List.count_cons]
      simp
    rw [e, add live (fun x => M.count x) (fun x => if m = x then 1 else 0), i, one live m hn, List.countP_cons]
    congr 1
    by_cases h0 : 0 < m
    · rw [if_pos (hm m List.mem_cons_self h0), if_pos (by simpa using h0)]
    · rw [if_neg (fun q => h0 (hp m q)), if_neg (by simpa using h0)]
theorem refs_sum (s : Sto) : ((liveS s).map (refsS s)).sum = (allS s).countP (fun y => decide (0 < y)) := by
  have ha := live_asc s
  rw [← sum_count ha.1 ha.2 (allS s) (fun y hy h0 => (live_mem s y).2 ⟨h0, hy⟩)]
  congr 1
  exact List.map_congr_left fun x hx => refs_count s (ha.2 x hx)
theorem refs_live {s : Sto} {c : Int} (h : c ∈ liveS s) : 1 ≤ refsS s c := by
  obtain ⟨h1, h2⟩ := (live_mem s c).1 h
  rw [refs_count s h1]
  exact List.count_pos_iff.2 h2
/-- What is not given yet is nowhere. -/
theorem refs_next {s : Sto} (h : s.Right) : refsS s s.next = 0 := by
  rw [refs_count s (by have := h.nx; omega), List.count_eq_zero]
  intro q
  obtain ⟨v, hv, hq⟩ := List.mem_flatMap.1 q
  obtain ⟨i, hi, e⟩ := List.mem_iff_getElem.1 hq
  rw [all_len] at hi
  have e3 := all_at s.kns v.2 hi
  rw [List.getElem?_eq_getElem (by rw [all_len]; exact hi), e] at e3
  injection e3 with e3
  rw [getT_ok ⟨h.ar, h.root v hv⟩ (by omega)] at e3
  have := h.less v hv i (by omega)
  omega
end Words
end Go.Proofs.YtiicghepilbgfaaGreatDoor
