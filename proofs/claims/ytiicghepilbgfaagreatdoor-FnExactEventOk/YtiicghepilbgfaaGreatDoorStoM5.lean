/-
  What the program makes of stores, in plain words.
-/
import Derived.Test.YtiicghepilbgfaaGreatDoorStoM4
namespace Go.Proofs.YtiicghepilbgfaaGreatDoor
namespace Words

theorem swP_id {u : Nat → Bool} {n : Nat} (h : ∀ j, j < n → u j = true) {r : Int} (hr : r < n) : swP u r = r := by
  by_cases h0 : r < 0
  · exact swP_neg _ h0
  · obtain ⟨q, rfl⟩ : ∃ q : Nat, r = (q : Int) := ⟨r.toNat, by omega⟩
    rw [swP_pos, swN_all h q (by omega)]
theorem swK_id {u : Nat → Bool} {l : List Kn} (h : ∀ j, j < l.length → u j = true) (hx : ∀ x ∈ l, swX u x = x) : ∀ k, k ≤ l.length → swK u l k = l.take k := by
  intro k
  induction k with
  | zero => intro _; rfl
  | succ k ih =>
    intro hk
    have e := List.getElem?_eq_getElem (show k < l.length by omega)
    rw [swK_yes (h k (by omega)) e, ih (by omega), hx _ (List.getElem_mem _), List.take_succ_eq_append_getElem (by omega)]
theorem rootB_lt {l : List Kn} {r : Int} (h : rootB l r = true) : r < l.length := by
  unfold rootB at h
  simp only [Bool.or_eq_true, Bool.and_eq_true, decide_eq_true_eq] at h
  omega
/-- A right store has nothing to sweep. -/
theorem swept_same {s : Sto} (h : s.Right) : sweptS s = s := by
  have hk : (sweptS s).kns = s.kns := by
    rw [swept_kns h.toNear]
    unfold swL
    rw [swK_id h.used ?_ _ (Nat.le_refl _), List.take_length]
    intro x hx
    obtain ⟨i, hi, e⟩ := List.mem_iff_getElem.1 hx
    have hx' : s.kns[i]? = some x := by rw [← e]; exact List.getElem?_eq_getElem hi
    unfold swX
    split
    · rfl
    · rename_i hl
      obtain ⟨lf, kids⟩ := x
      simp only [Bool.not_eq_true] at hl
      subst hl
      congr 1
      conv => rhs; rw [← List.map_id kids]
      refine List.map_congr_left (fun n hn => ?_)
      obtain ⟨k, hk⟩ := List.getElem?_of_mem hn
      have := knB_kid (arB_at h.ar hx') hk
      rw [kidB, if_neg (by simp)] at this
      simp only [Bool.or_eq_true, Bool.and_eq_true, decide_eq_true_eq] at this
      exact swP_id h.used (by omega)
  have hv : (sweptS s).vols = s.vols := by
    rw [swept_vols h.toNear]
    conv => rhs; rw [← List.map_id s.vols]
    refine List.map_congr_left (fun v hv => ?_)
    show (v.1, _) = v
    rw [swP_id h.used (rootB_lt (h.root v hv))]
  obtain ⟨a, b, c⟩ := s
  have e : sweptS ⟨a, b, c⟩ = ⟨(sweptS ⟨a, b, c⟩).vols, (sweptS ⟨a, b, c⟩).kns, c⟩ := rfl
  rw [e, hk, hv]

/-- The number ahead of the k'th volume. -/
def lastI (l : List (Int × Int)) : Nat → Int
  | 0 => 0
  | k + 1 => ((l[k]?).map (·.1)).getD 0
/-- The first k numbers are 1 to 9 and ascend. -/
def idsK (l : List (Int × Int)) : Nat → Bool
  | 0 => true
  | k + 1 => idsK l k && (match l[k]? with | some v => decide (lastI l k + 1 ≤ v.1) && decide (v.1 ≤ 9) | none => true)
def volsB (l : List (Int × Int)) : Bool := idsK l l.length && decide (l.length ≤ 3)
theorem idsK_succ {l : List (Int × Int)} {k : Nat} {v : Int × Int} (h : l[k]? = some v) : idsK l (k + 1) = (idsK l k && (decide (lastI l k + 1 ≤ v.1) && decide (v.1 ≤ 9))) := by rw [idsK, h]
theorem lastI_succ {l : List (Int × Int)} {k : Nat} {v : Int × Int} (h : l[k]? = some v) : lastI l (k + 1) = v.1 := by rw [lastI, h]; rfl
theorem idsK_le {l : List (Int × Int)} {j k : Nat} (h : j ≤ k) (hk : idsK l k = true) : idsK l j = true := by
  induction k with
  | zero => have : j = 0 := by omega
            subst this; exact hk
  | succ k ih =>
    by_cases e : j = k + 1
    · subst e; exact hk
    · rw [idsK, Bool.and_eq_true] at hk
      exact ih (by omega) hk.1
theorem idsK_bad {l : List (Int × Int)} {k : Nat} {v : Int × Int} (hv : l[k]? = some v) (hn : ¬ (lastI l k + 1 ≤ v.1 ∧ v.1 ≤ 9)) : volsB l = false := by
  unfold volsB
  cases h : idsK l l.length with
  | false => rfl
  | true =>
    have hl := (List.getElem?_eq_some_iff.1 hv).1
    have := idsK_le (show k + 1 ≤ l.length by omega) h
    rw [idsK_succ hv] at this
    simp only [Bool.and_eq_true, decide_eq_true_eq] at this
    exact absurd this.2 hn
theorem idsK_at {l : List (Int × Int)} (h : idsK l l.length = true) {k : Nat} {v : Int × Int} (hv : l[k]? = some v) : lastI l k + 1 ≤ v.1 ∧ v.1 ≤ 9 := by
  have hl := (List.getElem?_eq_some_iff.1 hv).1
  have := idsK_le (show k + 1 ≤ l.length by omega) h
  rw [idsK_succ hv] at this
  simp only [Bool.and_eq_true, decide_eq_true_eq] at this
  exact this.2
theorem lastI_pos {l : List (Int × Int)} (h : idsK l l.length = true) : ∀ k, k ≤ l.length → 0 ≤ lastI l k := by
  intro k
  induction k with
  | zero => intro _; exact Int.le_refl _
  | succ k ih =>
    intro hk
    have e := List.getElem?_eq_getElem (show k < l.length by omega)
    have := idsK_at h e
    have := ih (by omega)
    rw [lastI_succ e]
    omega
theorem volsB_iff (l : List (Int × Int)) : volsB l = true ↔ l.length ≤ 3 ∧ (∀ v ∈ l, 1 ≤ v.1 ∧ v.1 ≤ 9) ∧ l.Pairwise (fun u v => u.1 < v.1) := by
  unfold volsB
  rw [Bool.and_eq_true, decide_eq_true_eq]
  constructor
  · rintro ⟨h1, h2⟩
    refine ⟨h2, fun v hv => ?_, pair_of (fun i u v hu hv => ?_)⟩
    · obtain ⟨i, hi, e⟩ := List.mem_iff_getElem.1 hv
      have hv' : l[i]? = some v := by rw [← e]; exact List.getElem?_eq_getElem hi
      have := idsK_at h1 hv'
      have := lastI_pos h1 i (by omega)
      omega
    · have := idsK_at h1 hv
      rw [lastI_succ hu] at this
      omega
  · rintro ⟨h1, h2, h3⟩
    refine ⟨?_, h1⟩
    have : ∀ k, k ≤ l.length → idsK l k = true := by
      intro k
      induction k with
      | zero => intro _; rfl
      | succ k ih =>
        intro hk
        have e := List.getElem?_eq_getElem (show k < l.length by omega)
        rw [idsK_succ e, ih (by omega)]
        have hm := h2 _ (List.mem_of_getElem? e)
        simp only [Bool.true_and, Bool.and_eq_true, decide_eq_true_eq]
        refine ⟨?_, hm.2⟩
        cases k with
        | zero => show (0 : Int) + 1 ≤ _; omega
        | succ j =>
          have e2 := List.getElem?_eq_getElem (show j < l.length by omega)
          rw [lastI_succ e2]
          have := List.pairwise_iff_getElem.1 h3 j (j + 1) (by omega) (by omega) (by omega)
          omega
    exact this _ (Nat.le_refl _)

/-- The numbers of a knot: a leaf's own, noughts else. -/
def numsOf (x : Kn) : List Int := if x.leaf = true then x.kids else [0, 0, 0, 0]
def numB (nx : Int) (x : Kn) : Bool := (numsOf x).all (fun n => decide (n < nx))
def treesB (s : Sto) : Bool := (swB s.kns (rootsV s.vols) && decide ((swL s.kns (rootsV s.vols)).length = s.kns.length)) && s.kns.all (numB s.next)
theorem num_inner {nx : Int} (h : 1 ≤ nx) {x : Kn} (hx : x.leaf = false) : numB nx x = true := by
  unfold numB numsOf
  rw [if_neg (by rw [hx]; decide)]
  have : (0 : Int) < nx := by omega
  simp [this]
/-- What a store is asked in another order. -/
theorem stoB_is (s : Sto) : stoB s = (volsB s.vols && ((decide (1 ≤ s.next) && decide (s.next ≤ 1000000000)) && treesB s)) := by
  rw [Bool.eq_iff_iff, stoB_iff]
  unfold treesB
  simp only [Bool.and_eq_true, decide_eq_true_eq, volsB_iff, List.all_eq_true]
  constructor
  · intro h
    refine ⟨⟨h.few, h.ids, h.asc⟩, h.nx, ⟨swB_of h.trs, ?_⟩, ?_⟩
    · rw [swL_len]; exact swN_all h.used _ (Nat.le_refl _)
    · intro x hx
      cases hl : x.leaf with
      | false => exact num_inner h.nx.1 hl
      | true =>
        obtain ⟨i, hi, e⟩ := List.mem_iff_getElem.1 hx
        have hx' : s.kns[i]? = some x := by rw [← e]; exact List.getElem?_eq_getElem hi
        obtain ⟨r, hr, hh⟩ := List.any_eq_true.1 (h.used i hi)
        have h0 := has_pos hh
        obtain ⟨v, hv, rfl⟩ := List.mem_map.1 hr
        have hroot := h.root v hv
        unfold numB numsOf
        rw [if_pos hl, List.all_eq_true]
        intro n hn
        rw [decide_eq_true_eq]
        obtain ⟨j, hj⟩ := List.getElem?_of_mem hn
        have h4 := knB_len (arB_at h.ar hx')
        have hj4 := (List.getElem?_eq_some_iff.1 hj).1
        rcases (has_iff h0).1 hh with e | ⟨k, hk, e⟩
        · obtain ⟨y, hy, hyl⟩ := rootB_pos hroot h0
          have : v.2.toNat = i := by omega
          rw [this, hx'] at hy
          cases hy
          rw [hl] at hyl; cases hyl
        · have := h.less v hv (4 * k + j) (by omega)
          unfold getP at this
          rw [if_neg (by omega), show (4 * k + j) / 4 = k by omega, show (4 * k + j) % 4 = j by omega, e, if_neg (by omega), kidAt_some (x := x) (by rw [Int.toNat_natCast]; exact hx') hj] at this
          exact this
  · rintro ⟨⟨h1, h2, h3⟩, hn, ⟨h4, h5⟩, h6⟩
    have ht := swB_ok h4
    have hroot : ∀ v ∈ s.vols, rootB s.kns v.2 = true := fun v hv => ht.2 _ (List.mem_map.2 ⟨v, hv, rfl⟩)
    refine ⟨⟨h1, ht.1, hn, h2, h3, hroot, ?_⟩, ?_⟩
    · intro v hv k hk
      unfold getP
      split
      · omega
      · rename_i q0
        obtain ⟨x, hx, hxl⟩ := rootB_pos (hroot v hv) (by omega)
        obtain ⟨n, hn1, hc⟩ := inner_kid ht.1 hx hxl (show k / 4 < 4 by omega)
        rw [kidAt_some hx hn1]
        rcases hc with rfl | ⟨c1, c2, y, hy, hyl, -⟩
        · rw [if_pos (by omega)]; omega
        · rw [if_neg (by omega)]
          obtain ⟨m, hm, -⟩ := leaf_kid ht.1 hy hyl (show k % 4 < 4 by omega)
          rw [kidAt_some hy hm]
          have := h6 y (List.mem_of_getElem? hy)
          unfold numB numsOf at this
          rw [if_pos hyl, List.all_eq_true] at this
          simpa using this m (List.mem_of_getElem? hm)
    · rw [swL_len] at h5
      exact swN_full h5

/-- Where a volume with a greater number is. -/
def overK (l : List (Int × Int)) (id : Int) : Nat := (l.takeWhile (fun v => decide (v.1 < id))).length
theorem over_split {l : List (Int × Int)} {id : Int} (h : l.Pairwise (fun u v => u.1 < v.1)) (hn : ∀ v ∈ l, v.1 ≠ id) {k : Nat} (hk : k ≤ l.length) (h1 : ∀ j v, j < k → l[j]? = some v → ¬ id < v.1) (h2 : ∀ v, l[k]? = some v → id < v.1) (r : Int) : l.take k ++ (id, r) :: l.drop k = insV l id r := by
  have a : l.filter (fun v => decide (v.1 < id)) = l.take k := by
    conv => lhs; rw [← List.take_append_drop k l]
    rw [List.filter_append]
    have e1 : (l.take k).filter (fun v => decide (v.1 < id)) = l.take k := by
      rw [List.filter_eq_self]
      intro v hv
      obtain ⟨j, hj⟩ := List.getElem?_of_mem hv
      have hjl := (List.getElem?_eq_some_iff.1 hj).1
      rw [List.length_take] at hjl
      rw [List.getElem?_take_of_lt (by omega)] at hj
      have q1 := h1 j v (by omega) hj
      have q2 := hn v (List.mem_of_getElem? hj)
      simp only [decide_eq_true_eq]
      omega
    have e2 : (l.drop k).filter (fun v => decide (v.1 < id)) = [] := by
      rw [List.filter_eq_nil_iff]
      intro v hv
      obtain ⟨j, hj⟩ := List.getElem?_of_mem hv
      rw [List.getElem?_drop] at hj
      have hjl := (List.getElem?_eq_some_iff.1 hj).1
      have e := List.getElem?_eq_getElem (show k < l.length by omega)
      have q := h2 _ e
      simp only [decide_eq_true_eq]
      by_cases ej : j = 0
      · subst ej
        rw [Nat.add_zero, e] at hj
        cases hj
        omega
      · have := List.pairwise_iff_getElem.1 h k (k + j) (by omega) hjl (by omega)
        rw [(List.getElem?_eq_some_iff.1 hj).2] at this
        omega
    rw [e1, e2, List.append_nil]
  have b : l.filter (fun v => decide (id < v.1)) = l.drop k := by
    conv => lhs; rw [← List.take_append_drop k l]
    rw [List.filter_append]
    have e1 : (l.take k).filter (fun v => decide (id < v.1)) = [] := by
      rw [List.filter_eq_nil_iff]
      intro v hv
      obtain ⟨j, hj⟩ := List.getElem?_of_mem hv
      have hjl := (List.getElem?_eq_some_iff.1 hj).1
      rw [List.length_take] at hjl
      rw [List.getElem?_take_of_lt (by omega)] at hj
      have q1 := h1 j v (by omega) hj
      simp only [decide_eq_true_eq]
      exact q1
    have e2 : (l.drop k).filter (fun v => decide (id < v.1)) = l.drop k := by
      rw [List.filter_eq_self]
      intro v hv
      obtain ⟨j, hj⟩ := List.getElem?_of_mem hv
      rw [List.getElem?_drop] at hj
      have hjl := (List.getElem?_eq_some_iff.1 hj).1
      have e := List.getElem?_eq_getElem (show k < l.length by omega)
      have q := h2 _ e
      simp only [decide_eq_true_eq]
      by_cases ej : j = 0
      · subst ej
        rw [Nat.add_zero, e] at hj
        cases hj
        exact q
      · have := List.pairwise_iff_getElem.1 h k (k + j) (by omega) hjl (by omega)
        rw [(List.getElem?_eq_some_iff.1 hj).2] at this
        omega
    rw [e1, e2, List.nil_append]
  rw [insV, a, b]
/-- A volume taken out. -/
theorem out_split {l : List (Int × Int)} {id : Int} (h : l.Pairwise (fun u v => u.1 < v.1)) {k : Nat} {v : Int × Int} (hv : l[k]? = some v) (e : v.1 = id) : l.filter (fun u => !decide (u.1 = id)) = l.take k ++ l.drop (k + 1) := by
  have hl := (List.getElem?_eq_some_iff.1 hv).1
  conv => lhs; rw [← List.take_append_drop k l]
  rw [List.filter_append, List.drop_eq_getElem_cons hl, (List.getElem?_eq_some_iff.1 hv).2, List.filter_cons, if_neg (by simp [e])]
  congr 1
  · rw [List.filter_eq_self]
    intro u hu
    obtain ⟨j, hj⟩ := List.getElem?_of_mem hu
    have hjl := (List.getElem?_eq_some_iff.1 hj).1
    rw [List.length_take] at hjl
    rw [List.getElem?_take_of_lt (by omega)] at hj
    simp only [Bool.not_eq_true', decide_eq_false_iff_not]
    intro e2
    have := asc_uniq h hj hv (by omega)
    omega
  · rw [List.filter_eq_self]
    intro u hu
    obtain ⟨j, hj⟩ := List.getElem?_of_mem hu
    rw [List.getElem?_drop] at hj
    simp only [Bool.not_eq_true', decide_eq_false_iff_not]
    intro e2
    have := asc_uniq h hj hv (by omega)
    omega

/-- All chunks, in order. -/
def chunksS (s : Sto) : List Int := (allS s).filter (fun y => decide (1 ≤ y))
theorem refs_chunks (s : Sto) (c : Int) : (chunksS s).count c = refsS s c := by
  by_cases h : 0 < c
  · rw [refs_count s h, chunksS, List.count_filter]
    simp only [decide_eq_true_eq]; omega
  · rw [refsS, if_neg h, List.count_eq_zero]
    intro q
    have := (List.mem_filter.1 q).2
    simp only [decide_eq_true_eq] at this
    omega
/-- Two rows that ascend and have the same are one. -/
theorem asc_extI : ∀ {a b : List Int}, a.Pairwise (fun x y => x < y) → b.Pairwise (fun x y => x < y) → (∀ y, y ∈ a ↔ y ∈ b) → a = b
  | [], [], _, _, _ => rfl
  | [], y :: b, _, _, h => absurd ((h y).2 List.mem_cons_self) (by simp)
  | x :: a, [], _, _, h => absurd ((h x).1 List.mem_cons_self) (by simp)
  | x :: a, y :: b, ha, hb, h => by
    rw [List.pairwise_cons] at ha hb
    have e : x = y := by
      rcases List.mem_cons.1 ((h x).1 List.mem_cons_self) with e | q
      · exact e
      · rcases List.mem_cons.1 ((h y).2 List.mem_cons_self) with e | q2
        · exact e.symm
        · have := hb.1 x q
          have := ha.1 y q2
          omega
    subst e
    rw [asc_extI ha.2 hb.2 (fun z => ?_)]
    constructor
    · intro hz
      rcases List.mem_cons.1 ((h z).1 (List.mem_cons_of_mem _ hz)) with e | q
      · subst e; have := ha.1 z hz; omega
      · exact q
    · intro hz
      rcases List.mem_cons.1 ((h z).2 (List.mem_cons_of_mem _ hz)) with e | q
      · subst e; have := hb.1 z hz; omega
      · exact q
theorem live_of {s : Sto} {l : List Int} (h1 : l.Pairwise (fun x y => x < y)) (h2 : ∀ y, y ∈ l ↔ y ∈ chunksS s) : l = liveS s := by
  refine asc_extI h1 (live_asc s).1 (fun y => ?_)
  rw [h2, live_mem, chunksS, List.mem_filter]
  simp only [decide_eq_true_eq]
  constructor
  · rintro ⟨a, b⟩; exact ⟨by omega, a⟩
  · rintro ⟨a, b⟩; exact ⟨b, by omega⟩
end Words
end Go.Proofs.YtiicghepilbgfaaGreatDoor
