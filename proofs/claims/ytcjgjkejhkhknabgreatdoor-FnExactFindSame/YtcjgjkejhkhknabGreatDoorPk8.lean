/-
  StoM5; StoC
-/
import Derived.Test.YtcjgjkejhkhknabGreatDoorPk7
/-
  What the program makes of stores, in plain words.
-/
namespace Go.Proofs.YtcjgjkejhkhknabGreatDoor
namespace Words

theorem swP_id {u : Nat → Bool} {n : Nat} (h : ∀ j, j < n → u j = true) {r : Int} (hr : r < n) : swP u r = r := by
  by_cases h0 : r < 0
  · exact swP_neg _ h0
  · obtain ⟨q, rfl⟩ : ∃ q : Nat, r = (q : Int) := ⟨r.toNat, by omega⟩
    rw [swP_pos, swN_all h q (by omega)]
theorem swK_id {u : Nat → Bool} {l : List Kn} (h : ∀ j, j < l.length → u j = true) (hx : ∀ x ∈ l, swX u x = x) : ∀ k, k ≤ l.length → swK u l k = l.take k := by
  intro k
  induction k with
  | zero => intro _; rfl
  | succ k ih =>
    intro hk
    have e := List.getElem?_eq_getElem (show k < l.length by omega)
    rw [swK_yes (h k (by omega)) e, ih (by omega), hx _ (List.getElem_mem _), List.take_succ_eq_append_getElem (by omega)]
theorem rootB_lt {l : List Kn} {r : Int} (h : rootB l r = true) : r < l.length := by
  unfold rootB at h
  simp only [Bool.or_eq_true, Bool.and_eq_true, decide_eq_true_eq] at h
  omega
/-- A right store has nothing to sweep. -/
theorem swept_same {s : Sto} (h : s.Right) : sweptS s = s := by
  have hk : (sweptS s).kns = s.kns := by
    rw [swept_kns h.toNear]
    unfold swL
    rw [swK_id h.used ?_ _ (Nat.le_refl _), List.take_length]
    intro x hx
    obtain ⟨i, hi, e⟩ := List.mem_iff_getElem.1 hx
    have hx' : s.kns[i]? = some x := by rw [← e]; exact List.getElem?_eq_getElem hi
    unfold swX
    split
    · rfl
    · rename_i hl
      obtain ⟨lf, kids⟩ := x
      simp only [Bool.not_eq_true] at hl
      subst hl
      congr 1
      conv => rhs; rw [← List.map_id kids]
      refine List.map_congr_left (fun n hn => ?_)
      obtain ⟨k, hk⟩ := List.getElem?_of_mem hn
      have := knB_kid (arB_at h.ar hx') hk
      rw [kidB, if_neg (by simp)] at this
      simp only [Bool.or_eq_true, Bool.and_eq_true, decide_eq_true_eq] at this
      exact swP_id h.used (by omega)
  have hv : (sweptS s).vols = s.vols := by
    rw [swept_vols h.toNear]
    conv => rhs; rw [← List.map_id s.vols]
    refine List.map_congr_left (fun v hv => ?_)
    show (v.1, _) = v
    rw [swP_id h.used (rootB_lt (h.root v hv))]
  obtain ⟨a, b, c⟩ := s
  have e : sweptS ⟨a, b, c⟩ = ⟨(sweptS ⟨a, b, c⟩).vols, (sweptS ⟨a, b, c⟩).kns, c⟩ := rfl
  rw [e, hk, hv]

/-- The number ahead of the k'th volume. -/
def lastI (l : List (Int × Int)) : Nat → Int
  | 0 => 0
  | k + 1 => ((l[k]?).map (·.1)).getD 0
/-- The first k numbers are 1 to 9 and ascend. -/
def idsK (l : List (Int × Int)) : Nat → Bool
  | 0 => true
  | k + 1 => idsK l k && (match l[k]? with | some v => decide (lastI l k + 1 ≤ v.1) && decide (v.1 ≤ 9) | none => true)
def volsB (l : List (Int × Int)) : Bool := idsK l l.length && decide (l.length ≤ 3)
theorem idsK_succ {l : List (Int × Int)} {k : Nat} {v : Int × Int} (h : l[k]? = some v) : idsK l (k + 1) = (idsK l k && (decide (lastI l k + 1 ≤ v.1) && decide (v.1 ≤ 9))) := by rw [idsK, h]
theorem lastI_succ {l : List (Int × Int)} {k : Nat} {v : Int × Int} (h : l[k]? = some v) : lastI l (k + 1) = v.1 := by rw [lastI, h]; rfl
theorem idsK_le {l : List (Int × Int)} {j k : Nat} (h : j ≤ k) (hk : idsK l k = true) : idsK l j = true := by
  induction k with
  | zero => have : j = 0 := by omega
            subst this; exact hk
  | succ k ih =>
    by_cases e : j = k + 1
    · subst e; exact hk
    · rw [idsK, Bool.and_eq_true] at hk
      exact ih (by omega) hk.1
theorem idsK_bad {l : List (Int × Int)} {k : Nat} {v : Int × Int} (hv : l[k]? = some v) (hn : ¬ (lastI l k + 1 ≤ v.1 ∧ v.1 ≤ 9)) : volsB l = false := by
  unfold volsB
  cases h : idsK l l.length with
  | false => rfl
  | true =>
    have hl := (List.getElem?_eq_some_iff.1 hv).1
    have := idsK_le (show k + 1 ≤ l.length by omega) h
    rw [idsK_succ hv] at this
    simp only [Bool.and_eq_true, decide_eq_true_eq] at this
    exact absurd this.2 hn
theorem idsK_at {l : List (Int × Int)} (h : idsK l l.length = true) {k : Nat} {v : Int × Int} (hv : l[k]? = some v) : lastI l k + 1 ≤ v.1 ∧ v.1 ≤ 9 := by
  have hl := (List.getElem?_eq_some_iff.1 hv).1
  have := idsK_le (show k + 1 ≤ l.length by omega) h
  rw [idsK_succ hv] at this
  simp only [Bool.and_eq_true, decide_eq_true_eq] at this
  exact this.2
theorem lastI_pos {l : List (Int × Int)} (h : idsK l l.length = true) : ∀ k, k ≤ l.length → 0 ≤ lastI l k := by
  intro k
  induction k with
  | zero => intro _; exact Int.le_refl _
  | succ k ih =>
    intro hk
    have e := List.getElem?_eq_getElem (show k < l.length by omega)
    have := idsK_at h e
    have := ih (by omega)
    rw [lastI_succ e]
    omega
theorem volsB_iff (l : List (Int × Int)) : volsB l = true ↔ l.length ≤ 3 ∧ (∀ v ∈ l, 1 ≤ v.1 ∧ v.1 ≤ 9) ∧ l.Pairwise (fun u v => u.1 < v.1) := by
  unfold volsB
  rw [Bool.and_eq_true, decide_eq_true_eq]
  constructor
  · rintro ⟨h1, h2⟩
    refine ⟨h2, fun v hv => ?_, pair_of (fun i u v hu hv => ?_)⟩
    · obtain ⟨i, hi, e⟩ := List.mem_iff_getElem.1 hv
      have hv' : l[i]? = some v := by rw [← e]; exact List.getElem?_eq_getElem hi
      have := idsK_at h1 hv'
      have := lastI_pos h1 i (by omega)
      omega
    · have := idsK_at h1 hv
      rw [lastI_succ hu] at this
      omega
  · rintro ⟨h1, h2, h3⟩
    refine ⟨?_, h1⟩
    have : ∀ k, k ≤ l.length → idsK l k = true := by
      intro k
      induction k with
      | zero => intro _; rfl
      | succ k ih =>
        intro hk
        have e := List.getElem?_eq_getElem (show k < l.length by omega)
        rw [idsK_succ e, ih (by omega)]
        have hm := h2 _ (List.mem_of_getElem? e)
        simp only [Bool.true_and, Bool.and_eq_true, decide_eq_true_eq]
        refine ⟨?_, hm.2⟩
        cases k with
        | zero => show (0 : Int) + 1 ≤ _; omega
        | succ j =>
          have e2 := List.getElem?_eq_getElem (show j < l.length by omega)
          rw [lastI_succ e2]
          have := List.pairwise_iff_getElem.1 h3 j (j + 1) (by omega) (by omega) (by omega)
          omega
    exact this _ (Nat.le_refl _)

/-- The numbers of a knot: a leaf's own, noughts else. -/
def numsOf (x : Kn) : List Int := if x.leaf = true then x.kids else [0, 0, 0, 0]
def numB (nx : Int) (x : Kn) : Bool := (numsOf x).all (fun n => decide (n < nx))
def treesB (s : Sto) : Bool := (swB s.kns (rootsV s.vols) && decide ((swL s.kns (rootsV s.vols)).length = s.kns.length)) && s.kns.all (numB s.next)
theorem num_inner {nx : Int} (h : 1 ≤ nx) {x : Kn} (hx : x.leaf = false) : numB nx x = true := by
  unfold numB numsOf
  rw [if_neg (by rw [hx]; decide)]
  have : (0 : Int) < nx := by omega
  simp [this]
/-- What a store is asked in another order. -/
theorem stoB_is (s : Sto) : stoB s = (volsB s.vols && ((decide (1 ≤ s.next) && decide (s.next ≤ 1000000000)) && treesB s)) := by
  rw [Bool.eq_iff_iff, stoB_iff]
  unfold treesB
  simp only [Bool.and_eq_true, decide_eq_true_eq, volsB_iff, List.all_eq_true]
  constructor
  · intro h
    refine ⟨⟨h.few, h.ids, h.asc⟩, h.nx, ⟨swB_of h.trs, ?_⟩, ?_⟩
    · rw [swL_len]; exact swN_all h.used _ (Nat.le_refl _)
    · intro x hx
      cases hl : x.leaf with
      | false => exact num_inner h.nx.1 hl
      | true =>
        obtain ⟨i, hi, e⟩ := List.mem_iff_getElem.1 hx
        have hx' : s.kns[i]? = some x := by rw [← e]; exact List.getElem?_eq_getElem hi
        obtain ⟨r, hr, hh⟩ := List.any_eq_true.1 (h.used i hi)
        have h0 := has_pos hh
        obtain ⟨v, hv, rfl⟩ := List.mem_map.1 hr
        have hroot := h.root v hv
        unfold numB numsOf
        rw [if_pos hl, List.all_eq_true]
        intro n hn
        rw [decide_eq_true_eq]
        obtain ⟨j, hj⟩ := List.getElem?_of_mem hn
        have h4 := knB_len (arB_at h.ar hx')
        have hj4 := (List.getElem?_eq_some_iff.1 hj).1
        rcases (has_iff h0).1 hh with e | ⟨k, hk, e⟩
        · obtain ⟨y, hy, hyl⟩ := rootB_pos hroot h0
          have : v.2.toNat = i := by omega
          rw [this, hx'] at hy
          cases hy
          rw [hl] at hyl; cases hyl
        · have := h.less v hv (4 * k + j) (by omega)
          unfold getP at this
          rw [if_neg (by omega), show (4 * k + j) / 4 = k by omega, show (4 * k + j) % 4 = j by omega, e, if_neg (by omega), kidAt_some (x := x) (by rw [Int.toNat_natCast]; exact hx') hj] at this
          exact this
  · rintro ⟨⟨h1, h2, h3⟩, hn, ⟨h4, h5⟩, h6⟩
    have ht := swB_ok h4
    have hroot : ∀ v ∈ s.vols, rootB s.kns v.2 = true := fun v hv => ht.2 _ (List.mem_map.2 ⟨v, hv, rfl⟩)
    refine ⟨⟨h1, ht.1, hn, h2, h3, hroot, ?_⟩, ?_⟩
    · intro v hv k hk
      unfold getP
      split
      · omega
      · rename_i q0
        obtain ⟨x, hx, hxl⟩ := rootB_pos (hroot v hv) (by omega)
        obtain ⟨n, hn1, hc⟩ := inner_kid ht.1 hx hxl (show k / 4 < 4 by omega)
        rw [kidAt_some hx hn1]
        rcases hc with rfl | ⟨c1, c2, y, hy, hyl, -⟩
        · rw [if_pos (by omega)]; omega
        · rw [if_neg (by omega)]
          obtain ⟨m, hm, -⟩ := leaf_kid ht.1 hy hyl (show k % 4 < 4 by omega)
          rw [kidAt_some hy hm]
          have := h6 y (List.mem_of_getElem? hy)
          unfold numB numsOf at this
          rw [if_pos hyl, List.all_eq_true] at this
          simpa using this m (List.mem_of_getElem? hm)
    · rw [swL_len] at h5
      exact swN_full h5

/-- Where a volume with a greater number is. -/
def overK (l : List (Int × Int)) (id : Int) : Nat := (l.takeWhile (fun v => decide (v.1 < id))).length
theorem over_split {l : List (Int × Int)} {id : Int} (h : l.Pairwise (fun u v => u.1 < v.1)) (hn : ∀ v ∈ l, v.1 ≠ id) {k : Nat} (hk : k ≤ l.length) (h1 : ∀ j v, j < k → l[j]? = some v → ¬ id < v.1) (h2 : ∀ v, l[k]? = some v → id < v.1) (r : Int) : l.take k ++ (id, r) :: l.drop k = insV l id r := by
  have a : l.filter (fun v => decide (v.1 < id)) = l.take k := by
    conv => lhs; rw [← List.take_append_drop k l]
    rw [List.filter_append]
    have e1 : (l.take k).filter (fun v => decide (v.1 < id)) = l.take k := by
      rw [List.filter_eq_self]
      intro v hv
      obtain ⟨j, hj⟩ := List.getElem?_of_mem hv
      have hjl := (List.getElem?_eq_some_iff.1 hj).1
      rw [List.length_take] at hjl
      rw [List.getElem?_take_of_lt (by omega)] at hj
      have q1 := h1 j v (by omega) hj
      have q2 := hn v (List.mem_of_getElem? hj)
      simp only [decide_eq_true_eq]
      omega
    have e2 : (l.drop k).filter (fun v => decide (v.1 < id)) = [] := by
      rw [List.filter_eq_nil_iff]
      intro v hv
      obtain ⟨j, hj⟩ := List.getElem?_of_mem hv
      rw [List.getElem?_drop] at hj
      have hjl := (List.getElem?_eq_some_iff.1 hj).1
      have e := List.getElem?_eq_getElem (show k < l.length by omega)
      have q := h2 _ e
      simp only [decide_eq_true_eq]
      by_cases ej : j = 0
      · subst ej
        rw [Nat.add_zero, e] at hj
        cases hj
        omega
      · have := List.pairwise_iff_getElem.1 h k (k + j) (by omega) hjl (by omega)
        rw [(List.getElem?_eq_some_iff.1 hj).2] at this
        omega
    rw [e1, e2, List.append_nil]
  have b : l.filter (fun v => decide (id < v.1)) = l.drop k := by
    conv => lhs; rw [← List.take_append_drop k l]
    rw [List.filter_append]
    have e1 : (l.take k).filter (fun v => decide (id < v.1)) = [] := by
      rw [List.filter_eq_nil_iff]
      intro v hv
      obtain ⟨j, hj⟩ := List.getElem?_of_mem hv
      have hjl := (List.getElem?_eq_some_iff.1 hj).1
      rw [List.length_take] at hjl
      rw [List.getElem?_take_of_lt (by omega)] at hj
      have q1 := h1 j v (by omega) hj
      simp only [decide_eq_true_eq]
      exact q1
    have e2 : (l.drop k).filter (fun v => decide (id < v.1)) = l.drop k := by
      rw [List.filter_eq_self]
      intro v hv
      obtain ⟨j, hj⟩ := List.getElem?_of_mem hv
      rw [List.getElem?_drop] at hj
      have hjl := (List.getElem?_eq_some_iff.1 hj).1
      have e := List.getElem?_eq_getElem (show k < l.length by omega)
      have q := h2 _ e
      simp only [decide_eq_true_eq]
      by_cases ej : j = 0
      · subst ej
        rw [Nat.add_zero, e] at hj
        cases hj
        exact q
      · have := List.pairwise_iff_getElem.1 h k (k + j) (by omega) hjl (by omega)
        rw [(List.getElem?_eq_some_iff.1 hj).2] at this
        omega
    rw [e1, e2, List.nil_append]
  rw [insV, a, b]
/-- A volume taken out. -/
theorem out_split {l : List (Int × Int)} {id : Int} (h : l.Pairwise (fun u v => u.1 < v.1)) {k : Nat} {v : Int × Int} (hv : l[k]? = some v) (e : v.1 = id) : l.filter (fun u => !decide (u.1 = id)) = l.take k ++ l.drop (k + 1) := by
  have hl := (List.getElem?_eq_some_iff.1 hv).1
  conv => lhs; rw [← List.take_append_drop k l]
  rw [List.filter_append, List.drop_eq_getElem_cons hl, (List.getElem?_eq_some_iff.1 hv).2, List.filter_cons, if_neg (by simp [e])]
  congr 1
  · rw [List.filter_eq_self]
    intro u hu
    obtain ⟨j, hj⟩ := List.getElem?_of_mem hu
    have hjl := (List.getElem?_eq_some_iff.1 hj).1
    rw [List.length_take] at hjl
    rw [List.getElem?_take_of_lt (by omega)] at hj
    simp only [Bool.not_eq_true', decide_eq_false_iff_not]
    intro e2
    have := asc_uniq h hj hv (by omega)
    omega
  · rw [List.filter_eq_self]
    intro u hu
    obtain ⟨j, hj⟩ := List.getElem?_of_mem hu
    rw [List.getElem?_drop] at hj
    simp only [Bool.not_eq_true', decide_eq_false_iff_not]
    intro e2
    have := asc_uniq h hj hv (by omega)
    omega

/-- All chunks, in order. -/
def chunksS (s : Sto) : List Int := (allS s).filter (fun y => decide (1 ≤ y))
theorem refs_chunks (s : Sto) (c : Int) : (chunksS s).count c = refsS s c := by
  by_cases h : 0 < c
  · rw [refs_count s h, chunksS, List.count_filter]
    simp only [decide_eq_true_eq]; omega
  · rw [refsS, if_neg h, List.count_eq_zero]
    intro q
    have := (List.mem_filter.1 q).2
    simp only [decide_eq_true_eq] at this
    omega
/-- Two rows that ascend and have the same are one. -/
theorem asc_extI : ∀ {a b : List Int}, a.Pairwise (fun x y => x < y) → b.Pairwise (fun x y => x < y) → (∀ y, y ∈ a ↔ y ∈ b) → a = b
  | [], [], _, _, _ => rfl
  | [], y :: b, _, _, h => absurd ((h y).2 List.mem_cons_self) (by simp)
  | x :: a, [], _, _, h => absurd ((h x).1 List.mem_cons_self) (by simp)
  | x :: a, y :: b, ha, hb, h => by
    rw [List.pairwise_cons] at ha hb
    have e : x = y := by
      rcases List.mem_cons.1 ((h x).1 List.mem_cons_self) with e | q
      · exact e
      · rcases List.mem_cons.1 ((h y).2 List.mem_cons_self) with e | q2
        · exact e.symm
        · have := hb.1 x q
          have := ha.1 y q2
          omega
    subst e
    rw [asc_extI ha.2 hb.2 (fun z => ?_)]
    constructor
    · intro hz
      rcases List.mem_cons.1 ((h z).1 (List.mem_cons_of_mem _ hz)) with e | q
      · subst e; have := ha.1 z hz; omega
      · exact q
    · intro hz
      rcases List.mem_cons.1 ((h z).2 (List.mem_cons_of_mem _ hz)) with e | q
      · subst e; have := hb.1 z hz; omega
      · exact q
theorem live_of {s : Sto} {l : List Int} (h1 : l.Pairwise (fun x y => x < y)) (h2 : ∀ y, y ∈ l ↔ y ∈ chunksS s) : l = liveS s := by
  refine asc_extI h1 (live_asc s).1 (fun y => ?_)
  rw [h2, live_mem, chunksS, List.mem_filter]
  simp only [decide_eq_true_eq]
  constructor
  · rintro ⟨a, b⟩; exact ⟨by omega, a⟩
  · rintro ⟨a, b⟩; exact ⟨b, by omega⟩
end Words
end Go.Proofs.YtcjgjkejhkhknabGreatDoor

/-
  What the functions on stores do.
-/
namespace Go.Proofs.YtcjgjkejhkhknabGreatDoor
open Go.RowKit
open Words

/-- A store that came in: its volumes and knots can be read. -/
def StIn (w : World) (v : Value) (s : Sto) : Prop :=
  ∃ va vl vc ad len cap rs, v = .agg (SBox va vl vc ad len cap s.next) ∧ s.kns = rs.map ktell ∧ vl ≤ 1048576 ∧ len ≤ 1048576 ∧ (∀ r ∈ rs, r.2.2.length ≤ 1048576) ∧ (va = none → vc = 0) ∧ VlRow w va vl s.vols ∧ KnRd w ad len rs
theorem StIn.below {w w' : World} {v : Value} {s : Sto} (h : StIn w v s) (hb : Below w.heap.size w w') : StIn w' v s := by
  obtain ⟨va, vl, vc, ad, len, cap, rs, h1, h2, h3, h4, h5, h6, h7, h8⟩ := h
  exact ⟨va, vl, vc, ad, len, cap, rs, h1, h2, h3, h4, h5, h6, h7.below hb, h8.below hb⟩
/-- A store that is not too great. -/
def Words.Sto.Fit (s : Sto) : Prop := s.vols.length ≤ 1048576 ∧ s.kns.length ≤ 1048576 ∧ ∀ k ∈ s.kns, k.kids.length ≤ 1048576
theorem StIn.fit {w : World} {v : Value} {s : Sto} (h : StIn w v s) : s.Fit := by
  obtain ⟨va, vl, vc, ad, len, cap, rs, h1, h2, h3, h4, h5, h6, h7, h8⟩ := h
  refine ⟨by have := h7.1; omega, by rw [h2, List.length_map]; have := h8.1; omega, fun k hk => ?_⟩
  rw [h2] at hk
  obtain ⟨r, hr, rfl⟩ := List.mem_map.1 hk
  exact h5 r hr
theorem right_fit {s : Sto} (h : s.Right) : s.Fit := by
  refine ⟨by have := h.few; omega, by have := right_small h; omega, fun k hk => ?_⟩
  obtain ⟨i, hi, e⟩ := List.mem_iff_getElem.1 hk
  have := knB_len (arB_at h.ar (i := i) (x := k) (by rw [← e]; exact List.getElem?_eq_getElem hi))
  omega
theorem enter_fit {s : Sto} (h : s.Fit) (r : Rc) : (enterS s r).1.Fit := by
  by_cases hb : stoB s = true
  · exact right_fit (enter_right ((stoB_iff s).1 hb) r)
  · rw [enterS, if_neg (fun q => hb q.1)]; exact h
/-- What was answered can be read. -/
theorem StOut.rd {w w' : World} {v : Value} {s : Sto} (h : StOut w s v w') (hf : s.Fit) : StIn w' v s := by
  obtain ⟨vv, kv, lo1, hi1, lo2, hi2, rfl, h1, h2, h3, h4, h5, h6, h7, h8⟩ := h
  obtain ⟨va, vc, rfl, h9, h10⟩ := VlSl.of h1 (by have := hf.1; unfold maxLen; omega) h4
  obtain ⟨ad, cap, rfl⟩ := h2.form
  obtain ⟨rs, e, hr⟩ := h2.rd rfl h6
  refine ⟨va, s.vols.length, vc, ad, s.kns.length, cap, rs, rfl, e.symm, hf.1, hf.2.1, fun r hr => ?_, h9, h10, hr⟩
  exact hf.2.2 (ktell r) (by rw [← e]; exact List.mem_map.2 ⟨r, hr, rfl⟩)
theorem StOut.blw {w w' : World} {v : Value} {s : Sto} (h : StOut w s v w') : Below w.heap.size w w' := by
  obtain ⟨vv, kv, lo1, hi1, lo2, hi2, -, -, -, -, -, -, -, -, h⟩ := h
  exact h
/-- From an earlier world on. -/
theorem StOut.from {w0 w w' : World} {v : Value} {s : Sto} (h : StOut w s v w') (hb : Below w0.heap.size w0 w) : StOut w0 s v w' := by
  obtain ⟨vv, kv, lo1, hi1, lo2, hi2, e, h1, h2, h3, h4, h5, h6, h7, h8⟩ := h
  have := hb.size
  exact ⟨vv, kv, lo1, hi1, lo2, hi2, e, h1, h2, by omega, h4, by omega, h6, h7, hb.trans (h8.mono hb.size)⟩
theorem StOut.form {w w' : World} {v : Value} {s : Sto} (h : StOut w s v w') : ∃ va vl vc ad len cap, v = .agg #[.slice va vl vc, .slice ad len cap, .int .i64 s.next] := by
  obtain ⟨vv, kv, lo1, hi1, lo2, hi2, rfl, h1, h2, -⟩ := h
  obtain ⟨va, vc, rfl, -⟩ := h1.form
  obtain ⟨ad, cap, rfl⟩ := h2.form
  exact ⟨_, _, _, _, _, _, rfl⟩
/-- Later, where what came since w is kept. -/
theorem StOut.later {w w1 w2 : World} {v : Value} {s : Sto} (h : StOut w s v w1) (hq : ∀ g, w.heap.size ≤ g → g < w1.heap.size → w2.heap[g]? = w1.heap[g]?) (hz : w1.heap.size ≤ w2.heap.size) (hb : Below w.heap.size w w2) : StOut w s v w2 := by
  obtain ⟨vv, kv, lo1, hi1, lo2, hi2, e, h1, h2, h3, h4, h5, h6, h7, -⟩ := h
  refine ⟨vv, kv, lo1, hi1, lo2, hi2, e, ?_, ?_, h3, by omega, h5, by omega, h7, hb⟩
  · exact Sli.loc _ _ _ _ _ _ w1 _ (fun g g1 g2 => hq g (by omega) (by omega)) h1
  · exact Kns.loc _ _ _ _ w1 _ (fun g g1 g2 => hq g (by omega) (by omega)) h2
/-- .. laid into a cell that was there before. -/
theorem StOut.set {w0 w w1 : World} {v u : Value} {s : Sto} (h : StOut w s v w1) (hb : Below w0.heap.size w0 w) {g k : Nat} (hg : g < w.heap.size) (h0 : w0.heap.size ≤ g) : StOut w0 s v (w1.setCell ⟨g, k, none⟩ u) := by
  obtain ⟨vv, kv, lo1, hi1, lo2, hi2, e, h1, h2, h3, h4, h5, h6, h7, h8⟩ := h
  have hs := hb.size
  have hz : (w1.setCell ⟨g, k, none⟩ u).heap.size = w1.heap.size := by simp [World.setCell]
  have hq : ∀ q, w.heap.size ≤ q → (w1.setCell ⟨g, k, none⟩ u).heap[q]? = w1.heap[q]? := fun q q1 => Below.heap_setCell _ _ _ _ (show q ≠ g by omega)
  refine ⟨vv, kv, lo1, hi1, lo2, hi2, e, ?_, ?_, by omega, by omega, by omega, by omega, h7, ?_⟩
  · exact Sli.loc _ _ _ _ _ _ w1 _ (fun g g1 g2 => hq g (by omega)) h1
  · exact Kns.loc _ _ _ _ w1 _ (fun g g1 g2 => hq g (by omega)) h2
  · exact (hb.trans (h8.mono hs)).setCell (p := ⟨g, k, none⟩) h0 _
/-- .. three cells. -/
theorem StOut.set3 {w0 w w1 : World} {v a b c : Value} {s : Sto} (h : StOut w s v w1) (hb : Below w0.heap.size w0 w) {g : Nat} (hg : g < w.heap.size) (h0 : w0.heap.size ≤ g) : StOut w0 s v (((w1.setCell ⟨g, 0, none⟩ a).setCell ⟨g, 1, none⟩ b).setCell ⟨g, 2, none⟩ c) := by
  obtain ⟨vv, kv, lo1, hi1, lo2, hi2, e, h1, h2, h3, h4, h5, h6, h7, h8⟩ := h
  have hs := hb.size
  have hz : (((w1.setCell ⟨g, 0, none⟩ a).setCell ⟨g, 1, none⟩ b).setCell ⟨g, 2, none⟩ c).heap.size = w1.heap.size := by simp [World.setCell]
  have hq : ∀ q, w.heap.size ≤ q → (((w1.setCell ⟨g, 0, none⟩ a).setCell ⟨g, 1, none⟩ b).setCell ⟨g, 2, none⟩ c).heap[q]? = w1.heap[q]? := fun q q1 => (Below.heap_setCell _ _ _ _ (show q ≠ g by omega)).trans ((Below.heap_setCell _ _ _ _ (show q ≠ g by omega)).trans (Below.heap_setCell _ _ _ _ (show q ≠ g by omega)))
  refine ⟨vv, kv, lo1, hi1, lo2, hi2, e, ?_, ?_, by omega, by omega, by omega, by omega, h7, ?_⟩
  · exact Sli.loc _ _ _ _ _ _ w1 _ (fun g g1 g2 => hq g (by omega)) h1
  · exact Kns.loc _ _ _ _ w1 _ (fun g g1 g2 => hq g (by omega)) h2
  · exact (((hb.trans (h8.mono hs)).setCell (p := ⟨g, 0, none⟩) h0 _).setCell (p := ⟨g, 1, none⟩) h0 _).setCell (p := ⟨g, 2, none⟩) h0 _
theorem sto_row3 {w : World} {g : Nat} {x0 x1 x2 a b c : Value} (h : w.heap[g]? = some (.cells #[x0, x1, x2] 49 (0, 0))) : (((w.setCell ⟨g, 0, none⟩ a).setCell ⟨g, 1, none⟩ b).setCell ⟨g, 2, none⟩ c).heap[g]? = some (.cells #[a, b, c] 49 (0, 0)) := heap_setCell_same _ _ 2 _ _ _ (heap_setCell_same _ _ 1 _ _ _ (heap_setCell_same _ _ 0 _ _ _ h))

/-- A store laid into the result's cells. -/
theorem st_fin {w W : World} {z lo1 hi1 lo2 hi2 : Nat} {vv kv : Value} {s : Sto} (hz : w.heap.size ≤ z) (h1 : Sli 107 lo1 hi1 vv s.vols.length (vlcells s.vols) W) (h2 : Kns lo2 hi2 kv s.kns W) (a1 : w.heap.size ≤ lo1 ∧ (hi1 ≤ z ∨ z < lo1)) (a2 : w.heap.size ≤ lo2 ∧ (hi2 ≤ z ∨ z < lo2)) (a3 : hi1 ≤ W.heap.size) (a4 : hi2 ≤ W.heap.size) (a5 : hi1 ≤ lo2 ∨ hi2 ≤ lo1) (hb : Below w.heap.size w W) :
    StOut w s (.agg #[vv, kv, .int .i64 s.next]) (((W.setCell ⟨z, 0, none⟩ vv).setCell ⟨z, 1, none⟩ kv).setCell ⟨z, 2, none⟩ (.int .i64 s.next)) := by
  have hz2 : (((W.setCell ⟨z, 0, none⟩ vv).setCell ⟨z, 1, none⟩ kv).setCell ⟨z, 2, none⟩ (.int .i64 s.next)).heap.size = W.heap.size := by simp [World.setCell]
  have hq : ∀ q, q ≠ z → (((W.setCell ⟨z, 0, none⟩ vv).setCell ⟨z, 1, none⟩ kv).setCell ⟨z, 2, none⟩ (.int .i64 s.next)).heap[q]? = W.heap[q]? := fun q q1 => (Below.heap_setCell _ _ _ _ q1).trans ((Below.heap_setCell _ _ _ _ q1).trans (Below.heap_setCell _ _ _ _ q1))
  refine ⟨vv, kv, lo1, hi1, lo2, hi2, rfl, ?_, ?_, a1.1, by omega, a2.1, by omega, a5, ?_⟩
  · exact Sli.loc _ _ _ _ _ _ W _ (fun g g1 g2 => hq g (by omega)) h1
  · exact Kns.loc _ _ _ _ W _ (fun g g1 g2 => hq g (by omega)) h2
  · exact ((hb.setCell (p := ⟨z, 0, none⟩) hz _).setCell (p := ⟨z, 1, none⟩) hz _).setCell (p := ⟨z, 2, none⟩) hz _
/-- What an answer of a store and a yes or no is. -/
def EnOut (w : World) (p : Sto × Bool) (e : Ending) (w' : World) : Prop := ∃ u, e = .returned (.tuple #[u, .bool p.2]) ∧ StOut w p.1 u w'
def NewC (f : Nat) : Prop := ∀ w : World, Calls Tryz.prog f #[] w fun e w' => ∃ v, e = .returned v ∧ StOut w stoNew v w'
def OkC (f : Nat) : Prop := ∀ (v : Value) (s : Sto) (w : World), StIn w v s → Calls Tryz.prog f #[v] w fun e w' => e = .returned (.bool (stoB s)) ∧ Below w.heap.size w w'
def EnterC (f : Nat) : Prop := ∀ (v : Value) (s : Sto) (r : Rc) (w : World), StIn w v s → Calls Tryz.prog f #[v, .agg #[.int .i64 r.kind, .int .i64 r.vol, .int .i64 r.arg, .int .i64 r.chunk]] w (EnOut w (enterS s r))
def ChunkC (f : Nat) : Prop := ∀ (v : Value) (s : Sto) (vol sec : Int) (w : World), StIn w v s → Calls Tryz.prog f #[v, .int .i64 vol, .int .i64 sec] w fun e w' => e = .returned (.int .i64 (chunkS s vol sec)) ∧ Below w.heap.size w w'
def RefsC (f : Nat) : Prop := ∀ (v : Value) (s : Sto) (c : Int) (w : World), StIn w v s → Calls Tryz.prog f #[v, .int .i64 c] w fun e w' => e = .returned (.int .i64 (refsS s c : Nat)) ∧ Below w.heap.size w w'
def LiveC (f : Nat) : Prop := ∀ (v : Value) (s : Sto) (w : World), StIn w v s → Calls Tryz.prog f #[v] w (IOut w (liveS s))
def SameC (f : Nat) : Prop := ∀ (v : Value) (s : Sto) (u : Value) (t : Sto) (w : World), StIn w v s → StIn w u t → Calls Tryz.prog f #[v, u] w fun e w' => e = .returned (.bool (sameS s t)) ∧ Below w.heap.size w w'
end Go.Proofs.YtcjgjkejhkhknabGreatDoor
