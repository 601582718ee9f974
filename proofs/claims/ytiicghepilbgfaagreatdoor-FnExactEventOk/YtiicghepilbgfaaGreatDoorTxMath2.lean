/-
  Plain facts: what is gathered of the pages of a transaction, in whatever order, and of all but one.
-/
import Derived.Test.YtiicghepilbgfaaGreatDoorTxMath
namespace Go.Proofs.YtiicghepilbgfaaGreatDoor.Words

theorem find_only {α : Type} {l : List α} {P : α → Bool} {x : α} (hx : x ∈ l) (hp : P x = true) (hu : ∀ y ∈ l, P y = true → y = x) : l.find? P = some x := by
  cases h : l.find? P with
  | none =>
    have := List.find?_eq_none.1 h x hx
    exact absurd hp this
  | some y => rw [hu y (List.mem_of_find?_eq_some h) (List.find?_some h)]
theorem find_no {α : Type} {l : List α} {P : α → Bool} (hu : ∀ y ∈ l, P y = true → False) : l.find? P = none := by
  rw [List.find?_eq_none]
  exact fun x hx h => hu x hx h

/-- The pages of a transaction among some pages. -/
def Has (ps : List Pg) (tx : Int) (Q : List Pg) : Prop := ∀ x, (x ∈ ps ∧ x.kind = 2 ∧ x.tx = tx) ↔ x ∈ Q
/-- All of them but one. -/
def Lacks (ps : List Pg) (tx : Int) (Q : List Pg) (j : Nat) : Prop := j < Q.length ∧ ∀ x, (x ∈ ps ∧ x.kind = 2 ∧ x.tx = tx) ↔ x ∈ Q ∧ x.part ≠ j

theorem txPgs_mem {seq tx : Int} {l : List Rc} {x : Pg} (h : x ∈ txPgs seq tx l) : ∃ i : Nat, i < (pkG l).length ∧ (txPgs seq tx l)[i]? = some x ∧ x.part = i ∧ x.kind = 2 ∧ x.tx = tx ∧ x.count = (pkG l).length := by
  obtain ⟨i, hi⟩ := List.mem_iff_getElem?.1 h
  obtain ⟨g, hg, rfl⟩ := txPgs_at hi
  exact ⟨i, (List.getElem?_eq_some_iff.1 hg).1, hi, rfl, rfl, rfl, rfl⟩
theorem txPgs_some (seq tx : Int) (l : List Rc) {i : Nat} (hi : i < (pkG l).length) : ∃ x, (txPgs seq tx l)[i]? = some x ∧ x ∈ txPgs seq tx l ∧ x.part = i ∧ x.kind = 2 ∧ x.tx = tx ∧ x.count = (pkG l).length ∧ x.seq = seq + i := by
  have e := txPgs_get (seq := seq) (tx := tx) (List.getElem?_eq_getElem hi)
  exact ⟨_, e, List.mem_of_getElem? e, rfl, rfl, rfl, rfl, rfl⟩
theorem txPgs_inj {seq tx : Int} {l : List Rc} {x y : Pg} (hx : x ∈ txPgs seq tx l) (hy : y ∈ txPgs seq tx l) (h : x.part = y.part) : x = y := by
  obtain ⟨i, -, h1, h2, -⟩ := txPgs_mem hx
  obtain ⟨j, -, g1, g2, -⟩ := txPgs_mem hy
  have : i = j := by rw [h2, g2] at h; omega
  subst this
  rw [h1] at g1
  exact Option.some.inj g1

theorem has_first {ps : List Pg} {seq tx : Int} {l : List Rc} (h : Has ps tx (txPgs seq tx l)) : first0 ps tx = (txPgs seq tx l)[0]? := by
  obtain ⟨x, h1, h2, h3, h4, h5, h6, -⟩ := txPgs_some seq tx l (pkG_pos l)
  rw [h1]
  refine find_only ((h x).2 h2).1 (by simp [h4, h5, h3]) ?_
  intro y hy hp
  simp at hp
  exact txPgs_inj ((h y).1 ⟨hy, hp.1, hp.2.1⟩) h2 (by rw [hp.2.2, h3]; rfl)
theorem has_next {ps : List Pg} {seq tx : Int} {l : List Rc} (h : Has ps tx (txPgs seq tx l)) {k : Nat} (hk : k < (pkG l).length) : firstK ps tx k (pkG l).length = (txPgs seq tx l)[k]? := by
  obtain ⟨x, h1, h2, h3, h4, h5, h6, -⟩ := txPgs_some seq tx l hk
  rw [h1]
  refine find_only ((h x).2 h2).1 (by simp [h4, h5, h3, h6]) ?_
  intro y hy hp
  simp at hp
  exact txPgs_inj ((h y).1 ⟨hy, hp.1, hp.2.1⟩) h2 (by rw [hp.2.2.1, h3])
theorem has_more {ps : List Pg} {seq tx : Int} {l : List Rc} (h : Has ps tx (txPgs seq tx l)) : ∀ (m k : Nat), k + m = (pkG l).length → moreP ps tx (pkG l).length m k = some ((txPgs seq tx l).drop k) := by
  intro m
  induction m with
  | zero =>
    intro k hk
    simp only [moreP]
    rw [List.drop_eq_nil_of_le (by rw [txPgs_len]; omega)]
  | succ m ih =>
    intro k hk
    have hk' : k < (pkG l).length := by omega
    obtain ⟨x, h1, -⟩ := txPgs_some seq tx l hk'
    simp only [moreP, has_next h hk', h1, ih (k + 1) (by omega), Option.map_some]
    obtain ⟨q1, q2⟩ := List.getElem?_eq_some_iff.1 h1
    rw [List.drop_eq_getElem_cons q1, q2]
theorem has_parts {ps : List Pg} {seq tx : Int} {l : List Rc} (h : Has ps tx (txPgs seq tx l)) : partsP ps tx = some (txPgs seq tx l) := by
  obtain ⟨x, h1, -, -, -, -, h6, -⟩ := txPgs_some seq tx l (pkG_pos l)
  unfold partsP
  rw [has_first h, h1]
  simp only
  have hp := pkG_pos l
  have e : x.count.toNat - 1 = (pkG l).length - 1 := by rw [h6]; rfl
  rw [e, h6, has_more h _ 1 (by omega)]
  obtain ⟨q1, q2⟩ := List.getElem?_eq_some_iff.1 h1
  have := List.drop_eq_getElem_cons q1
  rw [q2] at this
  simp only [List.drop_zero] at this
  rw [Option.map_some, ← this]
theorem recsL_flat : ∀ gs : List (List Rc), gs.flatMap recsL = recsL gs.flatten := by
  intro gs
  induction gs with
  | nil => rfl
  | cons g gs ih => rw [List.flatMap_cons, List.flatten_cons, recsL_append, ih]
theorem flat_idx (seq tx : Int) (n : Nat) : ∀ (gs : List (List Rc)) (k : Nat), (gs.mapIdx (fun i g => pgTx seq tx n (i + k) g)).flatMap (fun p => p.text.data.toList) = gs.flatMap recsL := by
  intro gs
  induction gs with
  | nil => intro k; rfl
  | cons g gs ih =>
    intro k
    rw [List.mapIdx_cons, List.flatMap_cons, List.flatMap_cons]
    have e : (fun i g => pgTx seq tx n (i + 1 + k) g) = (fun i g => pgTx seq tx n (i + (k + 1)) g) := by
      funext i g; rw [show i + 1 + k = i + (k + 1) by omega]
    rw [e, ih (k + 1)]
    rfl
theorem cat_txPgs (seq tx : Int) (l : List Rc) : catP (txPgs seq tx l) = recsB l := by
  apply ba_ext
  rw [catP_list, recsB_list]
  have := flat_idx seq tx (pkG l).length (pkG l) 0
  rw [recsL_flat, pk_flat] at this
  exact this
theorem least_ge : ∀ (l : List Pg) (m : Int), (∀ q ∈ l, m ≤ q.seq) → l.foldl (fun m q => if q.seq < m then q.seq else m) m = m := by
  intro l
  induction l with
  | nil => intro m _; rfl
  | cons q l ih =>
    intro m h
    have h1 := h q (by simp)
    rw [List.foldl_cons, if_neg (by omega)]
    exact ih m (fun x hx => h x (by simp [hx]))
theorem least_txPgs (seq tx : Int) (l : List Rc) : least (txPgs seq tx l) = seq := by
  obtain ⟨x, h1, -, -, -, -, -, h7⟩ := txPgs_some seq tx l (pkG_pos l)
  have hall : ∀ q ∈ txPgs seq tx l, seq ≤ q.seq := by
    intro q hq
    obtain ⟨i, hi⟩ := List.mem_iff_getElem?.1 hq
    obtain ⟨g, -, rfl⟩ := txPgs_at hi
    show seq ≤ seq + (i : Int)
    omega
  cases hq : txPgs seq tx l with
  | nil => rw [hq] at h1; simp at h1
  | cons p q =>
    rw [hq] at h1 hall
    simp at h1
    subst h1
    have h8 : p.seq = seq := by rw [h7]; simp
    show q.foldl (fun m q => if q.seq < m then q.seq else m) p.seq = seq
    rw [least_ge, h8]
    intro z hz
    rw [h8]
    exact hall z (by simp [hz])
theorem has_tx {ps : List Pg} {seq tx : Int} {l : List Rc} (hr : ∀ r ∈ l, r.Right) (h : Has ps tx (txPgs seq tx l)) : oneTx ps tx = some ⟨tx, seq, l⟩ := by
  unfold oneTx
  rw [has_parts h]
  simp only
  rw [cat_txPgs, recsB_list, recs_of l _ 0 hr rfl, least_txPgs]
  rfl

theorem lacks_more {ps : List Pg} {seq tx : Int} {l : List Rc} {j : Nat} (h : Lacks ps tx (txPgs seq tx l) j) : ∀ (m k : Nat), k ≤ j → j < k + m → k + m = (pkG l).length → moreP ps tx (pkG l).length m k = none := by
  obtain ⟨hj, h⟩ := h
  intro m
  induction m with
  | zero => intro k h1 h2; omega
  | succ m ih =>
    intro k h1 h2 h3
    simp only [moreP]
    by_cases e : k = j
    · subst e
      have : firstK ps tx k (pkG l).length = none := find_no (fun y hy hp => by
        simp at hp
        exact ((h y).1 ⟨hy, hp.1, hp.2.1⟩).2 hp.2.2.1)
      rw [this]
    · obtain ⟨x, g1, g2, g3, g4, g5, g6, -⟩ := txPgs_some seq tx l (show k < (pkG l).length by omega)
      have : firstK ps tx k (pkG l).length = some x := by
        refine find_only ((h x).2 ⟨g2, by rw [g3]; omega⟩).1 (by simp [g3, g4, g5, g6]) ?_
        intro y hy hp
        simp at hp
        exact txPgs_inj ((h y).1 ⟨hy, hp.1, hp.2.1⟩).1 g2 (by rw [hp.2.2.1, g3])
      rw [this]
      simp only
      rw [ih (k + 1) (by omega) (by omega) (by omega)]
      rfl
theorem lacks_tx {ps : List Pg} {seq tx : Int} {l : List Rc} {j : Nat} (h : Lacks ps tx (txPgs seq tx l) j) : oneTx ps tx = none := by
  have hl := h
  obtain ⟨hj, h⟩ := h
  rw [txPgs_len] at hj
  unfold oneTx partsP
  by_cases e : j = 0
  · subst e
    have : first0 ps tx = none := find_no (fun y hy hp => by
      simp at hp
      exact ((h y).1 ⟨hy, hp.1, hp.2.1⟩).2 (by rw [hp.2.2]; rfl))
    rw [this]
  · obtain ⟨x, g1, g2, g3, g4, g5, g6, -⟩ := txPgs_some seq tx l (pkG_pos l)
    have : first0 ps tx = some x := by
      refine find_only ((h x).2 ⟨g2, by rw [g3]; omega⟩).1 (by simp [g3, g4, g5]) ?_
      intro y hy hp
      simp at hp
      exact txPgs_inj ((h y).1 ⟨hy, hp.1, hp.2.1⟩).1 g2 (by rw [hp.2.2, g3]; rfl)
    rw [this]
    simp only
    have ec : x.count.toNat - 1 = (pkG l).length - 1 := by rw [g6]; rfl
    have hm := lacks_more hl (x.count.toNat - 1) 1 (by omega) (by omega) (by omega)
    rw [g6, ec] at *
    rw [hm]
    rfl

/-- One transaction, in whatever order. -/
theorem gather_one {ps : List Pg} {seq tx : Int} {l : List Rc} (hr : ∀ r ∈ l, r.Right) (h : ∀ x, x ∈ ps ↔ x ∈ txPgs seq tx l) : gatherP ps = [⟨tx, seq, l⟩] := by
  have hh : Has ps tx (txPgs seq tx l) := by
    intro x
    constructor
    · rintro ⟨hx, -, -⟩; exact (h x).1 hx
    · intro hx
      obtain ⟨_, -, -, -, h2, h3, -⟩ := txPgs_mem hx
      exact ⟨(h x).2 hx, h2, h3⟩
  have hn : numsP ps = [tx] := by
    refine asc_ext (numsP_asc ps) (by simp) fun y => ?_
    rw [numsP_mem, List.mem_singleton]
    constructor
    · rintro ⟨p, hp, -, rfl⟩
      obtain ⟨_, -, -, -, -, h3, -⟩ := txPgs_mem ((h p).1 hp)
      exact h3
    · intro hy
      subst hy
      obtain ⟨x, -, g2, -, g4, g5, -⟩ := txPgs_some seq y l (pkG_pos l)
      exact ⟨x, (h x).2 g2, g4, g5⟩
  unfold gatherP
  rw [hn, List.filterMap_cons, has_tx hr hh]
  rfl
/-- All but one of its pages: nothing. -/
theorem gather_none {ps : List Pg} {seq tx : Int} {l : List Rc} {j : Nat} (hj : j < (pkG l).length) (h : ∀ x, x ∈ ps ↔ x ∈ txPgs seq tx l ∧ x.part ≠ j) : gatherP ps = [] := by
  have hh : Lacks ps tx (txPgs seq tx l) j := by
    refine ⟨by rw [txPgs_len]; exact hj, fun x => ?_⟩
    constructor
    · rintro ⟨hx, -, -⟩; exact (h x).1 hx
    · intro hx
      obtain ⟨_, -, -, -, h2, h3, -⟩ := txPgs_mem hx.1
      exact ⟨(h x).2 hx, h2, h3⟩
  unfold gatherP
  rw [List.filterMap_eq_nil_iff]
  intro y hy
  obtain ⟨p, hp, -, rfl⟩ := (numsP_mem ps y).1 hy
  obtain ⟨_, -, -, -, -, h3, -⟩ := txPgs_mem ((h p).1 hp).1
  rw [h3]
  exact lacks_tx hh
/-- Two transactions. -/
theorem gather_two {ps : List Pg} {s1 s2 t1 t2 : Int} {l1 l2 : List Rc} (ht : t1 < t2) (h1 : ∀ r ∈ l1, r.Right) (h2 : ∀ r ∈ l2, r.Right) (h : ∀ x, x ∈ ps ↔ x ∈ txPgs s1 t1 l1 ∨ x ∈ txPgs s2 t2 l2) : gatherP ps = [⟨t1, s1, l1⟩, ⟨t2, s2, l2⟩] := by
  have a1 : Has ps t1 (txPgs s1 t1 l1) := by
    intro x
    constructor
    · rintro ⟨hx, -, e⟩
      rcases (h x).1 hx with g | g
      · exact g
      · obtain ⟨_, -, -, -, -, g3, -⟩ := txPgs_mem g; omega
    · intro hx
      obtain ⟨_, -, -, -, g2, g3, -⟩ := txPgs_mem hx
      exact ⟨(h x).2 (.inl hx), g2, g3⟩
  have a2 : Has ps t2 (txPgs s2 t2 l2) := by
    intro x
    constructor
    · rintro ⟨hx, -, e⟩
      rcases (h x).1 hx with g | g
      · obtain ⟨_, -, -, -, -, g3, -⟩ := txPgs_mem g; omega
      · exact g
    · intro hx
      obtain ⟨_, -, -, -, g2, g3, -⟩ := txPgs_mem hx
      exact ⟨(h x).2 (.inr hx), g2, g3⟩
  have hn : numsP ps = [t1, t2] := by
    refine asc_ext (numsP_asc ps) (by simp [ht]) fun y => ?_
    rw [numsP_mem]
    simp only [List.mem_cons, List.not_mem_nil, or_false]
    constructor
    · rintro ⟨p, hp, -, rfl⟩
      rcases (h p).1 hp with g | g
      · obtain ⟨_, -, -, -, -, g3, -⟩ := txPgs_mem g; exact .inl g3
      · obtain ⟨_, -, -, -, -, g3, -⟩ := txPgs_mem g; exact .inr g3
    · rintro (hy | hy)
      · subst hy
        obtain ⟨x, -, g2, -, g4, g5, -⟩ := txPgs_some s1 y l1 (pkG_pos l1)
        exact ⟨x, (h x).2 (.inl g2), g4, g5⟩
      · subst hy
        obtain ⟨x, -, g2, -, g4, g5, -⟩ := txPgs_some s2 y l2 (pkG_pos l2)
        exact ⟨x, (h x).2 (.inr g2), g4, g5⟩
  unfold gatherP
  rw [hn, List.filterMap_cons, has_tx h1 a1, List.filterMap_cons, has_tx h2 a2]
  rfl

/-- A sum over pages, and over those of a part below k. -/
def sumF (f : Pg → Nat) (ps : List Pg) : Nat := (ps.map f).sum
def sumBP (f : Pg → Nat) (ps : List Pg) (k : Int) : Nat := sumF f (ps.filter (fun p => decide (p.part < k)))
theorem sumB_le (f : Pg → Nat) (ps : List Pg) (k : Int) : sumBP f ps k ≤ sumF f ps := by
  unfold sumBP sumF
  induction ps with
  | nil => simp
  | cons p ps ih =>
    rw [List.filter_cons]
    split
    · simp only [List.map_cons, List.sum_cons]; omega
    · simp only [List.map_cons, List.sum_cons]; omega
theorem sumB_mono (f : Pg → Nat) (ps : List Pg) (k : Int) : sumBP f ps k ≤ sumBP f ps (k + 1) := by
  unfold sumBP sumF
  induction ps with
  | nil => simp
  | cons p ps ih =>
    rw [List.filter_cons, List.filter_cons]
    by_cases h : p.part < k
    · have h' : p.part < k + 1 := by omega
      simp only [h, h', decide_true, if_true, List.map_cons, List.sum_cons]; omega
    · simp only [h, decide_false, Bool.false_eq_true, if_false]
      split
      · simp only [List.map_cons, List.sum_cons]; omega
      · exact ih
theorem sumB_step (f : Pg → Nat) {ps : List Pg} {p : Pg} {k : Int} (hp : p ∈ ps) (hk : p.part = k) : sumBP f ps k + f p ≤ sumBP f ps (k + 1) := by
  induction ps with
  | nil => cases hp
  | cons q ps ih =>
    have hm := sumB_mono f ps k
    unfold sumBP sumF at *
    rw [List.filter_cons, List.filter_cons]
    rcases List.mem_cons.1 hp with e | e
    · subst e
      have h1 : ¬ p.part < k := by omega
      have h2 : p.part < k + 1 := by omega
      simp only [h1, h2, decide_true, decide_false, Bool.false_eq_true, if_true, if_false, List.map_cons, List.sum_cons]
      omega
    · have := ih e
      by_cases h : q.part < k
      · have h' : q.part < k + 1 := by omega
        simp only [h, h', decide_true, if_true, List.map_cons, List.sum_cons]; omega
      · simp only [h, decide_false, Bool.false_eq_true, if_false]
        split
        · simp only [List.map_cons, List.sum_cons]; omega
        · exact this
theorem sumF_mem (f : Pg → Nat) {ps : List Pg} {p : Pg} (hp : p ∈ ps) : f p ≤ sumF f ps := by
  unfold sumF
  induction ps with
  | nil => cases hp
  | cons q ps ih =>
    rw [List.map_cons, List.sum_cons]
    rcases List.mem_cons.1 hp with e | e
    · subst e; omega
    · have := ih e; omega
theorem sumF_one (ps : List Pg) : sumF (fun _ => 1) ps = ps.length := by
  unfold sumF
  induction ps with
  | nil => rfl
  | cons q ps ih => rw [List.map_cons, List.sum_cons, ih, List.length_cons]; omega

/-- The page that is looked for next. -/
def nextP (ps : List Pg) (tx : Int) (k : Nat) (c : Int) : Option Pg := ps.find? (fun p => decide (p.kind = 2 ∧ p.tx = tx ∧ p.part = k ∧ (0 < k → p.count = c)))
theorem nextP_zero (ps : List Pg) (tx c : Int) : nextP ps tx 0 c = first0 ps tx := by
  unfold nextP first0
  congr 1
  funext p
  simp
theorem nextP_pos (ps : List Pg) (tx : Int) (k : Nat) (c : Int) (hk : 0 < k) : nextP ps tx k c = firstK ps tx k c := by
  unfold nextP firstK
  congr 1
  funext p
  simp [hk]
theorem nextP_some {ps : List Pg} {tx c : Int} {k : Nat} {p : Pg} (h : nextP ps tx k c = some p) : p ∈ ps ∧ p.kind = 2 ∧ p.tx = tx ∧ p.part = k ∧ (0 < k → p.count = c) := by
  have h1 := List.mem_of_find?_eq_some h
  have h2 := List.find?_some h
  simp only [decide_eq_true_eq] at h2
  exact ⟨h1, h2⟩
theorem find_take {α : Type} {l : List α} {P : α → Bool} {m : Nat} {x : α} (hm : l[m]? = some x) (h : (l.take m).find? P = none) : (P x = false → (l.take (m + 1)).find? P = none) ∧ (P x = true → l.find? P = some x) := by
  have hl := (List.getElem?_eq_some_iff.1 hm).1
  have e : l = l.take m ++ x :: l.drop (m + 1) := by
    have := List.take_append_drop m l
    rw [List.drop_eq_getElem_cons hl, (List.getElem?_eq_some_iff.1 hm).2] at this
    exact this.symm
  constructor
  · intro hp
    rw [List.take_add_one, hm, List.find?_append, h]
    simp [hp]
  · intro hp
    rw [e, List.find?_append, h]
    simp [hp]

/-- What was gathered so far of a transaction: the pages of its first k parts. -/
def Gone (ps : List Pg) (tx : Int) (k : Nat) (c sq : Int) (done : List Pg) : Prop :=
  (k = 0 ∧ done = [] ∧ c = 0 ∧ sq = 0) ∨ (0 < k ∧ done ≠ [] ∧ sq = least done ∧ c.toNat ≤ sumF (fun p => p.count.toNat) ps ∧ partsP ps tx = (moreP ps tx c (c.toNat - k) k).map (done ++ ·))
theorem Gone.no {ps : List Pg} {tx c sq : Int} {k : Nat} {done : List Pg} (h : Gone ps tx k c sq done) (hk : k = 0 ∨ (k : Int) < c) (hn : nextP ps tx k c = none) : partsP ps tx = none := by
  rcases h with ⟨rfl, -⟩ | ⟨h0, -, -, -, h3⟩
  · rw [nextP_zero] at hn
    unfold partsP
    rw [hn]
  · rw [nextP_pos _ _ _ _ h0] at hn
    obtain ⟨m, hm⟩ : ∃ m, c.toNat - k = m + 1 := ⟨c.toNat - k - 1, by omega⟩
    rw [h3, hm]
    simp only [moreP, hn, Option.map_none]
theorem Gone.yes {ps : List Pg} {tx c sq : Int} {k : Nat} {done : List Pg} {p : Pg} (h : Gone ps tx k c sq done) (hk : k = 0 ∨ (k : Int) < c) (hn : nextP ps tx k c = some p) : Gone ps tx (k + 1) p.count (if k = 0 ∨ p.seq < sq then p.seq else sq) (done ++ [p]) := by
  have hp := nextP_some hn
  refine .inr ⟨by omega, by simp, ?_, sumF_mem (fun p => p.count.toNat) hp.1, ?_⟩
  · rcases h with ⟨rfl, rfl, -, -⟩ | ⟨h0, h1, h2, -, -⟩
    · simp [least_one]
    · rw [least_snoc h1, ← h2]
      by_cases g : p.seq < sq
      · rw [if_pos (.inr g), if_pos g]
      · rw [if_neg (by omega), if_neg g]
  · rcases h with ⟨rfl, rfl, -, -⟩ | ⟨h0, h1, h2, -, h3⟩
    · rw [nextP_zero] at hn
      unfold partsP
      rw [hn]
      rfl
    · have hc := hp.2.2.2.2 h0
      rw [nextP_pos _ _ _ _ h0] at hn
      obtain ⟨m, hm⟩ : ∃ m, c.toNat - k = m + 1 := ⟨c.toNat - k - 1, by omega⟩
      rw [h3, hm, hc, show c.toNat - (k + 1) = m by omega]
      simp only [moreP, hn, Option.map_map]
      congr 1
      funext x
      simp
theorem Gone.end_ {ps : List Pg} {tx c sq : Int} {k : Nat} {done : List Pg} (h : Gone ps tx k c sq done) (hk : ¬ (k = 0 ∨ (k : Int) < c)) : partsP ps tx = some done ∧ sq = least done := by
  rcases h with ⟨rfl, -⟩ | ⟨h0, h1, h2, -, h3⟩
  · simp at hk
  · have : c.toNat - k = 0 := by omega
    rw [h3, this]
    exact ⟨by simp [moreP], h2⟩
end Go.Proofs.YtiicghepilbgfaaGreatDoor.Words
