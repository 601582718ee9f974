/-
  Plain facts on gathering as the program does it: pages by part, these by transaction. No Go in them.
-/
import Derived.Test.YtogfdhfmamabiaaTxMath
namespace Go.Proofs.Ytogfdhfmamabiaa.Words

/-- What stands at a key. -/
def at? {α : Type} (l : List (Int × α)) (k : Int) : Option α := (l.find? (fun p => decide (p.1 = k))).map (·.2)
def Keyd {α : Type} (l : List (Int × α)) : Prop := l.Pairwise (fun p q => p.1 ≠ q.1)
def cutK {α : Type} (l : List (Int × α)) (k : Int) : List (Int × α) := l.filter (fun p => decide (p.1 ≠ k))
def setK {α : Type} (l : List (Int × α)) (k : Int) (v : α) : List (Int × α) := l.map (fun p => if p.1 = k then (k, v) else p)
section
variable {α : Type}
theorem at?_cons (p : Int × α) (l : List (Int × α)) (k : Int) : at? (p :: l) k = if p.1 = k then some p.2 else at? l k := by
  unfold at?
  rw [List.find?_cons]
  by_cases h : p.1 = k <;> simp [h]
theorem at?_none {l : List (Int × α)} {k : Int} : at? l k = none ↔ ∀ p ∈ l, p.1 ≠ k := by
  induction l with
  | nil => simp [at?]
  | cons a l ih =>
    rw [at?_cons]
    by_cases h : a.1 = k
    · simp [h]
    · simp [h, ih]
theorem at?_mem {l : List (Int × α)} {k : Int} {v : α} (h : at? l k = some v) : (k, v) ∈ l := by
  induction l with
  | nil => simp [at?] at h
  | cons a l ih =>
    rw [at?_cons] at h
    by_cases e : a.1 = k
    · simp only [e, if_true, Option.some.injEq] at h
      have : a = (k, v) := by rw [← e, ← h]
      simp [this]
    · simp only [e, if_false] at h
      exact List.mem_cons_of_mem _ (ih h)
theorem mem_at? {l : List (Int × α)} {k : Int} {v : α} (hk : Keyd l) (h : (k, v) ∈ l) : at? l k = some v := by
  induction l with
  | nil => simp at h
  | cons a l ih =>
    obtain ⟨h1, h2⟩ := List.pairwise_cons.1 hk
    rw [at?_cons]
    rcases List.mem_cons.1 h with e | e
    · subst e; simp
    · have := h1 _ e
      simp only [this, if_false]
      exact ih h2 e
theorem at?_snoc (l : List (Int × α)) (k : Int) (v : α) (x : Int) : at? (l ++ [(k, v)]) x = (at? l x).or (if k = x then some v else none) := by
  induction l with
  | nil => rw [List.nil_append, at?_cons]; simp [at?]
  | cons a l ih =>
    rw [List.cons_append, at?_cons, at?_cons, ih]
    by_cases h : a.1 = x <;> simp [h]
theorem Keyd.snoc {l : List (Int × α)} {k : Int} {v : α} (h : Keyd l) (hn : at? l k = none) : Keyd (l ++ [(k, v)]) := by
  unfold Keyd
  rw [List.pairwise_append]
  refine ⟨h, by simp, ?_⟩
  intro a ha b hb
  simp only [List.mem_singleton] at hb
  subst hb
  exact at?_none.1 hn a ha
theorem at?_cut (l : List (Int × α)) (k x : Int) : at? (cutK l k) x = if x = k then none else at? l x := by
  induction l with
  | nil => simp [cutK, at?]
  | cons a l ih =>
    unfold cutK at *
    rw [List.filter_cons]
    by_cases h : a.1 = k
    · simp only [h, ne_eq, not_true_eq_false, decide_false, Bool.false_eq_true, if_false]
      rw [ih, at?_cons]
      by_cases e : x = k
      · simp [e]
      · have : a.1 ≠ x := by omega
        simp [e, this]
    · simp only [h, ne_eq, not_false_eq_true, decide_true, if_true]
      rw [at?_cons, at?_cons, ih]
      by_cases e : a.1 = x
      · have : x ≠ k := by omega
        simp [e, this]
      · simp [e]
theorem Keyd.cut {l : List (Int × α)} {k : Int} (h : Keyd l) : Keyd (cutK l k) := List.Pairwise.filter _ h
theorem cut_no {l : List (Int × α)} {k : Int} (h : at? l k = none) : cutK l k = l := by
  unfold cutK
  rw [List.filter_eq_self]
  intro p hp
  have := at?_none.1 h p hp
  simpa using this
theorem at?_set (l : List (Int × α)) (k : Int) (v : α) (x : Int) : at? (setK l k v) x = if x = k then (at? l k).map (fun _ => v) else at? l x := by
  induction l with
  | nil => simp [setK, at?]
  | cons a l ih =>
    unfold setK at *
    rw [List.map_cons, at?_cons, ih, at?_cons, at?_cons]
    by_cases h : a.1 = k
    · by_cases e : x = k
      · subst e; simp [h]
      · have e2 : ¬ k = x := fun h => e h.symm
        have e3 : ¬ a.1 = x := by omega
        simp [h, e, e2]
    · by_cases e : x = k
      · subst e; simp [h]
      · simp [h, e]
theorem set_keys (l : List (Int × α)) (k : Int) (v : α) : (setK l k v).map (·.1) = l.map (·.1) := by
  unfold setK
  rw [List.map_map]
  refine List.map_congr_left fun p _ => ?_
  by_cases h : p.1 = k <;> simp [h]
theorem keyd_keys {l : List (Int × α)} : Keyd l ↔ (l.map (·.1)).Pairwise (· ≠ ·) := by
  unfold Keyd
  rw [List.pairwise_map]
theorem Keyd.set {l : List (Int × α)} {k : Int} {v : α} (h : Keyd l) : Keyd (setK l k v) := by
  rw [keyd_keys, set_keys, ← keyd_keys]
  exact h
end

/-- Numbers below n, each once, are n at most. -/
theorem below_len : ∀ (n : Nat) (l : List Int), l.Pairwise (· ≠ ·) → (∀ x ∈ l, 0 ≤ x ∧ x < n) → l.length ≤ n := by
  intro n
  induction n with
  | zero =>
    intro l _ h
    cases l with
    | nil => simp
    | cons a l => have := h a (by simp); omega
  | succ n ih =>
    intro l hp h
    have h1 := ih (l.filter (fun x => decide (x ≠ (n : Int)))) (hp.filter _) (by
      intro x hx
      simp only [List.mem_filter, decide_eq_true_eq] at hx
      have := h x hx.1
      have := hx.2
      omega)
    have h2 : ∀ l : List Int, l.Pairwise (· ≠ ·) → l.length ≤ (l.filter (fun x => decide (x ≠ (n : Int)))).length + 1 := by
      intro l
      induction l with
      | nil => simp
      | cons a l ih2 =>
        intro hp
        obtain ⟨p1, p2⟩ := List.pairwise_cons.1 hp
        rw [List.filter_cons]
        by_cases e : a = (n : Int)
        · have e2 : l.filter (fun x => decide (x ≠ (n : Int))) = l := by
            rw [List.filter_eq_self]
            intro x hx
            have := p1 x hx
            simp only [decide_eq_true_eq]
            omega
          simp only [e, ne_eq, not_true_eq_false, decide_false, Bool.false_eq_true, if_false, List.length_cons]
          rw [show (List.filter (fun x => decide ¬x = (n : Int)) l) = l from e2]
          exact Nat.le_refl _
        · have := ih2 p2
          simp only [e, ne_eq, not_false_eq_true, decide_true, if_true, List.length_cons]
          simp only [ne_eq] at this
          omega
    have := h2 l hp
    omega
theorem below_full {n : Nat} {l : List Int} (hp : l.Pairwise (· ≠ ·)) (h : ∀ x ∈ l, 0 ≤ x ∧ x < n) (hl : l.length = n) {k : Int} (h0 : 0 ≤ k) (hk : k < n) : k ∈ l := by
  refine Classical.byContradiction fun hn => ?_
  have := below_len n (k :: l) (List.pairwise_cons.2 ⟨fun a ha e => hn (e ▸ ha), hp⟩) (by
    intro x hx
    rcases List.mem_cons.1 hx with e | e
    · subst e; exact ⟨h0, hk⟩
    · exact h x e)
  simp only [List.length_cons] at this
  omega

theorem first0_snoc (ps : List Pg) (q : Pg) (tx : Int) : first0 (ps ++ [q]) tx = (first0 ps tx).or (if q.kind = 2 ∧ q.tx = tx ∧ q.part = 0 then some q else none) := by
  unfold first0
  rw [List.find?_append, List.find?_singleton]
  simp
theorem firstK_snoc (ps : List Pg) (q : Pg) (tx k c : Int) : firstK (ps ++ [q]) tx k c = (firstK ps tx k c).or (if q.kind = 2 ∧ q.tx = tx ∧ q.part = k ∧ q.count = c then some q else none) := by
  unfold firstK
  rw [List.find?_append, List.find?_singleton]
  simp

/-- Pages of a transaction by their part, as far as they have come. -/
structure Parts (ps : List Pg) (tx : Int) (p : Pg) (l : List (Int × Pg)) : Prop where
  keyd : Keyd l
  zero : at? l 0 = some p
  span : ∀ q ∈ l, q.1 = 0 ∨ (0 < q.1 ∧ q.1 < p.count)
  more : ∀ k : Int, 0 < k → k < p.count → at? l k = firstK ps tx k p.count
  few : l.length ≤ ps.length + 1
theorem Parts.start (tx : Int) (p : Pg) : Parts [] tx p [(0, p)] where
  keyd := List.pairwise_singleton _ _
  zero := by simp [at?]
  span := by simp
  more := by
    intro k h1 h2
    have : ¬ (0 : Int) = k := by omega
    simp [at?, firstK, this]
  few := Nat.le_refl _
/-- One more page. -/
theorem Parts.add {ps : List Pg} {tx : Int} {p q : Pg} {l : List (Int × Pg)} (h : Parts ps tx p l) (h1 : q.tx = tx) (h2 : q.kind = 2) (h3 : q.count = p.count) (h4 : 0 ≤ q.part) (h5 : q.part < q.count) (h6 : at? l q.part = none) : Parts (ps ++ [q]) tx p (l ++ [(q.part, q)]) where
  keyd := h.keyd.snoc h6
  zero := by rw [at?_snoc, h.zero]; rfl
  span := by
    intro x hx
    rcases List.mem_append.1 hx with hx | hx
    · exact h.span x hx
    · simp only [List.mem_singleton] at hx
      subst hx
      simp only
      omega
  more := by
    intro k hk1 hk2
    rw [at?_snoc, firstK_snoc, h.more k hk1 hk2]
    by_cases e : q.part = k <;> simp [e, h1, h2, h3]
  few := by
    have := h.few
    simp only [List.length_append, List.length_cons, List.length_nil]
    omega
theorem Parts.skip {ps : List Pg} {tx : Int} {p q : Pg} {l : List (Int × Pg)} (h : Parts ps tx p l) (hn : ¬ (q.tx = tx ∧ q.kind = 2 ∧ q.count = p.count ∧ 0 ≤ q.part ∧ q.part < q.count ∧ at? l q.part = none)) : Parts (ps ++ [q]) tx p l where
  keyd := h.keyd
  zero := h.zero
  span := h.span
  few := by
    have := h.few
    simp only [List.length_append, List.length_cons, List.length_nil]
    omega
  more := by
    intro k hk1 hk2
    have hm := h.more k hk1 hk2
    rw [firstK_snoc, ← hm]
    cases e : at? l k with
    | some v => rfl
    | none =>
      rw [if_neg ?_]
      · rfl
      · rintro ⟨a1, a2, a3, a4⟩
        refine hn ⟨a2, a1, a4, by omega, by omega, ?_⟩
        rw [a3]; exact e

theorem moreP_some {ps : List Pg} {tx c : Int} : ∀ {n k : Nat}, (∀ i : Nat, i < n → ∃ q, firstK ps tx ((k + i : Nat) : Int) c = some q) → ∃ L, moreP ps tx c n k = some L ∧ L.length = n ∧ ∀ i : Nat, i < n → L[i]? = firstK ps tx ((k + i : Nat) : Int) c := by
  intro n
  induction n with
  | zero => intro k _; exact ⟨[], rfl, rfl, fun i hi => by omega⟩
  | succ n ih =>
    intro k h
    obtain ⟨q, hq⟩ := h 0 (by omega)
    obtain ⟨L, h1, h2, h3⟩ := ih (k := k + 1) (fun i hi => by
      obtain ⟨q, hq⟩ := h (i + 1) (by omega)
      exact ⟨q, by rw [show k + 1 + i = k + (i + 1) by omega]; exact hq⟩)
    rw [Nat.add_zero] at hq
    refine ⟨q :: L, by simp only [moreP, hq, h1, Option.map_some], by simp [h2], fun i hi => ?_⟩
    cases i with
    | zero => rw [Nat.add_zero, hq]; rfl
    | succ i => rw [show k + (i + 1) = k + 1 + i by omega, ← h3 i (by omega)]; rfl
theorem moreP_none {ps : List Pg} {tx c : Int} : ∀ {n k i : Nat}, i < n → firstK ps tx ((k + i : Nat) : Int) c = none → moreP ps tx c n k = none := by
  intro n
  induction n with
  | zero => intro k i hi; omega
  | succ n ih =>
    intro k i hi h
    simp only [moreP]
    cases i with
    | zero => rw [Nat.add_zero] at h; rw [h]
    | succ i =>
      have := ih (k := k + 1) (i := i) (by omega) (by rw [show k + 1 + i = k + (i + 1) by omega]; exact h)
      cases hf : firstK ps tx k c with
      | none => rfl
      | some q => simp [this]
/-- All parts are there. -/
theorem Parts.whole {ps : List Pg} {tx : Int} {p : Pg} {l : List (Int × Pg)} (h : Parts ps tx p l) (h0 : first0 ps tx = some p) (hl : (l.length : Int) = if p.count < 1 then 1 else p.count) :
    ∃ L, partsP ps tx = some (p :: L) ∧ L.length + 1 = l.length ∧ ∀ i : Nat, i < l.length → (p :: L)[i]? = at? l i := by
  have hk : (l.map (·.1)).Pairwise (· ≠ ·) := keyd_keys.1 h.keyd
  have hin : ∀ x ∈ l.map (·.1), 0 ≤ x ∧ x < (l.length : Int) := by
    intro x hx
    obtain ⟨q, hq, rfl⟩ := List.mem_map.1 hx
    have := h.span q hq
    split at hl <;> omega
  have hat : ∀ k : Int, 0 ≤ k → k < l.length → ∃ q, at? l k = some q := by
    intro k k0 k1
    have := below_full hk hin (by simp) k0 k1
    obtain ⟨q, hq, e⟩ := List.mem_map.1 this
    exact ⟨q.2, mem_at? h.keyd (by rw [← e]; exact hq)⟩
  have hpos : 0 < l.length := by split at hl <;> omega
  have hcn : p.count.toNat - 1 + 1 = l.length := by split at hl <;> omega
  obtain ⟨L, h1, h2, h3⟩ := moreP_some (ps := ps) (tx := tx) (c := p.count) (n := p.count.toNat - 1) (k := 1) (by
    intro i hi
    obtain ⟨q, hq⟩ := hat ((1 + i : Nat) : Int) (by omega) (by omega)
    exact ⟨q, by rw [← h.more _ (by omega) (by omega)]; exact hq⟩)
  refine ⟨L, by unfold partsP; rw [h0]; simp only [h1, Option.map_some], by omega, fun i hi => ?_⟩
  cases i with
  | zero => rw [show ((0 : Nat) : Int) = 0 from rfl, h.zero]; rfl
  | succ i =>
    show L[i]? = _
    rw [h3 i (by omega), ← h.more _ (by omega) (by omega), Nat.add_comm]
/-- Not all of them are. -/
theorem Parts.lack {ps : List Pg} {tx : Int} {p : Pg} {l : List (Int × Pg)} (h : Parts ps tx p l) (h0 : first0 ps tx = some p) (hl : (l.length : Int) ≠ if p.count < 1 then 1 else p.count) : partsP ps tx = none := by
  have hk : (l.map (·.1)).Pairwise (· ≠ ·) := keyd_keys.1 h.keyd
  have h0m := at?_mem h.zero
  have hpos : 0 < l.length := List.length_pos_of_mem h0m
  have hin : ∀ x ∈ l.map (·.1), 0 ≤ x ∧ x < (((if p.count < 1 then 1 else p.count).toNat : Nat) : Int) := by
    intro x hx
    obtain ⟨q, hq, rfl⟩ := List.mem_map.1 hx
    have := h.span q hq
    split <;> omega
  have hle := below_len _ _ hk hin
  rw [List.length_map] at hle
  refine Classical.byContradiction fun hne => ?_
  have hall : ∀ i : Nat, i < p.count.toNat - 1 → ∃ q, firstK ps tx ((1 + i : Nat) : Int) p.count = some q := by
    intro i hi
    cases hf : firstK ps tx ((1 + i : Nat) : Int) p.count with
    | some q => exact ⟨q, rfl⟩
    | none => exact absurd (by unfold partsP; rw [h0]; simp only [moreP_none hi hf, Option.map_none]) hne
  have hsub : (List.range p.count.toNat).length ≤ l.length := by
    have hall2 : ∀ k : Int, 0 ≤ k → k < p.count → k ∈ l.map (·.1) := by
      intro k k0 k1
      by_cases e : k = 0
      · subst e; exact List.mem_map.2 ⟨_, h0m, rfl⟩
      · obtain ⟨q, hq⟩ := hall (k.toNat - 1) (by omega)
        rw [show ((1 + (k.toNat - 1) : Nat) : Int) = k by omega, ← h.more k (by omega) k1] at hq
        exact List.mem_map.2 ⟨_, at?_mem hq, rfl⟩
    have hsubl : ∀ (n : Nat) (m : List Int), m.Pairwise (· ≠ ·) → (∀ k : Int, 0 ≤ k → k < n → k ∈ m) → n ≤ m.length := by
      intro n
      induction n with
      | zero => intro m _ _; omega
      | succ n ih =>
        intro m hp hm
        have hn := hm n (by omega) (by omega)
        obtain ⟨a, b, e⟩ := List.append_of_mem hn
        subst e
        have := ih (a ++ b) (hp.sublist (List.Sublist.append (List.Sublist.refl a) (List.sublist_cons_self _ _))) (fun k k0 k1 => by
          have := hm k k0 (by omega)
          simp only [List.mem_append, List.mem_cons] at this ⊢
          rcases this with h | h | h
          · exact .inl h
          · omega
          · exact .inr h)
        simp only [List.length_append, List.length_cons] at this ⊢
        omega
    have := hsubl p.count.toNat (l.map (·.1)) hk (fun k k0 k1 => hall2 k k0 (by omega))
    simpa using this
  rw [List.length_range] at hsub
  split at hl <;> split at hle <;> omega

/-- The pages by transaction, each with the block that its map lies in. -/
abbrev Gm := List (Int × Nat × List (Int × Pg))
/-- Those that are begun. -/
def OutB (ps : List Pg) (G : Gm) : Prop := Keyd G ∧ ∀ tx, (at? G tx).map (·.2) = (first0 ps tx).map (fun p => [(0, p)])
theorem OutB.nil : OutB [] [] := ⟨List.Pairwise.nil, fun tx => by simp [at?, first0]⟩
theorem OutB.at_none {ps : List Pg} {G : Gm} (h : OutB ps G) {tx : Int} : at? G tx = none ↔ first0 ps tx = none := by
  have := h.2 tx
  cases e : at? G tx <;> cases e2 : first0 ps tx <;> simp [e, e2] at this ⊢
theorem OutB.begin {ps : List Pg} {G : Gm} (h : OutB ps G) {q : Pg} (b : Nat) (h1 : q.kind = 2) (h2 : q.part = 0) (h3 : at? G q.tx = none) : OutB (ps ++ [q]) (G ++ [(q.tx, b, [(0, q)])]) := by
  refine ⟨h.1.snoc h3, fun tx => ?_⟩
  rw [at?_snoc, first0_snoc]
  have := h.2 tx
  by_cases e : q.tx = tx
  · subst e
    rw [h3, h.at_none.1 h3]
    simp [h1, h2]
  · simp only [e, if_false, Option.or_none, false_and, and_false]
    exact this
theorem OutB.skip {ps : List Pg} {G : Gm} (h : OutB ps G) {q : Pg} (hn : ¬ (q.kind = 2 ∧ q.part = 0 ∧ at? G q.tx = none)) : OutB (ps ++ [q]) G := by
  refine ⟨h.1, fun tx => ?_⟩
  rw [first0_snoc]
  have := h.2 tx
  cases e : first0 ps tx with
  | some p => rw [e] at this; exact this
  | none =>
    rw [e] at this
    rw [if_neg ?_]
    · exact this
    · rintro ⟨a1, a2, a3⟩
      subst a2
      exact hn ⟨a1, a3, h.at_none.2 e⟩
/-- A transaction's pages in the map. -/
def InM (ps : List Pg) (G : Gm) (tx : Int) : Option Pg → Prop
  | none => at? G tx = none
  | some p => ∃ b l, at? G tx = some (b, l) ∧ Parts ps tx p l
def OutA (ps0 ps : List Pg) (G : Gm) : Prop := Keyd G ∧ ∀ tx, InM ps G tx (first0 ps0 tx)
theorem OutB.outA {ps : List Pg} {G : Gm} (h : OutB ps G) : OutA ps [] G := by
  refine ⟨h.1, fun tx => ?_⟩
  have := h.2 tx
  cases e : first0 ps tx with
  | none => exact h.at_none.2 e
  | some p =>
    rw [e] at this
    cases e2 : at? G tx with
    | none => rw [e2] at this; simp at this
    | some bl =>
      rw [e2] at this
      obtain ⟨b, l⟩ := bl
      simp only [Option.map_some, Option.some.injEq] at this
      subst this
      exact ⟨b, _, e2, Parts.start tx p⟩
theorem OutA.add {ps0 ps : List Pg} {G : Gm} (h : OutA ps0 ps G) {q p : Pg} {b : Nat} {l : List (Int × Pg)} (hg : at? G q.tx = some (b, l)) (hz : at? l 0 = some p) (h2 : q.kind = 2) (h3 : q.count = p.count) (h4 : 0 ≤ q.part) (h5 : q.part < q.count) (h6 : at? l q.part = none) :
    OutA ps0 (ps ++ [q]) (setK G q.tx (b, l ++ [(q.part, q)])) := by
  refine ⟨h.1.set, fun tx => ?_⟩
  have := h.2 tx
  cases e : first0 ps0 tx with
  | none =>
    rw [e] at this
    show at? _ _ = none
    have h' : at? G tx = none := this
    rw [at?_set]
    by_cases e2 : tx = q.tx
    · subst e2; rw [hg] at h'; cases h'
    · simp [e2, h']
  | some p' =>
    rw [e] at this
    obtain ⟨b', l', g1, g2⟩ := this
    by_cases e2 : tx = q.tx
    · subst e2
      rw [hg] at g1
      cases g1
      have : p' = p := by have := g2.zero; rw [hz] at this; cases this; rfl
      subst this
      exact ⟨b, _, by rw [at?_set, if_pos rfl, hg]; rfl, g2.add rfl h2 h3 h4 h5 h6⟩
    · exact ⟨b', l', by rw [at?_set, if_neg e2]; exact g1, g2.skip (fun hh => e2 hh.1.symm)⟩
theorem OutA.skip {ps0 ps : List Pg} {G : Gm} (h : OutA ps0 ps G) {q : Pg} (hn : ∀ b l p, at? G q.tx = some (b, l) → at? l 0 = some p → ¬ (q.kind = 2 ∧ q.count = p.count ∧ 0 ≤ q.part ∧ q.part < q.count ∧ at? l q.part = none)) : OutA ps0 (ps ++ [q]) G := by
  refine ⟨h.1, fun tx => ?_⟩
  have := h.2 tx
  cases e : first0 ps0 tx with
  | none => rw [e] at this; exact this
  | some p =>
    rw [e] at this
    obtain ⟨b, l, g1, g2⟩ := this
    refine ⟨b, l, g1, g2.skip ?_⟩
    rintro ⟨a1, a2⟩
    subst a1
    exact hn b l p g1 g2.zero a2
/-- While they are taken: those that were whole and have been asked for are gone. -/
def OutT (ps : List Pg) (S : List Int) (G : Gm) : Prop := Keyd G ∧ ∀ tx, InM ps G tx (if tx ∈ S ∧ partsP ps tx ≠ none then none else first0 ps tx)
theorem OutA.outT {ps : List Pg} {G : Gm} (h : OutA ps ps G) : OutT ps [] G := ⟨h.1, fun tx => by simpa using h.2 tx⟩
theorem parts_none {ps : List Pg} {tx : Int} (h : first0 ps tx = none) : partsP ps tx = none := by unfold partsP; rw [h]
/-- What is there. -/
theorem OutT.some {ps : List Pg} {S : List Int} {G : Gm} (h : OutT ps S G) {tx : Int} {b : Nat} {l : List (Int × Pg)} (hg : at? G tx = some (b, l)) : ∃ p, first0 ps tx = some p ∧ Parts ps tx p l ∧ ¬ (tx ∈ S ∧ partsP ps tx ≠ none) := by
  have := h.2 tx
  split at this
  · have h' : at? G tx = none := this
    rw [hg] at h'; cases h'
  · rename_i hn
    cases e : first0 ps tx with
    | none => rw [e] at this; have h' : at? G tx = none := this; rw [hg] at h'; cases h'
    | some p =>
      rw [e] at this
      obtain ⟨b', l', g1, g2⟩ := this
      rw [hg] at g1
      cases g1
      exact ⟨p, rfl, g2, hn⟩
theorem OutT.none {ps : List Pg} {S : List Int} {G : Gm} (h : OutT ps S G) {tx : Int} (hg : at? G tx = none) : partsP ps tx = Option.none ∨ tx ∈ S := by
  have := h.2 tx
  split at this
  · rename_i hn; exact .inr hn.1
  · cases e : first0 ps tx with
    | none => exact .inl (parts_none e)
    | some p => rw [e] at this; obtain ⟨b', l', g1, g2⟩ := this; rw [hg] at g1; cases g1
theorem OutT.stay {ps : List Pg} {S : List Int} {G : Gm} (h : OutT ps S G) {tx : Int} (hn : partsP ps tx = Option.none ∨ tx ∈ S) : OutT ps (S ++ [tx]) G := by
  refine ⟨h.1, fun x => ?_⟩
  have := h.2 x
  have e : (x ∈ S ++ [tx] ∧ partsP ps x ≠ Option.none) ↔ (x ∈ S ∧ partsP ps x ≠ Option.none) := by
    simp only [List.mem_append, List.mem_singleton]
    constructor
    · rintro ⟨a | a, c⟩
      · exact ⟨a, c⟩
      · subst a
        rcases hn with hn | hn
        · exact absurd hn c
        · exact ⟨hn, c⟩
    · rintro ⟨a, c⟩; exact ⟨.inl a, c⟩
  simp only [e]
  exact this
theorem OutT.take {ps : List Pg} {S : List Int} {G : Gm} (h : OutT ps S G) {tx : Int} (hn : partsP ps tx ≠ Option.none) : OutT ps (S ++ [tx]) (cutK G tx) := by
  refine ⟨h.1.cut, fun x => ?_⟩
  have := h.2 x
  by_cases e : x = tx
  · subst e
    rw [if_pos ⟨by simp, hn⟩]
    show at? _ _ = Option.none
    rw [at?_cut]; simp
  · have e1 : (x ∈ S ++ [tx] ∧ partsP ps x ≠ Option.none) ↔ (x ∈ S ∧ partsP ps x ≠ Option.none) := by simp [e]
    simp only [e1]
    have e2 : at? (cutK G tx) x = at? G x := by rw [at?_cut, if_neg e]
    revert this
    generalize (if x ∈ S ∧ partsP ps x ≠ Option.none then Option.none else first0 ps x) = o
    intro this
    cases o with
    | none => exact e2.trans this
    | some p => obtain ⟨b', l', g1, g2⟩ := this; exact ⟨b', l', e2.trans g1, g2⟩

/-- The least Seq. -/
def lst (p : Pg) (l : List Pg) : Int := l.foldl (fun m q => if q.seq < m then q.seq else m) p.seq
theorem lst_nil (p : Pg) : lst p [] = p.seq := rfl
theorem lst_snoc (p : Pg) (l : List Pg) (q : Pg) : lst p (l ++ [q]) = if q.seq < lst p l then q.seq else lst p l := by
  unfold lst
  rw [List.foldl_append]
  rfl
theorem lst_self (p : Pg) (l : List Pg) : lst p (p :: l) = least (p :: l) := by
  unfold lst least
  simp

/-- Numbers in the order in which they come. -/
def ordStep (ns : List Int) (x : Int) : List Int := if x ∈ ns then ns else ns ++ [x]
def ordP (xs : List Int) : List Int := xs.foldl ordStep []
theorem ordP_snoc (xs : List Int) (x : Int) : ordP (xs ++ [x]) = ordStep (ordP xs) x := by simp [ordP, List.foldl_append]
theorem ordP_mem (xs : List Int) (x : Int) : x ∈ ordP xs ↔ x ∈ xs := by
  induction xs using snoc_ind with
  | h0 => simp [ordP]
  | h1 xs y ih =>
    rw [ordP_snoc]
    unfold ordStep
    split
    · rename_i hy
      rw [ih]
      simp only [List.mem_append, List.mem_singleton]
      constructor
      · exact .inl
      · rintro (h | h)
        · exact h
        · subst h; exact ih.1 (by exact hy)
    · simp [ih]
theorem ordP_nd (xs : List Int) : (ordP xs).Pairwise (· ≠ ·) := by
  induction xs using snoc_ind with
  | h0 => simp [ordP]
  | h1 xs y ih =>
    rw [ordP_snoc]
    unfold ordStep
    split
    · exact ih
    · rename_i hy
      rw [List.pairwise_append]
      refine ⟨ih, by simp, ?_⟩
      intro a ha b hb
      simp only [List.mem_singleton] at hb
      subst hb
      exact fun e => hy (e ▸ ha)
/-- What has been taken so far. -/
def tookP (ps : List Pg) (xs : List Int) : List TxR := (ordP xs).filterMap (oneTx ps)
theorem took_nil (ps : List Pg) : tookP ps [] = [] := rfl
theorem took_no {ps : List Pg} {xs : List Int} {x : Int} (h : oneTx ps x = none ∨ x ∈ xs) : tookP ps (xs ++ [x]) = tookP ps xs := by
  unfold tookP
  rw [ordP_snoc]
  unfold ordStep
  split
  · rfl
  · rename_i hn
    rcases h with h | h
    · rw [List.filterMap_append]; simp [h]
    · exact absurd ((ordP_mem xs x).2 h) hn
theorem took_yes {ps : List Pg} {xs : List Int} {x : Int} {t : TxR} (h : oneTx ps x = some t) (hx : ¬ x ∈ xs) : tookP ps (xs ++ [x]) = tookP ps xs ++ [t] := by
  unfold tookP
  rw [ordP_snoc]
  unfold ordStep
  rw [if_neg (fun hh => hx ((ordP_mem xs x).1 hh)), List.filterMap_append]
  simp [h]
theorem one_num {ps : List Pg} {m : Int} {z : TxR} (hz : oneTx ps m = some z) : z.num = m := by
  unfold oneTx at hz
  split at hz
  · cases hz
  · cases hr : recs (catP _).data.toList 0 with
    | none => rw [hr] at hz; cases hz
    | some rs => rw [hr] at hz; cases hz; rfl
theorem one_of_parts {ps : List Pg} {x : Int} {L : List Pg} (h : partsP ps x = some L) : oneTx ps x = (recs (catP L).data.toList 0).map (fun rs => ⟨x, least L, rs⟩) := by
  unfold oneTx; rw [h]
theorem one_no {ps : List Pg} {x : Int} (h : partsP ps x = none) : oneTx ps x = none := by unfold oneTx; rw [h]
theorem one_meta {ps : List Pg} {x : Int} {t : TxR} (h : oneTx ps x = some t) : x ∈ numsP ps := by
  rw [numsP_mem]
  cases e : first0 ps x with
  | none => rw [one_no (parts_none e)] at h; cases h
  | some p =>
    have h1 := List.mem_of_find?_eq_some e
    have h2 := List.find?_some e
    simp at h2
    exact ⟨p, h1, h2.1, h2.2.1⟩
theorem took_mem (ps : List Pg) (t : TxR) : t ∈ tookP ps (ps.map (·.tx)) ↔ t ∈ gatherP ps := by
  unfold tookP gatherP
  rw [List.mem_filterMap, List.mem_filterMap]
  constructor
  · rintro ⟨x, -, hx⟩
    exact ⟨x, one_meta hx, hx⟩
  · rintro ⟨x, h1, hx⟩
    refine ⟨x, ?_, hx⟩
    rw [ordP_mem]
    obtain ⟨p, hp, -, e⟩ := (numsP_mem ps x).1 h1
    exact List.mem_map.2 ⟨p, hp, e⟩
theorem took_nd (ps : List Pg) (xs : List Int) : (tookP ps xs).Pairwise (fun a b => a.num ≠ b.num) := by
  unfold tookP
  have h := ordP_nd xs
  generalize ordP xs = ns at h
  induction ns with
  | nil => simp
  | cons n ns ih =>
    obtain ⟨h1, h2⟩ := List.pairwise_cons.1 h
    rw [List.filterMap_cons]
    split
    · exact ih h2
    · rename_i x hx
      rw [List.pairwise_cons]
      refine ⟨?_, ih h2⟩
      intro y hy
      obtain ⟨m, hm, hmy⟩ := List.mem_filterMap.1 hy
      rw [one_num hx, one_num hmy]
      exact h1 m hm
theorem took_len (ps : List Pg) (xs : List Int) : (tookP ps xs).length ≤ xs.length := by
  unfold tookP
  refine Nat.le_trans (List.length_filterMap_le _ _) ?_
  induction xs using snoc_ind with
  | h0 => simp [ordP]
  | h1 xs y ih =>
    rw [ordP_snoc]
    unfold ordStep
    split <;> simp <;> omega
/-- Two rows that ascend by a number and have the same members are the same. -/
theorem asc_ext_by {α : Type} (f : α → Int) : ∀ {a b : List α}, a.Pairwise (fun x y => f x < f y) → b.Pairwise (fun x y => f x < f y) → (∀ x, x ∈ a ↔ x ∈ b) → a = b := by
  intro a
  induction a with
  | nil =>
    intro b _ _ h
    cases b with
    | nil => rfl
    | cons y b => have := (h y).2 (by simp); simp at this
  | cons x a ih =>
    intro b ha hb h
    cases b with
    | nil => have := (h x).1 (by simp); simp at this
    | cons y b =>
      obtain ⟨a1, a2⟩ := List.pairwise_cons.1 ha
      obtain ⟨b1, b2⟩ := List.pairwise_cons.1 hb
      have exy : x = y := by
        have h1 := (h x).1 (by simp)
        have h2 := (h y).2 (by simp)
        rw [List.mem_cons] at h1 h2
        rcases h1 with h1 | h1
        · exact h1
        · rcases h2 with h2 | h2
          · exact h2.symm
          · have := b1 x h1; have := a1 y h2; omega
      subst exy
      refine congrArg _ (ih a2 b2 fun z => ?_)
      have hz := h z
      rw [List.mem_cons, List.mem_cons] at hz
      constructor
      · intro m
        rcases hz.1 (.inr m) with e | e
        · subst e; have := a1 z m; omega
        · exact e
      · intro m
        rcases hz.2 (.inr m) with e | e
        · subst e; have := b1 z m; omega
        · exact e
end Go.Proofs.Ytogfdhfmamabiaa.Words
