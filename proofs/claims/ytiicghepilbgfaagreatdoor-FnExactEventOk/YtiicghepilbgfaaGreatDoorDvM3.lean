/-
  Transactions of pages, where some come and some go.
-/
import Derived.Test.YtiicghepilbgfaaGreatDoorPk23
namespace Go.Proofs.YtiicghepilbgfaaGreatDoor
open Words Sums Pack

/-- A page of a transaction. -/
def isTx (x : Int) (p : Pg) : Bool := decide (p.kind = 2 ∧ p.tx = x)
theorem find_filter {α : Type} {l m : List α} {P Q : α → Bool} (h : l.filter Q = m.filter Q) (hq : ∀ x, P x = true → Q x = true) : l.find? P = m.find? P := by
  have e : ∀ k : List α, k.find? P = (k.filter Q).find? P := fun k => by
    rw [List.find?_filter]
    congr 1
    funext x
    cases hp : P x with
    | false => simp
    | true => simp [hq x hp]
  rw [e l, e m, h]
theorem one_same {ps qs : List Pg} {x : Int} (h : ps.filter (isTx x) = qs.filter (isTx x)) : oneTx ps x = oneTx qs x := by
  have h0 : first0 ps x = first0 qs x := find_filter h (fun p hp => by simp only [decide_eq_true_eq] at hp; simp [isTx, hp.1, hp.2.1])
  have hk : ∀ k c, firstK ps x k c = firstK qs x k c := fun k c => find_filter h (fun p hp => by simp only [decide_eq_true_eq] at hp; simp [isTx, hp.1, hp.2.1])
  have hm : ∀ (c : Int) (n k : Nat), moreP ps x c n k = moreP qs x c n k := by
    intro c n
    induction n with
    | zero => intro k; rfl
    | succ n ih => intro k; simp only [moreP, hk, ih]
  unfold oneTx partsP
  rw [h0]
  cases first0 qs x with
  | none => rfl
  | some p => simp only [hm]
theorem isTx_no {ps : List Pg} {x : Int} (h : ∀ p ∈ ps, p.kind = 2 → p.tx ≠ x) : ps.filter (isTx x) = [] := by
  rw [List.filter_eq_nil_iff]
  intro p hp
  simp only [isTx, decide_eq_true_eq]
  exact fun q => h p hp q.1 q.2
theorem one_noTx {ps : List Pg} {x : Int} (h : ∀ p ∈ ps, p.kind = 2 → p.tx ≠ x) : oneTx ps x = none := by
  rw [one_same (qs := []) (by rw [isTx_no h]; rfl)]
  rfl
theorem fmap_same {ns : List Int} {f g : Int → Option TxR} (h : ∀ x ∈ ns, f x = g x) : ns.filterMap f = ns.filterMap g := fmap_congr h
/-- All that is gathered, told by any ascending list that has all numbers. -/
theorem gather_over {ps : List Pg} {ns : List Int} (ha : ns.Pairwise (· < ·)) (h : ∀ p ∈ ps, p.kind = 2 → p.tx ∈ ns) : gatherP ps = ns.filterMap (oneTx ps) := by
  have key : ns.filterMap (oneTx ps) = (ns.filter fun x => decide (x ∈ numsP ps)).filterMap (oneTx ps) := by
    rw [List.filterMap_filter]
    apply fmap_congr
    intro x _
    by_cases hx : x ∈ numsP ps
    · simp [hx]
    · simp only [hx, decide_false, Bool.false_eq_true, if_false]
      refine one_noTx (fun p hp hk e => hx ?_)
      exact (numsP_mem ps x).2 ⟨p, hp, hk, e⟩
  unfold gatherP
  rw [key]
  congr 1
  refine asc_ext (numsP_asc ps) (ha.sublist List.filter_sublist) (fun x => ?_)
  rw [List.mem_filter, decide_eq_true_eq]
  constructor
  · intro hx
    obtain ⟨p, hp, hk, e⟩ := (numsP_mem ps x).1 hx
    exact ⟨e ▸ h p hp hk, hx⟩
  · exact fun hx => hx.2
theorem nums_has {ps : List Pg} {p : Pg} (hp : p ∈ ps) (hk : p.kind = 2) : p.tx ∈ numsP ps := (numsP_mem ps p.tx).2 ⟨p, hp, hk, rfl⟩
/-- One transaction more, its number above all others. -/
theorem gather_more {ps ds : List Pg} {seq tx : Int} {l : List Rc} (hr : ∀ r ∈ l, r.Right) (hd : ∀ p ∈ ds, p.kind ≠ 2) (ht : ∀ p ∈ ps, p.kind = 2 → p.tx < tx) : gatherP (ps ++ ds ++ txPgs seq tx l) = gatherP ps ++ [⟨tx, seq, l⟩] := by
  have hT : ∀ p ∈ txPgs seq tx l, p.kind = 2 ∧ p.tx = tx := fun p hp => by
    obtain ⟨i, -, -, -, h4, h5, -⟩ := txPgs_mem hp
    exact ⟨h4, h5⟩
  have hlt : ∀ x ∈ numsP ps, x < tx := fun x hx => by
    obtain ⟨p, hp, hk, e⟩ := (numsP_mem ps x).1 hx
    exact e ▸ ht p hp hk
  rw [gather_over (ns := numsP ps ++ [tx])]
  · rw [List.filterMap_append]
    congr 1
    · apply fmap_congr
      intro x hx
      apply one_same
      have hx2 := hlt x hx
      rw [List.filter_append, List.filter_append, isTx_no (ps := ds) (fun p hp hk => absurd hk (hd p hp)), isTx_no (ps := txPgs seq tx l) (fun p hp _ e => by have := (hT p hp).2; omega)]
      simp
    · have : oneTx (ps ++ ds ++ txPgs seq tx l) tx = some ⟨tx, seq, l⟩ := by
        refine has_tx hr (fun x => ?_)
        constructor
        · rintro ⟨hx, hk, e⟩
          rcases List.mem_append.1 hx with hx | hx
          · rcases List.mem_append.1 hx with hx | hx
            · have := ht x hx hk; omega
            · exact absurd hk (hd x hx)
          · exact hx
        · intro hx
          exact ⟨List.mem_append_right _ hx, hT x hx⟩
      rw [List.filterMap_cons, this]
      rfl
  · refine List.pairwise_append.2 ⟨numsP_asc ps, List.pairwise_singleton _ _, ?_⟩
    intro a ha b hb
    rw [List.mem_singleton] at hb
    subst hb
    exact hlt a ha
  · intro p hp hk
    rcases List.mem_append.1 hp with hp | hp
    · rcases List.mem_append.1 hp with hp | hp
      · exact List.mem_append_left _ (nums_has hp hk)
      · exact absurd hk (hd p hp)
    · rw [(hT p hp).2]; simp
/-- Pages of no transaction more. -/
theorem gather_data {ps ds : List Pg} (hd : ∀ p ∈ ds, p.kind ≠ 2) : gatherP (ps ++ ds) = gatherP ps := by
  rw [gather_over (ps := ps ++ ds) (ns := numsP ps) (numsP_asc ps) (fun p hp hk => by
    rcases List.mem_append.1 hp with hp | hp
    · exact nums_has hp hk
    · exact absurd hk (hd p hp))]
  unfold gatherP
  apply fmap_congr
  intro x _
  apply one_same
  rw [List.filter_append, isTx_no (ps := ds) (fun p hp hk => absurd hk (hd p hp)), List.append_nil]
theorem one_num {ps : List Pg} {x : Int} {t : TxR} (h : oneTx ps x = some t) : t.num = x := by
  unfold oneTx at h
  cases hp : partsP ps x with
  | none => rw [hp] at h; cases h
  | some l =>
    rw [hp] at h
    simp only at h
    cases hr : recs (catP l).data.toList 0 with
    | none => rw [hr] at h; cases h
    | some rs => rw [hr] at h; cases h; rfl
theorem gather_in {ps : List Pg} {t : TxR} (h : t ∈ gatherP ps) : ∃ p ∈ ps, p.kind = 2 ∧ p.tx = t.num := by
  obtain ⟨x, hx, e⟩ := List.mem_filterMap.1 h
  obtain ⟨p, hp, hk, e2⟩ := (numsP_mem ps x).1 hx
  exact ⟨p, hp, hk, by rw [e2, one_num e]⟩
/-- What is gathered from a number on hangs on the pages from that number on alone. -/
theorem gather_cut {ps qs : List Pg} (b : Int) (h : ∀ x, b ≤ x → ps.filter (isTx x) = qs.filter (isTx x)) : (gatherP ps).filter (fun t => decide (b ≤ t.num)) = (gatherP qs).filter (fun t => decide (b ≤ t.num)) := by
  have e : ∀ rs : List Pg, (gatherP rs).filter (fun t => decide (b ≤ t.num)) = ((numsP rs).filter (fun x => decide (b ≤ x))).filterMap (oneTx rs) := fun rs => by
    unfold gatherP
    rw [List.filter_filterMap, List.filterMap_filter]
    apply fmap_congr
    intro x _
    cases ho : oneTx rs x with
    | none => simp [Option.filter]
    | some t =>
      have := one_num ho
      by_cases hb : b ≤ x
      · simp [Option.filter, this, hb]
      · simp [Option.filter, this, hb]
  have mem : ∀ {rs us : List Pg}, (∀ x, b ≤ x → rs.filter (isTx x) = us.filter (isTx x)) → ∀ x, b ≤ x → x ∈ numsP rs → x ∈ numsP us := by
    intro rs us hh x hb hx
    obtain ⟨p, hp, hk, e2⟩ := (numsP_mem rs x).1 hx
    have : p ∈ rs.filter (isTx x) := List.mem_filter.2 ⟨hp, by simp [isTx, hk, e2]⟩
    rw [hh x hb] at this
    obtain ⟨hp2, -⟩ := List.mem_filter.1 this
    exact (numsP_mem us x).2 ⟨p, hp2, hk, e2⟩
  rw [e ps, e qs]
  have hn : (numsP ps).filter (fun x => decide (b ≤ x)) = (numsP qs).filter (fun x => decide (b ≤ x)) := by
    refine asc_ext ((numsP_asc ps).sublist List.filter_sublist) ((numsP_asc qs).sublist List.filter_sublist) (fun x => ?_)
    rw [List.mem_filter, List.mem_filter, decide_eq_true_eq]
    exact ⟨fun hx => ⟨mem h x hx.2 hx.1, hx.2⟩, fun hx => ⟨mem (fun y hy => (h y hy).symm) x hx.2 hx.1, hx.2⟩⟩
  rw [hn]
  apply fmap_congr
  intro x hx
  exact one_same (h x (by have := (List.mem_filter.1 hx).2; simpa using this))

/-- From the last base on, with one more. -/
theorem baseAt_app (L : List TxR) (t : TxR) : ∀ i, i ≤ L.length → baseAt (L ++ [t]) i = baseAt L i := by
  intro i
  induction i with
  | zero => intro _; rfl
  | succ i ih =>
    intro hi
    simp only [baseAt]
    rw [List.getElem?_append_left (by omega), ih (by omega)]
theorem since_snoc (L : List TxR) (t : TxR) : sinceP (L ++ [t]) = if t.base then [t] else sinceP L ++ [t] := by
  unfold sinceP
  rw [List.length_append]
  simp only [List.length_cons, List.length_nil]
  rw [baseAt]
  rw [List.getElem?_append_right (Nat.le_refl _)]
  simp only [Nat.sub_self, List.getElem?_cons_zero]
  cases hb : t.base with
  | true =>
    simp only [if_true]
    rw [List.drop_append_of_le_length (Nat.le_refl _), List.drop_length]
    rfl
  | false =>
    simp only [Bool.false_eq_true, if_false]
    rw [baseAt_app L t _ (Nat.le_refl _), List.drop_append_of_le_length (baseAt_le L _)]
theorem since_suffix (L : List TxR) : ∃ A, L = A ++ sinceP L := ⟨L.take (baseAt L L.length), (List.take_append_drop _ _).symm⟩
/-- A list whose head is a base, or that has nothing ahead, and with no base behind: it is what is since the base. -/
theorem since_is {A B : List TxR} (h0 : ∀ t ∈ B.tail, t.base = false) (h1 : ∀ t, B.head? = some t → t.base = true ∨ A = []) (h2 : B = [] → A = []) : sinceP (A ++ B) = B := by
  cases B with
  | nil => rw [h2 rfl]; rfl
  | cons t B =>
    have hs := baseAt_spec (A ++ t :: B) (A ++ t :: B).length (Nat.le_refl _)
    have hle := baseAt_le (A ++ t :: B) (A ++ t :: B).length
    obtain ⟨g1, g2⟩ := hs
    generalize hz : baseAt (A ++ t :: B) (A ++ t :: B).length = z at g1 g2 hle
    have hzA : z = A.length := by
      rcases h1 t rfl with hb | hA
      · rcases Nat.lt_trichotomy z A.length with q | q | q
        · have := g2 A.length t q (by simp) (by rw [List.getElem?_append_right (Nat.le_refl _)]; simp)
          rw [hb] at this; cases this
        · exact q
        · rcases g1 with g1 | ⟨u, hu, hub⟩
          · omega
          · rw [List.getElem?_append_right (by omega)] at hu
            obtain ⟨j, hj⟩ : ∃ j, z - A.length = j + 1 := ⟨z - A.length - 1, by omega⟩
            rw [hj, List.getElem?_cons_succ] at hu
            have := h0 u (List.mem_of_getElem? hu)
            rw [hub] at this; cases this
      · subst hA
        rcases g1 with g1 | ⟨u, hu, hub⟩
        · exact g1
        · cases z with
          | zero => rfl
          | succ j =>
            rw [List.nil_append, List.getElem?_cons_succ] at hu
            have := h0 u (List.mem_of_getElem? hu)
            rw [hub] at this; cases this
    unfold sinceP
    rw [hz, hzA, List.drop_append_of_le_length (Nat.le_refl _), List.drop_length]
    rfl
theorem since_tail (L : List TxR) : ∀ t ∈ (sinceP L).tail, t.base = false := by
  intro t ht
  obtain ⟨-, g2⟩ := baseAt_spec L L.length (Nat.le_refl _)
  unfold sinceP at ht
  rw [List.tail_drop] at ht
  obtain ⟨i, hi⟩ := List.getElem?_of_mem ht
  rw [List.getElem?_drop] at hi
  exact g2 _ t (by omega) (List.getElem?_eq_some_iff.1 hi).1 hi
theorem since_head (L : List TxR) : (∀ t, (sinceP L).head? = some t → t.base = true ∨ sinceP L = L) := by
  intro t ht
  obtain ⟨g1, -⟩ := baseAt_spec L L.length (Nat.le_refl _)
  unfold sinceP at ht ⊢
  rcases g1 with g1 | ⟨u, hu, hb⟩
  · right; rw [g1]; rfl
  · left
    rw [List.head?_drop, hu] at ht
    cases ht
    exact hb
end Go.Proofs.YtiicghepilbgfaaGreatDoor
