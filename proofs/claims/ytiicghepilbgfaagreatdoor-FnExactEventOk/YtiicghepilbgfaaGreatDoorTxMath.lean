/-
  Plain facts on transactions: records packed into pages, pages gathered again. No Go in them.
-/
import Derived.Test.YtiicghepilbgfaaGreatDoorPk9
namespace Go.Proofs.YtiicghepilbgfaaGreatDoor.Words

def recsB (l : List Rc) : ByteArray := ⟨(recsL l).toArray⟩
theorem recsB_size (l : List Rc) : (recsB l).size = (recsL l).length := by show (recsL l).toArray.size = _; simp
theorem recsB_list (l : List Rc) : (recsB l).data.toList = recsL l := rfl
theorem recsB_snoc (l : List Rc) (r : Rc) : recsB l ++ recA r = recsB (l ++ [r]) := by
  apply ba_ext
  rw [ByteArray.data_append, Array.toList_append, recA_list]
  show (recsL l).toArray.toList ++ recL r = (recsL (l ++ [r])).toArray.toList
  rw [recsL_snoc]
theorem recsB_one (r : Rc) : recsB [r] = recA r := by
  apply ba_ext
  rw [recA_list]
  show recL r ++ [] = _
  simp
theorem recsB_nil : recsB [] = ⟨#[]⟩ := rfl

/-- Records laid into texts of at most 90 bytes, each filled as long as the next one fits. -/
def pkStep (s : List (List Rc) × List Rc) (r : Rc) : List (List Rc) × List Rc :=
  if 90 < (recsL s.2).length + (recL r).length then (s.1 ++ [s.2], [r]) else (s.1, s.2 ++ [r])
def pk (l : List Rc) : List (List Rc) × List Rc := l.foldl pkStep ([], [])
def pkG (l : List Rc) : List (List Rc) := (pk l).1 ++ [(pk l).2]
theorem pk_nil : pk [] = ([], []) := rfl
theorem pk_snoc (l : List Rc) (r : Rc) : pk (l ++ [r]) = pkStep (pk l) r := by simp [pk, List.foldl_append]
theorem pk_take {l : List Rc} {k : Nat} {r : Rc} (h : l[k]? = some r) : pk (l.take (k + 1)) = pkStep (pk (l.take k)) r := by
  rw [List.take_add_one, h]
  exact pk_snoc _ _
theorem pkG_pos (l : List Rc) : 0 < (pkG l).length := by simp [pkG]
theorem snoc_ind {α : Type} {P : List α → Prop} (h0 : P []) (h1 : ∀ l r, P l → P (l ++ [r])) : ∀ l, P l := by
  intro l
  have : ∀ m : List α, P m.reverse := by
    intro m
    induction m with
    | nil => simpa using h0
    | cons a m ih => rw [List.reverse_cons]; exact h1 _ _ ih
  simpa using this l.reverse
theorem pk_flat (l : List Rc) : (pkG l).flatten = l := by
  induction l using snoc_ind with
  | h0 => rfl
  | h1 l r ih =>
    unfold pkG at *
    rw [pk_snoc]
    unfold pkStep
    split
    · simp only [List.flatten_append, List.flatten_cons, List.flatten_nil, List.append_nil] at ih ⊢
      rw [ih]
    · simp only [List.flatten_append, List.flatten_cons, List.flatten_nil, List.append_nil] at ih ⊢
      rw [← List.append_assoc, ih]
theorem pk_small (l : List Rc) (h : ∀ r ∈ l, r.Right) : ∀ g ∈ pkG l, (recsL g).length ≤ 90 := by
  induction l using snoc_ind with
  | h0 => intro g hg; simp [pkG, pk_nil] at hg; subst hg; simp [recsL]
  | h1 l r ih =>
    have ih' := ih (fun x hx => h x (by simp [hx]))
    have hr := recL_len r (h r (by simp))
    unfold pkG at *
    rw [pk_snoc]
    unfold pkStep
    intro g hg
    split at hg
    · simp only [List.mem_append, List.mem_singleton] at hg ih'
      rcases hg with (hg | hg) | hg
      · exact ih' g (.inl hg)
      · exact ih' g (.inr hg)
      · subst hg; simp only [recsL, List.append_nil]; omega
    · simp only [List.mem_append, List.mem_singleton] at hg ih'
      rcases hg with hg | hg
      · exact ih' g (.inl hg)
      · subst hg; rw [recsL_snoc, List.length_append]; omega
theorem pk_count (l : List Rc) : (pk l).1.length ≤ l.length := by
  induction l using snoc_ind with
  | h0 => simp [pk_nil]
  | h1 l r ih =>
    rw [pk_snoc]
    unfold pkStep
    split <;> simp <;> omega
/-- Texts are filled: few of them. -/
theorem pk_fill (l : List Rc) (h : ∀ r ∈ l, r.Right) : 72 * (pk l).1.length + (recsL (pk l).2).length ≤ (recsL l).length := by
  induction l using snoc_ind with
  | h0 => simp [pk_nil, recsL]
  | h1 l r ih =>
    have ih' := ih (fun x hx => h x (by simp [hx]))
    have hr := recL_len r (h r (by simp))
    rw [pk_snoc, recsL_snoc, List.length_append]
    unfold pkStep
    split
    · simp only [List.length_append, List.length_cons, List.length_nil, recsL, List.append_nil]; omega
    · simp only [recsL_snoc, List.length_append]; omega

/-- What TxPages takes. -/
def TxOk (seq tx : Int) (l : List Rc) : Prop :=
  (∀ r ∈ l, r.Right) ∧ (pkG l).length ≤ 9 ∧ 1 ≤ seq ∧ seq ≤ 1000000000 - (pkG l).length + 1 ∧ 1 ≤ tx ∧ tx ≤ 1000000000
abbrev decTx (seq tx : Int) (l : List Rc) : Decidable (TxOk seq tx l) := by unfold TxOk; exact @instDecidableAnd _ _ (@List.decidableBAll _ _ (fun r => r.decR) l) _
/-- Its pages. -/
def pgTx (seq tx : Int) (n : Nat) (i : Nat) (g : List Rc) : Pg := ⟨2, seq + i, tx, i, n, recsB g⟩
def txPgs (seq tx : Int) (l : List Rc) : List Pg := (pkG l).mapIdx (pgTx seq tx (pkG l).length)
theorem txPgs_len (seq tx : Int) (l : List Rc) : (txPgs seq tx l).length = (pkG l).length := by simp [txPgs]
theorem txPgs_at {seq tx : Int} {l : List Rc} {i : Nat} {p : Pg} (h : (txPgs seq tx l)[i]? = some p) : ∃ g, (pkG l)[i]? = some g ∧ p = pgTx seq tx (pkG l).length i g := by
  unfold txPgs at h
  rw [List.getElem?_mapIdx] at h
  cases hg : (pkG l)[i]? with
  | none => rw [hg] at h; simp at h
  | some g => rw [hg] at h; simp at h; exact ⟨g, rfl, h.symm⟩
theorem txPgs_get {seq tx : Int} {l : List Rc} {i : Nat} {g : List Rc} (h : (pkG l)[i]? = some g) : (txPgs seq tx l)[i]? = some (pgTx seq tx (pkG l).length i g) := by
  unfold txPgs
  rw [List.getElem?_mapIdx, h]
  rfl
def txOut (seq tx : Int) (l : List Rc) : List Pg := letI := decTx seq tx l; if TxOk seq tx l then txPgs seq tx l else []

/-- The first page of a transaction. -/
def first0 (ps : List Pg) (tx : Int) : Option Pg := ps.find? (fun p => decide (p.kind = 2 ∧ p.tx = tx ∧ p.part = 0))
/-- A further one. -/
def firstK (ps : List Pg) (tx k c : Int) : Option Pg := ps.find? (fun p => decide (p.kind = 2 ∧ p.tx = tx ∧ p.part = k ∧ p.count = c))
def moreP (ps : List Pg) (tx c : Int) : Nat → Nat → Option (List Pg)
  | 0, _ => some []
  | n + 1, k =>
    match firstK ps tx k c with
    | none => none
    | some p => (moreP ps tx c n (k + 1)).map (p :: ·)
def partsP (ps : List Pg) (tx : Int) : Option (List Pg) :=
  match first0 ps tx with
  | none => none
  | some p => (moreP ps tx p.count (p.count.toNat - 1) 1).map (p :: ·)
structure TxR where
  num : Int
  seq : Int
  recs : List Rc
def catP (l : List Pg) : ByteArray := ⟨(l.flatMap (fun p => p.text.data.toList)).toArray⟩
theorem catP_nil : catP [] = ⟨#[]⟩ := rfl
theorem catP_snoc (l : List Pg) (p : Pg) : catP l ++ p.text = catP (l ++ [p]) := by
  apply ba_ext
  rw [ByteArray.data_append, Array.toList_append]
  simp [catP]
theorem catP_list (l : List Pg) : (catP l).data.toList = l.flatMap (fun p => p.text.data.toList) := rfl
def least : List Pg → Int
  | [] => 0
  | p :: l => l.foldl (fun m q => if q.seq < m then q.seq else m) p.seq
theorem least_one (p : Pg) : least [p] = p.seq := rfl
theorem least_snoc {l : List Pg} (h : l ≠ []) (q : Pg) : least (l ++ [q]) = if q.seq < least l then q.seq else least l := by
  cases l with
  | nil => exact absurd rfl h
  | cons p l =>
    show (l ++ [q]).foldl _ p.seq = _
    rw [List.foldl_append]
    rfl
def oneTx (ps : List Pg) (tx : Int) : Option TxR :=
  match partsP ps tx with
  | none => none
  | some l => (recs (catP l).data.toList 0).map (fun rs => ⟨tx, least l, rs⟩)
/-- Numbers of transactions, ascending. -/
def insN (ns : List Int) (x : Int) : List Int := ns.filter (fun y => decide (y < x)) ++ [x] ++ ns.filter (fun y => decide (x < y))
def numStep (ns : List Int) (p : Pg) : List Int := if p.kind = 2 then insN ns p.tx else ns
def numsP (ps : List Pg) : List Int := ps.foldl numStep []
theorem numsP_take {ps : List Pg} {k : Nat} {p : Pg} (h : ps[k]? = some p) : numsP (ps.take (k + 1)) = numStep (numsP (ps.take k)) p := by
  rw [List.take_add_one, h]
  simp [numsP, List.foldl_append]
theorem numsP_snoc (ps : List Pg) (p : Pg) : numsP (ps ++ [p]) = numStep (numsP ps) p := by simp [numsP, List.foldl_append]
theorem insN_mem (ns : List Int) (x y : Int) : y ∈ insN ns x ↔ y = x ∨ y ∈ ns := by
  simp only [insN, List.mem_append, List.mem_filter, List.mem_singleton, dcT]
  constructor
  · rintro ((⟨h, -⟩ | h) | ⟨h, -⟩) <;> simp_all
  · rintro (h | h)
    · simp [h]
    · rcases Int.lt_trichotomy y x with g | g | g <;> simp_all
theorem insN_asc (ns : List Int) (x : Int) (h : ns.Pairwise (· < ·)) : (insN ns x).Pairwise (· < ·) := by
  unfold insN
  rw [List.pairwise_append, List.pairwise_append]
  refine ⟨⟨h.filter _, by simp, ?_⟩, h.filter _, ?_⟩
  · intro a ha b hb
    simp at ha hb
    omega
  · intro a ha b hb
    simp at ha hb
    omega
theorem insN_len (ns : List Int) (x : Int) : (insN ns x).length ≤ ns.length + 1 := by
  have h : (ns.filter (fun y => decide (y < x))).length + (ns.filter (fun y => decide (x < y))).length ≤ ns.length := by
    induction ns with
    | nil => simp
    | cons a ns ih =>
      rw [List.filter_cons, List.filter_cons]
      rcases Int.lt_trichotomy a x with g | g | g
      · have e : ¬ x < a := by omega
        simp only [g, e, decide_true, decide_false, if_true, List.length_cons]
        simp only [Bool.false_eq_true, if_false]
        omega
      · have e : ¬ x < a := by omega
        have e2 : ¬ a < x := by omega
        simp only [e, e2, decide_false, List.length_cons]
        simp only [Bool.false_eq_true, if_false]
        omega
      · have e : ¬ a < x := by omega
        simp only [g, e, decide_true, decide_false, if_true, List.length_cons]
        simp only [Bool.false_eq_true, if_false]
        omega
  simp only [insN, List.length_append, List.length_cons, List.length_nil]
  omega
theorem numsP_asc (ps : List Pg) : (numsP ps).Pairwise (· < ·) := by
  induction ps using snoc_ind with
  | h0 => simp [numsP]
  | h1 ps p ih =>
    rw [numsP_snoc]
    unfold numStep
    split
    · exact insN_asc _ _ ih
    · exact ih
theorem numsP_mem (ps : List Pg) (x : Int) : x ∈ numsP ps ↔ ∃ p ∈ ps, p.kind = 2 ∧ p.tx = x := by
  induction ps using snoc_ind with
  | h0 => simp [numsP]
  | h1 ps p ih =>
    rw [numsP_snoc]
    unfold numStep
    split
    · rename_i hk
      rw [insN_mem, ih]
      constructor
      · rintro (h | ⟨q, hq, h⟩)
        · exact ⟨p, by simp, hk, h.symm⟩
        · exact ⟨q, by simp [hq], h⟩
      · rintro ⟨q, hq, h1, h2⟩
        rw [List.mem_append, List.mem_singleton] at hq
        rcases hq with hq | hq
        · exact .inr ⟨q, hq, h1, h2⟩
        · subst hq; exact .inl h2.symm
    · rename_i hk
      rw [ih]
      constructor
      · rintro ⟨q, hq, h⟩; exact ⟨q, by simp [hq], h⟩
      · rintro ⟨q, hq, h1, h2⟩
        rw [List.mem_append, List.mem_singleton] at hq
        rcases hq with hq | hq
        · exact ⟨q, hq, h1, h2⟩
        · subst hq; exact absurd h1 hk
/-- Two rows that ascend and have the same members are the same. -/
theorem asc_ext : ∀ {a b : List Int}, a.Pairwise (· < ·) → b.Pairwise (· < ·) → (∀ x, x ∈ a ↔ x ∈ b) → a = b := by
  intro a
  induction a with
  | nil =>
    intro b _ _ h
    cases b with
    | nil => rfl
    | cons y b => have := (h y).2 (by simp); simp at this
  | cons x a ih =>
    intro b ha hb h
    cases b with
    | nil => have := (h x).1 (by simp); simp at this
    | cons y b =>
      obtain ⟨a1, a2⟩ := List.pairwise_cons.1 ha
      obtain ⟨b1, b2⟩ := List.pairwise_cons.1 hb
      have exy : x = y := by
        have h1 := (h x).1 (by simp)
        have h2 := (h y).2 (by simp)
        rw [List.mem_cons] at h1 h2
        rcases h1 with h1 | h1
        · exact h1
        · rcases h2 with h2 | h2
          · exact h2.symm
          · have := b1 x h1; have := a1 y h2; omega
      subst exy
      refine congrArg _ (ih a2 b2 fun z => ?_)
      have hz := h z
      rw [List.mem_cons, List.mem_cons] at hz
      constructor
      · intro m
        rcases hz.1 (.inr m) with e | e
        · subst e; have := a1 z m; omega
        · exact e
      · intro m
        rcases hz.2 (.inr m) with e | e
        · subst e; have := b1 z m; omega
        · exact e
theorem numsP_len (ps : List Pg) : (numsP ps).length ≤ ps.length := by
  induction ps using snoc_ind with
  | h0 => simp [numsP]
  | h1 ps p ih =>
    rw [numsP_snoc, List.length_append]
    unfold numStep
    split
    · have := insN_len (numsP ps) p.tx
      simp only [List.length_cons, List.length_nil]; omega
    · omega
/-- What is gathered. -/
def gatherP (ps : List Pg) : List TxR := (numsP ps).filterMap (oneTx ps)
theorem gatherP_asc (ps : List Pg) : ((gatherP ps).map (·.num)).Pairwise (· < ·) := by
  have h := numsP_asc ps
  unfold gatherP
  generalize numsP ps = ns at h
  induction ns with
  | nil => simp
  | cons n ns ih =>
    obtain ⟨h1, h2⟩ := List.pairwise_cons.1 h
    rw [List.filterMap_cons]
    split
    · exact ih h2
    · rename_i x hx
      rw [List.map_cons, List.pairwise_cons]
      refine ⟨?_, ih h2⟩
      intro y hy
      have en : ∀ {m : Int} {z : TxR}, oneTx ps m = some z → z.num = m := by
        intro m z hz
        unfold oneTx at hz
        split at hz
        · cases hz
        · cases hr : recs (catP _).data.toList 0 with
          | none => rw [hr] at hz; cases hz
          | some rs => rw [hr] at hz; cases hz; rfl
      obtain ⟨z, hz, rfl⟩ := List.mem_map.1 hy
      obtain ⟨m, hm, hmz⟩ := List.mem_filterMap.1 hz
      rw [en hx, en hmz]
      exact h1 m hm

/-- From the last base on. -/
def TxR.base (t : TxR) : Bool := match t.recs with
  | [] => false
  | r :: _ => r.kind == 1
def baseAt (l : List TxR) : Nat → Nat
  | 0 => 0
  | i + 1 => match l[i]? with
    | none => baseAt l i
    | some t => if t.base then i else baseAt l i
def sinceP (l : List TxR) : List TxR := l.drop (baseAt l l.length)
theorem baseAt_le (l : List TxR) : ∀ i, baseAt l i ≤ i := by
  intro i
  induction i with
  | zero => simp [baseAt]
  | succ i ih =>
    simp only [baseAt]
    split
    · omega
    · split <;> omega
theorem baseAt_spec (l : List TxR) : ∀ i, i ≤ l.length → (baseAt l i = 0 ∨ ∃ t, l[baseAt l i]? = some t ∧ t.base = true) ∧ ∀ j t, baseAt l i < j → j < i → l[j]? = some t → t.base = false := by
  intro i
  induction i with
  | zero => intro _; exact ⟨.inl rfl, fun j t h1 h2 => by omega⟩
  | succ i ih =>
    intro hi
    obtain ⟨h1, h2⟩ := ih (by omega)
    have hle := baseAt_le l i
    simp only [baseAt]
    split
    · rename_i hn
      have := List.getElem?_eq_none_iff.1 hn
      omega
    · rename_i t ht
      cases hb : t.base with
      | true => exact ⟨.inr ⟨t, by simpa using ht, hb⟩, fun j u g1 g2 => by simp at g1; omega⟩
      | false =>
        refine ⟨by simpa using h1, fun j u g1 g2 g3 => ?_⟩
        simp at g1
        by_cases e : j = i
        · subst e; rw [ht] at g3; cases g3; exact hb
        · exact h2 j u g1 (by omega) g3
end Go.Proofs.YtiicghepilbgfaaGreatDoor.Words
