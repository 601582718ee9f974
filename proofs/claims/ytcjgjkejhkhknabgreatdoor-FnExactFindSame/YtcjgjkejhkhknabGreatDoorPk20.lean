/-
  TkKn; TkI2; TkIs; MapG; SMath; SeP; RdP; SoMath; FoP
-/
import Derived.Test.YtcjgjkejhkhknabGreatDoorPk18
import Derived.Test.YtcjgjkejhkhknabGreatDoorKnTo
import Derived.Test.YtcjgjkejhkhknabGreatDoorPk4
import Derived.Test.YtcjgjkejhkhknabGreatDoorPk0
import Derived.Maps.OwnSet
import Derived.Test.YtcjgjkejhkhknabGreatDoorPk5
import Derived.Test.YtcjgjkejhkhknabGreatDoorPk14
/-
  What the laws hold: arenas.
-/
namespace Go.Proofs.YtcjgjkejhkhknabGreatDoor
open Go.RowKit
open Words

/-- Where the marks of a row of knots end. -/
def kend : Nat → List Kn → Nat
  | k, [] => k
  | k, t :: l => kend (k + 1 + t.kids.length) l
def kkids (l : List Kn) : Nat := (l.map (fun t => t.kids.length)).sum
theorem kend_eq : ∀ (l : List Kn) (k : Nat), kend k l = k + l.length + kkids l := by
  intro l
  induction l with
  | nil => intro k; simp [kend, kkids]
  | cons t l ih => intro k; rw [kend, ih, List.length_cons]; unfold kkids; rw [List.map_cons, List.sum_cons]; omega
theorem vend_kend : ∀ (rs : List Kw) (k : Nat), vend k (rs.map vOf) = kend k (rs.map ktell) := by
  intro rs
  induction rs with
  | nil => intro k; rfl
  | cons r rs ih => intro k; simp only [List.map_cons, vend, kend, ih]; rfl
def OkK (M : List Kn) : Prop := M.length ≤ 1048580 ∧ (∀ t ∈ M, t.kids.length ≤ 1048576) ∧ kend 1 M ≤ 1000000000
theorem kmem_sum {l : List Kn} {x : Kn} (h : x ∈ l) : x.kids.length ≤ kkids l := by
  unfold kkids
  induction l with
  | nil => cases h
  | cons q l ih =>
    rw [List.map_cons, List.sum_cons]
    rcases List.mem_cons.1 h with e | e
    · subst e; omega
    · have := ih e; omega
theorem OkK.of {M : List Kn} (h1 : M.length ≤ 1048576) (h2 : kkids M ≤ 1048576) : OkK M :=
  ⟨by omega, fun t ht => Nat.le_trans (kmem_sum ht) h2, by rw [kend_eq]; omega⟩
theorem ksum_kids (rs : List Kw) : kkids (rs.map ktell) = ksum rs := by unfold kkids ksum; rw [List.map_map]; rfl
/-- A row that is marked. -/
def MKn (lo hi : Nat) (v : Value) (m : Nat) : World → Prop := fun W => ∃ ys : List Vw, ys.length ≤ 1048580 ∧ (∀ y ∈ ys, y.2.2.1 ≤ 1048576) ∧ vend 1 ys = m ∧ VIn lo hi v (vmk 1 ys) W
theorem MKn.loc (lo hi : Nat) (v : Value) (m : Nat) : Loc lo hi (MKn lo hi v m) := by
  rintro w w' hk ⟨ys, h1, h2, h3, h4⟩
  exact ⟨ys, h1, h2, h3, VIn.loc _ _ _ _ w w' hk h4⟩
theorem OkK.row {M : List Kn} {rs : List Kw} (ho : OkK M) (hr : rs.map ktell = M) : rs.length ≤ 1048580 ∧ ∀ r ∈ rs, r.2.2.length ≤ 1048576 := by
  refine ⟨by have := congrArg List.length hr; simp only [List.length_map] at this; rw [this]; exact ho.1, fun r hr2 => ?_⟩
  exact ho.2.1 (ktell r) (by rw [← hr]; exact List.mem_map.2 ⟨r, hr2, rfl⟩)
/-- What answers an arena and owns it. -/
def ArOut (w : World) (M : List Kn) (e : Ending) (w' : World) : Prop :=
  ∃ uv rs, e = .returned (.agg #[uv]) ∧ KOwn w' w.heap.size uv rs ∧ rs.map ktell = M ∧ Below w.heap.size w w'
theorem toar_tk {w wi : World} {hs : List Hold} {a : Option Addr} {len cap : Nat} {rs : List Kw} {M : List Kn} (T : Tk w wi hs) (H : KnRd w a len rs) (hl : len ≤ 1048576) (hll : ∀ r ∈ rs, r.2.2.length ≤ 1048576) (hM : rs.map ktell = M) :
    Calls Tryz.prog 32 #[.agg #[.slice a len cap]] wi fun e w' => ∃ g : Nat, e = .returned (.agg #[.slice (some ⟨g, 0, none⟩) len len]) ∧ Tk w w' ((wi.heap.size, w'.heap.size, Kns wi.heap.size w'.heap.size (.slice (some ⟨g, 0, none⟩) len len) M) :: hs) ∧ wi.heap.size ≤ w'.heap.size := by
  refine (toAr_any a len cap rs wi hl hll (H.below T.1)).mono ?_
  rintro e w' ⟨g, ss, rfl, hx, ht, hb⟩
  exact ⟨g, rfl, T.add hb (Kns.loc _ _ _ _) ⟨ss, by rw [ht, hM], hx.kns⟩, hb.size⟩
theorem eqar_tk {w wi : World} {hs : List Hold} {a b : Value} {M : List Kn} {l1 h1 l2 h2 : Nat} (T : Tk w wi hs) (n1 n2 : Nat) (ho : OkK M) (e1 : hs[n1]? = some (l1, h1, Kns l1 h1 a M)) (e2 : hs[n2]? = some (l2, h2, Kns l2 h2 b M)) :
    Calls Tryz.prog 36 #[.agg #[a], .agg #[b]] wi fun e w' => e = .returned (.bool true) ∧ Tk w w' hs ∧ wi.heap.size ≤ w'.heap.size := by
  obtain ⟨rs, hr, hx⟩ := T.get n1 e1
  obtain ⟨ss, hs', hy⟩ := T.get n2 e2
  obtain ⟨q1, q2⟩ := ho.row hr
  refine (eqAr_same a b rs ss l1 h1 l2 h2 wi (by omega) (fun r hr => by have := q2 r hr; omega) hx hy (by rw [hr, hs']) (T.hi n1 e1) (T.hi n2 e2)).mono ?_
  rintro e w' ⟨rfl, hb⟩
  exact ⟨rfl, T.below hb, hb.size⟩
end Go.Proofs.YtcjgjkejhkhknabGreatDoor

/-
  What the laws hold: rows of numbers with marks from any number on; what a sweep leaves is within the laws' measure.
-/
namespace Go.Proofs.YtcjgjkejhkhknabGreatDoor
open Go.RowKit
open Words

/-- A row of numbers with the marks from k on. -/
def IsK (lo hi : Nat) (v : Value) (n k : Nat) : World → Prop := Sli 3 lo hi v n (mkFlat patI k n)
theorem IsK.loc (lo hi : Nat) (v : Value) (n k : Nat) : Loc lo hi (IsK lo hi v n k) := Sli.loc _ _ _ _ _ _
theorem tois_tk {w wi : World} {hs : List Hold} {a : Option Addr} {n cap : Nat} {l : List Int} (T : Tk w wi hs) (H : IRow w a n l) (hn : n ≤ 1048576) :
    Calls Tryz.prog 8 #[.slice a n cap] wi fun e w' => ∃ g : Nat, e = .returned (.slice (some ⟨g, 0, none⟩) n n) ∧ Tk w w' ((wi.heap.size, w'.heap.size, Sli 3 wi.heap.size w'.heap.size (.slice (some ⟨g, 0, none⟩) n n) n (icells l)) :: hs) ∧ wi.heap.size ≤ w'.heap.size := by
  refine (toIs_any a n cap l wi hn (H.below T.1)).mono ?_
  rintro e w' ⟨g, rfl, ho, hb⟩
  rw [H.1] at ho
  exact ⟨g, rfl, T.add hb (Sli.loc _ _ _ _ _ _) (Sli.of ho), hb.size⟩
theorem eqi_tk2 {w wi : World} {hs : List Hold} {a b : Value} {l : List Int} {n l1 h1 l2 h2 : Nat} (T : Tk w wi hs) (n1 n2 : Nat) (hn : l.length = n) (hm : n ≤ 1048576) (e1 : hs[n1]? = some (l1, h1, Sli 3 l1 h1 a n (icells l))) (e2 : hs[n2]? = some (l2, h2, Sli 3 l2 h2 b n (icells l))) :
    Calls Tryz.prog 11 #[a, b] wi fun e w' => e = .returned (.bool true) ∧ Tk w w' hs ∧ wi.heap.size ≤ w'.heap.size := by
  refine (eqIs_same a b l n l1 h1 l2 h2 wi hn (by omega) (T.get n1 e1) (T.get n2 e2)).mono ?_
  rintro e w' ⟨rfl, hb⟩
  exact ⟨rfl, T.below hb, hb.size⟩
theorem kkids_four {l : List Kn} (h : ∀ x ∈ l, x.kids.length = 4) : kkids l = 4 * l.length := by
  unfold kkids
  induction l with
  | nil => rfl
  | cons a l ih =>
    rw [List.map_cons, List.sum_cons, ih (fun x hx => h x (List.mem_cons_of_mem _ hx)), h a (List.mem_cons.2 (.inl rfl)), List.length_cons]
    omega
theorem arB_four {l : List Kn} (h : arB l = true) : ∀ x ∈ l, x.kids.length = 4 := fun x hx => by
  obtain ⟨i, hi⟩ := List.getElem?_of_mem hx
  exact knB_len (arB_at h hi)
/-- What is swept is no more than there was. -/
theorem sweep_ok {M : List Kn} {R : List Int} (h1 : M.length ≤ 1048576) (h2 : kkids M ≤ 1048576) : OkK (sweepL M R) := by
  unfold sweepL
  split
  · rename_i hb
    have ht := swB_ok hb
    have e1 := kkids_four (arB_four ht.1)
    have e2 := kkids_four (arB_four (sw_right ht))
    have := sw_less (l := M) (rs := R)
    exact OkK.of (by omega) (by omega)
  · exact OkK.of h1 h2
theorem kend_pos (M : List Kn) : 0 < kend 1 M := by rw [kend_eq]; omega
end Go.Proofs.YtcjgjkejhkhknabGreatDoor

/-
  What the laws hold: rows of numbers.
-/
namespace Go.Proofs.YtcjgjkejhkhknabGreatDoor
open Go.RowKit
open Words

/-- A row of numbers in the blocks lo to hi. -/
def IsH (lo hi : Nat) (v : Value) (n : Nat) (l : List Int) : World → Prop := Sli 3 lo hi v n (icells l)
theorem IsH.loc (lo hi : Nat) (v : Value) (n : Nat) (l : List Int) : Loc lo hi (IsH lo hi v n l) := Sli.loc _ _ _ _ _ _
/-- The same, marked. -/
def IsM (lo hi : Nat) (v : Value) (n : Nat) : World → Prop := Sli 3 lo hi v n (mkFlat patI 1 n)
theorem IsM.loc (lo hi : Nat) (v : Value) (n : Nat) : Loc lo hi (IsM lo hi v n) := Sli.loc _ _ _ _ _ _
theorem eqis_tk {w wi : World} {hs : List Hold} {a b : Value} {l : List Int} {n l1 h1 l2 h2 : Nat} (T : Tk w wi hs) (n1 n2 : Nat) (hn : l.length = n) (hm : n ≤ 1048576) (e1 : hs[n1]? = some (l1, h1, IsH l1 h1 a n l)) (e2 : hs[n2]? = some (l2, h2, IsH l2 h2 b n l)) :
    Calls Tryz.prog 11 #[a, b] wi fun e w' => e = .returned (.bool true) ∧ Tk w w' hs ∧ wi.heap.size ≤ w'.heap.size := by
  refine (eqIs_same a b l n l1 h1 l2 h2 wi hn (by omega) (T.get n1 e1) (T.get n2 e2)).mono ?_
  rintro e w' ⟨rfl, hb⟩
  exact ⟨rfl, T.below hb, hb.size⟩
end Go.Proofs.YtcjgjkejhkhknabGreatDoor

/-
  Maps by keys of one plain kind: what stands at a key, and m[k] = v.
-/
namespace Go.Proofs.YtcjgjkejhkhknabGreatDoor
open Go.RowKit
open Go.ChangeMaps (setBlock heap_setBlock_same heap_setBlock_other)

section
variable {K α : Type} [DecidableEq K]
def atG (l : List (K × α)) (k : K) : Option α := (l.find? (fun p => decide (p.1 = k))).map (·.2)
def KeydG (l : List (K × α)) : Prop := l.Pairwise (fun a b => a.1 ≠ b.1)
/-- The list behind m[k] = v. -/
def newG (l : List (K × α)) (k : K) (v : α) : List (K × α) := if (atG l k).isSome then l.map (fun p => if p.1 = k then (k, v) else p) else l ++ [(k, v)]
theorem atG_cons (p : K × α) (l : List (K × α)) (k : K) : atG (p :: l) k = if p.1 = k then some p.2 else atG l k := by
  unfold atG
  rw [List.find?_cons]
  by_cases h : p.1 = k <;> simp [h]
theorem atG_none {l : List (K × α)} {k : K} : atG l k = none ↔ ∀ p ∈ l, p.1 ≠ k := by
  induction l with
  | nil => simp [atG]
  | cons a l ih =>
    rw [atG_cons]
    by_cases h : a.1 = k
    · simp [h]
    · simp [h, ih]
theorem atG_mem {l : List (K × α)} {k : K} {v : α} (h : atG l k = some v) : (k, v) ∈ l := by
  induction l with
  | nil => simp [atG] at h
  | cons a l ih =>
    rw [atG_cons] at h
    by_cases e : a.1 = k
    · rw [if_pos e] at h
      cases h
      subst e
      exact List.mem_cons_self
    · rw [if_neg e] at h
      exact List.mem_cons_of_mem _ (ih h)
theorem mem_atG {l : List (K × α)} {k : K} {v : α} (hk : KeydG l) (h : (k, v) ∈ l) : atG l k = some v := by
  induction l with
  | nil => cases h
  | cons a l ih =>
    obtain ⟨q1, q2⟩ := List.pairwise_cons.1 hk
    rw [atG_cons]
    rcases List.mem_cons.1 h with e | e
    · subst e; simp
    · rw [if_neg (q1 _ e)]
      exact ih q2 e
theorem atG_snoc (l : List (K × α)) (k : K) (v : α) (x : K) : atG (l ++ [(k, v)]) x = (atG l x).or (if k = x then some v else none) := by
  induction l with
  | nil => rw [List.nil_append, atG_cons]; simp [atG]
  | cons a l ih =>
    rw [List.cons_append, atG_cons, atG_cons, ih]
    by_cases h : a.1 = x <;> simp [h]
theorem KeydG.snoc {l : List (K × α)} {k : K} {v : α} (h : KeydG l) (hn : atG l k = none) : KeydG (l ++ [(k, v)]) := by
  refine List.pairwise_append.2 ⟨h, List.pairwise_singleton _ _, ?_⟩
  intro a ha b hb
  rw [List.mem_singleton] at hb
  subst hb
  exact atG_none.1 hn a ha
theorem atG_set (l : List (K × α)) (k : K) (v : α) (x : K) : atG (l.map (fun p => if p.1 = k then (k, v) else p)) x = if x = k then (atG l k).map (fun _ => v) else atG l x := by
  induction l with
  | nil => simp [atG]
  | cons a l ih =>
    rw [List.map_cons, atG_cons, ih, atG_cons, atG_cons]
    by_cases h : a.1 = k
    · by_cases hx : x = k
      · subst hx; simp [h]
      · have : ¬ k = x := fun e => hx e.symm
        simp [h, hx, this]
    · by_cases hx : x = k
      · subst hx; simp [h]
      · simp [h, hx]
theorem atG_new (l : List (K × α)) (k : K) (v : α) (x : K) : atG (newG l k v) x = if x = k then some v else atG l x := by
  unfold newG
  cases h : atG l k with
  | none =>
    simp only [Option.isSome_none, Bool.false_eq_true, if_false]
    rw [atG_snoc]
    by_cases e : x = k
    · subst e; simp [h]
    · rw [if_neg e, if_neg (fun q => e q.symm)]; simp
  | some u =>
    simp only [Option.isSome_some, if_true]
    rw [atG_set, h]
    rfl
theorem KeydG.new {l : List (K × α)} {k : K} {v : α} (h : KeydG l) : KeydG (newG l k v) := by
  unfold newG
  cases e : atG l k with
  | none => simp only [Option.isSome_none, Bool.false_eq_true, if_false]; exact h.snoc e
  | some u =>
    simp only [Option.isSome_some, if_true]
    unfold KeydG
    rw [List.pairwise_map]
    refine h.imp ?_
    intro a b hab
    by_cases e1 : a.1 = k <;> by_cases e2 : b.1 = k
    · exact absurd (e1.trans e2.symm) hab
    · rw [if_pos e1, if_neg e2]; exact fun q => e2 q.symm
    · rw [if_neg e1, if_pos e2]; exact e1
    · rw [if_neg e1, if_neg e2]; exact hab
theorem setG_is {l : List (K × α)} {x : K} {j : Nat} {u : α} (v : α) (h : KeydG l) (hj : l[j]? = some (x, u)) : l.map (fun p => if p.1 = x then (x, v) else p) = l.set j (x, v) := by
  induction l generalizing j with
  | nil => simp at hj
  | cons a l ih =>
    obtain ⟨q1, q2⟩ := List.pairwise_cons.1 h
    rw [List.map_cons]
    cases j with
    | zero =>
      simp only [List.getElem?_cons_zero, Option.some.injEq] at hj
      subst hj
      rw [if_pos rfl, List.set_cons_zero]
      congr 1
      rw [List.map_congr_left (g := id)]
      · simp
      · intro p hp
        rw [if_neg (fun e => q1 p hp e.symm)]
        rfl
    | succ j =>
      rw [List.getElem?_cons_succ] at hj
      rw [if_neg (q1 _ (List.mem_of_getElem? hj)), List.set_cons_succ, ih q2 hj]
end
/-- Block b is a map that has at each key what the list tells. -/
def MapG {K : Type} (en : K → Value) (w : World) (b : Nat) (l : List (K × Value)) : Prop := KeydG l ∧ ∃ es clock, w.heap[b]? = some (.map es clock) ∧ es.toList.map (fun e => (e.key, e.val)) = l.map (fun p => (en p.1, p.2))
/-- Keys of one plain kind. -/
structure KeysG {K : Type} (P : Program) (k : TypeId) (en : K → Value) (d : TypeDesc) : Prop where
  ty : P.underlying k = some d
  is : ∀ a, MapKept.IsKey d (en a)
  inj : ∀ a b, en a = en b → a = b
section
variable {K : Type} {P : Program} {t k e : TypeId} {en : K → Value} {d : TypeDesc} {w w' : World} {b : Nat} {l : List (K × Value)}
theorem MapG.lt (h : MapG en w b l) : b < w.heap.size := by
  obtain ⟨-, es, clock, h1, -⟩ := h
  exact (Array.getElem?_eq_some_iff.1 h1).1
theorem MapG.same (h : MapG en w b l) (e : w'.heap[b]? = w.heap[b]?) : MapG en w' b l := by
  obtain ⟨h0, es, clock, h1, h2⟩ := h
  exact ⟨h0, es, clock, e.trans h1, h2⟩
theorem MapG.below (h : MapG en w b l) (hb : Below w.heap.size w w') : MapG en w' b l := h.same (hb.block _ h.lt)
theorem MapG.grown {row : Option Nat} (h : MapG en w b l) (hg : w.grownBy w' row) (hn : some b ≠ row) : MapG en w' b l := h.same (hg.block _ h.lt hn)
theorem MapG.made (w : World) : MapG en (w.alloc (.map #[] 0)) w.heap.size [] := ⟨List.Pairwise.nil, #[], 0, heap_alloc_new w _, rfl⟩
theorem MapG.not_cells (h : MapG en w b l) {cs : Array Value} {e : TypeId} {z : Nat × Nat} (hc : w.heap[b]? = some (.cells cs e z)) : False := by
  obtain ⟨-, es, clock, h1, -⟩ := h
  rw [h1] at hc
  cases hc
end
section
variable {K : Type} [DecidableEq K] {P : Program} {t k e : TypeId} {en : K → Value} {d : TypeDesc} {w w' : World} {b : Nat} {l : List (K × Value)}
theorem findG {es : Array MapEntry} (hk : KeysG P k en d) (hd : KeydG l) (h : es.toList.map (fun e => (e.key, e.val)) = l.map (fun p => (en p.1, p.2))) (x : K) (w : World) :
    ((Instr.findKey k (en x) es.toList).run P w = .ok none w ∧ atG l x = none) ∨ ∃ j v, (Instr.findKey k (en x) es.toList).run P w = .ok (some (j, v)) w ∧ l[j]? = some (x, v) ∧ atG l x = some v := by
  have hks : ∀ y ∈ es.toList, MapKept.IsKey d y.key := by
    intro y hy
    have : (y.key, y.val) ∈ es.toList.map (fun e => (e.key, e.val)) := List.mem_map.2 ⟨y, hy, rfl⟩
    rw [h] at this
    obtain ⟨p, -, hp⟩ := List.mem_map.1 this
    have : y.key = en p.1 := (congrArg Prod.fst hp).symm
    rw [this]
    exact hk.is _
  rcases MapKept.findNow_spec (d := d) (k := en x) (hk.is x) es.toList 0 hks with ⟨h1, h2⟩ | ⟨j, e0, h1, h2, h3⟩
  · refine .inl ⟨MapKept.run_findKey hk.ty h1, atG_none.2 fun p hp e => ?_⟩
    have : (en p.1, p.2) ∈ l.map (fun p => (en p.1, p.2)) := List.mem_map.2 ⟨p, hp, rfl⟩
    rw [← h] at this
    obtain ⟨y, hy, ey⟩ := List.mem_map.1 this
    refine h2 y hy ?_
    have := congrArg Prod.fst ey
    simp only at this
    rw [this, e]
  · have e1 : (l.map (fun p => (en p.1, p.2)))[j]? = some (e0.key, e0.val) := by rw [← h, List.getElem?_map, h2]; rfl
    rw [List.getElem?_map] at e1
    cases hl : l[j]? with
    | none => rw [hl] at e1; cases e1
    | some p =>
      rw [hl] at e1
      simp only [Option.map_some, Option.some.injEq, Prod.mk.injEq] at e1
      obtain ⟨e1, e2⟩ := e1
      rw [h3] at e1
      have e1 := hk.inj _ _ e1
      have ep : p = (x, e0.val) := by rw [← e1, ← e2]
      refine .inr ⟨j, e0.val, by simpa using MapKept.run_findKey hk.ty h1, by rw [hl, ep], mem_atG hd ?_⟩
      rw [← ep]
      exact List.mem_of_getElem? hl
/-- m[x], and v, ok := m[x]. -/
theorem MapG.look (h : MapG en w b l) (ht : P.underlying t = some (.map k e)) (hk : KeysG P k en d) {z : Value} (hz : (zeroValue e).run P w = .ok z w) (x : K) (c : Bool) :
    (Instr.lookup t (.map (some b)) (en x) c).run P w = .ok (if c then .tuple #[(atG l x).getD z, .bool (atG l x).isSome] else (atG l x).getD z) w := by
  obtain ⟨h0, es, clock, hb, h2⟩ := h
  have hc : ∀ em, (Instr.checkKey em 10000 k (en x)).run P w = .ok () w := fun em => MapKept.run_checkKey hk.ty (hk.is x) em 9999
  rcases findG hk h0 h2 x w with ⟨h1, h3⟩ | ⟨j, v, h1, -, h3⟩
  · simp [Instr.lookup, run_underlying ht, MapKept.run_getObj_map hb, hc, h1, hz, h3, Result.andThen]
  · simp [Instr.lookup, run_underlying ht, MapKept.run_getObj_map hb, hc, h1, h3, Result.andThen]
/-- m[x] = v. -/
theorem MapG.new (h : MapG en w b l) (ht : P.underlying t = some (.map k e)) (hk : KeysG P k en d) (x : K) (v : Value) :
    ∃ w', (Instr.mapUpdate t (.map (some b)) (en x) v).run P w = .ok () w' ∧ MapG en w' b (newG l x v) ∧ w.grownBy w' (some b) ∧ w'.heap.size = w.heap.size := by
  obtain ⟨h0, es, clock, hb, h2⟩ := h
  have hc : ∀ em, (Instr.checkKey em 10000 k (en x)).run P w = .ok () w := fun em => MapKept.run_checkKey hk.ty (hk.is x) em 9999
  rcases findG hk h0 h2 x w with ⟨h1, h3⟩ | ⟨j, u, h1, hj, h3⟩
  · refine ⟨setBlock w b (.map (es.push ⟨en x, v, clock⟩) (clock + 1)), ?_, ⟨h0.new, _, _, heap_setBlock_same hb _, ?_⟩, ?_, by simp [setBlock]⟩
    · simp [Instr.mapUpdate, run_underlying ht, MapKept.run_getObj_map hb, hc, h1, MapKept.run_setObj_map _ hb, Result.andThen, setBlock]
    · unfold newG
      rw [h3]
      simp [h2]
    · exact ⟨rfl, rfl, rfl, by simp [setBlock], fun i _ hi => heap_setBlock_other hb _ (fun e1 => hi (by rw [e1]))⟩
  · have e1 : newG l x v = l.set j (x, v) := by unfold newG; rw [h3]; exact setG_is v h0 hj
    have hjs : j < es.size := by
      have := congrArg List.length h2
      have q := (List.getElem?_eq_some_iff.1 hj).1
      simp only [List.length_map, Array.length_toList] at this
      omega
    obtain ⟨ej, hej⟩ : ∃ ej, es[j]? = some ej := ⟨_, Array.getElem?_eq_getElem hjs⟩
    have hkey : ej.key = en x := by
      have q : (es.toList.map (fun e => (e.key, e.val)))[j]? = some (ej.key, ej.val) := by rw [List.getElem?_map, Array.getElem?_toList, hej]; rfl
      rw [h2, List.getElem?_map, hj] at q
      simp only [Option.map_some, Option.some.injEq, Prod.mk.injEq] at q
      exact q.1.symm
    refine ⟨setBlock w b (.map (es.modify j fun e => { e with key := en x, val := v }) clock), ?_, ⟨h0.new, _, clock, heap_setBlock_same hb _, ?_⟩, ?_, by simp [setBlock]⟩
    · have hst : (Instr.keyThatStays (en x) (en x)).run P w = .ok (en x) w := MapKept.run_keyThatStays (hk.is x)
      simp [Instr.mapUpdate, run_underlying ht, MapKept.run_getObj_map hb, hc, h1, hej, hkey, hst, MapKept.run_setObj_map _ hb, Result.andThen, setBlock]
    · rw [e1, Array.toList_modify]
      apply List.ext_getElem?
      intro i
      have hi : (es.toList.map (fun e => (e.key, e.val)))[i]? = (l.map (fun p => (en p.1, p.2)))[i]? := by rw [h2]
      rw [List.getElem?_map, List.getElem?_map] at hi
      rw [List.getElem?_map, List.getElem?_map, List.getElem?_modify, List.getElem?_set]
      by_cases hij : j = i
      · subst hij
        rw [if_pos rfl, if_pos (List.getElem?_eq_some_iff.1 hj).1, Array.getElem?_toList, hej]
        simp
      · rw [if_neg hij]
        cases hq : es.toList[i]? with
        | none => rw [hq] at hi; simpa [hij] using hi
        | some y => rw [hq] at hi; simpa [hij] using hi
    · exact ⟨rfl, rfl, rfl, by simp [setBlock], fun i _ hi => heap_setBlock_other hb _ (fun e1 => hi (by rw [e1]))⟩
end
/-- Numbers, and texts, as keys. -/
def enI (a : Int) : Value := .int .i64 a
def enS (a : List UInt8) : Value := .string ⟨a.toArray⟩
theorem keysI : KeysG Tryz.prog 3 enI (.int .i64) := ⟨Tryz.underlying3, fun _ => rfl, fun a b h => by unfold enI at h; injection h⟩
theorem keysS : KeysG Tryz.prog 9 enS .string := ⟨Tryz.underlying9, fun _ => trivial, fun a b h => by
  unfold enS at h
  injection h with h
  have := congrArg (fun x : ByteArray => x.data.toList) h
  simpa using this⟩
end Go.Proofs.YtcjgjkejhkhknabGreatDoor

/-
  Plain facts on sums of 32 bits: no Go in them.
-/
namespace Go.Proofs.YtcjgjkejhkhknabGreatDoor.Sums

def poly : Nat := 3558460437
def half (x : Nat) : Nat := x / 2 ^^^ (if x % 2 = 1 then poly else 0)
def h4 (x : Nat) : Nat := half (half (half (half x)))
/-- A sum and one byte more. -/
def sumB (s : Nat) (b : UInt8) : Nat := h4 (h4 (s ^^^ b.toNat))
/-- A sum and more bytes. -/
def sumL (s : Nat) (l : List UInt8) : Nat := l.foldl sumB s

def tab : List Nat := [0, 1166650509, 2333301018, 3466261911, 3189058079, 4221339282, 889615109, 1888477064, 3558460437, 2442158232, 1594529039, 444807554, 1779230218, 797264519, 3776954128, 2761298845]

theorem xor_right_cancel {x y z : Nat} (h : x ^^^ z = y ^^^ z) : x = y := by
  have := congrArg (· ^^^ z) h
  simpa [Nat.xor_assoc] using this
theorem xor_left_cancel {x y z : Nat} (h : z ^^^ x = z ^^^ y) : x = y := by
  rw [Nat.xor_comm z, Nat.xor_comm z] at h
  exact xor_right_cancel h
theorem mod2_lt (x : Nat) : x % 2 = 0 ∨ x % 2 = 1 := by omega

theorem half_lt (x : Nat) (h : x < 4294967296) : half x < 4294967296 := by
  unfold half
  refine Nat.xor_lt_two_pow (n := 32) (by omega) ?_
  split <;> simp [poly]
theorem h4_lt (x : Nat) (h : x < 4294967296) : h4 x < 4294967296 := half_lt _ (half_lt _ (half_lt _ (half_lt _ h)))
theorem byte_lt (b : UInt8) : b.toNat < 256 := by have := b.toNat_lt; omega
theorem xor_lt32 (x y : Nat) (h : x < 4294967296) (k : y < 4294967296) : x ^^^ y < 4294967296 := Nat.xor_lt_two_pow (n := 32) h k
theorem xb_lt (s : Nat) (b : UInt8) (h : s < 4294967296) : s ^^^ b.toNat < 4294967296 := xor_lt32 _ _ h (by have := byte_lt b; omega)
theorem sumB_lt (s : Nat) (b : UInt8) (h : s < 4294967296) : sumB s b < 4294967296 := h4_lt _ (h4_lt _ (xb_lt s b h))
theorem sumL_lt (l : List UInt8) : ∀ s, s < 4294967296 → sumL s l < 4294967296 := by
  induction l with
  | nil => intro s h; exact h
  | cons a l ih => intro s h; exact ih _ (sumB_lt s a h)
theorem sumL_app (s : Nat) (l k : List UInt8) : sumL s (l ++ k) = sumL (sumL s l) k := by simp [sumL]
theorem sumL_take (s : Nat) (l : List UInt8) (k : Nat) (h : k < l.length) : sumL s (l.take (k + 1)) = sumB (sumL s (l.take k)) l[k] := by
  rw [List.take_succ_eq_append_getElem h, sumL_app]; rfl

theorem xor_half (x y : Nat) : half (x ^^^ y) = half x ^^^ half y := by
  unfold half
  have e1 : (x ^^^ y) / 2 = x / 2 ^^^ y / 2 := by
    have := Nat.shiftRight_xor_distrib (a := x) (b := y) (i := 1)
    simpa [Nat.shiftRight_eq_div_pow] using this
  have e2 : (x ^^^ y) % 2 = (x % 2) ^^^ (y % 2) := by
    have := Nat.xor_mod_two_pow (a := x) (b := y) (n := 1)
    simpa using this
  rw [e1, e2]
  rcases mod2_lt x with hx | hx <;> rcases mod2_lt y with hy | hy <;> simp [hx, hy]
  · rw [Nat.xor_assoc]
  · rw [Nat.xor_assoc, Nat.xor_assoc]; congr 1; exact Nat.xor_comm _ _
  · rw [Nat.xor_assoc, ← Nat.xor_assoc poly, Nat.xor_comm poly, Nat.xor_assoc (y / 2), Nat.xor_self, Nat.xor_zero]
theorem xor_h4 (x y : Nat) : h4 (x ^^^ y) = h4 x ^^^ h4 y := by simp only [h4, xor_half]

theorem half_two (x : Nat) : half (2 * x) = x := by
  unfold half
  have e1 : 2 * x / 2 = x := by omega
  have e2 : 2 * x % 2 = 0 := by omega
  rw [e1, e2]; simp
theorem h4_16 (q : Nat) : h4 (16 * q) = q := by
  unfold h4
  rw [show 16 * q = 2 * (2 * (2 * (2 * q))) by omega, half_two, half_two, half_two, half_two]
theorem h4_low : ∀ r : Fin 16, h4 r.val = tab[r.val]'(by simp [tab]) := by decide
theorem split16 (x : Nat) : x = (16 * (x / 16)) ^^^ (x % 16) := by
  have h := Nat.two_pow_add_eq_or_of_lt (i := 4) (b := x % 16) (by omega) (x / 16)
  have e : 16 * (x / 16) ^^^ (x % 16) = 16 * (x / 16) ||| (x % 16) := by
    apply Nat.eq_of_testBit_eq
    intro i
    rw [Nat.testBit_xor, Nat.testBit_or]
    have e16 : (16 : Nat) = 2 ^ 4 := rfl
    by_cases hi : i < 4
    · have : (16 * (x / 16)).testBit i = false := by rw [e16, Nat.testBit_two_pow_mul]; simp; omega
      simp [this]
    · have : (x % 16).testBit i = false := by rw [e16, Nat.testBit_mod_two_pow]; simp; omega
      simp [this]
  rw [e]
  simp at h
  omega
theorem tab_len : tab.length = 16 := rfl
theorem h4_tab (x : Nat) (h : x % 16 < tab.length) : h4 x = x / 16 ^^^ tab[x % 16] := by
  have e := h4_low ⟨x % 16, by omega⟩
  simp only at e
  rw [← e]
  conv => lhs; rw [split16 x, xor_h4, h4_16]

theorem half_inj (x y : Nat) (hx : x < 4294967296) (hy : y < 4294967296) (h : half x = half y) : x = y := by
  have top : ∀ z, z < 4294967296 → (half z).testBit 31 = decide (z % 2 = 1) := by
    intro z hz
    unfold half
    rw [Nat.testBit_xor]
    have : (z / 2).testBit 31 = false := Nat.testBit_lt_two_pow (by omega)
    rw [this]
    rcases mod2_lt z with h | h <;> simp [h]
    decide
  have t := top x hx
  rw [h, top y hy] at t
  unfold half at h
  have em : x % 2 = y % 2 := by
    rcases mod2_lt x with h1 | h1 <;> rcases mod2_lt y with h2 | h2 <;> simp [h1, h2] at t ⊢
  rw [em] at h
  have := xor_right_cancel h
  omega
theorem h4_inj (x y : Nat) (hx : x < 4294967296) (hy : y < 4294967296) (h : h4 x = h4 y) : x = y :=
  half_inj _ _ hx hy (half_inj _ _ (half_lt _ hx) (half_lt _ hy) (half_inj _ _ (half_lt _ (half_lt _ hx)) (half_lt _ (half_lt _ hy)) (half_inj _ _ (half_lt _ (half_lt _ (half_lt _ hx))) (half_lt _ (half_lt _ (half_lt _ hy))) h)))
theorem sumB_inj (s t : Nat) (b c : UInt8) (hs : s < 4294967296) (ht : t < 4294967296) (h : sumB s b = sumB t c) : s ^^^ b.toNat = t ^^^ c.toNat :=
  h4_inj _ _ (xb_lt _ _ hs) (xb_lt _ _ ht) (h4_inj _ _ (h4_lt _ (xb_lt _ _ hs)) (h4_lt _ (xb_lt _ _ ht)) h)
theorem sumL_inj (l : List UInt8) : ∀ (s t : Nat), s < 4294967296 → t < 4294967296 → sumL s l = sumL t l → s = t := by
  induction l with
  | nil => intro s t _ _ h; exact h
  | cons a l ih =>
    intro s t hs ht h
    have := sumB_inj s t a a hs ht (ih _ _ (sumB_lt s a hs) (sumB_lt t a ht) h)
    exact xor_right_cancel this
/-- One byte turned turns the sum. -/
theorem sumL_turned (s : Nat) (hs : s < 4294967296) (l k : List UInt8) (b c : UInt8) (h : sumL s (l ++ b :: k) = sumL s (l ++ c :: k)) : b = c := by
  rw [sumL_app, sumL_app] at h
  have hl := sumL_lt l s hs
  have h1 := sumL_inj k _ _ (sumB_lt _ b hl) (sumB_lt _ c hl) h
  have h2 := xor_left_cancel (sumB_inj _ _ b c hl hl h1)
  exact UInt8.toNat_inj.1 h2

/-- A sum in four bytes, the highest first. -/
def four (x : Nat) : List UInt8 := [UInt8.ofNat (x / 16777216 % 256), UInt8.ofNat (x / 65536 % 256), UInt8.ofNat (x / 256 % 256), UInt8.ofNat (x % 256)]
theorem four_len (x : Nat) : (four x).length = 4 := rfl
theorem ofNat_inj (a b : Nat) (ha : a < 256) (hb : b < 256) (h : UInt8.ofNat a = UInt8.ofNat b) : a = b := by
  have := congrArg UInt8.toNat h
  simp at this
  omega
theorem four_inj (x y : Nat) (hx : x < 4294967296) (hy : y < 4294967296) (h : four x = four y) : x = y := by
  simp only [four, List.cons.injEq, and_true] at h
  obtain ⟨h1, h2, h3, h4⟩ := h
  have := ofNat_inj _ _ (by omega) (by omega) h1
  have := ofNat_inj _ _ (by omega) (by omega) h2
  have := ofNat_inj _ _ (by omega) (by omega) h3
  have := ofNat_inj _ _ (by omega) (by omega) h4
  omega
def start : Nat := 4294967295
def sumOf (l : List UInt8) : Nat := sumL start l
theorem sumOf_lt (l : List UInt8) : sumOf l < 4294967296 := sumL_lt l _ (by decide)
def sealL (l : List UInt8) : List UInt8 := l ++ four (sumOf l)
theorem seal_len (l : List UInt8) : (sealL l).length = l.length + 4 := by simp [sealL, four]
/-- A sealed text with one byte turned is no sealed text. -/
theorem seal_turned (l m k1 k2 : List UInt8) (b c : UInt8) (hbc : b ≠ c) (h1 : sealL l = k1 ++ b :: k2) (h2 : sealL m = k1 ++ c :: k2) : False := by
  have e1 := congrArg List.length h1
  have e2 := congrArg List.length h2
  rw [seal_len] at e1 e2
  simp at e1 e2
  have hml : m.length = l.length := by omega
  by_cases hk : k1.length < l.length
  · -- the byte lies in the text
    have t1 : l = k1 ++ b :: k2.take (l.length - k1.length - 1) := by
      have := congrArg (List.take l.length) h1
      rw [sealL, List.take_left] at this
      rw [this, List.take_append, List.take_of_length_le (by omega)]
      rw [show l.length - k1.length = (l.length - k1.length - 1) + 1 by omega, List.take_succ_cons]
      simp
    have t2 : m = k1 ++ c :: k2.take (l.length - k1.length - 1) := by
      have := congrArg (List.take m.length) h2
      rw [sealL, List.take_left] at this
      rw [this, List.take_append, List.take_of_length_le (by omega), hml]
      rw [show l.length - k1.length = (l.length - k1.length - 1) + 1 by omega, List.take_succ_cons]
      simp
    have d1 := congrArg (List.drop l.length) h1
    have d2 := congrArg (List.drop m.length) h2
    rw [sealL, List.drop_left] at d1 d2
    rw [hml] at d2
    rw [List.drop_append, List.drop_of_length_le (by omega), show l.length - k1.length = (l.length - k1.length - 1) + 1 by omega, List.drop_succ_cons] at d1 d2
    have d3 : sumOf l = sumOf m := four_inj _ _ (sumOf_lt l) (sumOf_lt m) (d1.trans d2.symm)
    rw [t1, t2] at d3
    exact hbc (sumL_turned start (by decide) _ _ b c d3)
  · have t1 : l = k1.take l.length := by
      have := congrArg (List.take l.length) h1
      rw [sealL, List.take_left, List.take_append_of_le_length (by omega)] at this
      exact this
    have t2 : m = k1.take l.length := by
      have := congrArg (List.take m.length) h2
      rw [sealL, List.take_left, List.take_append_of_le_length (by omega), hml] at this
      exact this
    have e : m = l := t2.trans t1.symm
    subst e
    rw [h1] at h2
    have := List.append_cancel_left h2
    simp at this
    exact hbc this
end Go.Proofs.YtcjgjkejhkhknabGreatDoor.Sums

/-
  Texts sealed with a sum, in plain words.
-/
namespace Go.Proofs.YtcjgjkejhkhknabGreatDoor
open Sums

def sealA (t : ByteArray) : ByteArray := t ++ ⟨(four (sumOf t.data.toList)).toArray⟩
theorem sealA_size (t : ByteArray) : (sealA t).size = t.size + 4 := by
  simp [sealA, ByteArray.size_append]; rfl
theorem sealA_list (t : ByteArray) : (sealA t).data.toList = sealL t.data.toList := by
  simp [sealA, sealL, ByteArray.data_append]

def body (t : ByteArray) : ByteArray := t.extract 0 (t.size - 4)
theorem body_size (t : ByteArray) : (body t).size = t.size - 4 := by simp [body]
/-- What stands sealed in a text, if any does. -/
def unA (t : ByteArray) : Option ByteArray :=
  if 4 ≤ t.size ∧ t.size ≤ 20004 ∧ (sealA (body t)).data.toList = t.data.toList then some (body t) else none
theorem unA_some {t s : ByteArray} (h : unA t = some s) : sealA s = t ∧ s.size ≤ 20000 := by
  unfold unA at h
  split at h
  · rename_i hc
    cases h
    exact ⟨ByteArray.ext (Array.toList_inj.1 hc.2.2), by rw [body_size]; omega⟩
  · cases h
theorem body_seal (s : ByteArray) : body (sealA s) = s := by
  unfold body
  rw [sealA_size]
  apply ByteArray.ext
  unfold sealA
  have e : s.size + 4 - 4 = s.data.size := by simp
  rw [e]
  simp [ByteArray.data_append, ByteArray.data_extract]
theorem unA_seal (s : ByteArray) (h : s.size ≤ 20000) : unA (sealA s) = some s := by
  unfold unA
  rw [body_seal, if_pos ⟨by rw [sealA_size]; omega, by rw [sealA_size]; omega, rfl⟩]

theorem unA_none {t : ByteArray} (h : ¬ (4 ≤ t.size ∧ t.size ≤ 20004 ∧ sealA (body t) = t)) : unA t = none := by
  unfold unA
  rw [if_neg]
  rintro ⟨a, b, c⟩
  exact h ⟨a, b, ByteArray.ext (Array.toList_inj.1 c)⟩
theorem unA_yes {t : ByteArray} (h1 : 4 ≤ t.size) (h2 : t.size ≤ 20004) (h3 : sealA (body t) = t) : unA t = some (body t) := by
  unfold unA
  rw [if_pos ⟨h1, h2, by rw [h3]⟩]

end Go.Proofs.YtcjgjkejhkhknabGreatDoor

/-
  What a text is read as, in plain words.
-/
namespace Go.Proofs.YtcjgjkejhkhknabGreatDoor
open Words Sums

def readPg (t : ByteArray) : Option Pg := match unA t with | none => none | some s => pgOf s
theorem readPg_seal (p : Pg) (h : p.Right) : readPg (sealA (pageA p)) = some p := by
  unfold readPg
  rw [unA_seal _ (by have := pageA_size p h; omega)]
  exact pg_read p h
theorem readPg_right {t : ByteArray} {p : Pg} (h : readPg t = some p) : p.Right ∧ sealA (pageA p) = t := by
  unfold readPg at h
  cases hu : unA t with
  | none => rw [hu] at h; cases h
  | some s =>
    rw [hu] at h
    simp only at h
    unfold pgOf at h
    split at h
    · cases h
    · rename_i k0 h0
      split at h
      · cases h
      · rename_i a i1 h1
        split at h
        · cases h
        · rename_i b i2 h2
          split at h
          · cases h
          · rename_i c i3 h3
            split at h
            · cases h
            · rename_i d i4 h4
              split at h
              · rename_i hq
                cases h
                refine ⟨hq, ?_⟩
                rw [pg_back h0 h1 h2 h3 h4]
                exact (unA_some hu).1
              · cases h
end Go.Proofs.YtcjgjkejhkhknabGreatDoor

/-
  Plain facts on stable sorting by a key: no Go in them.
-/
namespace Go.Proofs.YtcjgjkejhkhknabGreatDoor.Words

structure Fnd where
  block : Int
  leaf : Int
  page : Pg

def Fnd.key (x : Fnd) : Int := x.page.seq

/-- A row that ascends. -/
def Asc (l : List Fnd) : Prop := l.Pairwise (fun a b => a.key ≤ b.key)
/-- Two rows that tell, of each key, the same elements in the same order. -/
def Akin (l k : List Fnd) : Prop := ∀ c : Int, l.filter (fun x => x.key == c) = k.filter (fun x => x.key == c)

theorem Akin.refl (l : List Fnd) : Akin l l := fun _ => rfl
theorem Akin.symm {l k : List Fnd} (h : Akin l k) : Akin k l := fun c => (h c).symm
theorem Akin.trans {l k m : List Fnd} (h : Akin l k) (h2 : Akin k m) : Akin l m := fun c => (h c).trans (h2 c)
theorem Akin.app {a b c d : List Fnd} (h : Akin a b) (h2 : Akin c d) : Akin (a ++ c) (b ++ d) := fun z => by
  rw [List.filter_append, List.filter_append, h z, h2 z]
theorem Akin.flip {a b : List Fnd} (h : ∀ x ∈ a, ∀ y ∈ b, x.key ≠ y.key) : Akin (a ++ b) (b ++ a) := fun c => by
  rw [List.filter_append, List.filter_append]
  by_cases hc : ∃ x ∈ a, x.key = c
  · obtain ⟨x, hx, rfl⟩ := hc
    have : b.filter (fun y => y.key == x.key) = [] := by
      rw [List.filter_eq_nil_iff]
      intro y hy
      have := h x hx y hy
      simpa using fun e => this e.symm
    rw [this]
    simp
  · have : a.filter (fun y => y.key == c) = [] := by
      rw [List.filter_eq_nil_iff]
      intro y hy
      simpa using fun e => hc ⟨y, hy, e⟩
    rw [this]
    simp
theorem Akin.mem {l k : List Fnd} (h : Akin l k) (x : Fnd) : x ∈ l ↔ x ∈ k := by
  have := h x.key
  have e : ∀ m : List Fnd, x ∈ m ↔ x ∈ m.filter (fun y => y.key == x.key) := fun m => by simp
  rw [e l, e k, this]
/-- Two rows that ascend and are alike are the same. -/
theorem Akin.eq : ∀ {l k : List Fnd}, Akin l k → Asc l → Asc k → l = k := by
  intro l
  induction l with
  | nil =>
    intro k h _ _
    cases k with
    | nil => rfl
    | cons b k =>
      have := h b.key
      simp at this
  | cons a l ih =>
    intro k h ha hk
    cases k with
    | nil =>
      have := h a.key
      simp at this
    | cons b k =>
      have hab : a.key = b.key := by
        have h1 : b ∈ a :: l := (h.mem b).2 List.mem_cons_self
        have h2 : a ∈ b :: k := (h.mem a).1 List.mem_cons_self
        have c1 : a.key ≤ b.key := by
          rcases List.mem_cons.1 h1 with e | e
          · rw [e]; exact Int.le_refl _
          · exact (List.pairwise_cons.1 ha).1 b e
        have c2 : b.key ≤ a.key := by
          rcases List.mem_cons.1 h2 with e | e
          · rw [e]; exact Int.le_refl _
          · exact (List.pairwise_cons.1 hk).1 a e
        omega
      have h0 := h a.key
      rw [List.filter_cons_of_pos (by simp), List.filter_cons_of_pos (by simp [hab])] at h0
      injection h0 with e1 _
      subst e1
      congr 1
      refine ih (fun c => ?_) (List.pairwise_cons.1 ha).2 (List.pairwise_cons.1 hk).2
      have hc := h c
      by_cases e : a.key = c
      · rw [List.filter_cons_of_pos (by simp [e]), List.filter_cons_of_pos (by simp [e])] at hc
        injection hc
      · rw [List.filter_cons_of_neg (by simpa using e), List.filter_cons_of_neg (by simpa using e)] at hc
        exact hc
theorem Asc.app {a b : List Fnd} (ha : Asc a) (hb : Asc b) (h : ∀ x ∈ a, ∀ y ∈ b, x.key ≤ y.key) : Asc (a ++ b) := List.pairwise_append.2 ⟨ha, hb, h⟩
theorem Asc.left {a b : List Fnd} (h : Asc (a ++ b)) : Asc a := (List.pairwise_append.1 h).1
theorem Asc.right {a b : List Fnd} (h : Asc (a ++ b)) : Asc b := (List.pairwise_append.1 h).2.1
theorem Asc.across {a b : List Fnd} (h : Asc (a ++ b)) : ∀ x ∈ a, ∀ y ∈ b, x.key ≤ y.key := (List.pairwise_append.1 h).2.2
theorem Asc.le {l : List Fnd} (h : Asc l) {i j : Nat} {x y : Fnd} (hi : l[i]? = some x) (hj : l[j]? = some y) (hij : i ≤ j) : x.key ≤ y.key := by
  by_cases e : i = j
  · subst e
    rw [hi] at hj
    cases hj
    exact Int.le_refl _
  · obtain ⟨h1, e1⟩ := List.getElem?_eq_some_iff.1 hi
    obtain ⟨h2, e2⟩ := List.getElem?_eq_some_iff.1 hj
    rw [← e1, ← e2]
    exact List.pairwise_iff_getElem.1 h i j h1 h2 (by omega)
theorem akin_len {l k : List Fnd} (h : Akin l k) : l.length = k.length := by
  classical
  have : l.Perm k := List.perm_iff_count.2 (fun x => by
    have h1 := h x.key
    have e : ∀ m : List Fnd, List.count x (m.filter (fun y => y.key == x.key)) = List.count x m := fun m => List.count_filter (by simp)
    rw [← e l, ← e k, h1])
  exact this.length_eq
end Go.Proofs.YtcjgjkejhkhknabGreatDoor.Words

/-
  What stands on a flash, in plain words.
-/
namespace Go.Proofs.YtcjgjkejhkhknabGreatDoor
open Words Sums

/-- The page that stands on a leaf, if one does. -/
def leafPg (bs : List Bk) (b k : Int) : Option Pg := if (readF bs b k).2 then readPg (readF bs b k).1 else none
/-- What stands on the first k leaves of block b. -/
def foundsAt (bs : List Bk) (b : Nat) : Nat → List Fnd
  | 0 => []
  | k + 1 => foundsAt bs b k ++ (match leafPg bs b k with | some p => [⟨b, k, p⟩] | none => [])
/-- What stands on the first b blocks. -/
def founds (bs : List Bk) : Nat → List Fnd
  | 0 => []
  | b + 1 => founds bs b ++ foundsAt bs b ((bs[b]?).map (fun r => r.2.2.length) |>.getD 0)
theorem foundsAt_len (bs : List Bk) (b k : Nat) : (foundsAt bs b k).length ≤ k := by
  induction k with
  | zero => exact Nat.le_refl _
  | succ k ih =>
    simp only [foundsAt, List.length_append]
    split <;> simp <;> omega

end Go.Proofs.YtcjgjkejhkhknabGreatDoor
