/-
  FdOr; MapG
-/
import Derived.Test.YtfmnaidhfgmemaaGreatDoorPk14
import Derived.Test.YtfmnaidhfgmemaaGreatDoorPk15
import Derived.Test.YtfmnaidhfgmemaaGreatDoorPk30
import Derived.Test.YtfmnaidhfgmemaaGreatDoorPk0
import Derived.Maps.OwnSet
namespace Go.Proofs.YtfmnaidhfgmemaaGreatDoor
open Go.RowKit
open Words
def fd0 : Fnd := ⟨0, 0, ⟨0, 0, 0, 0, 0, ⟨#[]⟩⟩⟩
def fdOr (o : Option Fnd) : Fnd := o.getD fd0
def FdAt (W : World) (g : Nat) (x : Fnd) : Prop := W.heap[g]? = some (.cells #[.int .i64 x.block, .int .i64 x.leaf, .int .i64 x.page.kind, .int .i64 x.page.seq, .int .i64 x.page.tx, .int .i64 x.page.part, .int .i64 x.page.count, .string x.page.text] 116 (0, 0))
theorem FdAt.below {w w' : World} {g : Nat} {x : Fnd} (h : FdAt w g x) (hb : Below w.heap.size w w') : FdAt w' g x := (hb.block _ (Array.getElem?_eq_some_iff.1 h).1).trans h
theorem FdAt.cells {W : World} {g : Nat} {x : Fnd} (h : FdAt W g x) : W.cell? ⟨g, 0, none⟩ = some (.int .i64 x.block) ∧ W.cell? ⟨g, 1, none⟩ = some (.int .i64 x.leaf) ∧ W.cell? ⟨g, 2, none⟩ = some (.int .i64 x.page.kind) ∧ W.cell? ⟨g, 3, none⟩ = some (.int .i64 x.page.seq) ∧ W.cell? ⟨g, 4, none⟩ = some (.int .i64 x.page.tx) ∧ W.cell? ⟨g, 5, none⟩ = some (.int .i64 x.page.part) ∧ W.cell? ⟨g, 6, none⟩ = some (.int .i64 x.page.count) ∧ W.cell? ⟨g, 7, none⟩ = some (.string x.page.text) :=
  ⟨cell_of_row _ _ 0 _ _ _ h, cell_of_row _ _ 1 _ _ _ h, cell_of_row _ _ 2 _ _ _ h, cell_of_row _ _ 3 _ _ _ h, cell_of_row _ _ 4 _ _ _ h, cell_of_row _ _ 5 _ _ _ h, cell_of_row _ _ 6 _ _ _ h, cell_of_row _ _ 7 _ _ _ h⟩
theorem FdRd.all {w : World} {a : Option Addr} {len : Nat} {ls : List Fnd} (h : FdRd w a len ls) {k : Nat} {t : Fnd} (hk : ls[k]? = some t) :
    ∃ b off, a = some ⟨b, off, none⟩ ∧ b < w.heap.size ∧ w.cell? ⟨b, off + k * 8, none⟩ = some (.int .i64 t.block) ∧ w.cell? ⟨b, off + k * 8 + 1, none⟩ = some (.int .i64 t.leaf) ∧
      w.cell? ⟨b, off + k * 8 + 2, none⟩ = some (.int .i64 t.page.kind) ∧ w.cell? ⟨b, off + k * 8 + 3, none⟩ = some (.int .i64 t.page.seq) ∧ w.cell? ⟨b, off + k * 8 + 4, none⟩ = some (.int .i64 t.page.tx) ∧
      w.cell? ⟨b, off + k * 8 + 5, none⟩ = some (.int .i64 t.page.part) ∧ w.cell? ⟨b, off + k * 8 + 6, none⟩ = some (.int .i64 t.page.count) ∧ w.cell? ⟨b, off + k * 8 + 7, none⟩ = some (.string t.page.text) ∧ w.cell? ⟨b, off + k * 8 + 2 + 2, none⟩ = some (.int .i64 t.page.tx) := by
  obtain ⟨b, off, e, h0, h1, h2, h3, h4, h5, h6, h7, h8⟩ := h.at hk
  exact ⟨b, off, e, h0, h1, h2, h3, h4, h5, h6, h7, h8, h5⟩
theorem FRes.rd {W : World} {B : Nat} {u : Value} {M : List Fnd} (h : FRes W B u M) : ∃ ad cap, u = .slice ad M.length cap ∧ FdRd W ad M.length M ∧ M.length ≤ 1000000000000000000 := by
  rcases h with ⟨rfl, rfl⟩ | ⟨g, cap, rfl, hB, hr, hl⟩
  · exact ⟨none, 0, rfl, ⟨rfl, by unfold maxLen; simp, fun h => by simp at h⟩, by simp⟩
  · refine ⟨_, _, rfl, ⟨rfl, by unfold maxLen; omega, fun _ => ⟨g, 0, rfl, hr.lt, fun i t hi j v hv => ?_⟩⟩, hl⟩
    rw [Nat.zero_add]
    exact hr.cell hi j hv
end Go.Proofs.YtfmnaidhfgmemaaGreatDoor

namespace Go.Proofs.YtfmnaidhfgmemaaGreatDoor
open Go.RowKit
open Go.ChangeMaps (setBlock heap_setBlock_same heap_setBlock_other)
section
variable {K α : Type} [DecidableEq K]
def atG (l : List (K × α)) (k : K) : Option α := (l.find? (fun p => decide (p.1 = k))).map (·.2)
def KeydG (l : List (K × α)) : Prop := l.Pairwise (fun a b => a.1 ≠ b.1)
def newG (l : List (K × α)) (k : K) (v : α) : List (K × α) := if (atG l k).isSome then l.map (fun p => if p.1 = k then (k, v) else p) else l ++ [(k, v)]
theorem atG_cons (p : K × α) (l : List (K × α)) (k : K) : atG (p :: l) k = if p.1 = k then some p.2 else atG l k := by
  unfold atG
  rw [List.find?_cons]
  by_cases h : p.1 = k <;> simp [h]
theorem atG_none {l : List (K × α)} {k : K} : atG l k = none ↔ ∀ p ∈ l, p.1 ≠ k := by
  induction l with
  | nil => simp [atG]
  | cons a l ih =>
    rw [atG_cons]
    by_cases h : a.1 = k
    · simp [h]
    · simp [h, ih]
theorem mem_atG {l : List (K × α)} {k : K} {v : α} (hk : KeydG l) (h : (k, v) ∈ l) : atG l k = some v := by
  induction l with
  | nil => cases h
  | cons a l ih =>
    obtain ⟨q1, q2⟩ := List.pairwise_cons.1 hk
    rw [atG_cons]
    rcases List.mem_cons.1 h with e | e
    · subst e; simp
    · rw [if_neg (q1 _ e)]
      exact ih q2 e
theorem atG_snoc (l : List (K × α)) (k : K) (v : α) (x : K) : atG (l ++ [(k, v)]) x = (atG l x).or (if k = x then some v else none) := by
  induction l with
  | nil => rw [List.nil_append, atG_cons]; simp [atG]
  | cons a l ih =>
    rw [List.cons_append, atG_cons, atG_cons, ih]
    by_cases h : a.1 = x <;> simp [h]
theorem KeydG.snoc {l : List (K × α)} {k : K} {v : α} (h : KeydG l) (hn : atG l k = none) : KeydG (l ++ [(k, v)]) := by
  refine List.pairwise_append.2 ⟨h, List.pairwise_singleton _ _, ?_⟩
  intro a ha b hb
  rw [List.mem_singleton] at hb
  subst hb
  exact atG_none.1 hn a ha
theorem atG_set (l : List (K × α)) (k : K) (v : α) (x : K) : atG (l.map (fun p => if p.1 = k then (k, v) else p)) x = if x = k then (atG l k).map (fun _ => v) else atG l x := by
  induction l with
  | nil => simp [atG]
  | cons a l ih =>
    rw [List.map_cons, atG_cons, ih, atG_cons, atG_cons]
    by_cases h : a.1 = k
    · by_cases hx : x = k
      · subst hx; simp [h]
      · have : ¬ k = x := fun e => hx e.symm
        simp [h, hx, this]
    · by_cases hx : x = k
      · subst hx; simp [h]
      · simp [h, hx]
theorem atG_new (l : List (K × α)) (k : K) (v : α) (x : K) : atG (newG l k v) x = if x = k then some v else atG l x := by
  unfold newG
  cases h : atG l k with
  | none =>
    simp only [Option.isSome_none, Bool.false_eq_true, if_false]
    rw [atG_snoc]
    by_cases e : x = k
    · subst e; simp [h]
    · rw [if_neg e, if_neg (fun q => e q.symm)]; simp
  | some u =>
    simp only [Option.isSome_some, if_true]
    rw [atG_set, h]
    rfl
theorem KeydG.new {l : List (K × α)} {k : K} {v : α} (h : KeydG l) : KeydG (newG l k v) := by
  unfold newG
  cases e : atG l k with
  | none => simp only [Option.isSome_none, Bool.false_eq_true, if_false]; exact h.snoc e
  | some u =>
    simp only [Option.isSome_some, if_true]
    unfold KeydG
    rw [List.pairwise_map]
    refine h.imp ?_
    intro a b hab
    by_cases e1 : a.1 = k <;> by_cases e2 : b.1 = k
    · exact absurd (e1.trans e2.symm) hab
    · rw [if_pos e1, if_neg e2]; exact fun q => e2 q.symm
    · rw [if_neg e1, if_pos e2]; exact e1
    · rw [if_neg e1, if_neg e2]; exact hab
theorem setG_is {l : List (K × α)} {x : K} {j : Nat} {u : α} (v : α) (h : KeydG l) (hj : l[j]? = some (x, u)) : l.map (fun p => if p.1 = x then (x, v) else p) = l.set j (x, v) := by
  induction l generalizing j with
  | nil => simp at hj
  | cons a l ih =>
    obtain ⟨q1, q2⟩ := List.pairwise_cons.1 h
    rw [List.map_cons]
    cases j with
    | zero =>
      simp only [List.getElem?_cons_zero, Option.some.injEq] at hj
      subst hj
      rw [if_pos rfl, List.set_cons_zero]
      congr 1
      rw [List.map_congr_left (g := id)]
      · simp
      · intro p hp
        rw [if_neg (fun e => q1 p hp e.symm)]
        rfl
    | succ j =>
      rw [List.getElem?_cons_succ] at hj
      rw [if_neg (q1 _ (List.mem_of_getElem? hj)), List.set_cons_succ, ih q2 hj]
end
def MapG {K : Type} (en : K → Value) (w : World) (b : Nat) (l : List (K × Value)) : Prop := KeydG l ∧ ∃ es clock, w.heap[b]? = some (.map es clock) ∧ es.toList.map (fun e => (e.key, e.val)) = l.map (fun p => (en p.1, p.2))
structure KeysG {K : Type} (P : Program) (k : TypeId) (en : K → Value) (d : TypeDesc) : Prop where
  ty : P.underlying k = some d
  is : ∀ a, MapKept.IsKey d (en a)
  inj : ∀ a b, en a = en b → a = b
section
variable {K : Type} {P : Program} {t k e : TypeId} {en : K → Value} {d : TypeDesc} {w w' : World} {b : Nat} {l : List (K × Value)}
theorem MapG.lt (h : MapG en w b l) : b < w.heap.size := by
  obtain ⟨-, es, clock, h1, -⟩ := h
  exact (Array.getElem?_eq_some_iff.1 h1).1
theorem MapG.same (h : MapG en w b l) (e : w'.heap[b]? = w.heap[b]?) : MapG en w' b l := by
  obtain ⟨h0, es, clock, h1, h2⟩ := h
  exact ⟨h0, es, clock, e.trans h1, h2⟩
theorem MapG.below (h : MapG en w b l) (hb : Below w.heap.size w w') : MapG en w' b l := h.same (hb.block _ h.lt)
theorem MapG.made (w : World) : MapG en (w.alloc (.map #[] 0)) w.heap.size [] := ⟨List.Pairwise.nil, #[], 0, heap_alloc_new w _, rfl⟩
end
section
variable {K : Type} [DecidableEq K] {P : Program} {t k e : TypeId} {en : K → Value} {d : TypeDesc} {w w' : World} {b : Nat} {l : List (K × Value)}
theorem findG {es : Array MapEntry} (hk : KeysG P k en d) (hd : KeydG l) (h : es.toList.map (fun e => (e.key, e.val)) = l.map (fun p => (en p.1, p.2))) (x : K) (w : World) :
    ((Instr.findKey k (en x) es.toList).run P w = .ok none w ∧ atG l x = none) ∨ ∃ j v, (Instr.findKey k (en x) es.toList).run P w = .ok (some (j, v)) w ∧ l[j]? = some (x, v) ∧ atG l x = some v := by
  have hks : ∀ y ∈ es.toList, MapKept.IsKey d y.key := by
    intro y hy
    have : (y.key, y.val) ∈ es.toList.map (fun e => (e.key, e.val)) := List.mem_map.2 ⟨y, hy, rfl⟩
    rw [h] at this
    obtain ⟨p, -, hp⟩ := List.mem_map.1 this
    have : y.key = en p.1 := (congrArg Prod.fst hp).symm
    rw [this]
    exact hk.is _
  rcases MapKept.findNow_spec (d := d) (k := en x) (hk.is x) es.toList 0 hks with ⟨h1, h2⟩ | ⟨j, e0, h1, h2, h3⟩
  · refine .inl ⟨MapKept.run_findKey hk.ty h1, atG_none.2 fun p hp e => ?_⟩
    have : (en p.1, p.2) ∈ l.map (fun p => (en p.1, p.2)) := List.mem_map.2 ⟨p, hp, rfl⟩
    rw [← h] at this
    obtain ⟨y, hy, ey⟩ := List.mem_map.1 this
    refine h2 y hy ?_
    have := congrArg Prod.fst ey
    simp only at this
    rw [this, e]
  · have e1 : (l.map (fun p => (en p.1, p.2)))[j]? = some (e0.key, e0.val) := by rw [← h, List.getElem?_map, h2]; rfl
    rw [List.getElem?_map] at e1
    cases hl : l[j]? with
    | none => rw [hl] at e1; cases e1
    | some p =>
      rw [hl] at e1
      simp only [Option.map_some, Option.some.injEq, Prod.mk.injEq] at e1
      obtain ⟨e1, e2⟩ := e1
      rw [h3] at e1
      have e1 := hk.inj _ _ e1
      have ep : p = (x, e0.val) := by rw [← e1, ← e2]
      refine .inr ⟨j, e0.val, by simpa using MapKept.run_findKey hk.ty h1, by rw [hl, ep], mem_atG hd ?_⟩
      rw [← ep]
      exact List.mem_of_getElem? hl
theorem MapG.look (h : MapG en w b l) (ht : P.underlying t = some (.map k e)) (hk : KeysG P k en d) {z : Value} (hz : (zeroValue e).run P w = .ok z w) (x : K) (c : Bool) :
    (Instr.lookup t (.map (some b)) (en x) c).run P w = .ok (if c then .tuple #[(atG l x).getD z, .bool (atG l x).isSome] else (atG l x).getD z) w := by
  obtain ⟨h0, es, clock, hb, h2⟩ := h
  have hc : ∀ em, (Instr.checkKey em 10000 k (en x)).run P w = .ok () w := fun em => MapKept.run_checkKey hk.ty (hk.is x) em 9999
  rcases findG hk h0 h2 x w with ⟨h1, h3⟩ | ⟨j, v, h1, -, h3⟩
  · simp [Instr.lookup, run_underlying ht, MapKept.run_getObj_map hb, hc, h1, hz, h3, Result.andThen]
  · simp [Instr.lookup, run_underlying ht, MapKept.run_getObj_map hb, hc, h1, h3, Result.andThen]
theorem MapG.new (h : MapG en w b l) (ht : P.underlying t = some (.map k e)) (hk : KeysG P k en d) (x : K) (v : Value) :
    ∃ w', (Instr.mapUpdate t (.map (some b)) (en x) v).run P w = .ok () w' ∧ MapG en w' b (newG l x v) ∧ w.grownBy w' (some b) ∧ w'.heap.size = w.heap.size := by
  obtain ⟨h0, es, clock, hb, h2⟩ := h
  have hc : ∀ em, (Instr.checkKey em 10000 k (en x)).run P w = .ok () w := fun em => MapKept.run_checkKey hk.ty (hk.is x) em 9999
  rcases findG hk h0 h2 x w with ⟨h1, h3⟩ | ⟨j, u, h1, hj, h3⟩
  · refine ⟨setBlock w b (.map (es.push ⟨en x, v, clock⟩) (clock + 1)), ?_, ⟨h0.new, _, _, heap_setBlock_same hb _, ?_⟩, ?_, by simp [setBlock]⟩
    · simp [Instr.mapUpdate, run_underlying ht, MapKept.run_getObj_map hb, hc, h1, MapKept.run_setObj_map _ hb, Result.andThen, setBlock]
    · unfold newG
      rw [h3]
      simp [h2]
    · exact ⟨rfl, rfl, rfl, by simp [setBlock], fun i _ hi => heap_setBlock_other hb _ (fun e1 => hi (by rw [e1]))⟩
  · have e1 : newG l x v = l.set j (x, v) := by unfold newG; rw [h3]; exact setG_is v h0 hj
    have hjs : j < es.size := by
      have := congrArg List.length h2
      have q := (List.getElem?_eq_some_iff.1 hj).1
      simp only [List.length_map, Array.length_toList] at this
      omega
    obtain ⟨ej, hej⟩ : ∃ ej, es[j]? = some ej := ⟨_, Array.getElem?_eq_getElem hjs⟩
    have hkey : ej.key = en x := by
      have q : (es.toList.map (fun e => (e.key, e.val)))[j]? = some (ej.key, ej.val) := by rw [List.getElem?_map, Array.getElem?_toList, hej]; rfl
      rw [h2, List.getElem?_map, hj] at q
      simp only [Option.map_some, Option.some.injEq, Prod.mk.injEq] at q
      exact q.1.symm
    refine ⟨setBlock w b (.map (es.modify j fun e => { e with key := en x, val := v }) clock), ?_, ⟨h0.new, _, clock, heap_setBlock_same hb _, ?_⟩, ?_, by simp [setBlock]⟩
    · have hst : (Instr.keyThatStays (en x) (en x)).run P w = .ok (en x) w := MapKept.run_keyThatStays (hk.is x)
      simp [Instr.mapUpdate, run_underlying ht, MapKept.run_getObj_map hb, hc, h1, hej, hkey, hst, MapKept.run_setObj_map _ hb, Result.andThen, setBlock]
    · rw [e1, Array.toList_modify]
      apply List.ext_getElem?
      intro i
      have hi : (es.toList.map (fun e => (e.key, e.val)))[i]? = (l.map (fun p => (en p.1, p.2)))[i]? := by rw [h2]
      rw [List.getElem?_map, List.getElem?_map] at hi
      rw [List.getElem?_map, List.getElem?_map, List.getElem?_modify, List.getElem?_set]
      by_cases hij : j = i
      · subst hij
        rw [if_pos rfl, if_pos (List.getElem?_eq_some_iff.1 hj).1, Array.getElem?_toList, hej]
        simp
      · rw [if_neg hij]
        cases hq : es.toList[i]? with
        | none => rw [hq] at hi; simpa [hij] using hi
        | some y => rw [hq] at hi; simpa [hij] using hi
    · exact ⟨rfl, rfl, rfl, by simp [setBlock], fun i _ hi => heap_setBlock_other hb _ (fun e1 => hi (by rw [e1]))⟩
end
def enI (a : Int) : Value := .int .i64 a
theorem keysI : KeysG Tryz.prog 3 enI (.int .i64) := ⟨Tryz.underlying3, fun _ => rfl, fun a b h => by unfold enI at h; injection h⟩
end Go.Proofs.YtfmnaidhfgmemaaGreatDoor
