/-
  MapG; PkRM; Rows3
-/
import Derived.Test.YtcjhnoapjhohfaaGreatDoorPk0
import Derived.Maps.OwnSet
import Derived.Test.YtcjhnoapjhohfaaGreatDoorPk25
/-
  Maps by keys of one plain kind: what stands at a key, and m[k] = v.
-/
namespace Go.Proofs.YtcjhnoapjhohfaaGreatDoor
open Go.RowKit
open Go.ChangeMaps (setBlock heap_setBlock_same heap_setBlock_other)

section
variable {K α : Type} [DecidableEq K]
def atG (l : List (K × α)) (k : K) : Option α := (l.find? (fun p => decide (p.1 = k))).map (·.2)
def KeydG (l : List (K × α)) : Prop := l.Pairwise (fun a b => a.1 ≠ b.1)
/-- The list behind m[k] = v. -/
def newG (l : List (K × α)) (k : K) (v : α) : List (K × α) := if (atG l k).isSome then l.map (fun p => if p.1 = k then (k, v) else p) else l ++ [(k, v)]
theorem atG_cons (p : K × α) (l : List (K × α)) (k : K) : atG (p :: l) k = if p.1 = k then some p.2 else atG l k := by
  unfold atG
  rw [List.find?_cons]
  by_cases h : p.1 = k <;> simp [h]
theorem atG_none {l : List (K × α)} {k : K} : atG l k = none ↔ ∀ p ∈ l, p.1 ≠ k := by
  induction l with
  | nil => simp [atG]
  | cons a l ih =>
    rw [atG_cons]
    by_cases h : a.1 = k
    · simp [h]
    · simp [h, ih]
theorem atG_mem {l : List (K × α)} {k : K} {v : α} (h : atG l k = some v) : (k, v) ∈ l := by
  induction l with
  | nil => simp [atG] at h
  | cons a l ih =>
    rw [atG_cons] at h
    by_cases e : a.1 = k
    · rw [if_pos e] at h
      cases h
      subst e
      exact List.mem_cons_self
    · rw [if_neg e] at h
      exact List.mem_cons_of_mem _ (ih h)
theorem mem_atG {l : List (K × α)} {k : K} {v : α} (hk : KeydG l) (h : (k, v) ∈ l) : atG l k = some v := by
  induction l with
  | nil => cases h
  | cons a l ih =>
    obtain ⟨q1, q2⟩ := List.pairwise_cons.1 hk
    rw [atG_cons]
    rcases List.mem_cons.1 h with e | e
    · subst e; simp
    · rw [if_neg (q1 _ e)]
      exact ih q2 e
theorem atG_snoc (l : List (K × α)) (k : K) (v : α) (x : K) : atG (l ++ [(k, v)]) x = (atG l x).or (if k = x then some v else none) := by
  induction l with
  | nil => rw [List.nil_append, atG_cons]; simp [atG]
  | cons a l ih =>
    rw [List.cons_append, atG_cons, atG_cons, ih]
    by_cases h : a.1 = x <;> simp [h]
theorem KeydG.snoc {l : List (K × α)} {k : K} {v : α} (h : KeydG l) (hn : atG l k = none) : KeydG (l ++ [(k, v)]) := by
  refine List.pairwise_append.2 ⟨h, List.pairwise_singleton _ _, ?_⟩
  intro a ha b hb
  rw [List.mem_singleton] at hb
  subst hb
  exact atG_none.1 hn a ha
theorem atG_set (l : List (K × α)) (k : K) (v : α) (x : K) : atG (l.map (fun p => if p.1 = k then (k, v) else p)) x = if x = k then (atG l k).map (fun _ => v) else atG l x := by
  induction l with
  | nil => simp [atG]
  | cons a l ih =>
    rw [List.map_cons, atG_cons, ih, atG_cons, atG_cons]
    by_cases h : a.1 = k
    · by_cases hx : x = k
      · subst hx; simp [h]
      · have : ¬ k = x := fun e => hx e.symm
        simp [h, hx, this]
    · by_cases hx : x = k
      · subst hx; simp [h]
      · simp [h, hx]
theorem atG_new (l : List (K × α)) (k : K) (v : α) (x : K) : atG (newG l k v) x = if x = k then some v else atG l x := by
  unfold newG
  cases h : atG l k with
  | none =>
    simp only [Option.isSome_none, Bool.false_eq_true, if_false]
    rw [atG_snoc]
    by_cases e : x = k
    · subst e; simp [h]
    · rw [if_neg e, if_neg (fun q => e q.symm)]; simp
  | some u =>
    simp only [Option.isSome_some, if_true]
    rw [atG_set, h]
    rfl
theorem KeydG.new {l : List (K × α)} {k : K} {v : α} (h : KeydG l) : KeydG (newG l k v) := by
  unfold newG
  cases e : atG l k with
  | none => simp only [Option.isSome_none, Bool.false_eq_true, if_false]; exact h.snoc e
  | some u =>
    simp only [Option.isSome_some, if_true]
    unfold KeydG
    rw [List.pairwise_map]
    refine h.imp ?_
    intro a b hab
    by_cases e1 : a.1 = k <;> by_cases e2 : b.1 = k
    · exact absurd (e1.trans e2.symm) hab
    · rw [if_pos e1, if_neg e2]; exact fun q => e2 q.symm
    · rw [if_neg e1, if_pos e2]; exact e1
    · rw [if_neg e1, if_neg e2]; exact hab
theorem setG_is {l : List (K × α)} {x : K} {j : Nat} {u : α} (v : α) (h : KeydG l) (hj : l[j]? = some (x, u)) : l.map (fun p => if p.1 = x then (x, v) else p) = l.set j (x, v) := by
  induction l generalizing j with
  | nil => simp at hj
  | cons a l ih =>
    obtain ⟨q1, q2⟩ := List.pairwise_cons.1 h
    rw [List.map_cons]
    cases j with
    | zero =>
      simp only [List.getElem?_cons_zero, Option.some.injEq] at hj
      subst hj
      rw [if_pos rfl, List.set_cons_zero]
      congr 1
      rw [List.map_congr_left (g := id)]
      · simp
      · intro p hp
        rw [if_neg (fun e => q1 p hp e.symm)]
        rfl
    | succ j =>
      rw [List.getElem?_cons_succ] at hj
      rw [if_neg (q1 _ (List.mem_of_getElem? hj)), List.set_cons_succ, ih q2 hj]
end
/-- Block b is a map that has at each key what the list tells. -/
def MapG {K : Type} (en : K → Value) (w : World) (b : Nat) (l : List (K × Value)) : Prop := KeydG l ∧ ∃ es clock, w.heap[b]? = some (.map es clock) ∧ es.toList.map (fun e => (e.key, e.val)) = l.map (fun p => (en p.1, p.2))
/-- Keys of one plain kind. -/
structure KeysG {K : Type} (P : Program) (k : TypeId) (en : K → Value) (d : TypeDesc) : Prop where
  ty : P.underlying k = some d
  is : ∀ a, MapKept.IsKey d (en a)
  inj : ∀ a b, en a = en b → a = b
section
variable {K : Type} [DecidableEq K] {P : Program} {t k e : TypeId} {en : K → Value} {d : TypeDesc} {w w' : World} {b : Nat} {l : List (K × Value)}
omit [DecidableEq K] in
theorem MapG.lt (h : MapG en w b l) : b < w.heap.size := by
  obtain ⟨-, es, clock, h1, -⟩ := h
  exact (Array.getElem?_eq_some_iff.1 h1).1
omit [DecidableEq K] in
theorem MapG.same (h : MapG en w b l) (e : w'.heap[b]? = w.heap[b]?) : MapG en w' b l := by
  obtain ⟨h0, es, clock, h1, h2⟩ := h
  exact ⟨h0, es, clock, e.trans h1, h2⟩
omit [DecidableEq K] in
theorem MapG.below (h : MapG en w b l) (hb : Below w.heap.size w w') : MapG en w' b l := h.same (hb.block _ h.lt)
omit [DecidableEq K] in
theorem MapG.grown {row : Option Nat} (h : MapG en w b l) (hg : w.grownBy w' row) (hn : some b ≠ row) : MapG en w' b l := h.same (hg.block _ h.lt hn)
omit [DecidableEq K] in
theorem MapG.made (w : World) : MapG en (w.alloc (.map #[] 0)) w.heap.size [] := ⟨List.Pairwise.nil, #[], 0, heap_alloc_new w _, rfl⟩
omit [DecidableEq K] in
theorem MapG.not_cells (h : MapG en w b l) {cs : Array Value} {e : TypeId} {z : Nat × Nat} (hc : w.heap[b]? = some (.cells cs e z)) : False := by
  obtain ⟨-, es, clock, h1, -⟩ := h
  rw [h1] at hc
  cases hc
theorem findG {es : Array MapEntry} (hk : KeysG P k en d) (hd : KeydG l) (h : es.toList.map (fun e => (e.key, e.val)) = l.map (fun p => (en p.1, p.2))) (x : K) (w : World) :
    ((Instr.findKey k (en x) es.toList).run P w = .ok none w ∧ atG l x = none) ∨ ∃ j v, (Instr.findKey k (en x) es.toList).run P w = .ok (some (j, v)) w ∧ l[j]? = some (x, v) ∧ atG l x = some v := by
  have hks : ∀ y ∈ es.toList, MapKept.IsKey d y.key := by
    intro y hy
    have : (y.key, y.val) ∈ es.toList.map (fun e => (e.key, e.val)) := List.mem_map.2 ⟨y, hy, rfl⟩
    rw [h] at this
    obtain ⟨p, -, hp⟩ := List.mem_map.1 this
    have : y.key = en p.1 := (congrArg Prod.fst hp).symm
    rw [this]
    exact hk.is _
  rcases MapKept.findNow_spec (d := d) (k := en x) (hk.is x) es.toList 0 hks with ⟨h1, h2⟩ | ⟨j, e0, h1, h2, h3⟩
  · refine .inl ⟨MapKept.run_findKey hk.ty h1, atG_none.2 fun p hp e => ?_⟩
    have : (en p.1, p.2) ∈ l.map (fun p => (en p.1, p.2)) := List.mem_map.2 ⟨p, hp, rfl⟩
    rw [← h] at this
    obtain ⟨y, hy, ey⟩ := List.mem_map.1 this
    refine h2 y hy ?_
    have := congrArg Prod.fst ey
    simp only at this
    rw [this, e]
  · have e1 : (l.map (fun p => (en p.1, p.2)))[j]? = some (e0.key, e0.val) := by rw [← h, List.getElem?_map, h2]; rfl
    rw [List.getElem?_map] at e1
    cases hl : l[j]? with
    | none => rw [hl] at e1; cases e1
    | some p =>
      rw [hl] at e1
      simp only [Option.map_some, Option.some.injEq, Prod.mk.injEq] at e1
      obtain ⟨e1, e2⟩ := e1
      rw [h3] at e1
      have e1 := hk.inj _ _ e1
      have ep : p = (x, e0.val) := by rw [← e1, ← e2]
      refine .inr ⟨j, e0.val, by simpa using MapKept.run_findKey hk.ty h1, by rw [hl, ep], mem_atG hd ?_⟩
      rw [← ep]
      exact List.mem_of_getElem? hl
/-- m[x], and v, ok := m[x]. -/
theorem MapG.look (h : MapG en w b l) (ht : P.underlying t = some (.map k e)) (hk : KeysG P k en d) {z : Value} (hz : (zeroValue e).run P w = .ok z w) (x : K) (c : Bool) :
    (Instr.lookup t (.map (some b)) (en x) c).run P w = .ok (if c then .tuple #[(atG l x).getD z, .bool (atG l x).isSome] else (atG l x).getD z) w := by
  obtain ⟨h0, es, clock, hb, h2⟩ := h
  have hc : ∀ em, (Instr.checkKey em 10000 k (en x)).run P w = .ok () w := fun em => MapKept.run_checkKey hk.ty (hk.is x) em 9999
  rcases findG hk h0 h2 x w with ⟨h1, h3⟩ | ⟨j, v, h1, -, h3⟩
  · simp [Instr.lookup, run_underlying ht, MapKept.run_getObj_map hb, hc, h1, hz, h3, Result.andThen]
  · simp [Instr.lookup, run_underlying ht, MapKept.run_getObj_map hb, hc, h1, h3, Result.andThen]
/-- m[x] = v. -/
theorem MapG.new (h : MapG en w b l) (ht : P.underlying t = some (.map k e)) (hk : KeysG P k en d) (x : K) (v : Value) :
    ∃ w', (Instr.mapUpdate t (.map (some b)) (en x) v).run P w = .ok () w' ∧ MapG en w' b (newG l x v) ∧ w.grownBy w' (some b) ∧ w'.heap.size = w.heap.size := by
  obtain ⟨h0, es, clock, hb, h2⟩ := h
  have hc : ∀ em, (Instr.checkKey em 10000 k (en x)).run P w = .ok () w := fun em => MapKept.run_checkKey hk.ty (hk.is x) em 9999
  rcases findG hk h0 h2 x w with ⟨h1, h3⟩ | ⟨j, u, h1, hj, h3⟩
  · refine ⟨setBlock w b (.map (es.push ⟨en x, v, clock⟩) (clock + 1)), ?_, ⟨h0.new, _, _, heap_setBlock_same hb _, ?_⟩, ?_, by simp [setBlock]⟩
    · simp [Instr.mapUpdate, run_underlying ht, MapKept.run_getObj_map hb, hc, h1, MapKept.run_setObj_map _ hb, Result.andThen, setBlock]
    · unfold newG
      rw [h3]
      simp [h2]
    · exact ⟨rfl, rfl, rfl, by simp [setBlock], fun i _ hi => heap_setBlock_other hb _ (fun e1 => hi (by rw [e1]))⟩
  · have e1 : newG l x v = l.set j (x, v) := by unfold newG; rw [h3]; exact setG_is v h0 hj
    have hjs : j < es.size := by
      have := congrArg List.length h2
      have q := (List.getElem?_eq_some_iff.1 hj).1
      simp only [List.length_map, Array.length_toList] at this
      omega
    obtain ⟨ej, hej⟩ : ∃ ej, es[j]? = some ej := ⟨_, Array.getElem?_eq_getElem hjs⟩
    have hkey : ej.key = en x := by
      have q : (es.toList.map (fun e => (e.key, e.val)))[j]? = some (ej.key, ej.val) := by rw [List.getElem?_map, Array.getElem?_toList, hej]; rfl
      rw [h2, List.getElem?_map, hj] at q
      simp only [Option.map_some, Option.some.injEq, Prod.mk.injEq] at q
      exact q.1.symm
    refine ⟨setBlock w b (.map (es.modify j fun e => { e with key := en x, val := v }) clock), ?_, ⟨h0.new, _, clock, heap_setBlock_same hb _, ?_⟩, ?_, by simp [setBlock]⟩
    · have hst : (Instr.keyThatStays (en x) (en x)).run P w = .ok (en x) w := MapKept.run_keyThatStays (hk.is x)
      simp [Instr.mapUpdate, run_underlying ht, MapKept.run_getObj_map hb, hc, h1, hej, hkey, hst, MapKept.run_setObj_map _ hb, Result.andThen, setBlock]
    · rw [e1, Array.toList_modify]
      apply List.ext_getElem?
      intro i
      have hi : (es.toList.map (fun e => (e.key, e.val)))[i]? = (l.map (fun p => (en p.1, p.2)))[i]? := by rw [h2]
      rw [List.getElem?_map, List.getElem?_map] at hi
      rw [List.getElem?_map, List.getElem?_map, List.getElem?_modify, List.getElem?_set]
      by_cases hij : j = i
      · subst hij
        rw [if_pos rfl, if_pos (List.getElem?_eq_some_iff.1 hj).1, Array.getElem?_toList, hej]
        simp
      · rw [if_neg hij]
        cases hq : es.toList[i]? with
        | none => rw [hq] at hi; simpa [hij] using hi
        | some y => rw [hq] at hi; simpa [hij] using hi
    · exact ⟨rfl, rfl, rfl, by simp [setBlock], fun i _ hi => heap_setBlock_other hb _ (fun e1 => hi (by rw [e1]))⟩
end
/-- Numbers, and texts, as keys. -/
def enI (a : Int) : Value := .int .i64 a
def enS (a : List UInt8) : Value := .string ⟨a.toArray⟩
theorem keysI : KeysG Tryz.prog 3 enI (.int .i64) := ⟨Tryz.underlying3, fun _ => rfl, fun a b h => by unfold enI at h; injection h⟩
theorem keysS : KeysG Tryz.prog 9 enS .string := ⟨Tryz.underlying9, fun _ => trivial, fun a b h => by
  unfold enS at h
  injection h with h
  have := congrArg (fun x : ByteArray => x.data.toList) h
  simpa using this⟩
end Go.Proofs.YtcjhnoapjhohfaaGreatDoor

/-
  Plain facts on reading tokens from bytes: no Go in them.
-/
namespace Go.Proofs.YtcjhnoapjhohfaaGreatDoor.Pack

/-- Tokens read from bytes, where a byte from lim on tells a match. -/
def readG (lim : Nat) : Nat → List UInt8 → Option (List (Nat × Nat × List UInt8))
  | _, [] => some []
  | 0, _ :: _ => none
  | f + 1, n :: r =>
    if lim ≤ n.toNat then (match r with
      | b :: r' => (readG lim f r').map fun l => (b.toNat, n.toNat - 128, []) :: l
      | [] => none)
    else if n.toNat ≤ r.length then (readG lim f (r.drop n.toNat)).map fun l => (0, 0, r.take n.toNat) :: l else none
theorem readG_T (f : Nat) (r : List UInt8) : readG 129 f r = readT f r := by
  induction f generalizing r with
  | zero => cases r <;> rfl
  | succ f ih =>
    cases r with
    | nil => rfl
    | cons n r =>
      unfold readG readT
      by_cases h : 128 < n.toNat
      · rw [if_pos h, if_pos (by omega)]
        cases r with
        | nil => rfl
        | cons b r => simp only [ih]
      · rw [if_neg h, if_neg (by omega), ih]
theorem readG_fuel (lim f : Nat) (r : List UInt8) (h : r.length ≤ f) : readG lim f r = readG lim r.length r := by
  induction f using Nat.strongRecOn generalizing r with
  | ind f ih =>
    cases r with
    | nil => cases f <;> rfl
    | cons n r =>
      rw [List.length_cons] at h
      obtain ⟨g, rfl⟩ : ∃ g, f = g + 1 := ⟨f - 1, by omega⟩
      rw [List.length_cons]
      unfold readG
      by_cases hn : lim ≤ n.toNat
      · rw [if_pos hn, if_pos hn]
        cases r with
        | nil => rfl
        | cons b r =>
          rw [List.length_cons] at h
          simp only
          rw [ih g (by omega) r (by omega)]
          by_cases hg : r.length + 1 < g + 1
          · rw [List.length_cons, ih (r.length + 1) hg r (by omega)]
          · omega
      · rw [if_neg hn, if_neg hn]
        have hd : (r.drop n.toNat).length ≤ r.length := by rw [List.length_drop]; omega
        rw [ih g (by omega) (r.drop n.toNat) (by omega)]
        by_cases hg : r.length < g + 1
        · rw [ih r.length hg (r.drop n.toNat) hd]
        · omega
def RG (lim : Nat) (r : List UInt8) : Option (List (Nat × Nat × List UInt8)) := readG lim r.length r
theorem RG_nil (lim : Nat) : RG lim [] = some [] := rfl
theorem RG_match (lim : Nat) (n b : UInt8) (r : List UInt8) (h : lim ≤ n.toNat) : RG lim (n :: b :: r) = (RG lim r).map fun l => (b.toNat, n.toNat - 128, []) :: l := by
  unfold RG
  rw [List.length_cons]
  conv => lhs; unfold readG
  rw [if_pos h]
  simp only
  rw [readG_fuel lim _ r (by simp)]
theorem RG_cut (lim : Nat) (n : UInt8) (h : lim ≤ n.toNat) : RG lim [n] = none := by
  unfold RG
  rw [List.length_cons]
  conv => lhs; unfold readG
  rw [if_pos h]
theorem RG_text (lim : Nat) (n : UInt8) (r : List UInt8) (h : ¬ lim ≤ n.toNat) (h2 : n.toNat ≤ r.length) : RG lim (n :: r) = (RG lim (r.drop n.toNat)).map fun l => (0, 0, r.take n.toNat) :: l := by
  unfold RG
  rw [List.length_cons]
  conv => lhs; unfold readG
  rw [if_neg h, if_pos h2, readG_fuel lim _ (r.drop n.toNat) (by rw [List.length_drop]; omega)]
theorem RG_short (lim : Nat) (n : UInt8) (r : List UInt8) (h : ¬ lim ≤ n.toNat) (h2 : ¬ n.toNat ≤ r.length) : RG lim (n :: r) = none := by
  unfold RG
  rw [List.length_cons]
  conv => lhs; unfold readG
  rw [if_neg h, if_neg h2]
theorem RG_of (lim : Nat) (hl1 : 128 ≤ lim) (hl2 : lim ≤ 129) (l : List (Nat × Nat × List UInt8)) (h : ∀ t ∈ l, Fit t) : RG lim (l.flatMap zTok) = some l := by
  induction l with
  | nil => rfl
  | cons t l ih =>
    have ht := h t (by simp)
    have hl := ih (fun t ht => h t (by simp [ht]))
    rw [List.flatMap_cons]
    obtain ⟨b, n, x⟩ := t
    rcases ht with ⟨e0, e1, e2, e3⟩ | ⟨e0, e1, e2, e3, e4⟩
    · simp only at e0 e1 e2 e3
      subst e0 e3
      have hz : zTok (0, 0, x) = UInt8.ofNat x.length :: x := rfl
      have hb := small_byte x.length (by omega)
      rw [hz, List.cons_append, RG_text _ _ _ (by rw [hb]; omega) (by rw [hb]; simp), hb, List.drop_left, List.take_left, hl]
      rfl
    · simp only at e0 e1 e2 e3 e4
      subst e4
      have hz : zTok (b, n, []) = [UInt8.ofNat (128 + n), UInt8.ofNat b] := by
        unfold zTok
        rw [if_neg (by simp only; omega)]
      have hb := small_byte (128 + n) (by omega)
      have hc := small_byte b (by omega)
      rw [hz, List.cons_append, List.cons_append, List.nil_append, RG_match _ _ _ _ (by rw [hb]; omega), hb, hc, hl]
      simp

/-- What the program reads a text from. -/
def plainI (t : List UInt8) : Option (List UInt8) :=
  match t with
  | [] => none
  | c :: r => if c = 114 then some r else if c = 122 then (RG 128 r).bind plain else none
def unpackI (t : List UInt8) : Option (List UInt8) := if 65 < t.length then none else (plainI t).bind fun s => if packL s = some t then some s else none
theorem unpackI_eq (t : List UInt8) : unpackI t = unpackL t := by
  apply Option.ext
  intro s
  constructor
  · intro h
    refine unpack_pack s t ?_
    unfold unpackI at h
    split at h
    · cases h
    · cases hp : plainI t with
      | none => rw [hp] at h; cases h
      | some x =>
        rw [hp] at h
        simp only [Option.bind_some] at h
        split at h
        · rename_i e; cases h; exact e
        · cases h
  · intro h
    have hp := pack_unpack s t h
    have hlen := pack_len s t hp
    have hs : s.length ≤ 64 := by
      unfold packL at hp
      split at hp
      · cases hp
      · omega
    unfold unpackI
    rw [if_neg (by omega)]
    have hi : plainI t = some s := by
      have hp' := hp
      unfold packL at hp'
      rw [if_neg (by omega)] at hp'
      split at hp'
      · cases hp'
        rfl
      · cases hp'
        unfold zOf plainI
        simp only
        rw [if_neg (by decide), if_pos trivial, RG_of 128 (by omega) (by omega) _ (fit_of [] s _ (by simp) (plain_toks s hs).1)]
        exact (plain_toks s hs).1
    rw [hi]
    simp only [Option.bind_some]
    rw [if_pos hp]
theorem unpackL_eq (c : UInt8) (r : List UInt8) : unpackL (c :: r) = (if c = 122 then (RG 129 r).bind plain else some r).bind fun s => if packL s = some (c :: r) then some s else none := by
  unfold unpackL RG
  simp only [readG_T]
end Go.Proofs.YtcjhnoapjhohfaaGreatDoor.Pack

/-
  Rows of tokens that the call owns.
-/
namespace Go.Proofs.YtcjhnoapjhohfaaGreatDoor
open Go.RowKit
open Pack

theorem infoTok : (Tryz.prog.info? 190).map (fun i => (i.zero, i.size, i.bytes)) = some (some (.agg #[.int .i64 0, .int .i64 0, .string ⟨#[]⟩]), 3, 32) := by kernel_rfl
/-- The cells of tokens. -/
def tcell (t : Nat × Nat × List UInt8) : List Value := [.int .i64 (t.1 : Nat), .int .i64 (t.2.1 : Nat), .string ⟨t.2.2.toArray⟩]
def tcells (l : List (Nat × Nat × List UInt8)) : List Value := l.flatMap tcell
theorem tcells_len (l : List (Nat × Nat × List UInt8)) : (tcells l).length = l.length * 3 := by
  induction l with
  | nil => rfl
  | cons t l ih => simp [tcells, tcell] at ih ⊢; omega
theorem tcells_snoc (l : List (Nat × Nat × List UInt8)) (t : Nat × Nat × List UInt8) : tcells l ++ tcell t = tcells (l ++ [t]) := by simp [tcells]
theorem tcells_at (l : List (Nat × Nat × List UInt8)) (k : Nat) (t : Nat × Nat × List UInt8) (h : l[k]? = some t) : (tcells l)[3 * k]? = some (.int .i64 (t.1 : Nat)) ∧ (tcells l)[3 * k + 1]? = some (.int .i64 (t.2.1 : Nat)) ∧ (tcells l)[3 * k + 2]? = some (.string ⟨t.2.2.toArray⟩) := by
  induction l generalizing k with
  | nil => simp at h
  | cons a l ih =>
    cases k with
    | zero =>
      simp at h
      subst h
      exact ⟨rfl, rfl, rfl⟩
    | succ k =>
      have := ih k (by simpa using h)
      have e : tcells (a :: l) = tcell a ++ tcells l := by simp [tcells]
      have hl : (tcell a).length = 3 := rfl
      rw [e, List.getElem?_append_right (by rw [hl]; omega), List.getElem?_append_right (by rw [hl]; omega), List.getElem?_append_right (by rw [hl]; omega), hl, show 3 * (k + 1) - 3 = 3 * k by omega, show 3 * (k + 1) + 1 - 3 = 3 * k + 1 by omega, show 3 * (k + 1) + 2 - 3 = 3 * k + 2 by omega]
      exact this
theorem tcells_one (l : List (Nat × Nat × List UInt8)) : ∀ v ∈ tcells l, v.oneCell' = true := by
  intro v hv
  obtain ⟨t, -, ht⟩ := List.mem_flatMap.1 hv
  simp [tcell] at ht
  rcases ht with h | h | h <;> subst h <;> rfl
theorem tcell_one (t : Nat × Nat × List UInt8) : ∀ v ∈ tcell t, v.oneCell' = true := by
  intro v hv
  simp [tcell] at hv
  rcases hv with h | h | h <;> subst h <;> rfl
/-- The last token's text is another one. -/
theorem tcells_text (l : List (Nat × Nat × List UInt8)) (b z : Nat) (x y : List UInt8) : (tcells (l ++ [(b, z, x)])).set (3 * l.length + 2) (.string ⟨y.toArray⟩) = tcells (l ++ [(b, z, y)]) := by
  rw [← tcells_snoc, ← tcells_snoc, List.set_append_right _ _ (by rw [tcells_len]; omega), tcells_len, show 3 * l.length + 2 - l.length * 3 = 2 by omega]
  rfl
/-- A cell of a row that the call owns is written. -/
theorem own_set {w : World} {base : Nat} {e : TypeId} {size n : Nat} {v : Value} {xs : List Value} {g cap : Nat} (h : w.ownsRow base e size v n xs) (hv : v = .slice (some ⟨g, 0, none⟩) n cap) (k : Nat) (u : Value) :
    (w.setCell ⟨g, k, none⟩ u).ownsRow base e size v n (xs.set k u) := by
  obtain ⟨h1, h2⟩ := h
  refine ⟨by simpa using h1, ?_⟩
  rcases h2 with ⟨h3, -⟩ | ⟨g', cap', cur, h3, h4, h5, h6, h7, h8, h9⟩
  · rw [hv] at h3; cases h3
  · right
    have hg : g' = g := by rw [hv] at h3; injection h3 with a; simp at a; exact a.symm
    subst hg
    refine ⟨g', cap', cur.setIfInBounds k u, h3, h4, ?_, h6, h7, by simpa using h8, ?_⟩
    · rw [setCell_eq_setRow w g' k cur e (0, 0) u h5]
      exact setRow_heap w g' cur _ e _ h5
    · rw [Array.toList_setIfInBounds, List.take_set, h9]
end Go.Proofs.YtcjhnoapjhohfaaGreatDoor
