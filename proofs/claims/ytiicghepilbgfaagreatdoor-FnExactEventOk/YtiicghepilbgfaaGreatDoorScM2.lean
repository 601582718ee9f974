/-
  What a step makes of the pages of a flash, in plain words.
-/
import Derived.Test.YtiicghepilbgfaaGreatDoorPk4
namespace Go.Proofs.YtiicghepilbgfaaGreatDoor
open Words Sums

/-- How many leaves a block has. -/
def lenAt (bs : List Bk) (b : Nat) : Nat := (bs[b]?).map (fun r => r.2.2.length) |>.getD 0
def posAt (b k : Nat) : List (Nat × Nat) := (List.range k).map (fun j => (b, j))
/-- The places of the first n blocks. -/
def posN (bs : List Bk) (n : Nat) : List (Nat × Nat) := (List.range n).flatMap (fun b => posAt b (lenAt bs b))
def atQ (bs : List Bk) (q : Nat × Nat) : Option Fnd := (leafPg bs q.1 q.2).map (fun p => ⟨q.1, q.2, p⟩)
theorem posAt_succ (b k : Nat) : posAt b (k + 1) = posAt b k ++ [(b, k)] := by simp [posAt, List.range_succ]
theorem posN_succ (bs : List Bk) (n : Nat) : posN bs (n + 1) = posN bs n ++ posAt n (lenAt bs n) := by simp [posN, List.range_succ, List.flatMap_append]
theorem foundsAt_pos (bs : List Bk) (b k : Nat) : foundsAt bs b k = (posAt b k).filterMap (atQ bs) := by
  induction k with
  | zero => rfl
  | succ k ih =>
    rw [posAt_succ, List.filterMap_append, foundsAt, ih]
    congr 1
    cases h : leafPg bs (b : Int) (k : Int) with
    | none => simp [atQ, h]
    | some p => simp [atQ, h]
theorem founds_pos (bs : List Bk) (n : Nat) : founds bs n = (posN bs n).filterMap (atQ bs) := by
  induction n with
  | zero => rfl
  | succ n ih =>
    rw [posN_succ, List.filterMap_append, founds, ih, foundsAt_pos]
    rfl
theorem posAt_mem {b k : Nat} {q : Nat × Nat} : q ∈ posAt b k ↔ q.1 = b ∧ q.2 < k := by
  simp only [posAt, List.mem_map, List.mem_range]
  constructor
  · rintro ⟨j, hj, rfl⟩; exact ⟨rfl, hj⟩
  · rintro ⟨rfl, h⟩; exact ⟨q.2, h, rfl⟩
theorem posN_mem {bs : List Bk} {n : Nat} {q : Nat × Nat} : q ∈ posN bs n ↔ q.1 < n ∧ q.2 < lenAt bs q.1 := by
  simp only [posN, List.mem_flatMap, List.mem_range]
  constructor
  · rintro ⟨b, hb, hq⟩
    obtain ⟨rfl, h⟩ := posAt_mem.1 hq
    exact ⟨hb, h⟩
  · rintro ⟨h1, h2⟩; exact ⟨q.1, h1, posAt_mem.2 ⟨rfl, h2⟩⟩
theorem posAt_nodup (b k : Nat) : (posAt b k).Nodup := by
  induction k with
  | zero => exact List.nodup_nil
  | succ k ih =>
    rw [posAt_succ, List.nodup_append]
    refine ⟨ih, by simp, ?_⟩
    intro x hx y hy
    rw [List.mem_singleton] at hy
    subst hy
    have := (posAt_mem.1 hx).2
    intro e
    rw [e] at this
    simp at this
theorem posN_nodup (bs : List Bk) (n : Nat) : (posN bs n).Nodup := by
  induction n with
  | zero => exact List.nodup_nil
  | succ n ih =>
    rw [posN_succ, List.nodup_append]
    refine ⟨ih, posAt_nodup _ _, ?_⟩
    intro x hx y hy e
    have h1 := (posN_mem.1 hx).1
    have h2 := (posAt_mem.1 hy).1
    rw [e] at h1
    omega
theorem fmap_congr {α β : Type} {f g : α → Option β} : ∀ {l : List α}, (∀ x ∈ l, f x = g x) → l.filterMap f = l.filterMap g
  | [], _ => rfl
  | a :: l, h => by rw [List.filterMap_cons, List.filterMap_cons, h a (by simp), fmap_congr (fun x hx => h x (by simp [hx]))]
/-- One more page, its number above all others: it comes behind them. -/
theorem sort_more {α : Type} {L : List α} (hd : L.Nodup) {f g : α → Option Fnd} {q : α} {x : Fnd} (hq : q ∈ L) (h0 : f q = none) (h1 : g q = some x) (hs : ∀ p ∈ L, p ≠ q → g p = f p) (hk : ∀ y ∈ L.filterMap f, y.key < x.key) :
    sortS (L.filterMap g) = sortS (L.filterMap f) ++ [x] := by
  obtain ⟨A, B, rfl⟩ := List.append_of_mem hq
  rw [List.nodup_append, List.nodup_cons] at hd
  have hA : A.filterMap g = A.filterMap f := fmap_congr (fun p hp => hs p (by simp [hp]) (fun e => hd.2.2 p hp q (by simp) e))
  have hB : B.filterMap g = B.filterMap f := fmap_congr (fun p hp => hs p (by simp [hp]) (fun e => hd.2.1.1 (e ▸ hp)))
  have eg : (A ++ q :: B).filterMap g = A.filterMap f ++ ([x] ++ B.filterMap f) := by
    rw [List.filterMap_append, List.filterMap_cons, h1, hA, hB]; rfl
  have ef : (A ++ q :: B).filterMap f = A.filterMap f ++ B.filterMap f := by
    rw [List.filterMap_append, List.filterMap_cons, h0]
  rw [ef] at hk
  rw [eg, ef]
  symm
  apply sortS_eq
  · refine Akin.trans ?_ ((sortS_akin _).app (Akin.refl [x]))
    rw [List.append_assoc]
    refine (Akin.refl _).app (Akin.flip ?_)
    intro a ha b hb
    rw [List.mem_singleton] at ha
    subst ha
    have := hk b (List.mem_append_right _ hb)
    omega
  · refine (sortS_asc _).app (List.pairwise_singleton _ _) ?_
    intro a ha b hb
    rw [List.mem_singleton] at hb
    subst hb
    have := hk a ((sortS_mem _ _).1 ha)
    omega
theorem posN_same {bs cs : List Bk} (h : ∀ b, lenAt bs b = lenAt cs b) (n : Nat) : posN bs n = posN cs n := by
  unfold posN
  congr 1
  funext b
  rw [h b]
theorem mod_other {α : Type} {l : List α} (f : α → α) {i j : Nat} (h : i ≠ j) : (l.modify i f)[j]? = l[j]? := by
  rw [List.getElem?_modify]
  simp [h]
theorem read_put {bs : List Bk} {b l : Nat} {r : Bk} (t : ByteArray) (hb : bs[b]? = some r) (hl : l < r.2.2.length) (i k : Nat) : readF (putLeaf bs b l t) (i : Int) (k : Int) = if i = b ∧ k = l then (t, true) else readF bs (i : Int) (k : Int) := by
  unfold readF putLeaf
  rw [Int.toNat_natCast]
  by_cases e : i = b
  · subst e
    rw [List.getElem?_modify_eq, hb]
    simp only [Option.map_eq_map, Option.map_some, Int.toNat_natCast]
    by_cases e2 : k = l
    · subst e2
      rw [List.getElem?_set_self hl]
      simp
    · rw [List.getElem?_set_ne (fun h => e2 h.symm)]
      simp [e2]
  · rw [mod_other _ (fun h => e h.symm), if_neg (fun h => e h.1)]
theorem leaf_put {bs : List Bk} {b l : Nat} {r : Bk} (t : ByteArray) (hb : bs[b]? = some r) (hl : l < r.2.2.length) (i k : Nat) : leafPg (putLeaf bs b l t) i k = if i = b ∧ k = l then readPg t else leafPg bs i k := by
  unfold leafPg
  rw [read_put t hb hl]
  by_cases h : i = b ∧ k = l
  · rw [if_pos h, if_pos h]; rfl
  · rw [if_neg h, if_neg h]
theorem len_put (bs : List Bk) (b l : Nat) (t : ByteArray) (i : Nat) : lenAt (putLeaf bs b l t) i = lenAt bs i := by
  unfold lenAt putLeaf
  by_cases e : b = i
  · subst e
    rw [List.getElem?_modify_eq]
    cases h : bs[b]? <;> simp
  · rw [mod_other _ e]
/-- A page written where none was, its number above all others. -/
theorem scan_put {bs : List Bk} {b l : Nat} {r : Bk} {t : ByteArray} {p : Pg} (hb : bs[b]? = some r) (hl : l < r.2.2.length) (hn : leafPg bs b l = none) (hp : readPg t = some p) (hk : ∀ y ∈ scanF bs, y.key < p.seq) :
    scanF (putLeaf bs b l t) = scanF bs ++ [⟨b, l, p⟩] := by
  have hlen : (putLeaf bs b l t).length = bs.length := by simp [putLeaf]
  unfold scanF at hk ⊢
  rw [hlen, founds_pos, founds_pos, posN_same (len_put bs b l t)]
  refine sort_more (posN_nodup bs bs.length) (q := (b, l)) (posN_mem.2 ⟨(List.getElem?_eq_some_iff.1 hb).1, ?_⟩) ?_ ?_ ?_ ?_
  · show l < lenAt bs b
    rw [lenAt, hb]; exact hl
  · simp [atQ, hn]
  · simp only [atQ]
    rw [leaf_put t hb hl, if_pos ⟨rfl, rfl⟩, hp]; rfl
  · intro q _ hq
    simp only [atQ]
    rw [leaf_put t hb hl, if_neg (fun h => hq (Prod.ext h.1 h.2))]
  · intro y hy
    rw [← founds_pos] at hy
    exact hk y ((sortS_mem _ _).2 hy)
/-- What is left when all pages of a block are gone. -/
theorem filter_blk {bs cs : List Bk} {b : Nat} (hl : ∀ i, lenAt cs i = lenAt bs i) (hlen : cs.length = bs.length) (h0 : ∀ k : Nat, leafPg cs b k = none) (h1 : ∀ i k, i ≠ b → leafPg cs (i : Nat) (k : Nat) = leafPg bs i k) :
    scanF cs = (scanF bs).filter (fun x => !decide (x.block = (b : Int))) := by
  unfold scanF
  rw [← sortS_filter, hlen, founds_pos, founds_pos, posN_same hl]
  congr 1
  rw [List.filter_filterMap]
  apply fmap_congr
  intro q _
  simp only [atQ]
  by_cases e : q.1 = b
  · rw [e, h0]
    cases leafPg bs (b : Int) (q.2 : Int) with
    | none => rfl
    | some p => simp [Option.filter]
  · rw [h1 _ _ e]
    cases leafPg bs (q.1 : Int) (q.2 : Int) with
    | none => rfl
    | some p =>
      have : ¬ ((q.1 : Int) = (b : Int)) := by omega
      simp [Option.filter, this]
theorem leaf_blank4 (bs : List Bk) (b : Nat) (x : Bool) (n : Int) (h : bs[b]? = some (x, n, blank4)) (k : Nat) : leafPg bs b k = none := by
  unfold leafPg
  have : (readF bs (b : Int) (k : Int)).2 = false := by
    unfold readF
    rw [Int.toNat_natCast, h]
    simp only [Int.toNat_natCast]
    cases e : blank4[k]? with
    | none => rfl
    | some t =>
      have ht := List.mem_of_getElem? e
      have : t.1 = 0 := by
        simp only [blank4, List.mem_cons, List.not_mem_nil, or_false] at ht
        rcases ht with rfl | rfl | rfl | rfl <;> rfl
      simp [this]
  rw [this]
  rfl
theorem scan_wipe {bs : List Bk} {b : Nat} {r : Bk} (hb : bs[b]? = some r) (hr : r.2.2.length = 4) :
    scanF (bs.modify b (fun r => (false, r.2.1 + 1, blank4))) = (scanF bs).filter (fun x => !decide (x.block = (b : Int))) := by
  refine filter_blk ?_ (by simp) ?_ ?_
  · intro i
    unfold lenAt
    by_cases e : b = i
    · subst e
      rw [List.getElem?_modify_eq, hb]
      simp [hr, blank4]
    · rw [mod_other _ e]
  · intro k
    refine leaf_blank4 _ b false (r.2.1 + 1) ?_ k
    rw [List.getElem?_modify_eq, hb]
    rfl
  · intro i k hi
    unfold leafPg
    have : readF (bs.modify b (fun r => (false, r.2.1 + 1, blank4))) (i : Int) (k : Int) = readF bs (i : Int) (k : Int) := by
      unfold readF
      rw [Int.toNat_natCast, mod_other _ (fun h => hi h.symm)]
    rw [this]
theorem scan_mem {bs : List Bk} {x : Fnd} (h : x ∈ scanF bs) : ∃ b l : Nat, x.block = b ∧ x.leaf = l ∧ b < bs.length ∧ l < lenAt bs b ∧ leafPg bs b l = some x.page := by
  unfold scanF at h
  rw [sortS_mem, founds_pos, List.mem_filterMap] at h
  obtain ⟨q, hq, e⟩ := h
  have hm := posN_mem.1 hq
  simp only [atQ] at e
  cases hp : leafPg bs (q.1 : Int) (q.2 : Int) with
  | none => rw [hp] at e; cases e
  | some p =>
    rw [hp] at e
    simp only [Option.map_some, Option.some.injEq] at e
    subst e
    exact ⟨q.1, q.2, rfl, rfl, hm.1, hm.2, hp⟩
theorem scan_has {bs : List Bk} {b l : Nat} {p : Pg} (hb : b < bs.length) (hl : l < lenAt bs b) (h : leafPg bs b l = some p) : (⟨b, l, p⟩ : Fnd) ∈ scanF bs := by
  unfold scanF
  rw [sortS_mem, founds_pos, List.mem_filterMap]
  exact ⟨(b, l), posN_mem.2 ⟨hb, hl⟩, by simp [atQ, h]⟩
end Go.Proofs.YtiicghepilbgfaaGreatDoor
