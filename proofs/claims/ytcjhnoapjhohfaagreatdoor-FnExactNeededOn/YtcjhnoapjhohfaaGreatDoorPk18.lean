/-
  ScM; ScM2; TMath; ZMath
-/
import Derived.Test.YtcjhnoapjhohfaaGreatDoorPk17
/-
  A flash's pages in the order of their numbers, in plain words; what a step makes of them.
-/
namespace Go.Proofs.YtcjhnoapjhohfaaGreatDoor
open Words Sums

/-- Laid into a row that ascends, behind those of its number. -/
def inSq (x : Fnd) : List Fnd → List Fnd
  | [] => [x]
  | y :: l => if x.key < y.key then x :: y :: l else y :: inSq x l
def sortS (l : List Fnd) : List Fnd := l.foldl (fun m x => inSq x m) []
theorem inSq_mem {x y : Fnd} {l : List Fnd} : y ∈ inSq x l ↔ y = x ∨ y ∈ l := by
  induction l with
  | nil => simp [inSq]
  | cons z l ih =>
    unfold inSq
    split
    · simp
    · simp only [List.mem_cons, ih]
      constructor
      · rintro (h | h | h)
        · exact .inr (.inl h)
        · exact .inl h
        · exact .inr (.inr h)
      · rintro (h | h | h)
        · exact .inr (.inl h)
        · exact .inl h
        · exact .inr (.inr h)
theorem inSq_asc {x : Fnd} {l : List Fnd} (h : Asc l) : Asc (inSq x l) := by
  induction l with
  | nil => exact List.pairwise_singleton _ _
  | cons z l ih =>
    have h1 := List.pairwise_cons.1 h
    unfold inSq
    split
    · rename_i hx
      refine List.pairwise_cons.2 ⟨?_, h⟩
      intro y hy
      rcases List.mem_cons.1 hy with e | e
      · subst e; omega
      · have := h1.1 y e; omega
    · rename_i hx
      refine List.pairwise_cons.2 ⟨?_, ih h1.2⟩
      intro y hy
      rcases inSq_mem.1 hy with e | e
      · subst e; omega
      · exact h1.1 y e
theorem inSq_akin {x : Fnd} {l : List Fnd} (h : Asc l) : Akin (inSq x l) (l ++ [x]) := by
  intro c
  induction l with
  | nil => rfl
  | cons z l ih =>
    have h1 := List.pairwise_cons.1 h
    unfold inSq
    split
    · rename_i hx
      rw [List.filter_append]
      by_cases e : x.key = c
      · have hn : (z :: l).filter (fun y => y.key == c) = [] := by
          rw [List.filter_eq_nil_iff]
          intro y hy
          rcases List.mem_cons.1 hy with q | q
          · subst q; simp; omega
          · have := h1.1 y q; simp; omega
        rw [hn, List.filter_cons_of_pos (by simpa using e), hn, List.filter_cons_of_pos (by simpa using e)]
        rfl
      · rw [List.filter_cons_of_neg (a := x) (by simpa using e), List.filter_cons_of_neg (a := x) (l := []) (by simpa using e)]
        simp
    · rw [List.cons_append]
      by_cases e : z.key = c
      · rw [List.filter_cons_of_pos (by simpa using e), List.filter_cons_of_pos (by simpa using e), ih h1.2]
      · rw [List.filter_cons_of_neg (by simpa using e), List.filter_cons_of_neg (by simpa using e), ih h1.2]
theorem sortS_snoc (l : List Fnd) (x : Fnd) : sortS (l ++ [x]) = inSq x (sortS l) := by simp [sortS, List.foldl_append]
theorem snocS_ind {α : Type} {P : List α → Prop} (h0 : P []) (h1 : ∀ l r, P l → P (l ++ [r])) : ∀ l, P l := by
  intro l
  have : ∀ m : List α, P m.reverse := by
    intro m
    induction m with
    | nil => simpa using h0
    | cons a m ih => rw [List.reverse_cons]; exact h1 _ _ ih
  simpa using this l.reverse
theorem sortS_asc (l : List Fnd) : Asc (sortS l) := by
  induction l using snocS_ind with
  | h0 => exact List.Pairwise.nil
  | h1 l x ih => rw [sortS_snoc]; exact inSq_asc ih
theorem sortS_akin (l : List Fnd) : Akin l (sortS l) := by
  induction l using snocS_ind with
  | h0 => exact Akin.refl _
  | h1 l x ih =>
    rw [sortS_snoc]
    exact (ih.app (Akin.refl [x])).trans (inSq_akin (sortS_asc l)).symm
theorem sortS_eq {l m : List Fnd} (h : Akin l m) (ha : Asc m) : m = sortS l := (h.symm.trans (sortS_akin l)).eq ha (sortS_asc l)
theorem sortS_mem (l : List Fnd) (x : Fnd) : x ∈ sortS l ↔ x ∈ l := ((sortS_akin l).mem x).symm
theorem Words.Asc.sub {l m : List Fnd} (h : Asc l) (hs : m.Sublist l) : Asc m := List.Pairwise.sublist hs h
theorem Words.Akin.filter {l m : List Fnd} (h : Akin l m) (p : Fnd → Bool) : Akin (l.filter p) (m.filter p) := fun c => by
  have e : ∀ k : List Fnd, (k.filter p).filter (fun x => x.key == c) = (k.filter (fun x => x.key == c)).filter p := fun k => by
    rw [List.filter_filter, List.filter_filter]
    congr 1
    funext x
    exact Bool.and_comm _ _
  rw [e, e, h c]
theorem sortS_filter (l : List Fnd) (p : Fnd → Bool) : sortS (l.filter p) = (sortS l).filter p :=
  (sortS_eq ((sortS_akin l).filter p) ((sortS_asc l).sub List.filter_sublist)).symm

/-- The pages of a flash, in the order of their numbers. -/
def scanF (bs : List Bk) : List Fnd := sortS (founds bs bs.length)
theorem scanF_asc (bs : List Bk) : Asc (scanF bs) := sortS_asc _
theorem scanF_is {bs : List Bk} {M : List Fnd} (ha : Asc M) (hk : Akin (founds bs bs.length) M) : M = scanF bs := sortS_eq hk ha
end Go.Proofs.YtcjhnoapjhohfaaGreatDoor

/-
  What a step makes of the pages of a flash, in plain words.
-/
namespace Go.Proofs.YtcjhnoapjhohfaaGreatDoor
open Words Sums

/-- How many leaves a block has. -/
def lenAt (bs : List Bk) (b : Nat) : Nat := (bs[b]?).map (fun r => r.2.2.length) |>.getD 0
def posAt (b k : Nat) : List (Nat × Nat) := (List.range k).map (fun j => (b, j))
/-- The places of the first n blocks. -/
def posN (bs : List Bk) (n : Nat) : List (Nat × Nat) := (List.range n).flatMap (fun b => posAt b (lenAt bs b))
def atQ (bs : List Bk) (q : Nat × Nat) : Option Fnd := (leafPg bs q.1 q.2).map (fun p => ⟨q.1, q.2, p⟩)
theorem posAt_succ (b k : Nat) : posAt b (k + 1) = posAt b k ++ [(b, k)] := by simp [posAt, List.range_succ]
theorem posN_succ (bs : List Bk) (n : Nat) : posN bs (n + 1) = posN bs n ++ posAt n (lenAt bs n) := by simp [posN, List.range_succ, List.flatMap_append]
theorem foundsAt_pos (bs : List Bk) (b k : Nat) : foundsAt bs b k = (posAt b k).filterMap (atQ bs) := by
  induction k with
  | zero => rfl
  | succ k ih =>
    rw [posAt_succ, List.filterMap_append, foundsAt, ih]
    congr 1
    cases h : leafPg bs (b : Int) (k : Int) with
    | none => simp [atQ, h]
    | some p => simp [atQ, h]
theorem founds_pos (bs : List Bk) (n : Nat) : founds bs n = (posN bs n).filterMap (atQ bs) := by
  induction n with
  | zero => rfl
  | succ n ih =>
    rw [posN_succ, List.filterMap_append, founds, ih, foundsAt_pos]
    rfl
theorem posAt_mem {b k : Nat} {q : Nat × Nat} : q ∈ posAt b k ↔ q.1 = b ∧ q.2 < k := by
  simp only [posAt, List.mem_map, List.mem_range]
  constructor
  · rintro ⟨j, hj, rfl⟩; exact ⟨rfl, hj⟩
  · rintro ⟨rfl, h⟩; exact ⟨q.2, h, rfl⟩
theorem posN_mem {bs : List Bk} {n : Nat} {q : Nat × Nat} : q ∈ posN bs n ↔ q.1 < n ∧ q.2 < lenAt bs q.1 := by
  simp only [posN, List.mem_flatMap, List.mem_range]
  constructor
  · rintro ⟨b, hb, hq⟩
    obtain ⟨rfl, h⟩ := posAt_mem.1 hq
    exact ⟨hb, h⟩
  · rintro ⟨h1, h2⟩; exact ⟨q.1, h1, posAt_mem.2 ⟨rfl, h2⟩⟩
theorem posAt_nodup (b k : Nat) : (posAt b k).Nodup := by
  induction k with
  | zero => exact List.nodup_nil
  | succ k ih =>
    rw [posAt_succ, List.nodup_append]
    refine ⟨ih, by simp, ?_⟩
    intro x hx y hy
    rw [List.mem_singleton] at hy
    subst hy
    have := (posAt_mem.1 hx).2
    intro e
    rw [e] at this
    simp at this
theorem posN_nodup (bs : List Bk) (n : Nat) : (posN bs n).Nodup := by
  induction n with
  | zero => exact List.nodup_nil
  | succ n ih =>
    rw [posN_succ, List.nodup_append]
    refine ⟨ih, posAt_nodup _ _, ?_⟩
    intro x hx y hy e
    have h1 := (posN_mem.1 hx).1
    have h2 := (posAt_mem.1 hy).1
    rw [e] at h1
    omega
theorem fmap_congr {α β : Type} {f g : α → Option β} : ∀ {l : List α}, (∀ x ∈ l, f x = g x) → l.filterMap f = l.filterMap g
  | [], _ => rfl
  | a :: l, h => by rw [List.filterMap_cons, List.filterMap_cons, h a (by simp), fmap_congr (fun x hx => h x (by simp [hx]))]
/-- One more page, its number above all others: it comes behind them. -/
theorem sort_more {α : Type} {L : List α} (hd : L.Nodup) {f g : α → Option Fnd} {q : α} {x : Fnd} (hq : q ∈ L) (h0 : f q = none) (h1 : g q = some x) (hs : ∀ p ∈ L, p ≠ q → g p = f p) (hk : ∀ y ∈ L.filterMap f, y.key < x.key) :
    sortS (L.filterMap g) = sortS (L.filterMap f) ++ [x] := by
  obtain ⟨A, B, rfl⟩ := List.append_of_mem hq
  rw [List.nodup_append, List.nodup_cons] at hd
  have hA : A.filterMap g = A.filterMap f := fmap_congr (fun p hp => hs p (by simp [hp]) (fun e => hd.2.2 p hp q (by simp) e))
  have hB : B.filterMap g = B.filterMap f := fmap_congr (fun p hp => hs p (by simp [hp]) (fun e => hd.2.1.1 (e ▸ hp)))
  have eg : (A ++ q :: B).filterMap g = A.filterMap f ++ ([x] ++ B.filterMap f) := by
    rw [List.filterMap_append, List.filterMap_cons, h1, hA, hB]; rfl
  have ef : (A ++ q :: B).filterMap f = A.filterMap f ++ B.filterMap f := by
    rw [List.filterMap_append, List.filterMap_cons, h0]
  rw [ef] at hk
  rw [eg, ef]
  symm
  apply sortS_eq
  · refine Akin.trans ?_ ((sortS_akin _).app (Akin.refl [x]))
    rw [List.append_assoc]
    refine (Akin.refl _).app (Akin.flip ?_)
    intro a ha b hb
    rw [List.mem_singleton] at ha
    subst ha
    have := hk b (List.mem_append_right _ hb)
    omega
  · refine (sortS_asc _).app (List.pairwise_singleton _ _) ?_
    intro a ha b hb
    rw [List.mem_singleton] at hb
    subst hb
    have := hk a ((sortS_mem _ _).1 ha)
    omega
theorem posN_same {bs cs : List Bk} (h : ∀ b, lenAt bs b = lenAt cs b) (n : Nat) : posN bs n = posN cs n := by
  unfold posN
  congr 1
  funext b
  rw [h b]
theorem mod_other {α : Type} {l : List α} (f : α → α) {i j : Nat} (h : i ≠ j) : (l.modify i f)[j]? = l[j]? := by
  rw [List.getElem?_modify]
  simp [h]
theorem read_put {bs : List Bk} {b l : Nat} {r : Bk} (t : ByteArray) (hb : bs[b]? = some r) (hl : l < r.2.2.length) (i k : Nat) : readF (putLeaf bs b l t) (i : Int) (k : Int) = if i = b ∧ k = l then (t, true) else readF bs (i : Int) (k : Int) := by
  unfold readF putLeaf
  rw [Int.toNat_natCast]
  by_cases e : i = b
  · subst e
    rw [List.getElem?_modify_eq, hb]
    simp only [Option.map_eq_map, Option.map_some, Int.toNat_natCast]
    by_cases e2 : k = l
    · subst e2
      rw [List.getElem?_set_self hl]
      simp
    · rw [List.getElem?_set_ne (fun h => e2 h.symm)]
      simp [e2]
  · rw [mod_other _ (fun h => e h.symm), if_neg (fun h => e h.1)]
theorem leaf_put {bs : List Bk} {b l : Nat} {r : Bk} (t : ByteArray) (hb : bs[b]? = some r) (hl : l < r.2.2.length) (i k : Nat) : leafPg (putLeaf bs b l t) i k = if i = b ∧ k = l then readPg t else leafPg bs i k := by
  unfold leafPg
  rw [read_put t hb hl]
  by_cases h : i = b ∧ k = l
  · rw [if_pos h, if_pos h]; rfl
  · rw [if_neg h, if_neg h]
theorem len_put (bs : List Bk) (b l : Nat) (t : ByteArray) (i : Nat) : lenAt (putLeaf bs b l t) i = lenAt bs i := by
  unfold lenAt putLeaf
  by_cases e : b = i
  · subst e
    rw [List.getElem?_modify_eq]
    cases h : bs[b]? <;> simp
  · rw [mod_other _ e]
/-- A page written where none was, its number above all others. -/
theorem scan_put {bs : List Bk} {b l : Nat} {r : Bk} {t : ByteArray} {p : Pg} (hb : bs[b]? = some r) (hl : l < r.2.2.length) (hn : leafPg bs b l = none) (hp : readPg t = some p) (hk : ∀ y ∈ scanF bs, y.key < p.seq) :
    scanF (putLeaf bs b l t) = scanF bs ++ [⟨b, l, p⟩] := by
  have hlen : (putLeaf bs b l t).length = bs.length := by simp [putLeaf]
  unfold scanF at hk ⊢
  rw [hlen, founds_pos, founds_pos, posN_same (len_put bs b l t)]
  refine sort_more (posN_nodup bs bs.length) (q := (b, l)) (posN_mem.2 ⟨(List.getElem?_eq_some_iff.1 hb).1, ?_⟩) ?_ ?_ ?_ ?_
  · show l < lenAt bs b
    rw [lenAt, hb]; exact hl
  · simp [atQ, hn]
  · simp only [atQ]
    rw [leaf_put t hb hl, if_pos ⟨rfl, rfl⟩, hp]; rfl
  · intro q _ hq
    simp only [atQ]
    rw [leaf_put t hb hl, if_neg (fun h => hq (Prod.ext h.1 h.2))]
  · intro y hy
    rw [← founds_pos] at hy
    exact hk y ((sortS_mem _ _).2 hy)
/-- What is left when all pages of a block are gone. -/
theorem filter_blk {bs cs : List Bk} {b : Nat} (hl : ∀ i, lenAt cs i = lenAt bs i) (hlen : cs.length = bs.length) (h0 : ∀ k : Nat, leafPg cs b k = none) (h1 : ∀ i k, i ≠ b → leafPg cs (i : Nat) (k : Nat) = leafPg bs i k) :
    scanF cs = (scanF bs).filter (fun x => !decide (x.block = (b : Int))) := by
  unfold scanF
  rw [← sortS_filter, hlen, founds_pos, founds_pos, posN_same hl]
  congr 1
  rw [List.filter_filterMap]
  apply fmap_congr
  intro q _
  simp only [atQ]
  by_cases e : q.1 = b
  · rw [e, h0]
    cases leafPg bs (b : Int) (q.2 : Int) with
    | none => rfl
    | some p => simp [Option.filter]
  · rw [h1 _ _ e]
    cases leafPg bs (q.1 : Int) (q.2 : Int) with
    | none => rfl
    | some p =>
      have : ¬ ((q.1 : Int) = (b : Int)) := by omega
      simp [Option.filter, this]
theorem leaf_blank4 (bs : List Bk) (b : Nat) (x : Bool) (n : Int) (h : bs[b]? = some (x, n, blank4)) (k : Nat) : leafPg bs b k = none := by
  unfold leafPg
  have : (readF bs (b : Int) (k : Int)).2 = false := by
    unfold readF
    rw [Int.toNat_natCast, h]
    simp only [Int.toNat_natCast]
    cases e : blank4[k]? with
    | none => rfl
    | some t =>
      have ht := List.mem_of_getElem? e
      have : t.1 = 0 := by
        simp only [blank4, List.mem_cons, List.not_mem_nil, or_false] at ht
        rcases ht with rfl | rfl | rfl | rfl <;> rfl
      simp [this]
  rw [this]
  rfl
theorem scan_wipe {bs : List Bk} {b : Nat} {r : Bk} (hb : bs[b]? = some r) (hr : r.2.2.length = 4) :
    scanF (bs.modify b (fun r => (false, r.2.1 + 1, blank4))) = (scanF bs).filter (fun x => !decide (x.block = (b : Int))) := by
  refine filter_blk ?_ (by simp) ?_ ?_
  · intro i
    unfold lenAt
    by_cases e : b = i
    · subst e
      rw [List.getElem?_modify_eq, hb]
      simp [hr, blank4]
    · rw [mod_other _ e]
  · intro k
    refine leaf_blank4 _ b false (r.2.1 + 1) ?_ k
    rw [List.getElem?_modify_eq, hb]
    rfl
  · intro i k hi
    unfold leafPg
    have : readF (bs.modify b (fun r => (false, r.2.1 + 1, blank4))) (i : Int) (k : Int) = readF bs (i : Int) (k : Int) := by
      unfold readF
      rw [Int.toNat_natCast, mod_other _ (fun h => hi h.symm)]
    rw [this]
theorem scan_mem {bs : List Bk} {x : Fnd} (h : x ∈ scanF bs) : ∃ b l : Nat, x.block = b ∧ x.leaf = l ∧ b < bs.length ∧ l < lenAt bs b ∧ leafPg bs b l = some x.page := by
  unfold scanF at h
  rw [sortS_mem, founds_pos, List.mem_filterMap] at h
  obtain ⟨q, hq, e⟩ := h
  have hm := posN_mem.1 hq
  simp only [atQ] at e
  cases hp : leafPg bs (q.1 : Int) (q.2 : Int) with
  | none => rw [hp] at e; cases e
  | some p =>
    rw [hp] at e
    simp only [Option.map_some, Option.some.injEq] at e
    subst e
    exact ⟨q.1, q.2, rfl, rfl, hm.1, hm.2, hp⟩
theorem scan_has {bs : List Bk} {b l : Nat} {p : Pg} (hb : b < bs.length) (hl : l < lenAt bs b) (h : leafPg bs b l = some p) : (⟨b, l, p⟩ : Fnd) ∈ scanF bs := by
  unfold scanF
  rw [sortS_mem, founds_pos, List.mem_filterMap]
  exact ⟨(b, l), posN_mem.2 ⟨hb, hl⟩, by simp [atQ, h]⟩
end Go.Proofs.YtcjhnoapjhohfaaGreatDoor

/-
  Plain facts on tokens of a text: no Go in them.
-/
namespace Go.Proofs.YtcjhnoapjhohfaaGreatDoor.Pack

/-- How many bytes, at most f, two texts begin with in common. -/
def mlen : Nat → List UInt8 → List UInt8 → Nat
  | 0, _, _ => 0
  | f + 1, a :: al, b :: bs => if a = b then mlen f al bs + 1 else 0
  | _ + 1, _, _ => 0
theorem mlen_le (f : Nat) (a b : List UInt8) : mlen f a b ≤ f ∧ mlen f a b ≤ b.length := by
  induction f generalizing a b with
  | zero => simp [mlen]
  | succ f ih =>
    cases a with
    | nil => simp [mlen]
    | cons x al =>
      cases b with
      | nil => simp [mlen]
      | cons y bs =>
        unfold mlen
        split
        · have := ih al bs
          simp only [List.length_cons]
          omega
        · simp
theorem mlen_same (f : Nat) (a b : List UInt8) (i : Nat) (h : i < mlen f a b) : a[i]? = b[i]? ∧ i < b.length := by
  induction f generalizing a b i with
  | zero => simp [mlen] at h
  | succ f ih =>
    cases a with
    | nil => simp [mlen] at h
    | cons x al =>
      cases b with
      | nil => simp [mlen] at h
      | cons y bs =>
        unfold mlen at h
        split at h
        · rename_i e
          subst e
          cases i with
          | zero => simp
          | succ i =>
            have := ih al bs i (by omega)
            simp only [List.getElem?_cons_succ, List.length_cons]
            exact ⟨this.1, by omega⟩
        · omega

/-- The longest match of the k nearest places, the nearest of several: its size and how far back. -/
def best (s : List UInt8) (at_ : Nat) : Nat → Nat × Nat
  | 0 => (0, 0)
  | k + 1 => if 4 ≤ mlen 31 (s.drop (at_ - (k + 1))) (s.drop at_) ∧ (best s at_ k).1 < mlen 31 (s.drop (at_ - (k + 1))) (s.drop at_) then (mlen 31 (s.drop (at_ - (k + 1))) (s.drop at_), k + 1) else best s at_ k
theorem best_of (s : List UInt8) (at_ k : Nat) : best s at_ k = (0, 0) ∨ (4 ≤ (best s at_ k).1 ∧ (best s at_ k).1 ≤ 31 ∧ 0 < (best s at_ k).2 ∧ (best s at_ k).2 ≤ k ∧ (best s at_ k).1 = mlen 31 (s.drop (at_ - (best s at_ k).2)) (s.drop at_)) := by
  induction k with
  | zero => left; rfl
  | succ k ih =>
    unfold best
    split
    · rename_i h
      right
      have := (mlen_le 31 (s.drop (at_ - (k + 1))) (s.drop at_)).1
      exact ⟨h.1, this, Nat.succ_pos k, Nat.le_refl _, rfl⟩
    · rcases ih with h | h
      · left; exact h
      · right; exact ⟨h.1, h.2.1, h.2.2.1, by omega, h.2.2.2.2⟩

/-- One step: the place behind it, and the tokens. -/
def stepT (s : List UInt8) (st : Nat × List (Nat × Nat × List UInt8)) : Nat × List (Nat × Nat × List UInt8) :=
  if 0 < (best s st.1 st.1).1 then (st.1 + (best s st.1 st.1).1, st.2 ++ [((best s st.1 st.1).2, (best s st.1 st.1).1, [])])
  else match st.2.getLast? with
    | some (0, z, t) => if t.length < 31 then (st.1 + 1, st.2.dropLast ++ [(0, z, t ++ [s.getD st.1 0])]) else (st.1 + 1, st.2 ++ [(0, 0, [s.getD st.1 0])])
    | _ => (st.1 + 1, st.2 ++ [(0, 0, [s.getD st.1 0])])
def stepsT : Nat → List UInt8 → Nat × List (Nat × Nat × List UInt8)
  | 0, _ => (0, [])
  | n + 1, s => if (stepsT n s).1 < s.length then stepT s (stepsT n s) else stepsT n s
/-- The tokens of a text. -/
def toks (s : List UInt8) : List (Nat × Nat × List UInt8) := (stepsT s.length s).2

/-- So many bytes said again from so far back. -/
def again : Nat → Nat → List UInt8 → List UInt8
  | 0, _, out => out
  | n + 1, back, out => again n back (out ++ [out.getD (out.length - back) 0])
/-- A token that is right behind so many bytes. -/
def TokOk (len : Nat) (t : Nat × Nat × List UInt8) : Prop := if t.1 = 0 then (1 ≤ t.2.2.length ∧ t.2.2.length ≤ 31 ∧ t.2.1 = 0) else (t.1 ≤ len ∧ 1 ≤ t.2.1 ∧ t.2.1 ≤ 31 ∧ t.2.2 = [])
instance (len : Nat) (t : Nat × Nat × List UInt8) : Decidable (TokOk len t) := by unfold TokOk; infer_instance
def tell (out : List UInt8) (t : Nat × Nat × List UInt8) : List UInt8 := if t.1 = 0 then out ++ t.2.2 else again t.2.1 t.1 out
def plainFrom (out : List UInt8) : List (Nat × Nat × List UInt8) → Option (List UInt8)
  | [] => some out
  | t :: r => if TokOk out.length t then (if (tell out t).length ≤ 64 then plainFrom (tell out t) r else none) else none
/-- What tokens tell, where they tell something. -/
def plain (l : List (Nat × Nat × List UInt8)) : Option (List UInt8) := plainFrom [] l

theorem plainFrom_append (out : List UInt8) (a b : List (Nat × Nat × List UInt8)) : plainFrom out (a ++ b) = (plainFrom out a).bind fun o => plainFrom o b := by
  induction a generalizing out with
  | nil => rfl
  | cons t a ih =>
    simp only [List.cons_append, plainFrom]
    split
    · split
      · exact ih _
      · rfl
    · rfl
theorem plainFrom_snoc (a : List (Nat × Nat × List UInt8)) (t : Nat × Nat × List UInt8) (o : List UInt8) (h : plain a = some o) (h1 : TokOk o.length t) (h2 : (tell o t).length ≤ 64) : plain (a ++ [t]) = some (tell o t) := by
  unfold plain at *
  rw [plainFrom_append, h]
  simp only [Option.bind_some, plainFrom]
  rw [if_pos h1, if_pos h2]
/-- What a match tells is what stands there. -/
theorem again_take (s : List UInt8) (at_ back n : Nat) (hb : 0 < back) (hk : back ≤ at_) (h : ∀ i, i < n → s[at_ - back + i]? = s[at_ + i]? ∧ at_ + i < s.length) : again n back (s.take at_) = s.take (at_ + n) := by
  induction n generalizing at_ with
  | zero => rfl
  | succ n ih =>
    have h0 := h 0 (by omega)
    have hl : at_ < s.length := by have := h0.2; omega
    have hlen : (s.take at_).length = at_ := by rw [List.length_take]; omega
    have e : s.take at_ ++ [(s.take at_).getD ((s.take at_).length - back) 0] = s.take (at_ + 1) := by
      rw [List.take_succ_eq_append_getElem hl, hlen]
      congr 2
      rw [List.getD_eq_getElem?_getD, List.getElem?_take_of_lt (by omega)]
      have := h0.1
      simp only [Nat.add_zero] at this
      rw [this, List.getElem?_eq_getElem hl]
      rfl
    unfold again
    rw [e, ih (at_ + 1) (by omega) (fun i hi => by
      have := h (i + 1) (by omega)
      rw [show at_ + 1 - back + i = at_ - back + (i + 1) by omega, show at_ + 1 + i = at_ + (i + 1) by omega]
      exact this), show at_ + 1 + n = at_ + (n + 1) by omega]

/-- What the steps keep. -/
def Kept (s : List UInt8) (st : Nat × List (Nat × Nat × List UInt8)) : Prop := st.1 ≤ s.length ∧ plain st.2 = some (s.take st.1) ∧ ∀ t ∈ st.2, t.1 = 0 ∨ 4 ≤ t.2.1
theorem plain_last (a : List (Nat × Nat × List UInt8)) (t : Nat × Nat × List UInt8) (o : List UInt8) (h : plain (a ++ [t]) = some o) : ∃ o', plain a = some o' ∧ TokOk o'.length t ∧ tell o' t = o := by
  unfold plain at *
  rw [plainFrom_append] at h
  cases hp : plainFrom [] a with
  | none => rw [hp] at h; cases h
  | some o' =>
    rw [hp] at h
    simp only [Option.bind_some, plainFrom] at h
    split at h
    · split at h
      · rename_i h1 h2
        cases h
        exact ⟨o', rfl, h1, rfl⟩
      · cases h
    · cases h
theorem take_next (s : List UInt8) (k : Nat) (h : k < s.length) : s.take k ++ [s.getD k 0] = s.take (k + 1) := by
  rw [List.take_succ_eq_append_getElem h, List.getD_eq_getElem?_getD, List.getElem?_eq_getElem h]
  rfl
theorem kept_new (s : List UInt8) (k : Nat) (out : List (Nat × Nat × List UInt8)) (hs : s.length ≤ 64) (hk : k < s.length) (h : Kept s (k, out)) : Kept s (k + 1, out ++ [(0, 0, [s.getD k 0])]) := by
  refine ⟨hk, ?_, ?_⟩
  · have hp := plainFrom_snoc out (0, 0, [s.getD k 0]) _ h.2.1 (by simp [TokOk]) (by simp [tell]; omega)
    rw [hp]
    simp only [tell, if_true]
    exact congrArg some (take_next s k hk)
  · intro t ht
    rcases List.mem_append.1 ht with h' | h'
    · exact h.2.2 t h'
    · simp at h'; subst h'; left; rfl
theorem kept_step (s : List UInt8) (st : Nat × List (Nat × Nat × List UInt8)) (hs : s.length ≤ 64) (hk : st.1 < s.length) (h : Kept s st) : Kept s (stepT s st) ∧ st.1 < (stepT s st).1 := by
  obtain ⟨k, out⟩ := st
  unfold stepT
  simp only
  split
  · rename_i hb
    rcases best_of s k k with h0 | ⟨h4, h31, hb0, hbk, hm⟩
    · rw [h0] at hb; simp at hb
    · have hsame : ∀ i, i < (best s k k).1 → s[k - (best s k k).2 + i]? = s[k + i]? ∧ k + i < s.length := by
        intro i hi
        rw [hm] at hi
        obtain ⟨e1, e2⟩ := mlen_same _ _ _ i hi
        rw [List.getElem?_drop, List.getElem?_drop] at e1
        rw [List.length_drop] at e2
        exact ⟨e1, by omega⟩
      have hle : k + (best s k k).1 ≤ s.length := by
        have := (hsame ((best s k k).1 - 1) (by omega)).2
        omega
      have ht := again_take s k (best s k k).2 (best s k k).1 hb0 hbk hsame
      refine ⟨⟨hle, ?_, ?_⟩, by omega⟩
      · have hl : (s.take k).length = k := by simp at hk ⊢; omega
        have hok : TokOk (s.take k).length ((best s k k).2, (best s k k).1, []) := by
          unfold TokOk
          rw [if_neg (by simp only; omega), hl]
          exact ⟨hbk, by simp only; omega, h31, rfl⟩
        have htell : tell (s.take k) ((best s k k).2, (best s k k).1, []) = s.take (k + (best s k k).1) := by
          unfold tell
          rw [if_neg (by simp only; omega)]
          exact ht
        have := plainFrom_snoc out _ _ h.2.1 hok (by rw [htell, List.length_take]; omega)
        rw [this, htell]
      · intro t ht
        rcases List.mem_append.1 ht with h' | h'
        · exact h.2.2 t h'
        · simp at h'; subst h'; right; exact h4
  · split
    · rename_i z t hlast
      split
      · rename_i ht
        obtain ⟨ini, hini⟩ : ∃ ini, out = ini ++ [(0, z, t)] := by
          obtain ⟨ini, hi⟩ := List.getLast?_eq_some_iff.1 hlast
          exact ⟨ini, hi⟩
        subst hini
        obtain ⟨o', h1, h2, h3⟩ := plain_last ini _ _ h.2.1
        simp only [List.dropLast_concat]
        have h2' := h2
        unfold TokOk at h2'
        rw [if_pos rfl] at h2'
        have htl : tell o' (0, z, t ++ [s.getD k 0]) = s.take (k + 1) := by
          unfold tell at h3 ⊢
          rw [if_pos rfl] at h3 ⊢
          rw [← take_next s k hk, ← h3, List.append_assoc]
        refine ⟨⟨hk, ?_, ?_⟩, Nat.lt_succ_self k⟩
        · have := plainFrom_snoc ini (0, z, t ++ [s.getD k 0]) o' h1 (by
            unfold TokOk
            rw [if_pos rfl]
            simp only [List.length_append, List.length_singleton]
            exact ⟨by omega, by omega, h2'.2.2⟩) (by rw [htl, List.length_take]; omega)
          rw [this, htl]
        · intro t' ht'
          rcases List.mem_append.1 ht' with h' | h'
          · exact h.2.2 t' (List.mem_append_left _ h')
          · simp at h'; subst h'; left; rfl
      · exact ⟨kept_new s k out hs hk h, Nat.lt_succ_self k⟩
    · exact ⟨kept_new s k out hs hk h, Nat.lt_succ_self k⟩
theorem kept_steps (s : List UInt8) (hs : s.length ≤ 64) (n : Nat) : Kept s (stepsT n s) ∧ min n s.length ≤ (stepsT n s).1 := by
  induction n with
  | zero => exact ⟨⟨Nat.zero_le _, rfl, fun t ht => by cases ht⟩, by simp⟩
  | succ n ih =>
    unfold stepsT
    split
    · rename_i h
      have := kept_step s _ hs h ih.1
      exact ⟨this.1, by omega⟩
    · exact ⟨ih.1, by omega⟩
/-- The tokens of a text tell it. -/
theorem plain_toks (s : List UInt8) (hs : s.length ≤ 64) : plain (toks s) = some s ∧ ∀ t ∈ toks s, t.1 = 0 ∨ 4 ≤ t.2.1 := by
  obtain ⟨⟨h1, h2, h3⟩, h4⟩ := kept_steps s hs s.length
  refine ⟨?_, h3⟩
  unfold toks
  rw [h2, List.take_of_length_le (by omega)]
end Go.Proofs.YtcjhnoapjhohfaaGreatDoor.Pack

/-
  Plain facts on texts that are packed: no Go in them.
-/
namespace Go.Proofs.YtcjhnoapjhohfaaGreatDoor.Pack

/-- The bytes of a token. -/
def zTok (t : Nat × Nat × List UInt8) : List UInt8 := if t.1 = 0 then UInt8.ofNat t.2.2.length :: t.2.2 else [UInt8.ofNat (128 + t.2.1), UInt8.ofNat t.1]
def zOf (s : List UInt8) : List UInt8 := 122 :: (toks s).flatMap zTok
/-- A text packed, where it is not too long. -/
def packL (s : List UInt8) : Option (List UInt8) := if 64 < s.length then none else some (if s.length + 1 ≤ (zOf s).length then 114 :: s else zOf s)
/-- Tokens read from bytes. -/
def readT : Nat → List UInt8 → Option (List (Nat × Nat × List UInt8))
  | _, [] => some []
  | 0, _ :: _ => none
  | f + 1, n :: r =>
    if 128 < n.toNat then (match r with
      | b :: r' => (readT f r').map fun l => (b.toNat, n.toNat - 128, []) :: l
      | [] => none)
    else if n.toNat ≤ r.length then (readT f (r.drop n.toNat)).map fun l => (0, 0, r.take n.toNat) :: l else none
/-- The text of which this is the packed one. -/
def unpackL (t : List UInt8) : Option (List UInt8) :=
  match t with
  | [] => none
  | c :: r => (if c = 122 then (readT r.length r).bind plain else some r).bind fun s => if packL s = some t then some s else none

theorem pack_len (s t : List UInt8) (h : packL s = some t) : t.length ≤ s.length + 1 := by
  unfold packL at h
  split at h
  · cases h
  · cases h
    split
    · simp
    · omega

/-- What a token that tells something looks like. -/
def Fit (t : Nat × Nat × List UInt8) : Prop := (t.1 = 0 ∧ 1 ≤ t.2.2.length ∧ t.2.2.length ≤ 31 ∧ t.2.1 = 0) ∨ (0 < t.1 ∧ t.1 ≤ 64 ∧ 1 ≤ t.2.1 ∧ t.2.1 ≤ 31 ∧ t.2.2 = [])
theorem fit_of (out o : List UInt8) (l : List (Nat × Nat × List UInt8)) (ho : out.length ≤ 64) (h : plainFrom out l = some o) : ∀ t ∈ l, Fit t := by
  induction l generalizing out with
  | nil => intro t ht; cases ht
  | cons a l ih =>
    unfold plainFrom at h
    split at h
    · rename_i hok
      split at h
      · rename_i hlen
        intro t ht
        rcases List.mem_cons.1 ht with e | e
        · subst e
          unfold TokOk at hok
          split at hok
          · rename_i h0
            exact .inl ⟨h0, hok⟩
          · rename_i h0
            exact .inr ⟨by omega, by omega, hok.2⟩
        · exact ih _ hlen h t e
      · cases h
    · cases h

theorem small_byte (n : Nat) (h : n < 256) : (UInt8.ofNat n).toNat = n := by rw [UInt8.toNat_ofNat']; omega
theorem zTok_len (t : Nat × Nat × List UInt8) : 1 ≤ (zTok t).length := by
  unfold zTok
  split <;> simp
theorem readT_of (l : List (Nat × Nat × List UInt8)) (h : ∀ t ∈ l, Fit t) (f : Nat) (hf : (l.flatMap zTok).length ≤ f) : readT f (l.flatMap zTok) = some l := by
  induction l generalizing f with
  | nil =>
    simp only [List.flatMap_nil]
    cases f <;> rfl
  | cons t l ih =>
    have ht := h t (by simp)
    have hl := ih (fun t ht => h t (by simp [ht]))
    rw [List.flatMap_cons] at hf ⊢
    rw [List.length_append] at hf
    have h1 := zTok_len t
    obtain ⟨g, rfl⟩ : ∃ g, f = g + 1 := ⟨f - 1, by omega⟩
    obtain ⟨b, n, x⟩ := t
    rcases ht with ⟨e0, e1, e2, e3⟩ | ⟨e0, e1, e2, e3, e4⟩
    · simp only at e0 e1 e2 e3
      subst e0 e3
      have hz : zTok (0, 0, x) = UInt8.ofNat x.length :: x := rfl
      rw [hz] at hf ⊢
      rw [List.cons_append]
      unfold readT
      rw [small_byte x.length (by omega), if_neg (by omega), if_pos (by simp)]
      rw [List.drop_left, List.take_left, hl g (by simp only [List.length_cons] at hf; omega)]
      rfl
    · simp only at e0 e1 e2 e3 e4
      subst e4
      have hz : zTok (b, n, []) = [UInt8.ofNat (128 + n), UInt8.ofNat b] := by
        unfold zTok
        rw [if_neg (by simp only; omega)]
      rw [hz] at hf ⊢
      rw [List.cons_append]
      unfold readT
      rw [small_byte (128 + n) (by omega), if_pos (by omega)]
      simp only [List.cons_append, List.nil_append]
      rw [hl g (by simp only [List.length_cons, List.length_nil] at hf; omega), small_byte b (by omega)]
      simp
/-- What is packed is unpacked. -/
theorem unpack_pack (s t : List UInt8) (h : packL s = some t) : unpackL t = some s := by
  have hs : s.length ≤ 64 := by
    unfold packL at h
    split at h
    · cases h
    · omega
  obtain ⟨hp, -⟩ := plain_toks s hs
  have h' := h
  unfold packL at h'
  rw [if_neg (by omega)] at h'
  split at h'
  · cases h'
    unfold unpackL
    simp only
    rw [if_neg (by decide)]
    simp only [Option.bind_some]
    rw [if_pos h]
  · cases h'
    show (if (122 : UInt8) = 122 then (readT ((toks s).flatMap zTok).length ((toks s).flatMap zTok)).bind plain else some _).bind _ = _
    rw [if_pos rfl, readT_of _ (fit_of [] s _ (by simp) hp) _ (Nat.le_refl _)]
    simp only [Option.bind_some, hp]
    rw [if_pos h]
/-- What is unpacked was packed so. -/
theorem pack_unpack (s t : List UInt8) (h : unpackL t = some s) : packL s = some t := by
  unfold unpackL at h
  split at h
  · cases h
  · rename_i c r
    cases hx : (if c = 122 then (readT r.length r).bind plain else some r) with
    | none => rw [hx] at h; cases h
    | some x =>
      rw [hx] at h
      simp only [Option.bind_some] at h
      split at h
      · rename_i e
        cases h
        exact e
      · cases h
/-- Sizes and texts of tokens are as many bytes as they tell. -/
def sizes (l : List (Nat × Nat × List UInt8)) : Nat := (l.map fun t => t.2.1 + t.2.2.length).sum
theorem again_len (n back : Nat) (out : List UInt8) : (again n back out).length = out.length + n := by
  induction n generalizing out with
  | zero => rfl
  | succ n ih => unfold again; rw [ih]; simp; omega
theorem sizes_of (out o : List UInt8) (l : List (Nat × Nat × List UInt8)) (h : plainFrom out l = some o) : o.length = out.length + sizes l := by
  induction l generalizing out with
  | nil => cases h; rfl
  | cons t l ih =>
    unfold plainFrom at h
    split at h
    · rename_i hok
      split at h
      · have := ih _ h
        rw [this]
        have hsz : sizes (t :: l) = t.2.1 + t.2.2.length + sizes l := by simp [sizes]
        rw [hsz]
        unfold TokOk at hok
        unfold tell
        split
        · rename_i h0
          rw [if_pos h0] at hok
          rw [List.length_append]
          omega
        · rename_i h0
          rw [if_neg h0] at hok
          rw [again_len, hok.2.2.2]
          simp only [List.length_nil]
          omega
      · cases h
    · cases h
end Go.Proofs.YtcjhnoapjhohfaaGreatDoor.Pack
