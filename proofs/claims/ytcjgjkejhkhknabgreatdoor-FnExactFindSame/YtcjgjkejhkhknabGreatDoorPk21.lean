/-
  StMath; ScM; ScM2
-/
import Derived.Test.YtcjgjkejhkhknabGreatDoorPk14
import Derived.Test.YtcjgjkejhkhknabGreatDoorPk20
/-
  Chapter 8 in plain words: steps, steps one behind the other, and where they are cut.
-/
namespace Go.Proofs.YtcjgjkejhkhknabGreatDoor

/-- A step: Kind, Block, Leaf, Text. -/
abbrev Stp := Int × Int × Int × ByteArray
def stV (s : Stp) : Value := .agg #[.int .i64 s.1, .int .i64 s.2.1, .int .i64 s.2.2.1, .string s.2.2.2]
def doF (bs : List Bk) (s : Stp) : List Bk × Bool := if s.1 = 1 then programF bs s.2.1 s.2.2.1 s.2.2.2 else if s.1 = 2 then wipeF bs s.2.1 else (bs, false)
theorem prog_false {bs : List Bk} {b leaf : Int} {t : ByteArray} (h : (programF bs b leaf t).2 = false) : (programF bs b leaf t).1 = bs := by
  unfold programF at *
  split
  · rename_i h1; rw [if_pos h1] at h; cases h
  · rfl
theorem wipe_false {bs : List Bk} {b : Int} (h : (wipeF bs b).2 = false) : (wipeF bs b).1 = bs := by
  unfold wipeF at *
  split
  · rename_i h1; rw [if_pos h1] at h; cases h
  · rfl
theorem do_false {bs : List Bk} {s : Stp} (h : (doF bs s).2 = false) : (doF bs s).1 = bs := by
  unfold doF at *
  split
  · rename_i h1; rw [if_pos h1] at h; exact prog_false h
  · rename_i h1
    rw [if_neg h1] at h
    split
    · rename_i h2; rw [if_pos h2] at h; exact wipe_false h
    · rfl
def doAll : List Bk → List Stp → List Bk × Nat
  | bs, [] => (bs, 0)
  | bs, s :: l => if (doF bs s).2 then ((doAll (doF bs s).1 l).1, (doAll (doF bs s).1 l).2 + 1) else (bs, 0)
theorem doAll_le (bs : List Bk) (l : List Stp) : (doAll bs l).2 ≤ l.length := by
  induction l generalizing bs with
  | nil => simp [doAll]
  | cons s l ih =>
    simp only [doAll]
    split
    · have := ih (doF bs s).1
      simp only [List.length_cons]
      omega
    · simp
/-- All of the first list done: then go on. -/
theorem doAll_app {bs c : List Bk} {l m : List Stp} (h : doAll bs l = (c, l.length)) : doAll bs (l ++ m) = ((doAll c m).1, l.length + (doAll c m).2) := by
  induction l generalizing bs with
  | nil =>
    simp only [doAll] at h
    cases h
    simp
  | cons s l ih =>
    simp only [doAll, List.length_cons] at h
    by_cases hs : (doF bs s).2 = true
    · rw [if_pos hs] at h
      have h1 : doAll (doF bs s).1 l = (c, l.length) := by
        have e1 := congrArg Prod.fst h
        have e2 := congrArg Prod.snd h
        simp only at e1 e2
        exact Prod.ext e1 (by simp only; omega)
      rw [List.cons_append, doAll, if_pos hs, ih h1]
      simp only [List.length_cons]
      congr 1
      omega
    · rw [if_neg hs] at h
      have e2 := congrArg Prod.snd h
      simp at e2
theorem doAll_one (bs : List Bk) (s : Stp) : doAll bs [s] = if (doF bs s).2 then ((doF bs s).1, 1) else (bs, 0) := by
  simp only [doAll]
theorem doAll_next {bs b : List Bk} {l : List Stp} {i : Nat} {s : Stp} (h : doAll bs (l.take i) = (b, i)) (hs : l[i]? = some s) (hd : (doF b s).2 = true) : doAll bs (l.take (i + 1)) = ((doF b s).1, i + 1) := by
  obtain ⟨h1, rfl⟩ := List.getElem?_eq_some_iff.1 hs
  have hl : (l.take i).length = i := by rw [List.length_take]; omega
  rw [List.take_succ_eq_append_getElem h1, doAll_app (c := b) (by rw [hl]; exact h), doAll_one, if_pos hd, hl]
theorem doAll_stop {bs b : List Bk} {l : List Stp} {i : Nat} {s : Stp} (h : doAll bs (l.take i) = (b, i)) (hs : l[i]? = some s) (hd : (doF b s).2 = false) : doAll bs l = (b, i) := by
  obtain ⟨h1, rfl⟩ := List.getElem?_eq_some_iff.1 hs
  have hl : (l.take i).length = i := by rw [List.length_take]; omega
  have e : l = l.take i ++ (l[i] :: l.drop (i + 1)) := by rw [← List.drop_eq_getElem_cons h1, List.take_append_drop]
  rw [e, doAll_app (c := b) (by rw [hl]; exact h), doAll, if_neg (by rw [hd]; simp), hl]
  rfl
theorem doAll_end {bs b : List Bk} {l : List Stp} {i : Nat} (h : doAll bs (l.take i) = (b, i)) (hi : i = l.length) : doAll bs l = (b, l.length) := by
  subst hi
  rw [List.take_of_length_le (Nat.le_refl _)] at h
  exact h
/-- What is done is done by the first of them alone. -/
theorem doAll_pre (bs : List Bk) (l : List Stp) (k : Nat) (hk : k ≤ (doAll bs l).2) : ∃ b, doAll bs (l.take k) = (b, k) ∧ doAll b (l.drop k) = ((doAll bs l).1, (doAll bs l).2 - k) := by
  induction l generalizing bs k with
  | nil =>
    simp only [doAll] at hk
    have : k = 0 := by omega
    subst this
    exact ⟨bs, rfl, rfl⟩
  | cons s l ih =>
    cases k with
    | zero => exact ⟨bs, by simp [doAll], by simp⟩
    | succ k =>
      by_cases hs : (doF bs s).2 = true
      · simp only [doAll, if_pos hs] at hk ⊢
        obtain ⟨b, h1, h2⟩ := ih (doF bs s).1 k (by omega)
        refine ⟨b, ?_, ?_⟩
        · rw [List.take_succ_cons, doAll, if_pos hs, h1]
        · rw [List.drop_succ_cons, h2]
          congr 1
          omega
      · simp only [doAll, if_neg hs] at hk
        omega

def halfT (t : ByteArray) : ByteArray := t.extract 0 (t.size / 2)
theorem halfT_size (t : ByteArray) : (halfT t).size = t.size / 2 := by
  unfold halfT
  rw [ByteArray.size_extract]
  omega
/-- What a torn step leaves, where it may be done. -/
def tornF (bs : List Bk) (s : Stp) : List Bk :=
  if s.1 = 1 then bs.modify s.2.1.toNat (fun r => (r.1, r.2.1, r.2.2.set s.2.2.1.toNat (2, halfT s.2.2.2)))
  else bs.modify s.2.1.toNat (fun r => (r.1, r.2.1, List.replicate r.2.2.length (2, ⟨#[]⟩)))
def tormF (bs : List Bk) (s : Stp) : List Bk × Bool := if (doF bs s).2 then (tornF bs s, true) else (bs, false)
def cutF (bs : List Bk) (l : List Stp) (whole : Int) (torn : Bool) : List Bk × Bool :=
  if 0 ≤ whole ∧ whole ≤ l.length then
    if (doAll bs (l.take whole.toNat)).2 = whole.toNat then
      match torn, l[whole.toNat]? with
      | true, some s => if (tormF (doAll bs (l.take whole.toNat)).1 s).2 then ((tormF (doAll bs (l.take whole.toNat)).1 s).1, true) else (bs, false)
      | _, _ => ((doAll bs (l.take whole.toNat)).1, true)
    else (bs, false)
  else (bs, false)
theorem cut_out {bs : List Bk} {l : List Stp} {whole : Int} {torn : Bool} (h : ¬ (0 ≤ whole ∧ whole ≤ l.length)) : cutF bs l whole torn = (bs, false) := by
  unfold cutF
  rw [if_neg h]
theorem cut_less {bs : List Bk} {l : List Stp} {k : Nat} {torn : Bool} {c : List Bk} {n : Nat} (h : doAll bs (l.take k) = (c, n)) (hn : n ≠ k) : cutF bs l (k : Int) torn = (bs, false) := by
  unfold cutF
  rw [Int.toNat_natCast, h]
  split
  · first | rfl | (rw [if_neg hn])
  · rfl
theorem cut_whole {bs : List Bk} {l : List Stp} {k : Nat} {torn : Bool} {c : List Bk} (h : doAll bs (l.take k) = (c, k)) (hk : k ≤ l.length) (ht : torn = false ∨ k = l.length) : cutF bs l (k : Int) torn = (c, true) := by
  unfold cutF
  rw [Int.toNat_natCast, h, if_pos ⟨by omega, by omega⟩, if_pos rfl]
  rcases ht with rfl | rfl
  · rfl
  · rw [List.getElem?_eq_none (Nat.le_refl _)]
    cases torn <;> rfl
theorem cut_torn {bs : List Bk} {l : List Stp} {k : Nat} {c : List Bk} {s : Stp} (h : doAll bs (l.take k) = (c, k)) (hs : l[k]? = some s) : cutF bs l (k : Int) true = if (tormF c s).2 then ((tormF c s).1, true) else (bs, false) := by
  have hk := (List.getElem?_eq_some_iff.1 hs).1
  unfold cutF
  rw [Int.toNat_natCast, h, if_pos ⟨by omega, by omega⟩, if_pos rfl, hs]
/-- A step that can be done has its place. -/
theorem do_place {bs : List Bk} {s : Stp} (h : (doF bs s).2 = true) : ∃ (k : Nat) (r : Bk), s.2.1 = k ∧ bs[k]? = some r ∧ r.2.2.length = 4 ∧ (s.1 = 1 ∨ s.1 = 2) ∧ (s.1 = 1 → ∃ j : Nat, s.2.2.1 = j ∧ j < 4 ∧ j = nextB r.2.2 ∧ 1 ≤ s.2.2.2.size ∧ s.2.2.2.size ≤ 120) ∧ flOk bs = true ∧ r.1 = false := by
  have four : ∀ r ∈ bs, flOk bs = true → r.2.2.length = 4 := by
    intro r hr h
    simp only [flOk, Bool.and_eq_true, List.all_eq_true] at h
    have h2 := h.2 r hr
    simp only [blkOk, Bool.and_eq_true, decide_eq_true_eq] at h2
    exact h2.1.1
  unfold doF at h
  by_cases h1 : s.1 = 1
  · rw [if_pos h1] at h
    unfold programF at h
    split at h
    · rename_i h2
      rw [Bool.and_eq_true] at h2
      obtain ⟨hf, hm⟩ := h2
      unfold mayP at hm
      cases hb : bs[s.2.1.toNat]? with
      | none => rw [hb] at hm; cases hm
      | some r =>
        rw [hb] at hm
        have hm := of_decide_eq_true hm
        exact ⟨s.2.1.toNat, r, by omega, hb, four r (List.mem_of_getElem? hb) hf, Or.inl h1, fun _ => ⟨nextB r.2.2, hm.2.2.2.1, by omega, rfl, hm.2.2.2.2.1, hm.2.2.2.2.2⟩, hf, hm.2.1⟩
    · cases h
  · rw [if_neg h1] at h
    by_cases h2 : s.1 = 2
    · rw [if_pos h2] at h
      unfold wipeF at h
      split at h
      · rename_i h3
        rw [Bool.and_eq_true] at h3
        obtain ⟨hf, hm⟩ := h3
        unfold mayW at hm
        cases hb : bs[s.2.1.toNat]? with
        | none => rw [hb] at hm; cases hm
        | some r =>
          rw [hb] at hm
          have hm := of_decide_eq_true hm
          exact ⟨s.2.1.toNat, r, by omega, hb, four r (List.mem_of_getElem? hb) hf, Or.inr h2, fun h => absurd h h1, hf, hm.2.1⟩
      · cases h
    · rw [if_neg h2] at h
      cases h
end Go.Proofs.YtcjgjkejhkhknabGreatDoor

/-
  A flash's pages in the order of their numbers, in plain words; what a step makes of them.
-/
namespace Go.Proofs.YtcjgjkejhkhknabGreatDoor
open Words Sums

/-- Laid into a row that ascends, behind those of its number. -/
def inSq (x : Fnd) : List Fnd → List Fnd
  | [] => [x]
  | y :: l => if x.key < y.key then x :: y :: l else y :: inSq x l
def sortS (l : List Fnd) : List Fnd := l.foldl (fun m x => inSq x m) []
theorem inSq_mem {x y : Fnd} {l : List Fnd} : y ∈ inSq x l ↔ y = x ∨ y ∈ l := by
  induction l with
  | nil => simp [inSq]
  | cons z l ih =>
    unfold inSq
    split
    · simp
    · simp only [List.mem_cons, ih]
      constructor
      · rintro (h | h | h)
        · exact .inr (.inl h)
        · exact .inl h
        · exact .inr (.inr h)
      · rintro (h | h | h)
        · exact .inr (.inl h)
        · exact .inl h
        · exact .inr (.inr h)
theorem inSq_asc {x : Fnd} {l : List Fnd} (h : Asc l) : Asc (inSq x l) := by
  induction l with
  | nil => exact List.pairwise_singleton _ _
  | cons z l ih =>
    have h1 := List.pairwise_cons.1 h
    unfold inSq
    split
    · rename_i hx
      refine List.pairwise_cons.2 ⟨?_, h⟩
      intro y hy
      rcases List.mem_cons.1 hy with e | e
      · subst e; omega
      · have := h1.1 y e; omega
    · rename_i hx
      refine List.pairwise_cons.2 ⟨?_, ih h1.2⟩
      intro y hy
      rcases inSq_mem.1 hy with e | e
      · subst e; omega
      · exact h1.1 y e
theorem inSq_akin {x : Fnd} {l : List Fnd} (h : Asc l) : Akin (inSq x l) (l ++ [x]) := by
  intro c
  induction l with
  | nil => rfl
  | cons z l ih =>
    have h1 := List.pairwise_cons.1 h
    unfold inSq
    split
    · rename_i hx
      rw [List.filter_append]
      by_cases e : x.key = c
      · have hn : (z :: l).filter (fun y => y.key == c) = [] := by
          rw [List.filter_eq_nil_iff]
          intro y hy
          rcases List.mem_cons.1 hy with q | q
          · subst q; simp; omega
          · have := h1.1 y q; simp; omega
        rw [hn, List.filter_cons_of_pos (by simpa using e), hn, List.filter_cons_of_pos (by simpa using e)]
        rfl
      · rw [List.filter_cons_of_neg (a := x) (by simpa using e), List.filter_cons_of_neg (a := x) (l := []) (by simpa using e)]
        simp
    · rw [List.cons_append]
      by_cases e : z.key = c
      · rw [List.filter_cons_of_pos (by simpa using e), List.filter_cons_of_pos (by simpa using e), ih h1.2]
      · rw [List.filter_cons_of_neg (by simpa using e), List.filter_cons_of_neg (by simpa using e), ih h1.2]
theorem sortS_snoc (l : List Fnd) (x : Fnd) : sortS (l ++ [x]) = inSq x (sortS l) := by simp [sortS, List.foldl_append]
theorem snocS_ind {α : Type} {P : List α → Prop} (h0 : P []) (h1 : ∀ l r, P l → P (l ++ [r])) : ∀ l, P l := by
  intro l
  have : ∀ m : List α, P m.reverse := by
    intro m
    induction m with
    | nil => simpa using h0
    | cons a m ih => rw [List.reverse_cons]; exact h1 _ _ ih
  simpa using this l.reverse
theorem sortS_asc (l : List Fnd) : Asc (sortS l) := by
  induction l using snocS_ind with
  | h0 => exact List.Pairwise.nil
  | h1 l x ih => rw [sortS_snoc]; exact inSq_asc ih
theorem sortS_akin (l : List Fnd) : Akin l (sortS l) := by
  induction l using snocS_ind with
  | h0 => exact Akin.refl _
  | h1 l x ih =>
    rw [sortS_snoc]
    exact (ih.app (Akin.refl [x])).trans (inSq_akin (sortS_asc l)).symm
theorem sortS_eq {l m : List Fnd} (h : Akin l m) (ha : Asc m) : m = sortS l := (h.symm.trans (sortS_akin l)).eq ha (sortS_asc l)
theorem sortS_mem (l : List Fnd) (x : Fnd) : x ∈ sortS l ↔ x ∈ l := ((sortS_akin l).mem x).symm
theorem Words.Asc.sub {l m : List Fnd} (h : Asc l) (hs : m.Sublist l) : Asc m := List.Pairwise.sublist hs h
theorem Words.Akin.filter {l m : List Fnd} (h : Akin l m) (p : Fnd → Bool) : Akin (l.filter p) (m.filter p) := fun c => by
  have e : ∀ k : List Fnd, (k.filter p).filter (fun x => x.key == c) = (k.filter (fun x => x.key == c)).filter p := fun k => by
    rw [List.filter_filter, List.filter_filter]
    congr 1
    funext x
    exact Bool.and_comm _ _
  rw [e, e, h c]
theorem sortS_filter (l : List Fnd) (p : Fnd → Bool) : sortS (l.filter p) = (sortS l).filter p :=
  (sortS_eq ((sortS_akin l).filter p) ((sortS_asc l).sub List.filter_sublist)).symm

/-- The pages of a flash, in the order of their numbers. -/
def scanF (bs : List Bk) : List Fnd := sortS (founds bs bs.length)
theorem scanF_asc (bs : List Bk) : Asc (scanF bs) := sortS_asc _
theorem scanF_is {bs : List Bk} {M : List Fnd} (ha : Asc M) (hk : Akin (founds bs bs.length) M) : M = scanF bs := sortS_eq hk ha
end Go.Proofs.YtcjgjkejhkhknabGreatDoor

/-
  What a step makes of the pages of a flash, in plain words.
-/
namespace Go.Proofs.YtcjgjkejhkhknabGreatDoor
open Words Sums

/-- How many leaves a block has. -/
def lenAt (bs : List Bk) (b : Nat) : Nat := (bs[b]?).map (fun r => r.2.2.length) |>.getD 0
def posAt (b k : Nat) : List (Nat × Nat) := (List.range k).map (fun j => (b, j))
/-- The places of the first n blocks. -/
def posN (bs : List Bk) (n : Nat) : List (Nat × Nat) := (List.range n).flatMap (fun b => posAt b (lenAt bs b))
def atQ (bs : List Bk) (q : Nat × Nat) : Option Fnd := (leafPg bs q.1 q.2).map (fun p => ⟨q.1, q.2, p⟩)
theorem posAt_succ (b k : Nat) : posAt b (k + 1) = posAt b k ++ [(b, k)] := by simp [posAt, List.range_succ]
theorem posN_succ (bs : List Bk) (n : Nat) : posN bs (n + 1) = posN bs n ++ posAt n (lenAt bs n) := by simp [posN, List.range_succ, List.flatMap_append]
theorem foundsAt_pos (bs : List Bk) (b k : Nat) : foundsAt bs b k = (posAt b k).filterMap (atQ bs) := by
  induction k with
  | zero => rfl
  | succ k ih =>
    rw [posAt_succ, List.filterMap_append, foundsAt, ih]
    congr 1
    cases h : leafPg bs (b : Int) (k : Int) with
    | none => simp [atQ, h]
    | some p => simp [atQ, h]
theorem founds_pos (bs : List Bk) (n : Nat) : founds bs n = (posN bs n).filterMap (atQ bs) := by
  induction n with
  | zero => rfl
  | succ n ih =>
    rw [posN_succ, List.filterMap_append, founds, ih, foundsAt_pos]
    rfl
theorem posAt_mem {b k : Nat} {q : Nat × Nat} : q ∈ posAt b k ↔ q.1 = b ∧ q.2 < k := by
  simp only [posAt, List.mem_map, List.mem_range]
  constructor
  · rintro ⟨j, hj, rfl⟩; exact ⟨rfl, hj⟩
  · rintro ⟨rfl, h⟩; exact ⟨q.2, h, rfl⟩
theorem posN_mem {bs : List Bk} {n : Nat} {q : Nat × Nat} : q ∈ posN bs n ↔ q.1 < n ∧ q.2 < lenAt bs q.1 := by
  simp only [posN, List.mem_flatMap, List.mem_range]
  constructor
  · rintro ⟨b, hb, hq⟩
    obtain ⟨rfl, h⟩ := posAt_mem.1 hq
    exact ⟨hb, h⟩
  · rintro ⟨h1, h2⟩; exact ⟨q.1, h1, posAt_mem.2 ⟨rfl, h2⟩⟩
theorem posAt_nodup (b k : Nat) : (posAt b k).Nodup := by
  induction k with
  | zero => exact List.nodup_nil
  | succ k ih =>
    rw [posAt_succ, List.nodup_append]
    refine ⟨ih, by simp, ?_⟩
    intro x hx y hy
    rw [List.mem_singleton] at hy
    subst hy
    have := (posAt_mem.1 hx).2
    intro e
    rw [e] at this
    simp at this
theorem posN_nodup (bs : List Bk) (n : Nat) : (posN bs n).Nodup := by
  induction n with
  | zero => exact List.nodup_nil
  | succ n ih =>
    rw [posN_succ, List.nodup_append]
    refine ⟨ih, posAt_nodup _ _, ?_⟩
    intro x hx y hy e
    have h1 := (posN_mem.1 hx).1
    have h2 := (posAt_mem.1 hy).1
    rw [e] at h1
    omega
theorem fmap_congr {α β : Type} {f g : α → Option β} : ∀ {l : List α}, (∀ x ∈ l, f x = g x) → l.filterMap f = l.filterMap g
  | [], _ => rfl
  | a :: l, h => by rw [List.filterMap_cons, List.filterMap_cons, h a (by simp), fmap_congr (fun x hx => h x (by simp [hx]))]
/-- One more page, its number above all others: it comes behind them. -/
theorem sort_more {α : Type} {L : List α} (hd : L.Nodup) {f g : α → Option Fnd} {q : α} {x : Fnd} (hq : q ∈ L) (h0 : f q = none) (h1 : g q = some x) (hs : ∀ p ∈ L, p ≠ q → g p = f p) (hk : ∀ y ∈ L.filterMap f, y.key < x.key) :
    sortS (L.filterMap g) = sortS (L.filterMap f) ++ [x] := by
  obtain ⟨A, B, rfl⟩ := List.append_of_mem hq
  rw [List.nodup_append, List.nodup_cons] at hd
  have hA : A.filterMap g = A.filterMap f := fmap_congr (fun p hp => hs p (by simp [hp]) (fun e => hd.2.2 p hp q (by simp) e))
  have hB : B.filterMap g = B.filterMap f := fmap_congr (fun p hp => hs p (by simp [hp]) (fun e => hd.2.1.1 (e ▸ hp)))
  have eg : (A ++ q :: B).filterMap g = A.filterMap f ++ ([x] ++ B.filterMap f) := by
    rw [List.filterMap_append, List.filterMap_cons, h1, hA, hB]; rfl
  have ef : (A ++ q :: B).filterMap f = A.filterMap f ++ B.filterMap f := by
    rw [List.filterMap_append, List.filterMap_cons, h0]
  rw [ef] at hk
  rw [eg, ef]
  symm
  apply sortS_eq
  · refine Akin.trans ?_ ((sortS_akin _).app (Akin.refl [x]))
    rw [List.append_assoc]
    refine (Akin.refl _).app (Akin.flip ?_)
    intro a ha b hb
    rw [List.mem_singleton] at ha
    subst ha
    have := hk b (List.mem_append_right _ hb)
    omega
  · refine (sortS_asc _).app (List.pairwise_singleton _ _) ?_
    intro a ha b hb
    rw [List.mem_singleton] at hb
    subst hb
    have := hk a ((sortS_mem _ _).1 ha)
    omega
theorem posN_same {bs cs : List Bk} (h : ∀ b, lenAt bs b = lenAt cs b) (n : Nat) : posN bs n = posN cs n := by
  unfold posN
  congr 1
  funext b
  rw [h b]
theorem mod_other {α : Type} {l : List α} (f : α → α) {i j : Nat} (h : i ≠ j) : (l.modify i f)[j]? = l[j]? := by
  rw [List.getElem?_modify]
  simp [h]
theorem read_put {bs : List Bk} {b l : Nat} {r : Bk} (t : ByteArray) (hb : bs[b]? = some r) (hl : l < r.2.2.length) (i k : Nat) : readF (putLeaf bs b l t) (i : Int) (k : Int) = if i = b ∧ k = l then (t, true) else readF bs (i : Int) (k : Int) := by
  unfold readF putLeaf
  rw [Int.toNat_natCast]
  by_cases e : i = b
  · subst e
    rw [List.getElem?_modify_eq, hb]
    simp only [Option.map_eq_map, Option.map_some, Int.toNat_natCast]
    by_cases e2 : k = l
    · subst e2
      rw [List.getElem?_set_self hl]
      simp
    · rw [List.getElem?_set_ne (fun h => e2 h.symm)]
      simp [e2]
  · rw [mod_other _ (fun h => e h.symm), if_neg (fun h => e h.1)]
theorem leaf_put {bs : List Bk} {b l : Nat} {r : Bk} (t : ByteArray) (hb : bs[b]? = some r) (hl : l < r.2.2.length) (i k : Nat) : leafPg (putLeaf bs b l t) i k = if i = b ∧ k = l then readPg t else leafPg bs i k := by
  unfold leafPg
  rw [read_put t hb hl]
  by_cases h : i = b ∧ k = l
  · rw [if_pos h, if_pos h]; rfl
  · rw [if_neg h, if_neg h]
theorem len_put (bs : List Bk) (b l : Nat) (t : ByteArray) (i : Nat) : lenAt (putLeaf bs b l t) i = lenAt bs i := by
  unfold lenAt putLeaf
  by_cases e : b = i
  · subst e
    rw [List.getElem?_modify_eq]
    cases h : bs[b]? <;> simp
  · rw [mod_other _ e]
/-- A page written where none was, its number above all others. -/
theorem scan_put {bs : List Bk} {b l : Nat} {r : Bk} {t : ByteArray} {p : Pg} (hb : bs[b]? = some r) (hl : l < r.2.2.length) (hn : leafPg bs b l = none) (hp : readPg t = some p) (hk : ∀ y ∈ scanF bs, y.key < p.seq) :
    scanF (putLeaf bs b l t) = scanF bs ++ [⟨b, l, p⟩] := by
  have hlen : (putLeaf bs b l t).length = bs.length := by simp [putLeaf]
  unfold scanF at hk ⊢
  rw [hlen, founds_pos, founds_pos, posN_same (len_put bs b l t)]
  refine sort_more (posN_nodup bs bs.length) (q := (b, l)) (posN_mem.2 ⟨(List.getElem?_eq_some_iff.1 hb).1, ?_⟩) ?_ ?_ ?_ ?_
  · show l < lenAt bs b
    rw [lenAt, hb]; exact hl
  · simp [atQ, hn]
  · simp only [atQ]
    rw [leaf_put t hb hl, if_pos ⟨rfl, rfl⟩, hp]; rfl
  · intro q _ hq
    simp only [atQ]
    rw [leaf_put t hb hl, if_neg (fun h => hq (Prod.ext h.1 h.2))]
  · intro y hy
    rw [← founds_pos] at hy
    exact hk y ((sortS_mem _ _).2 hy)
/-- What is left when all pages of a block are gone. -/
theorem filter_blk {bs cs : List Bk} {b : Nat} (hl : ∀ i, lenAt cs i = lenAt bs i) (hlen : cs.length = bs.length) (h0 : ∀ k : Nat, leafPg cs b k = none) (h1 : ∀ i k, i ≠ b → leafPg cs (i : Nat) (k : Nat) = leafPg bs i k) :
    scanF cs = (scanF bs).filter (fun x => !decide (x.block = (b : Int))) := by
  unfold scanF
  rw [← sortS_filter, hlen, founds_pos, founds_pos, posN_same hl]
  congr 1
  rw [List.filter_filterMap]
  apply fmap_congr
  intro q _
  simp only [atQ]
  by_cases e : q.1 = b
  · rw [e, h0]
    cases leafPg bs (b : Int) (q.2 : Int) with
    | none => rfl
    | some p => simp [Option.filter]
  · rw [h1 _ _ e]
    cases leafPg bs (q.1 : Int) (q.2 : Int) with
    | none => rfl
    | some p =>
      have : ¬ ((q.1 : Int) = (b : Int)) := by omega
      simp [Option.filter, this]
theorem leaf_blank4 (bs : List Bk) (b : Nat) (x : Bool) (n : Int) (h : bs[b]? = some (x, n, blank4)) (k : Nat) : leafPg bs b k = none := by
  unfold leafPg
  have : (readF bs (b : Int) (k : Int)).2 = false := by
    unfold readF
    rw [Int.toNat_natCast, h]
    simp only [Int.toNat_natCast]
    cases e : blank4[k]? with
    | none => rfl
    | some t =>
      have ht := List.mem_of_getElem? e
      have : t.1 = 0 := by
        simp only [blank4, List.mem_cons, List.not_mem_nil, or_false] at ht
        rcases ht with rfl | rfl | rfl | rfl <;> rfl
      simp [this]
  rw [this]
  rfl
theorem scan_wipe {bs : List Bk} {b : Nat} {r : Bk} (hb : bs[b]? = some r) (hr : r.2.2.length = 4) :
    scanF (bs.modify b (fun r => (false, r.2.1 + 1, blank4))) = (scanF bs).filter (fun x => !decide (x.block = (b : Int))) := by
  refine filter_blk ?_ (by simp) ?_ ?_
  · intro i
    unfold lenAt
    by_cases e : b = i
    · subst e
      rw [List.getElem?_modify_eq, hb]
      simp [hr, blank4]
    · rw [mod_other _ e]
  · intro k
    refine leaf_blank4 _ b false (r.2.1 + 1) ?_ k
    rw [List.getElem?_modify_eq, hb]
    rfl
  · intro i k hi
    unfold leafPg
    have : readF (bs.modify b (fun r => (false, r.2.1 + 1, blank4))) (i : Int) (k : Int) = readF bs (i : Int) (k : Int) := by
      unfold readF
      rw [Int.toNat_natCast, mod_other _ (fun h => hi h.symm)]
    rw [this]
theorem scan_mem {bs : List Bk} {x : Fnd} (h : x ∈ scanF bs) : ∃ b l : Nat, x.block = b ∧ x.leaf = l ∧ b < bs.length ∧ l < lenAt bs b ∧ leafPg bs b l = some x.page := by
  unfold scanF at h
  rw [sortS_mem, founds_pos, List.mem_filterMap] at h
  obtain ⟨q, hq, e⟩ := h
  have hm := posN_mem.1 hq
  simp only [atQ] at e
  cases hp : leafPg bs (q.1 : Int) (q.2 : Int) with
  | none => rw [hp] at e; cases e
  | some p =>
    rw [hp] at e
    simp only [Option.map_some, Option.some.injEq] at e
    subst e
    exact ⟨q.1, q.2, rfl, rfl, hm.1, hm.2, hp⟩
theorem scan_has {bs : List Bk} {b l : Nat} {p : Pg} (hb : b < bs.length) (hl : l < lenAt bs b) (h : leafPg bs b l = some p) : (⟨b, l, p⟩ : Fnd) ∈ scanF bs := by
  unfold scanF
  rw [sortS_mem, founds_pos, List.mem_filterMap]
  exact ⟨(b, l), posN_mem.2 ⟨hb, hl⟩, by simp [atQ, h]⟩
end Go.Proofs.YtcjgjkejhkhknabGreatDoor
