/-
  StMath; ScM
-/
import Derived.Test.YtiicghepilbgfaaGreatDoorPk3
/-
  Chapter 8 in plain words: steps, steps one behind the other, and where they are cut.
-/
namespace Go.Proofs.YtiicghepilbgfaaGreatDoor

/-- A step: Kind, Block, Leaf, Text. -/
abbrev Stp := Int × Int × Int × ByteArray
def stV (s : Stp) : Value := .agg #[.int .i64 s.1, .int .i64 s.2.1, .int .i64 s.2.2.1, .string s.2.2.2]
def doF (bs : List Bk) (s : Stp) : List Bk × Bool := if s.1 = 1 then programF bs s.2.1 s.2.2.1 s.2.2.2 else if s.1 = 2 then wipeF bs s.2.1 else (bs, false)
theorem prog_false {bs : List Bk} {b leaf : Int} {t : ByteArray} (h : (programF bs b leaf t).2 = false) : (programF bs b leaf t).1 = bs := by
  unfold programF at *
  split
  · rename_i h1; rw [if_pos h1] at h; cases h
  · rfl
theorem wipe_false {bs : List Bk} {b : Int} (h : (wipeF bs b).2 = false) : (wipeF bs b).1 = bs := by
  unfold wipeF at *
  split
  · rename_i h1; rw [if_pos h1] at h; cases h
  · rfl
theorem do_false {bs : List Bk} {s : Stp} (h : (doF bs s).2 = false) : (doF bs s).1 = bs := by
  unfold doF at *
  split
  · rename_i h1; rw [if_pos h1] at h; exact prog_false h
  · rename_i h1
    rw [if_neg h1] at h
    split
    · rename_i h2; rw [if_pos h2] at h; exact wipe_false h
    · rfl
def doAll : List Bk → List Stp → List Bk × Nat
  | bs, [] => (bs, 0)
  | bs, s :: l => if (doF bs s).2 then ((doAll (doF bs s).1 l).1, (doAll (doF bs s).1 l).2 + 1) else (bs, 0)
theorem doAll_le (bs : List Bk) (l : List Stp) : (doAll bs l).2 ≤ l.length := by
  induction l generalizing bs with
  | nil => simp [doAll]
  | cons s l ih =>
    simp only [doAll]
    split
    · have := ih (doF bs s).1
      simp only [List.length_cons]
      omega
    · simp
/-- All of the first list done: then go on. -/
theorem doAll_app {bs c : List Bk} {l m : List Stp} (h : doAll bs l = (c, l.length)) : doAll bs (l ++ m) = ((doAll c m).1, l.length + (doAll c m).2) := by
  induction l generalizing bs with
  | nil =>
    simp only [doAll] at h
    cases h
    simp
  | cons s l ih =>
    simp only [doAll, List.length_cons] at h
    by_cases hs : (doF bs s).2 = true
    · rw [if_pos hs] at h
      have h1 : doAll (doF bs s).1 l = (c, l.length) := by
        have e1 := congrArg Prod.fst h
        have e2 := congrArg Prod.snd h
        simp only at e1 e2
        exact Prod.ext e1 (by simp only; omega)
      rw [List.cons_append, doAll, if_pos hs, ih h1]
      simp only [List.length_cons]
      congr 1
      omega
    · rw [if_neg hs] at h
      have e2 := congrArg Prod.snd h
      simp at e2
theorem doAll_one (bs : List Bk) (s : Stp) : doAll bs [s] = if (doF bs s).2 then ((doF bs s).1, 1) else (bs, 0) := by
  simp only [doAll]
theorem doAll_next {bs b : List Bk} {l : List Stp} {i : Nat} {s : Stp} (h : doAll bs (l.take i) = (b, i)) (hs : l[i]? = some s) (hd : (doF b s).2 = true) : doAll bs (l.take (i + 1)) = ((doF b s).1, i + 1) := by
  obtain ⟨h1, rfl⟩ := List.getElem?_eq_some_iff.1 hs
  have hl : (l.take i).length = i := by rw [List.length_take]; omega
  rw [List.take_succ_eq_append_getElem h1, doAll_app (c := b) (by rw [hl]; exact h), doAll_one, if_pos hd, hl]
theorem doAll_stop {bs b : List Bk} {l : List Stp} {i : Nat} {s : Stp} (h : doAll bs (l.take i) = (b, i)) (hs : l[i]? = some s) (hd : (doF b s).2 = false) : doAll bs l = (b, i) := by
  obtain ⟨h1, rfl⟩ := List.getElem?_eq_some_iff.1 hs
  have hl : (l.take i).length = i := by rw [List.length_take]; omega
  have e : l = l.take i ++ (l[i] :: l.drop (i + 1)) := by rw [← List.drop_eq_getElem_cons h1, List.take_append_drop]
  rw [e, doAll_app (c := b) (by rw [hl]; exact h), doAll, if_neg (by rw [hd]; simp), hl]
  rfl
theorem doAll_end {bs b : List Bk} {l : List Stp} {i : Nat} (h : doAll bs (l.take i) = (b, i)) (hi : i = l.length) : doAll bs l = (b, l.length) := by
  subst hi
  rw [List.take_of_length_le (Nat.le_refl _)] at h
  exact h
/-- What is done is done by the first of them alone. -/
theorem doAll_pre (bs : List Bk) (l : List Stp) (k : Nat) (hk : k ≤ (doAll bs l).2) : ∃ b, doAll bs (l.take k) = (b, k) ∧ doAll b (l.drop k) = ((doAll bs l).1, (doAll bs l).2 - k) := by
  induction l generalizing bs k with
  | nil =>
    simp only [doAll] at hk
    have : k = 0 := by omega
    subst this
    exact ⟨bs, rfl, rfl⟩
  | cons s l ih =>
    cases k with
    | zero => exact ⟨bs, by simp [doAll], by simp⟩
    | succ k =>
      by_cases hs : (doF bs s).2 = true
      · simp only [doAll, if_pos hs] at hk ⊢
        obtain ⟨b, h1, h2⟩ := ih (doF bs s).1 k (by omega)
        refine ⟨b, ?_, ?_⟩
        · rw [List.take_succ_cons, doAll, if_pos hs, h1]
        · rw [List.drop_succ_cons, h2]
          congr 1
          omega
      · simp only [doAll, if_neg hs] at hk
        omega

def halfT (t : ByteArray) : ByteArray := t.extract 0 (t.size / 2)
theorem halfT_size (t : ByteArray) : (halfT t).size = t.size / 2 := by
  unfold halfT
  rw [ByteArray.size_extract]
  omega
/-- What a torn step leaves, where it may be done. -/
def tornF (bs : List Bk) (s : Stp) : List Bk :=
  if s.1 = 1 then bs.modify s.2.1.toNat (fun r => (r.1, r.2.1, r.2.2.set s.2.2.1.toNat (2, halfT s.2.2.2)))
  else bs.modify s.2.1.toNat (fun r => (r.1, r.2.1, List.replicate r.2.2.length (2, ⟨#[]⟩)))
def tormF (bs : List Bk) (s : Stp) : List Bk × Bool := if (doF bs s).2 then (tornF bs s, true) else (bs, false)
def cutF (bs : List Bk) (l : List Stp) (whole : Int) (torn : Bool) : List Bk × Bool :=
  if 0 ≤ whole ∧ whole ≤ l.length then
    if (doAll bs (l.take whole.toNat)).2 = whole.toNat then
      match torn, l[whole.toNat]? with
      | true, some s => if (tormF (doAll bs (l.take whole.toNat)).1 s).2 then ((tormF (doAll bs (l.take whole.toNat)).1 s).1, true) else (bs, false)
      | _, _ => ((doAll bs (l.take whole.toNat)).1, true)
    else (bs, false)
  else (bs, false)
theorem cut_out {bs : List Bk} {l : List Stp} {whole : Int} {torn : Bool} (h : ¬ (0 ≤ whole ∧ whole ≤ l.length)) : cutF bs l whole torn = (bs, false) := by
  unfold cutF
  rw [if_neg h]
theorem cut_less {bs : List Bk} {l : List Stp} {k : Nat} {torn : Bool} {c : List Bk} {n : Nat} (h : doAll bs (l.take k) = (c, n)) (hn : n ≠ k) : cutF bs l (k : Int) torn = (bs, false) := by
  unfold cutF
  rw [Int.toNat_natCast, h]
  split
  · first | rfl | (rw [if_neg hn])
  · rfl
theorem cut_whole {bs : List Bk} {l : List Stp} {k : Nat} {torn : Bool} {c : List Bk} (h : doAll bs (l.take k) = (c, k)) (hk : k ≤ l.length) (ht : torn = false ∨ k = l.length) : cutF bs l (k : Int) torn = (c, true) := by
  unfold cutF
  rw [Int.toNat_natCast, h, if_pos ⟨by omega, by omega⟩, if_pos rfl]
  rcases ht with rfl | rfl
  · rfl
  · rw [List.getElem?_eq_none (Nat.le_refl _)]
    cases torn <;> rfl
theorem cut_torn {bs : List Bk} {l : List Stp} {k : Nat} {c : List Bk} {s : Stp} (h : doAll bs (l.take k) = (c, k)) (hs : l[k]? = some s) : cutF bs l (k : Int) true = if (tormF c s).2 then ((tormF c s).1, true) else (bs, false) := by
  have hk := (List.getElem?_eq_some_iff.1 hs).1
  unfold cutF
  rw [Int.toNat_natCast, h, if_pos ⟨by omega, by omega⟩, if_pos rfl, hs]
/-- A step that can be done has its place. -/
theorem do_place {bs : List Bk} {s : Stp} (h : (doF bs s).2 = true) : ∃ (k : Nat) (r : Bk), s.2.1 = k ∧ bs[k]? = some r ∧ r.2.2.length = 4 ∧ (s.1 = 1 ∨ s.1 = 2) ∧ (s.1 = 1 → ∃ j : Nat, s.2.2.1 = j ∧ j < 4 ∧ j = nextB r.2.2 ∧ 1 ≤ s.2.2.2.size ∧ s.2.2.2.size ≤ 120) ∧ flOk bs = true ∧ r.1 = false := by
  have four : ∀ r ∈ bs, flOk bs = true → r.2.2.length = 4 := by
    intro r hr h
    simp only [flOk, Bool.and_eq_true, List.all_eq_true] at h
    have h2 := h.2 r hr
    simp only [blkOk, Bool.and_eq_true, decide_eq_true_eq] at h2
    exact h2.1.1
  unfold doF at h
  by_cases h1 : s.1 = 1
  · rw [if_pos h1] at h
    unfold programF at h
    split at h
    · rename_i h2
      rw [Bool.and_eq_true] at h2
      obtain ⟨hf, hm⟩ := h2
      unfold mayP at hm
      cases hb : bs[s.2.1.toNat]? with
      | none => rw [hb] at hm; cases hm
      | some r =>
        rw [hb] at hm
        have hm := of_decide_eq_true hm
        exact ⟨s.2.1.toNat, r, by omega, hb, four r (List.mem_of_getElem? hb) hf, Or.inl h1, fun _ => ⟨nextB r.2.2, hm.2.2.2.1, by omega, rfl, hm.2.2.2.2.1, hm.2.2.2.2.2⟩, hf, hm.2.1⟩
    · cases h
  · rw [if_neg h1] at h
    by_cases h2 : s.1 = 2
    · rw [if_pos h2] at h
      unfold wipeF at h
      split at h
      · rename_i h3
        rw [Bool.and_eq_true] at h3
        obtain ⟨hf, hm⟩ := h3
        unfold mayW at hm
        cases hb : bs[s.2.1.toNat]? with
        | none => rw [hb] at hm; cases hm
        | some r =>
          rw [hb] at hm
          have hm := of_decide_eq_true hm
          exact ⟨s.2.1.toNat, r, by omega, hb, four r (List.mem_of_getElem? hb) hf, Or.inr h2, fun h => absurd h h1, hf, hm.2.1⟩
      · cases h
    · rw [if_neg h2] at h
      cases h
end Go.Proofs.YtiicghepilbgfaaGreatDoor

/-
  A flash's pages in the order of their numbers, in plain words; what a step makes of them.
-/
namespace Go.Proofs.YtiicghepilbgfaaGreatDoor
open Words Sums

/-- Laid into a row that ascends, behind those of its number. -/
def inSq (x : Fnd) : List Fnd → List Fnd
  | [] => [x]
  | y :: l => if x.key < y.key then x :: y :: l else y :: inSq x l
def sortS (l : List Fnd) : List Fnd := l.foldl (fun m x => inSq x m) []
theorem inSq_mem {x y : Fnd} {l : List Fnd} : y ∈ inSq x l ↔ y = x ∨ y ∈ l := by
  induction l with
  | nil => simp [inSq]
  | cons z l ih =>
    unfold inSq
    split
    · simp
    · simp only [List.mem_cons, ih]
      constructor
      · rintro (h | h | h)
        · exact .inr (.inl h)
        · exact .inl h
        · exact .inr (.inr h)
      · rintro (h | h | h)
        · exact .inr (.inl h)
        · exact .inl h
        · exact .inr (.inr h)
theorem inSq_asc {x : Fnd} {l : List Fnd} (h : Asc l) : Asc (inSq x l) := by
  induction l with
  | nil => exact List.pairwise_singleton _ _
  | cons z l ih =>
    have h1 := List.pairwise_cons.1 h
    unfold inSq
    split
    · rename_i hx
      refine List.pairwise_cons.2 ⟨?_, h⟩
      intro y hy
      rcases List.mem_cons.1 hy with e | e
      · subst e; omega
      · have := h1.1 y e; omega
    · rename_i hx
      refine List.pairwise_cons.2 ⟨?_, ih h1.2⟩
      intro y hy
      rcases inSq_mem.1 hy with e | e
      · subst e; omega
      · exact h1.1 y e
theorem inSq_akin {x : Fnd} {l : List Fnd} (h : Asc l) : Akin (inSq x l) (l ++ [x]) := by
  intro c
  induction l with
  | nil => rfl
  | cons z l ih =>
    have h1 := List.pairwise_cons.1 h
    unfold inSq
    split
    · rename_i hx
      rw [List.filter_append]
      by_cases e : x.key = c
      · have hn : (z :: l).filter (fun y => y.key == c) = [] := by
          rw [List.filter_eq_nil_iff]
          intro y hy
          rcases List.mem_cons.1 hy with q | q
          · subst q; simp; omega
          · have := h1.1 y q; simp; omega
        rw [hn, List.filter_cons_of_pos (by simpa using e), hn, List.filter_cons_of_pos (by simpa using e)]
        rfl
      · rw [List.filter_cons_of_neg (a := x) (by simpa using e), List.filter_cons_of_neg (a := x) (l := []) (by simpa using e)]
        simp
    · rw [List.cons_append]
      by_cases e : z.key = c
      · rw [List.filter_cons_of_pos (by simpa using e), List.filter_cons_of_pos (by simpa using e), ih h1.2]
      · rw [List.filter_cons_of_neg (by simpa using e), List.filter_cons_of_neg (by simpa using e), ih h1.2]
theorem sortS_snoc (l : List Fnd) (x : Fnd) : sortS (l ++ [x]) = inSq x (sortS l) := by simp [sortS, List.foldl_append]
theorem snocS_ind {α : Type} {P : List α → Prop} (h0 : P []) (h1 : ∀ l r, P l → P (l ++ [r])) : ∀ l, P l := by
  intro l
  have : ∀ m : List α, P m.reverse := by
    intro m
    induction m with
    | nil => simpa using h0
    | cons a m ih => rw [List.reverse_cons]; exact h1 _ _ ih
  simpa using this l.reverse
theorem sortS_asc (l : List Fnd) : Asc (sortS l) := by
  induction l using snocS_ind with
  | h0 => exact List.Pairwise.nil
  | h1 l x ih => rw [sortS_snoc]; exact inSq_asc ih
theorem sortS_akin (l : List Fnd) : Akin l (sortS l) := by
  induction l using snocS_ind with
  | h0 => exact Akin.refl _
  | h1 l x ih =>
    rw [sortS_snoc]
    exact (ih.app (Akin.refl [x])).trans (inSq_akin (sortS_asc l)).symm
theorem sortS_eq {l m : List Fnd} (h : Akin l m) (ha : Asc m) : m = sortS l := (h.symm.trans (sortS_akin l)).eq ha (sortS_asc l)
theorem sortS_mem (l : List Fnd) (x : Fnd) : x ∈ sortS l ↔ x ∈ l := ((sortS_akin l).mem x).symm
theorem Words.Asc.sub {l m : List Fnd} (h : Asc l) (hs : m.Sublist l) : Asc m := List.Pairwise.sublist hs h
theorem Words.Akin.filter {l m : List Fnd} (h : Akin l m) (p : Fnd → Bool) : Akin (l.filter p) (m.filter p) := fun c => by
  have e : ∀ k : List Fnd, (k.filter p).filter (fun x => x.key == c) = (k.filter (fun x => x.key == c)).filter p := fun k => by
    rw [List.filter_filter, List.filter_filter]
    congr 1
    funext x
    exact Bool.and_comm _ _
  rw [e, e, h c]
theorem sortS_filter (l : List Fnd) (p : Fnd → Bool) : sortS (l.filter p) = (sortS l).filter p :=
  (sortS_eq ((sortS_akin l).filter p) ((sortS_asc l).sub List.filter_sublist)).symm

/-- The pages of a flash, in the order of their numbers. -/
def scanF (bs : List Bk) : List Fnd := sortS (founds bs bs.length)
theorem scanF_asc (bs : List Bk) : Asc (scanF bs) := sortS_asc _
theorem scanF_is {bs : List Bk} {M : List Fnd} (ha : Asc M) (hk : Akin (founds bs bs.length) M) : M = scanF bs := sortS_eq hk ha
end Go.Proofs.YtiicghepilbgfaaGreatDoor
