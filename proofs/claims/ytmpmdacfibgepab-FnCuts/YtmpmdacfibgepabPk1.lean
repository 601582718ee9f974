/-
  StMath; Own; Kept2; OwnC
-/
import Derived.Test.YtmpmdacfibgepabPk0
import Derived.Deep.MidRow
/-
  Chapter 8 in plain words: steps, steps one behind the other, and where they are cut.
-/
namespace Go.Proofs.Ytmpmdacfibgepab

/-- A step: Kind, Block, Leaf, Text. -/
abbrev Stp := Int × Int × Int × ByteArray
def stV (s : Stp) : Value := .agg #[.int .i64 s.1, .int .i64 s.2.1, .int .i64 s.2.2.1, .string s.2.2.2]
def doF (bs : List Bk) (s : Stp) : List Bk × Bool := if s.1 = 1 then programF bs s.2.1 s.2.2.1 s.2.2.2 else if s.1 = 2 then wipeF bs s.2.1 else (bs, false)
theorem prog_false {bs : List Bk} {b leaf : Int} {t : ByteArray} (h : (programF bs b leaf t).2 = false) : (programF bs b leaf t).1 = bs := by
  unfold programF at *
  split
  · rename_i h1; rw [if_pos h1] at h; cases h
  · rfl
theorem wipe_false {bs : List Bk} {b : Int} (h : (wipeF bs b).2 = false) : (wipeF bs b).1 = bs := by
  unfold wipeF at *
  split
  · rename_i h1; rw [if_pos h1] at h; cases h
  · rfl
theorem do_false {bs : List Bk} {s : Stp} (h : (doF bs s).2 = false) : (doF bs s).1 = bs := by
  unfold doF at *
  split
  · rename_i h1; rw [if_pos h1] at h; exact prog_false h
  · rename_i h1
    rw [if_neg h1] at h
    split
    · rename_i h2; rw [if_pos h2] at h; exact wipe_false h
    · rfl
def doAll : List Bk → List Stp → List Bk × Nat
  | bs, [] => (bs, 0)
  | bs, s :: l => if (doF bs s).2 then ((doAll (doF bs s).1 l).1, (doAll (doF bs s).1 l).2 + 1) else (bs, 0)
theorem doAll_le (bs : List Bk) (l : List Stp) : (doAll bs l).2 ≤ l.length := by
  induction l generalizing bs with
  | nil => simp [doAll]
  | cons s l ih =>
    simp only [doAll]
    split
    · have := ih (doF bs s).1
      simp only [List.length_cons]
      omega
    · simp
/-- All of the first list done: then go on. -/
theorem doAll_app {bs c : List Bk} {l m : List Stp} (h : doAll bs l = (c, l.length)) : doAll bs (l ++ m) = ((doAll c m).1, l.length + (doAll c m).2) := by
  induction l generalizing bs with
  | nil =>
    simp only [doAll] at h
    cases h
    simp
  | cons s l ih =>
    simp only [doAll, List.length_cons] at h
    by_cases hs : (doF bs s).2 = true
    · rw [if_pos hs] at h
      have h1 : doAll (doF bs s).1 l = (c, l.length) := by
        have e1 := congrArg Prod.fst h
        have e2 := congrArg Prod.snd h
        simp only at e1 e2
        exact Prod.ext e1 (by simp only; omega)
      rw [List.cons_append, doAll, if_pos hs, ih h1]
      simp only [List.length_cons]
      congr 1
      omega
    · rw [if_neg hs] at h
      have e2 := congrArg Prod.snd h
      simp at e2
theorem doAll_one (bs : List Bk) (s : Stp) : doAll bs [s] = if (doF bs s).2 then ((doF bs s).1, 1) else (bs, 0) := by
  simp only [doAll]
theorem doAll_next {bs b : List Bk} {l : List Stp} {i : Nat} {s : Stp} (h : doAll bs (l.take i) = (b, i)) (hs : l[i]? = some s) (hd : (doF b s).2 = true) : doAll bs (l.take (i + 1)) = ((doF b s).1, i + 1) := by
  obtain ⟨h1, rfl⟩ := List.getElem?_eq_some_iff.1 hs
  have hl : (l.take i).length = i := by rw [List.length_take]; omega
  rw [List.take_succ_eq_append_getElem h1, doAll_app (c := b) (by rw [hl]; exact h), doAll_one, if_pos hd, hl]
theorem doAll_stop {bs b : List Bk} {l : List Stp} {i : Nat} {s : Stp} (h : doAll bs (l.take i) = (b, i)) (hs : l[i]? = some s) (hd : (doF b s).2 = false) : doAll bs l = (b, i) := by
  obtain ⟨h1, rfl⟩ := List.getElem?_eq_some_iff.1 hs
  have hl : (l.take i).length = i := by rw [List.length_take]; omega
  have e : l = l.take i ++ (l[i] :: l.drop (i + 1)) := by rw [← List.drop_eq_getElem_cons h1, List.take_append_drop]
  rw [e, doAll_app (c := b) (by rw [hl]; exact h), doAll, if_neg (by rw [hd]; simp), hl]
  rfl
theorem doAll_end {bs b : List Bk} {l : List Stp} {i : Nat} (h : doAll bs (l.take i) = (b, i)) (hi : i = l.length) : doAll bs l = (b, l.length) := by
  subst hi
  rw [List.take_of_length_le (Nat.le_refl _)] at h
  exact h
/-- What is done is done by the first of them alone. -/
theorem doAll_pre (bs : List Bk) (l : List Stp) (k : Nat) (hk : k ≤ (doAll bs l).2) : ∃ b, doAll bs (l.take k) = (b, k) ∧ doAll b (l.drop k) = ((doAll bs l).1, (doAll bs l).2 - k) := by
  induction l generalizing bs k with
  | nil =>
    simp only [doAll] at hk
    have : k = 0 := by omega
    subst this
    exact ⟨bs, rfl, rfl⟩
  | cons s l ih =>
    cases k with
    | zero => exact ⟨bs, by simp [doAll], by simp⟩
    | succ k =>
      by_cases hs : (doF bs s).2 = true
      · simp only [doAll, if_pos hs] at hk ⊢
        obtain ⟨b, h1, h2⟩ := ih (doF bs s).1 k (by omega)
        refine ⟨b, ?_, ?_⟩
        · rw [List.take_succ_cons, doAll, if_pos hs, h1]
        · rw [List.drop_succ_cons, h2]
          congr 1
          omega
      · simp only [doAll, if_neg hs] at hk
        omega

def halfT (t : ByteArray) : ByteArray := t.extract 0 (t.size / 2)
theorem halfT_size (t : ByteArray) : (halfT t).size = t.size / 2 := by
  unfold halfT
  rw [ByteArray.size_extract]
  omega
/-- What a torn step leaves, where it may be done. -/
def tornF (bs : List Bk) (s : Stp) : List Bk :=
  if s.1 = 1 then bs.modify s.2.1.toNat (fun r => (r.1, r.2.1, r.2.2.set s.2.2.1.toNat (2, halfT s.2.2.2)))
  else bs.modify s.2.1.toNat (fun r => (r.1, r.2.1, List.replicate r.2.2.length (2, ⟨#[]⟩)))
def tormF (bs : List Bk) (s : Stp) : List Bk × Bool := if (doF bs s).2 then (tornF bs s, true) else (bs, false)
def cutF (bs : List Bk) (l : List Stp) (whole : Int) (torn : Bool) : List Bk × Bool :=
  if 0 ≤ whole ∧ whole ≤ l.length then
    if (doAll bs (l.take whole.toNat)).2 = whole.toNat then
      match torn, l[whole.toNat]? with
      | true, some s => if (tormF (doAll bs (l.take whole.toNat)).1 s).2 then ((tormF (doAll bs (l.take whole.toNat)).1 s).1, true) else (bs, false)
      | _, _ => ((doAll bs (l.take whole.toNat)).1, true)
    else (bs, false)
  else (bs, false)
theorem cut_out {bs : List Bk} {l : List Stp} {whole : Int} {torn : Bool} (h : ¬ (0 ≤ whole ∧ whole ≤ l.length)) : cutF bs l whole torn = (bs, false) := by
  unfold cutF
  rw [if_neg h]
theorem cut_less {bs : List Bk} {l : List Stp} {k : Nat} {torn : Bool} {c : List Bk} {n : Nat} (h : doAll bs (l.take k) = (c, n)) (hn : n ≠ k) : cutF bs l (k : Int) torn = (bs, false) := by
  unfold cutF
  rw [Int.toNat_natCast, h]
  split
  · first | rfl | (rw [if_neg hn])
  · rfl
theorem cut_whole {bs : List Bk} {l : List Stp} {k : Nat} {torn : Bool} {c : List Bk} (h : doAll bs (l.take k) = (c, k)) (hk : k ≤ l.length) (ht : torn = false ∨ k = l.length) : cutF bs l (k : Int) torn = (c, true) := by
  unfold cutF
  rw [Int.toNat_natCast, h, if_pos ⟨by omega, by omega⟩, if_pos rfl]
  rcases ht with rfl | rfl
  · rfl
  · rw [List.getElem?_eq_none (Nat.le_refl _)]
    cases torn <;> rfl
theorem cut_torn {bs : List Bk} {l : List Stp} {k : Nat} {c : List Bk} {s : Stp} (h : doAll bs (l.take k) = (c, k)) (hs : l[k]? = some s) : cutF bs l (k : Int) true = if (tormF c s).2 then ((tormF c s).1, true) else (bs, false) := by
  have hk := (List.getElem?_eq_some_iff.1 hs).1
  unfold cutF
  rw [Int.toNat_natCast, h, if_pos ⟨by omega, by omega⟩, if_pos rfl, hs]
/-- A step that can be done has its place. -/
theorem do_place {bs : List Bk} {s : Stp} (h : (doF bs s).2 = true) : ∃ (k : Nat) (r : Bk), s.2.1 = k ∧ bs[k]? = some r ∧ r.2.2.length = 4 ∧ (s.1 = 1 ∨ s.1 = 2) ∧ (s.1 = 1 → ∃ j : Nat, s.2.2.1 = j ∧ j < 4 ∧ j = nextB r.2.2 ∧ 1 ≤ s.2.2.2.size ∧ s.2.2.2.size ≤ 120) ∧ flOk bs = true ∧ r.1 = false := by
  have four : ∀ r ∈ bs, flOk bs = true → r.2.2.length = 4 := by
    intro r hr h
    simp only [flOk, Bool.and_eq_true, List.all_eq_true] at h
    have h2 := h.2 r hr
    simp only [blkOk, Bool.and_eq_true, decide_eq_true_eq] at h2
    exact h2.1.1
  unfold doF at h
  by_cases h1 : s.1 = 1
  · rw [if_pos h1] at h
    unfold programF at h
    split at h
    · rename_i h2
      rw [Bool.and_eq_true] at h2
      obtain ⟨hf, hm⟩ := h2
      unfold mayP at hm
      cases hb : bs[s.2.1.toNat]? with
      | none => rw [hb] at hm; cases hm
      | some r =>
        rw [hb] at hm
        have hm := of_decide_eq_true hm
        exact ⟨s.2.1.toNat, r, by omega, hb, four r (List.mem_of_getElem? hb) hf, Or.inl h1, fun _ => ⟨nextB r.2.2, hm.2.2.2.1, by omega, rfl, hm.2.2.2.2.1, hm.2.2.2.2.2⟩, hf, hm.2.1⟩
    · cases h
  · rw [if_neg h1] at h
    by_cases h2 : s.1 = 2
    · rw [if_pos h2] at h
      unfold wipeF at h
      split at h
      · rename_i h3
        rw [Bool.and_eq_true] at h3
        obtain ⟨hf, hm⟩ := h3
        unfold mayW at hm
        cases hb : bs[s.2.1.toNat]? with
        | none => rw [hb] at hm; cases hm
        | some r =>
          rw [hb] at hm
          have hm := of_decide_eq_true hm
          exact ⟨s.2.1.toNat, r, by omega, hb, four r (List.mem_of_getElem? hb) hf, Or.inr h2, fun h => absurd h h1, hf, hm.2.1⟩
      · cases h
    · rw [if_neg h2] at h
      cases h
end Go.Proofs.Ytmpmdacfibgepab

/-
  Rows that the call owns, over calls that lay new blocks alone.
-/
namespace Go.Proofs.Ytmpmdacfibgepab
open Go.RowKit

theorem own_below {w w' : World} {base : Nat} {e : TypeId} {size : Nat} {v : Value} {n : Nat} {xs : List Value} (h : w.ownsRow base e size v n xs) (hb : Below w.heap.size w w') : w'.ownsRow base e size v n xs := by
  obtain ⟨h1, h2⟩ := h
  refine ⟨h1, ?_⟩
  rcases h2 with h | ⟨g, cap, cur, a1, a2, a3, a4⟩
  · exact .inl h
  · have hg : g < w.heap.size := (Array.getElem?_eq_some_iff.1 a3).1
    exact .inr ⟨g, cap, cur, a1, a2, by rw [hb.block g hg]; exact a3, a4⟩
theorem own_lower {w : World} {base C : Nat} {e : TypeId} {size : Nat} {v : Value} {n : Nat} {xs : List Value} (h : w.ownsRow base e size v n xs) (hC : C ≤ base) : w.ownsRow C e size v n xs := by
  obtain ⟨h1, h2⟩ := h
  refine ⟨h1, ?_⟩
  rcases h2 with h | ⟨g, cap, cur, a1, a2, a3⟩
  · exact .inl h
  · exact .inr ⟨g, cap, cur, a1, by omega, a3⟩
end Go.Proofs.Ytmpmdacfibgepab

/-
  Worlds in which all old blocks but some are as they were.
-/
namespace Go.Proofs.Ytmpmdacfibgepab
open Go.RowKit

/-- All old blocks of which 'ok' holds are as they were. -/
def Kept2 (w w' : World) (ok : Nat → Prop) : Prop := w'.os = w.os ∧ w'.tape = w.tape ∧ w'.output = w.output ∧ w.heap.size ≤ w'.heap.size ∧ ∀ i, i < w.heap.size → ok i → w'.heap[i]? = w.heap[i]?
theorem Kept2.refl (w : World) (ok : Nat → Prop) : Kept2 w w ok := ⟨rfl, rfl, rfl, Nat.le_refl _, fun _ _ _ => rfl⟩
theorem Kept2.trans {a b c : World} {ok : Nat → Prop} (h : Kept2 a b ok) (k : Kept2 b c ok) : Kept2 a c ok :=
  ⟨k.1.trans h.1, k.2.1.trans h.2.1, k.2.2.1.trans h.2.2.1, Nat.le_trans h.2.2.2.1 k.2.2.2.1, fun i hi ho => (k.2.2.2.2 i (Nat.lt_of_lt_of_le hi h.2.2.2.1) ho).trans (h.2.2.2.2 i hi ho)⟩
theorem Kept2.grown {a b : World} {ok : Nat → Prop} {row : Option Nat} (h : a.grownBy b row) (hr : ∀ j, row = some j → ¬ ok j) : Kept2 a b ok :=
  ⟨h.os, h.tape, h.output, h.size, fun i hi ho => h.block i hi (fun e => hr i e.symm ho)⟩
theorem Kept2.below {a b : World} {ok : Nat → Prop} (h : Below a.heap.size a b) : Kept2 a b ok := ⟨h.os, h.tape, h.output, h.size, fun i hi _ => h.block i hi⟩
theorem Kept2.down {a b : World} {ok : Nat → Prop} {B : Nat} (h : Kept2 a b ok) (hB : B ≤ a.heap.size) (ho : ∀ i, i < B → ok i) : Below B a b := ⟨h.1, h.2.1, h.2.2.1, h.2.2.2.1, fun i hi => h.2.2.2.2 i (Nat.lt_of_lt_of_le hi hB) (ho i hi)⟩
theorem grown_old {a b : World} (h : Below a.heap.size a b) (row : Option Nat) : a.grownBy b row := ⟨h.os, h.tape, h.output, h.size, fun i hi _ => h.block i hi⟩
end Go.Proofs.Ytmpmdacfibgepab

/-
  Rows that a call owns: a cell written elsewhere, a lower bound.
-/
namespace Go.Proofs.Ytmpmdacfibgepab
open Go.RowKit

theorem row_set {w : World} {g : Nat} {cs : Array Value} {t : TypeId} (h : w.heap[g]? = some (.cells cs t (0, 0))) (i : Nat) (u : Value) : (w.setCell ⟨g, i, none⟩ u).heap[g]? = some (.cells (cs.setIfInBounds i u) t (0, 0)) := by
  rw [setCell_eq_setRow w g i cs t (0, 0) u h]
  exact setRow_heap w g cs _ t _ h
theorem row_set_ne {w : World} {g g' : Nat} {o : Obj} (h : w.heap[g]? = some o) (hn : g ≠ g') (i : Nat) (u : Value) : (w.setCell ⟨g', i, none⟩ u).heap[g]? = some o := (Below.heap_setCell _ _ _ _ hn).trans h
theorem own_down {w : World} {B B' : Nat} {e : TypeId} {size n : Nat} {v : Value} {xs : List Value} (h : w.ownsRow B e size v n xs) (hb : B' ≤ B) : w.ownsRow B' e size v n xs := by
  obtain ⟨h1, h2⟩ := h
  refine ⟨h1, ?_⟩
  rcases h2 with h | ⟨g, cap, cur, rfl, a2, a3⟩
  · exact .inl h
  · exact .inr ⟨g, cap, cur, rfl, by omega, a3⟩
theorem own_cell {w : World} {B : Nat} {e : TypeId} {size n : Nat} {v : Value} {xs : List Value} (h : w.ownsRow B e size v n xs) {g : Nat} (hg : g < B) (i : Nat) (u : Value) : (w.setCell ⟨g, i, none⟩ u).ownsRow B e size v n xs := by
  obtain ⟨h1, h2⟩ := h
  refine ⟨h1, ?_⟩
  rcases h2 with h | ⟨g', cap, cur, rfl, a2, a3, a4⟩
  · exact .inl h
  · exact .inr ⟨g', cap, cur, rfl, a2, row_set_ne a3 (by omega) _ _, a4⟩
theorem own_block_lt {w : World} {B : Nat} {e : TypeId} {size n : Nat} {v : Value} {xs : List Value} (h : w.ownsRow B e size v n xs) : ∀ g, v.ownBlock = some g → B ≤ g ∧ g < w.heap.size := by
  intro g hg
  exact h.lt g hg
theorem fown_set {w : World} {base : Nat} {e : TypeId} {size n : Nat} {v : Value} {xs : List Value} {g cap : Nat} (h : w.ownsRow base e size v n xs) (hv : v = .slice (some ⟨g, 0, none⟩) n cap) (k : Nat) (u : Value) :
    (w.setCell ⟨g, k, none⟩ u).ownsRow base e size v n (xs.set k u) := by
  obtain ⟨h1, h2⟩ := h
  refine ⟨by simpa using h1, ?_⟩
  rcases h2 with ⟨h3, -⟩ | ⟨g', cap', cur, h3, h4, h5, h6, h7, h8, h9⟩
  · rw [hv] at h3; cases h3
  · right
    have hg : g' = g := by rw [hv] at h3; injection h3 with a; simp at a; exact a.symm
    subst hg
    refine ⟨g', cap', cur.setIfInBounds k u, h3, h4, ?_, h6, h7, by simpa using h8, ?_⟩
    · rw [setCell_eq_setRow w g' k cur e (0, 0) u h5]
      exact setRow_heap w g' cur _ e _ h5
    · rw [Array.toList_setIfInBounds, List.take_set, h9]
theorem grown_cell (w : World) (g k : Nat) (u : Value) : w.grownBy (w.setCell ⟨g, k, none⟩ u) (some g) :=
  ⟨rfl, rfl, rfl, by simp [World.setCell], fun i _ hi => Below.heap_setCell _ _ _ _ (fun e => hi (by rw [e]))⟩
end Go.Proofs.Ytmpmdacfibgepab
