/-
  FlP; Kept2; OwnC
-/
import Derived.Test.YtaolinlginloaadDoorPk0
import Derived.Deep.MidRow
/-
  What chapter 5 says of flashes, in plain words: no Go in them.
-/
namespace Go.Proofs.YtaolinlginloaadDoor

abbrev Bk := Bool × Int × List (Int × ByteArray)
def leafOk (t : Int × ByteArray) : Bool := decide (t.1 = 0 ∧ t.2.size = 0 ∨ t.1 = 1 ∧ 1 ≤ t.2.size ∧ t.2.size ≤ 120 ∨ t.1 = 2 ∧ t.2.size ≤ 120)
/-- The leaf at k is right, and not behind a blank one where it isn't blank. -/
def leafAt (ls : List (Int × ByteArray)) (k : Nat) : Bool := match ls[k]? with
  | none => true
  | some t => leafOk t && !(decide (0 < k ∧ t.1 ≠ 0 ∧ ∃ u, ls[k - 1]? = some u ∧ u.1 = 0))
def blkOk (b : Bk) : Bool := decide (b.2.2.length = 4 ∧ 0 ≤ b.2.1 ∧ b.2.1 ≤ 1000000000) && (List.range b.2.2.length).all (leafAt b.2.2)
def flOk (bs : List Bk) : Bool := decide (3 ≤ bs.length ∧ bs.length ≤ 10) && bs.all blkOk
theorem flOk_no {bs : List Bk} {b : Bk} (hb : b ∈ bs) (h : blkOk b = false) : flOk bs = false := by
  have h1 : bs.all blkOk = false := List.all_eq_false.2 ⟨b, hb, by simp [h]⟩
  simp [flOk, h1]
theorem flOk_all {bs : List Bk} (h : ∀ b ∈ bs, blkOk b = true) : flOk bs = decide (3 ≤ bs.length ∧ bs.length ≤ 10) := by
  have h1 : bs.all blkOk = true := List.all_eq_true.2 h
  simp [flOk, h1]
theorem blkOk_len {b : Bk} (h : b.2.2.length ≠ 4) : blkOk b = false := by simp [blkOk, h]
theorem blkOk_wear {b : Bk} (h : ¬ (0 ≤ b.2.1 ∧ b.2.1 ≤ 1000000000)) : blkOk b = false := by
  have h1 : decide (b.2.2.length = 4 ∧ 0 ≤ b.2.1 ∧ b.2.1 ≤ 1000000000) = false := decide_eq_false (fun hh => h hh.2)
  simp only [blkOk, h1, Bool.false_and]
theorem blkOk_no {b : Bk} {k : Nat} (hk : k < b.2.2.length) (h : leafAt b.2.2 k = false) : blkOk b = false := by
  have h1 : (List.range b.2.2.length).all (leafAt b.2.2) = false := List.all_eq_false.2 ⟨k, List.mem_range.2 hk, by simp [h]⟩
  simp only [blkOk, h1, Bool.and_false]
theorem blkOk_yes {b : Bk} (hl : b.2.2.length = 4) (hw : 0 ≤ b.2.1 ∧ b.2.1 ≤ 1000000000) (h : ∀ k, k < b.2.2.length → leafAt b.2.2 k = true) : blkOk b = true := by
  have h1 : (List.range b.2.2.length).all (leafAt b.2.2) = true := List.all_eq_true.2 (fun k hk => h k (List.mem_range.1 hk))
  simp only [blkOk, h1, Bool.and_true]
  exact decide_eq_true ⟨hl, hw⟩
theorem leafAt_no {ls : List (Int × ByteArray)} {k : Nat} {t : Int × ByteArray} (ht : ls[k]? = some t) (h : leafOk t = false) : leafAt ls k = false := by simp [leafAt, ht, h]
theorem leafAt_zero {ls : List (Int × ByteArray)} {t : Int × ByteArray} (ht : ls[0]? = some t) (h : leafOk t = true) : leafAt ls 0 = true := by simp only [leafAt, ht, h]; simp
theorem leafAt_yes {ls : List (Int × ByteArray)} {k : Nat} {t u : Int × ByteArray} (ht : ls[k + 1]? = some t) (hu : ls[k]? = some u) (h : leafOk t = true) (hn : u.1 ≠ 0 ∨ t.1 = 0) : leafAt ls (k + 1) = true := by
  have h1 : decide (0 < k + 1 ∧ t.1 ≠ 0 ∧ ∃ u, ls[k + 1 - 1]? = some u ∧ u.1 = 0) = false := by
    refine decide_eq_false (fun hh => ?_)
    obtain ⟨-, a, q, b, c⟩ := hh
    rw [Nat.add_sub_cancel, hu] at b
    cases b
    rcases hn with hn | hn
    · exact hn c
    · exact a hn
  simp only [leafAt, ht, h, h1]
  rfl
theorem leafAt_bad {ls : List (Int × ByteArray)} {k : Nat} {t u : Int × ByteArray} (ht : ls[k + 1]? = some t) (hu : ls[k]? = some u) (h0 : u.1 = 0) (hn : t.1 ≠ 0) : leafAt ls (k + 1) = false := by
  have h1 : decide (0 < k + 1 ∧ t.1 ≠ 0 ∧ ∃ u, ls[k + 1 - 1]? = some u ∧ u.1 = 0) = true := decide_eq_true ⟨by omega, hn, u, by rw [Nat.add_sub_cancel]; exact hu, h0⟩
  simp only [leafAt, ht, h1]
  simp
/-- The first blank leaf; 4 where there is none. -/
def nextB (ls : List (Int × ByteArray)) : Nat := if ls.findIdx (fun t => t.1 == 0) < ls.length then ls.findIdx (fun t => t.1 == 0) else 4
theorem nextB_at {ls : List (Int × ByteArray)} {k : Nat} {t : Int × ByteArray} (ht : ls[k]? = some t) (h0 : t.1 = 0) (hb : ∀ (j : Nat) (u : Int × ByteArray), j < k → ls[j]? = some u → u.1 ≠ 0) : nextB ls = k := by
  obtain ⟨h1, h2⟩ := List.getElem?_eq_some_iff.1 ht
  have h : ls.findIdx (fun t => t.1 == 0) = k := by
    rw [List.findIdx_eq h1]
    refine ⟨by rw [h2]; simp [h0], fun j hj => ?_⟩
    have := hb j ls[j] hj (List.getElem?_eq_getElem (by omega))
    simpa using this
  simp only [nextB, h, if_pos h1]
theorem nextB_none {ls : List (Int × ByteArray)} (hb : ∀ (j : Nat) (u : Int × ByteArray), ls[j]? = some u → u.1 ≠ 0) : nextB ls = 4 := by
  have h : ls.findIdx (fun t => t.1 == 0) = ls.length := by
    rw [List.findIdx_eq_length]
    intro t ht
    obtain ⟨j, hj, rfl⟩ := List.getElem_of_mem ht
    have := hb j ls[j] (List.getElem?_eq_getElem hj)
    simpa using this
  simp only [nextB, h]
  rw [if_neg (by omega)]
def blank4 : List (Int × ByteArray) := [(0, ⟨#[]⟩), (0, ⟨#[]⟩), (0, ⟨#[]⟩), (0, ⟨#[]⟩)]
def newF (n : Int) : List Bk := if 3 ≤ n ∧ n ≤ 10 then List.replicate n.toNat (false, 0, blank4) else []
def mayP (bs : List Bk) (b leaf : Int) (t : ByteArray) : Bool := match bs[b.toNat]? with
  | none => false
  | some r => decide (0 ≤ b ∧ r.1 = false ∧ leaf < 4 ∧ leaf = nextB r.2.2 ∧ 1 ≤ t.size ∧ t.size ≤ 120)
def putLeaf (bs : List Bk) (b leaf : Nat) (t : ByteArray) : List Bk := bs.modify b (fun r => (r.1, r.2.1, r.2.2.set leaf (1, t)))
def programF (bs : List Bk) (b leaf : Int) (t : ByteArray) : List Bk × Bool := if flOk bs && mayP bs b leaf t then (putLeaf bs b.toNat leaf.toNat t, true) else (bs, false)
def mayW (bs : List Bk) (b : Int) : Bool := match bs[b.toNat]? with
  | none => false
  | some r => decide (0 ≤ b ∧ r.1 = false ∧ r.2.1 ≠ 1000000000)
def wipeF (bs : List Bk) (b : Int) : List Bk × Bool := if flOk bs && mayW bs b then (bs.modify b.toNat (fun r => (false, r.2.1 + 1, blank4)), true) else (bs, false)
def readF (bs : List Bk) (b leaf : Int) : ByteArray × Bool := match bs[b.toNat]? with
  | none => (⟨#[]⟩, false)
  | some r => match r.2.2[leaf.toNat]? with
    | none => (⟨#[]⟩, false)
    | some t => if 0 ≤ b ∧ 0 ≤ leaf ∧ t.1 = 1 then (t.2, true) else (⟨#[]⟩, false)
def badF (bs : List Bk) (b : Int) : List Bk := if 0 ≤ b then bs.modify b.toNat (fun r => (true, r.2)) else bs
end Go.Proofs.YtaolinlginloaadDoor

/-
  Worlds in which all old blocks but some are as they were.
-/
namespace Go.Proofs.YtaolinlginloaadDoor
open Go.RowKit

/-- All old blocks of which 'ok' holds are as they were. -/
def Kept2 (w w' : World) (ok : Nat → Prop) : Prop := w'.os = w.os ∧ w'.tape = w.tape ∧ w'.output = w.output ∧ w.heap.size ≤ w'.heap.size ∧ ∀ i, i < w.heap.size → ok i → w'.heap[i]? = w.heap[i]?
theorem Kept2.refl (w : World) (ok : Nat → Prop) : Kept2 w w ok := ⟨rfl, rfl, rfl, Nat.le_refl _, fun _ _ _ => rfl⟩
theorem Kept2.trans {a b c : World} {ok : Nat → Prop} (h : Kept2 a b ok) (k : Kept2 b c ok) : Kept2 a c ok :=
  ⟨k.1.trans h.1, k.2.1.trans h.2.1, k.2.2.1.trans h.2.2.1, Nat.le_trans h.2.2.2.1 k.2.2.2.1, fun i hi ho => (k.2.2.2.2 i (Nat.lt_of_lt_of_le hi h.2.2.2.1) ho).trans (h.2.2.2.2 i hi ho)⟩
theorem Kept2.grown {a b : World} {ok : Nat → Prop} {row : Option Nat} (h : a.grownBy b row) (hr : ∀ j, row = some j → ¬ ok j) : Kept2 a b ok :=
  ⟨h.os, h.tape, h.output, h.size, fun i hi ho => h.block i hi (fun e => hr i e.symm ho)⟩
theorem Kept2.below {a b : World} {ok : Nat → Prop} (h : Below a.heap.size a b) : Kept2 a b ok := ⟨h.os, h.tape, h.output, h.size, fun i hi _ => h.block i hi⟩
theorem Kept2.down {a b : World} {ok : Nat → Prop} {B : Nat} (h : Kept2 a b ok) (hB : B ≤ a.heap.size) (ho : ∀ i, i < B → ok i) : Below B a b := ⟨h.1, h.2.1, h.2.2.1, h.2.2.2.1, fun i hi => h.2.2.2.2 i (Nat.lt_of_lt_of_le hi hB) (ho i hi)⟩
theorem grown_old {a b : World} (h : Below a.heap.size a b) (row : Option Nat) : a.grownBy b row := ⟨h.os, h.tape, h.output, h.size, fun i hi _ => h.block i hi⟩
end Go.Proofs.YtaolinlginloaadDoor

/-
  Rows that a call owns: a cell written elsewhere, a lower bound.
-/
namespace Go.Proofs.YtaolinlginloaadDoor
open Go.RowKit

theorem row_set {w : World} {g : Nat} {cs : Array Value} {t : TypeId} (h : w.heap[g]? = some (.cells cs t (0, 0))) (i : Nat) (u : Value) : (w.setCell ⟨g, i, none⟩ u).heap[g]? = some (.cells (cs.setIfInBounds i u) t (0, 0)) := by
  rw [setCell_eq_setRow w g i cs t (0, 0) u h]
  exact setRow_heap w g cs _ t _ h
theorem row_set_ne {w : World} {g g' : Nat} {o : Obj} (h : w.heap[g]? = some o) (hn : g ≠ g') (i : Nat) (u : Value) : (w.setCell ⟨g', i, none⟩ u).heap[g]? = some o := (Below.heap_setCell _ _ _ _ hn).trans h
theorem own_down {w : World} {B B' : Nat} {e : TypeId} {size n : Nat} {v : Value} {xs : List Value} (h : w.ownsRow B e size v n xs) (hb : B' ≤ B) : w.ownsRow B' e size v n xs := by
  obtain ⟨h1, h2⟩ := h
  refine ⟨h1, ?_⟩
  rcases h2 with h | ⟨g, cap, cur, rfl, a2, a3⟩
  · exact .inl h
  · exact .inr ⟨g, cap, cur, rfl, by omega, a3⟩
theorem own_cell {w : World} {B : Nat} {e : TypeId} {size n : Nat} {v : Value} {xs : List Value} (h : w.ownsRow B e size v n xs) {g : Nat} (hg : g < B) (i : Nat) (u : Value) : (w.setCell ⟨g, i, none⟩ u).ownsRow B e size v n xs := by
  obtain ⟨h1, h2⟩ := h
  refine ⟨h1, ?_⟩
  rcases h2 with h | ⟨g', cap, cur, rfl, a2, a3, a4⟩
  · exact .inl h
  · exact .inr ⟨g', cap, cur, rfl, a2, row_set_ne a3 (by omega) _ _, a4⟩
theorem own_block_lt {w : World} {B : Nat} {e : TypeId} {size n : Nat} {v : Value} {xs : List Value} (h : w.ownsRow B e size v n xs) : ∀ g, v.ownBlock = some g → B ≤ g ∧ g < w.heap.size := by
  intro g hg
  exact h.lt g hg
theorem fown_set {w : World} {base : Nat} {e : TypeId} {size n : Nat} {v : Value} {xs : List Value} {g cap : Nat} (h : w.ownsRow base e size v n xs) (hv : v = .slice (some ⟨g, 0, none⟩) n cap) (k : Nat) (u : Value) :
    (w.setCell ⟨g, k, none⟩ u).ownsRow base e size v n (xs.set k u) := by
  obtain ⟨h1, h2⟩ := h
  refine ⟨by simpa using h1, ?_⟩
  rcases h2 with ⟨h3, -⟩ | ⟨g', cap', cur, h3, h4, h5, h6, h7, h8, h9⟩
  · rw [hv] at h3; cases h3
  · right
    have hg : g' = g := by rw [hv] at h3; injection h3 with a; simp at a; exact a.symm
    subst hg
    refine ⟨g', cap', cur.setIfInBounds k u, h3, h4, ?_, h6, h7, by simpa using h8, ?_⟩
    · rw [setCell_eq_setRow w g' k cur e (0, 0) u h5]
      exact setRow_heap w g' cur _ e _ h5
    · rw [Array.toList_setIfInBounds, List.take_set, h9]
theorem grown_cell (w : World) (g k : Nat) (u : Value) : w.grownBy (w.setCell ⟨g, k, none⟩ u) (some g) :=
  ⟨rfl, rfl, rfl, by simp [World.setCell], fun i _ hi => Below.heap_setCell _ _ _ _ (fun e => hi (by rw [e]))⟩
end Go.Proofs.YtaolinlginloaadDoor
