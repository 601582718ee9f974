/-
  FMath; ISmall; INext; IBlk; FOf
-/
import Derived.Test.YtcbhbjglgkaababDoorFRow
/-
  What chapter 5 says of flashes, in plain words.
-/
namespace Go.Proofs.YtcbhbjglgkaababDoor

def leafOk (t : Int × ByteArray) : Bool := decide (t.1 = 0 ∧ t.2.size = 0 ∨ t.1 = 1 ∧ 1 ≤ t.2.size ∧ t.2.size ≤ 120 ∨ t.1 = 2 ∧ t.2.size ≤ 120)
/-- The leaf at k is right, and not behind a blank one where it isn't blank. -/
def leafAt (ls : List (Int × ByteArray)) (k : Nat) : Bool := match ls[k]? with
  | none => true
  | some t => leafOk t && !(decide (0 < k ∧ t.1 ≠ 0 ∧ ∃ u, ls[k - 1]? = some u ∧ u.1 = 0))
def blkOk (b : Bk) : Bool := decide (b.2.2.length = 4 ∧ 0 ≤ b.2.1 ∧ b.2.1 ≤ 1000000000) && (List.range b.2.2.length).all (leafAt b.2.2)
def flOk (bs : List Bk) : Bool := decide (3 ≤ bs.length ∧ bs.length ≤ 10) && bs.all blkOk
theorem flOk_no {bs : List Bk} {b : Bk} (hb : b ∈ bs) (h : blkOk b = false) : flOk bs = false := by
  have h1 : bs.all blkOk = false := List.all_eq_false.2 ⟨b, hb, by simp [h]⟩
  simp [flOk, h1]
theorem flOk_all {bs : List Bk} (h : ∀ b ∈ bs, blkOk b = true) : flOk bs = decide (3 ≤ bs.length ∧ bs.length ≤ 10) := by
  have h1 : bs.all blkOk = true := List.all_eq_true.2 h
  simp [flOk, h1]
theorem blkOk_len {b : Bk} (h : b.2.2.length ≠ 4) : blkOk b = false := by simp [blkOk, h]
theorem blkOk_wear {b : Bk} (h : ¬ (0 ≤ b.2.1 ∧ b.2.1 ≤ 1000000000)) : blkOk b = false := by
  have h1 : decide (b.2.2.length = 4 ∧ 0 ≤ b.2.1 ∧ b.2.1 ≤ 1000000000) = false := decide_eq_false (fun hh => h hh.2)
  simp only [blkOk, h1, Bool.false_and]
theorem blkOk_no {b : Bk} {k : Nat} (hk : k < b.2.2.length) (h : leafAt b.2.2 k = false) : blkOk b = false := by
  have h1 : (List.range b.2.2.length).all (leafAt b.2.2) = false := List.all_eq_false.2 ⟨k, List.mem_range.2 hk, by simp [h]⟩
  simp only [blkOk, h1, Bool.and_false]
theorem blkOk_yes {b : Bk} (hl : b.2.2.length = 4) (hw : 0 ≤ b.2.1 ∧ b.2.1 ≤ 1000000000) (h : ∀ k, k < b.2.2.length → leafAt b.2.2 k = true) : blkOk b = true := by
  have h1 : (List.range b.2.2.length).all (leafAt b.2.2) = true := List.all_eq_true.2 (fun k hk => h k (List.mem_range.1 hk))
  simp only [blkOk, h1, Bool.and_true]
  exact decide_eq_true ⟨hl, hw⟩
theorem leafAt_no {ls : List (Int × ByteArray)} {k : Nat} {t : Int × ByteArray} (ht : ls[k]? = some t) (h : leafOk t = false) : leafAt ls k = false := by simp [leafAt, ht, h]
theorem leafAt_zero {ls : List (Int × ByteArray)} {t : Int × ByteArray} (ht : ls[0]? = some t) (h : leafOk t = true) : leafAt ls 0 = true := by simp only [leafAt, ht, h]; simp
theorem leafAt_yes {ls : List (Int × ByteArray)} {k : Nat} {t u : Int × ByteArray} (ht : ls[k + 1]? = some t) (hu : ls[k]? = some u) (h : leafOk t = true) (hn : u.1 ≠ 0 ∨ t.1 = 0) : leafAt ls (k + 1) = true := by
  have h1 : decide (0 < k + 1 ∧ t.1 ≠ 0 ∧ ∃ u, ls[k + 1 - 1]? = some u ∧ u.1 = 0) = false := by
    refine decide_eq_false (fun hh => ?_)
    obtain ⟨-, a, q, b, c⟩ := hh
    rw [Nat.add_sub_cancel, hu] at b
    cases b
    rcases hn with hn | hn
    · exact hn c
    · exact a hn
  simp only [leafAt, ht, h, h1]
  rfl
theorem leafAt_bad {ls : List (Int × ByteArray)} {k : Nat} {t u : Int × ByteArray} (ht : ls[k + 1]? = some t) (hu : ls[k]? = some u) (h0 : u.1 = 0) (hn : t.1 ≠ 0) : leafAt ls (k + 1) = false := by
  have h1 : decide (0 < k + 1 ∧ t.1 ≠ 0 ∧ ∃ u, ls[k + 1 - 1]? = some u ∧ u.1 = 0) = true := decide_eq_true ⟨by omega, hn, u, by rw [Nat.add_sub_cancel]; exact hu, h0⟩
  simp only [leafAt, ht, h1]
  simp
/-- The first blank leaf; 4 where there is none. -/
def nextB (ls : List (Int × ByteArray)) : Nat := if ls.findIdx (fun t => t.1 == 0) < ls.length then ls.findIdx (fun t => t.1 == 0) else 4
theorem nextB_at {ls : List (Int × ByteArray)} {k : Nat} {t : Int × ByteArray} (ht : ls[k]? = some t) (h0 : t.1 = 0) (hb : ∀ (j : Nat) (u : Int × ByteArray), j < k → ls[j]? = some u → u.1 ≠ 0) : nextB ls = k := by
  obtain ⟨h1, h2⟩ := List.getElem?_eq_some_iff.1 ht
  have h : ls.findIdx (fun t => t.1 == 0) = k := by
    rw [List.findIdx_eq h1]
    refine ⟨by rw [h2]; simp [h0], fun j hj => ?_⟩
    have := hb j ls[j] hj (List.getElem?_eq_getElem (by omega))
    simpa using this
  simp only [nextB, h, if_pos h1]
theorem nextB_none {ls : List (Int × ByteArray)} (hb : ∀ (j : Nat) (u : Int × ByteArray), ls[j]? = some u → u.1 ≠ 0) : nextB ls = 4 := by
  have h : ls.findIdx (fun t => t.1 == 0) = ls.length := by
    rw [List.findIdx_eq_length]
    intro t ht
    obtain ⟨j, hj, rfl⟩ := List.getElem_of_mem ht
    have := hb j ls[j] (List.getElem?_eq_getElem hj)
    simpa using this
  simp only [nextB, h]
  rw [if_neg (by omega)]
def blank4 : List (Int × ByteArray) := [(0, ⟨#[]⟩), (0, ⟨#[]⟩), (0, ⟨#[]⟩), (0, ⟨#[]⟩)]
def newF (n : Int) : List Bk := if 3 ≤ n ∧ n ≤ 10 then List.replicate n.toNat (false, 0, blank4) else []
def mayP (bs : List Bk) (b leaf : Int) (t : ByteArray) : Bool := match bs[b.toNat]? with
  | none => false
  | some r => decide (0 ≤ b ∧ r.1 = false ∧ leaf < 4 ∧ leaf = nextB r.2.2 ∧ 1 ≤ t.size ∧ t.size ≤ 120)
def putLeaf (bs : List Bk) (b leaf : Nat) (t : ByteArray) : List Bk := bs.modify b (fun r => (r.1, r.2.1, r.2.2.set leaf (1, t)))
def programF (bs : List Bk) (b leaf : Int) (t : ByteArray) : List Bk × Bool := if flOk bs && mayP bs b leaf t then (putLeaf bs b.toNat leaf.toNat t, true) else (bs, false)
def mayW (bs : List Bk) (b : Int) : Bool := match bs[b.toNat]? with
  | none => false
  | some r => decide (0 ≤ b ∧ r.1 = false ∧ r.2.1 ≠ 1000000000)
def wipeF (bs : List Bk) (b : Int) : List Bk × Bool := if flOk bs && mayW bs b then (bs.modify b.toNat (fun r => (false, r.2.1 + 1, blank4)), true) else (bs, false)
def readF (bs : List Bk) (b leaf : Int) : ByteArray × Bool := match bs[b.toNat]? with
  | none => (⟨#[]⟩, false)
  | some r => match r.2.2[leaf.toNat]? with
    | none => (⟨#[]⟩, false)
    | some t => if 0 ≤ b ∧ 0 ≤ leaf ∧ t.1 = 1 then (t.2, true) else (⟨#[]⟩, false)
def badF (bs : List Bk) (b : Int) : List Bk := if 0 ≤ b then bs.modify b.toNat (fun r => (true, r.2)) else bs
/-- No text of these is too long for the program. -/
def Tx (ls : List (Int × ByteArray)) : Prop := ∀ t ∈ ls, t.2.size ≤ 1048576
def TxB (rs : List Rw) : Prop := ∀ r ∈ rs, Tx r.2.2.2
theorem Tx.succ {ls : List (Int × ByteArray)} {k : Nat} {t : Int × ByteArray} (h : Tx (ls.take k)) (ht : ls[k]? = some t) (hs : t.2.size ≤ 1048576) : Tx (ls.take (k + 1)) := by
  obtain ⟨h1, h2⟩ := List.getElem?_eq_some_iff.1 ht
  rw [List.take_succ_eq_append_getElem h1, h2]
  intro u hu
  rcases List.mem_append.1 hu with hu | hu
  · exact h u hu
  · rw [List.mem_singleton] at hu
    subst hu
    exact hs
theorem TxB.succ {rs : List Rw} {k : Nat} {r : Rw} (h : TxB (rs.take k)) (hr : rs[k]? = some r) (hs : Tx r.2.2.2) : TxB (rs.take (k + 1)) := by
  obtain ⟨h1, h2⟩ := List.getElem?_eq_some_iff.1 hr
  rw [List.take_succ_eq_append_getElem h1, h2]
  intro u hu
  rcases List.mem_append.1 hu with hu | hu
  · exact h u hu
  · rw [List.mem_singleton] at hu
    subst hu
    exact hs
end Go.Proofs.YtcbhbjglgkaababDoor

/-
  impl.isBlockCount, impl.fillsLeaf, (*impl.Leaf).isRight.
-/
namespace Go.Proofs.YtcbhbjglgkaababDoor
open Go.RowKit

theorem empty_size (t : ByteArray) : t.toList.isEmpty = decide (t.size = 0) := by
  rw [Lib.toList_data]
  have hsz : t.size = t.data.toList.length := rfl
  cases hc : t.data.toList with
  | nil => rw [hc] at hsz; exact (decide_eq_true hsz).symm
  | cons a l => rw [hc] at hsz; exact (decide_eq_false (by simp only [List.length_cons] at hsz; omega)).symm
def fillsP (t : ByteArray) : Bool := decide ((1 : Int) ≤ t.size ∧ (t.size : Int) ≤ 120)
end Go.Proofs.YtcbhbjglgkaababDoor

/-
  impl.NextBlank.
-/
namespace Go.Proofs.YtcbhbjglgkaababDoor
open Go.RowKit

end Go.Proofs.YtcbhbjglgkaababDoor

/-
  (*impl.Block).isRight.
-/
namespace Go.Proofs.YtcbhbjglgkaababDoor
open Go.RowKit

theorem nextB_le {ls : List (Int × ByteArray)} {k : Nat} {u : Int × ByteArray} (hu : ls[k]? = some u) (h0 : u.1 = 0) : nextB ls ≤ k := by
  obtain ⟨h1, h2⟩ := List.getElem?_eq_some_iff.1 hu
  have h : ls.findIdx (fun t => t.1 == 0) ≤ k := Nat.le_of_not_lt (fun hlt => by
    have h3 := List.not_of_lt_findIdx hlt
    rw [h2] at h3
    simp [h0] at h3)
  simp only [nextB]
  rw [if_pos (by omega)]
  exact h
theorem nextB_blank {ls : List (Int × ByteArray)} (h4 : ls.length ≤ 4) {k : Nat} (hk : k < ls.length) (hn : nextB ls < k) : ∃ u, ls[nextB ls]? = some u ∧ u.1 = 0 := by
  have h : ls.findIdx (fun t => t.1 == 0) < ls.length := Nat.lt_of_not_le (fun hh => by
    simp only [nextB] at hn
    rw [if_neg (by omega)] at hn
    omega)
  have e : nextB ls = ls.findIdx (fun t => t.1 == 0) := by simp only [nextB]; rw [if_pos h]
  have h3 := List.findIdx_getElem (w := h)
  refine ⟨ls[ls.findIdx (fun t => t.1 == 0)], by rw [e]; exact List.getElem?_eq_getElem h, by simpa using h3⟩
theorem blank_on {ls : List (Int × ByteArray)} (h : ∀ k, k < ls.length → leafAt ls k = true) {n : Nat} {u : Int × ByteArray} (hu : ls[n]? = some u) (h0 : u.1 = 0) (d : Nat) : ∀ t, ls[n + d]? = some t → t.1 = 0 := by
  induction d with
  | zero =>
    intro t ht
    rw [Nat.add_zero, hu] at ht
    cases ht
    exact h0
  | succ d ih =>
    intro t ht
    have hl := (List.getElem?_eq_some_iff.1 ht).1
    have hp : ls[n + d]? = some ls[n + d] := List.getElem?_eq_getElem (by omega)
    have hz := ih _ hp
    cases Decidable.em (t.1 = 0) with
    | inl e => exact e
    | inr e =>
      have := leafAt_bad (k := n + d) ht hp hz e
      rw [show n + d + 1 = n + (d + 1) from rfl, h _ hl] at this
      cases this
theorem blkOk_behind {b : Bk} {k : Nat} {t : Int × ByteArray} (h4 : b.2.2.length = 4) (ht : b.2.2[k]? = some t) (hn : nextB b.2.2 < k) (hz : t.1 ≠ 0) : blkOk b = false := by
  cases hb : blkOk b with
  | false => rfl
  | true =>
    have hk := (List.getElem?_eq_some_iff.1 ht).1
    simp only [blkOk, Bool.and_eq_true] at hb
    have hall : ∀ k, k < b.2.2.length → leafAt b.2.2 k = true := fun k hk => List.all_eq_true.1 hb.2 k (List.mem_range.2 hk)
    obtain ⟨u, hu, h0⟩ := nextB_blank (by omega) hk hn
    exact absurd (blank_on hall hu h0 (k - nextB b.2.2) t (by rw [show nextB b.2.2 + (k - nextB b.2.2) = k by omega]; exact ht)) hz
theorem blkOk_each {b : Bk} (h4 : b.2.2.length = 4) (hw : 0 ≤ b.2.1 ∧ b.2.1 ≤ 1000000000) (h : ∀ k t, b.2.2[k]? = some t → leafOk t = true ∧ (nextB b.2.2 < k → t.1 = 0)) : blkOk b = true := by
  refine blkOk_yes h4 hw (fun k hk => ?_)
  have ht : b.2.2[k]? = some b.2.2[k] := List.getElem?_eq_getElem hk
  generalize b.2.2[k] = t at ht
  cases k with
  | zero => exact leafAt_zero ht (h 0 t ht).1
  | succ k =>
    have hu : b.2.2[k]? = some b.2.2[k] := List.getElem?_eq_getElem (by omega)
    generalize b.2.2[k] = u at hu
    refine leafAt_yes ht hu (h _ t ht).1 ?_
    cases Decidable.em (u.1 = 0) with
    | inr e => exact Or.inl e
    | inl e => exact Or.inr ((h _ t ht).2 (by have := nextB_le hu e; omega))

end Go.Proofs.YtcbhbjglgkaababDoor

/-
  Flashes that functions answer.
-/
namespace Go.Proofs.YtcbhbjglgkaababDoor
open Go.RowKit

theorem row_set {w : World} {g : Nat} {cs : Array Value} {t : TypeId} (h : w.heap[g]? = some (.cells cs t (0, 0))) (i : Nat) (u : Value) : (w.setCell ⟨g, i, none⟩ u).heap[g]? = some (.cells (cs.setIfInBounds i u) t (0, 0)) := by
  rw [setCell_eq_setRow w g i cs t (0, 0) u h]
  exact setRow_heap w g cs _ t _ h
theorem row_set_ne {w : World} {g g' : Nat} {o : Obj} (h : w.heap[g]? = some o) (hn : g ≠ g') (i : Nat) (u : Value) : (w.setCell ⟨g', i, none⟩ u).heap[g]? = some o := (Below.heap_setCell _ _ _ _ hn).trans h
theorem own_down {w : World} {B B' : Nat} {e : TypeId} {size n : Nat} {v : Value} {xs : List Value} (h : w.ownsRow B e size v n xs) (hb : B' ≤ B) : w.ownsRow B' e size v n xs := by
  obtain ⟨h1, h2⟩ := h
  refine ⟨h1, ?_⟩
  rcases h2 with h | ⟨g, cap, cur, rfl, a2, a3⟩
  · exact .inl h
  · exact .inr ⟨g, cap, cur, rfl, by omega, a3⟩
theorem own_cell {w : World} {B : Nat} {e : TypeId} {size n : Nat} {v : Value} {xs : List Value} (h : w.ownsRow B e size v n xs) {g : Nat} (hg : g < B) (i : Nat) (u : Value) : (w.setCell ⟨g, i, none⟩ u).ownsRow B e size v n xs := by
  obtain ⟨h1, h2⟩ := h
  refine ⟨h1, ?_⟩
  rcases h2 with h | ⟨g', cap, cur, rfl, a2, a3, a4⟩
  · exact .inl h
  · exact .inr ⟨g', cap, cur, rfl, a2, row_set_ne a3 (by omega) _ _, a4⟩
theorem infoLeaf2 : (Tryd.prog.info? 71).map (·.size) = some 2 := by kernel_rfl
theorem infoBlock3 : (Tryd.prog.info? 65).map (·.size) = some 3 := by kernel_rfl
theorem infoFlash1 : (Tryd.prog.info? 38).map (·.size) = some 1 := by kernel_rfl
theorem own_block_lt {w : World} {B : Nat} {e : TypeId} {size n : Nat} {v : Value} {xs : List Value} (h : w.ownsRow B e size v n xs) : ∀ g, v.ownBlock = some g → B ≤ g ∧ g < w.heap.size := by
  intro g hg
  exact h.lt g hg
theorem leaf_cell {w : World} {B g : Nat} {n hi : Nat} {xs : List Value} {v : Value} {ls : List (Int × ByteArray)} (hu : w.ownsRow B 65 3 (.slice (some ⟨g, 0, none⟩) n n) n xs) (h : LeafIn w B hi v ls) (j : Nat) (u : Value) : LeafIn (w.setCell ⟨g, j, none⟩ u) B hi v ls :=
  ⟨h.1.kept (grown_cell w g j u) (leaf_ne hu h.1), h.2⟩
/-- Blocks that the call owns from block B on, and what they tell. -/
def FlashOf (w : World) (B : Nat) (v : Value) (bs : List Bk) : Prop := ∃ ss : List Rw, ss.map tellOf = bs ∧ FlashIn w B w.heap.size v ss
theorem FlashOf.form {w : World} {B : Nat} {v : Value} {bs : List Bk} (h : FlashOf w B v bs) : ∃ ad cap, v = .slice ad bs.length cap := by
  obtain ⟨ss, rfl, hs⟩ := h
  obtain ⟨ad, cap, rfl, -⟩ := frow_form hs.1
  exact ⟨ad, cap, by simp⟩
theorem FlashOf.below {w w' : World} {B : Nat} {v : Value} {bs : List Bk} (h : FlashOf w B v bs) (hb : Below w.heap.size w w') : FlashOf w' B v bs := by
  obtain ⟨ss, e, hs⟩ := h
  exact ⟨ss, e, (hs.below hb (Nat.le_refl _)).up hb.size⟩
theorem FlashIn.down {w : World} {lo lo' hi : Nat} {v : Value} {rs : List Rw} (h : FlashIn w lo hi v rs) (hh : lo' ≤ lo) : FlashIn w lo' hi v rs := ⟨own_down h.1 hh, h.2.1, fun r hr => ⟨own_down (h.2.2.1 r hr).1 hh, (h.2.2.1 r hr).2⟩, h.2.2.2⟩
theorem FlashOf.down {w : World} {B B' : Nat} {v : Value} {bs : List Bk} (h : FlashOf w B v bs) (hh : B' ≤ B) : FlashOf w B' v bs := by
  obtain ⟨ss, e, hs⟩ := h
  exact ⟨ss, e, hs.down hh⟩
/-- A cell below is written. -/
theorem FlashOf.cell {w : World} {B : Nat} {v : Value} {bs : List Bk} (h : FlashOf w B v bs) {g : Nat} (hg : g < B) (i : Nat) (u : Value) : FlashOf (w.setCell ⟨g, i, none⟩ u) B v bs := by
  obtain ⟨ss, e, hs⟩ := h
  refine ⟨ss, e, ?_⟩
  have := hs.kept (w' := w.setCell ⟨g, i, none⟩ u) (fun k h1 _ => Below.heap_setCell _ _ _ _ (by show k ≠ g; omega))
  simpa [World.setCell] using this
end Go.Proofs.YtcbhbjglgkaababDoor
