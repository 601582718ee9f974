/-
  ISmall; INext; IBlk; FOf; Rd
-/
import Derived.Test.YthgfhjfnlecolabDoorFMath
import Derived.Test.YthgfhjfnlecolabDoorFRow
/-
  impl.isBlockCount, impl.fillsLeaf, (*impl.Leaf).isRight.
-/
namespace Go.Proofs.YthgfhjfnlecolabDoor
open Go.RowKit

theorem empty_size (t : ByteArray) : t.toList.isEmpty = decide (t.size = 0) := by
  rw [Lib.toList_data]
  have hsz : t.size = t.data.toList.length := rfl
  cases hc : t.data.toList with
  | nil => rw [hc] at hsz; exact (decide_eq_true hsz).symm
  | cons a l => rw [hc] at hsz; exact (decide_eq_false (by simp only [List.length_cons] at hsz; omega)).symm
def fillsP (t : ByteArray) : Bool := decide ((1 : Int) ≤ t.size ∧ (t.size : Int) ≤ 120)
end Go.Proofs.YthgfhjfnlecolabDoor

/-
  impl.NextBlank.
-/
namespace Go.Proofs.YthgfhjfnlecolabDoor
open Go.RowKit

end Go.Proofs.YthgfhjfnlecolabDoor

/-
  (*impl.Block).isRight.
-/
namespace Go.Proofs.YthgfhjfnlecolabDoor
open Go.RowKit

theorem nextB_le {ls : List (Int × ByteArray)} {k : Nat} {u : Int × ByteArray} (hu : ls[k]? = some u) (h0 : u.1 = 0) : nextB ls ≤ k := by
  obtain ⟨h1, h2⟩ := List.getElem?_eq_some_iff.1 hu
  have h : ls.findIdx (fun t => t.1 == 0) ≤ k := Nat.le_of_not_lt (fun hlt => by
    have h3 := List.not_of_lt_findIdx hlt
    rw [h2] at h3
    simp [h0] at h3)
  simp only [nextB]
  rw [if_pos (by omega)]
  exact h
theorem nextB_blank {ls : List (Int × ByteArray)} (h4 : ls.length ≤ 4) {k : Nat} (hk : k < ls.length) (hn : nextB ls < k) : ∃ u, ls[nextB ls]? = some u ∧ u.1 = 0 := by
  have h : ls.findIdx (fun t => t.1 == 0) < ls.length := Nat.lt_of_not_le (fun hh => by
    simp only [nextB] at hn
    rw [if_neg (by omega)] at hn
    omega)
  have e : nextB ls = ls.findIdx (fun t => t.1 == 0) := by simp only [nextB]; rw [if_pos h]
  have h3 := List.findIdx_getElem (w := h)
  refine ⟨ls[ls.findIdx (fun t => t.1 == 0)], by rw [e]; exact List.getElem?_eq_getElem h, by simpa using h3⟩
theorem blank_on {ls : List (Int × ByteArray)} (h : ∀ k, k < ls.length → leafAt ls k = true) {n : Nat} {u : Int × ByteArray} (hu : ls[n]? = some u) (h0 : u.1 = 0) (d : Nat) : ∀ t, ls[n + d]? = some t → t.1 = 0 := by
  induction d with
  | zero =>
    intro t ht
    rw [Nat.add_zero, hu] at ht
    cases ht
    exact h0
  | succ d ih =>
    intro t ht
    have hl := (List.getElem?_eq_some_iff.1 ht).1
    have hp : ls[n + d]? = some ls[n + d] := List.getElem?_eq_getElem (by omega)
    have hz := ih _ hp
    cases Decidable.em (t.1 = 0) with
    | inl e => exact e
    | inr e =>
      have := leafAt_bad (k := n + d) ht hp hz e
      rw [show n + d + 1 = n + (d + 1) from rfl, h _ hl] at this
      cases this
theorem blkOk_behind {b : Bk} {k : Nat} {t : Int × ByteArray} (h4 : b.2.2.length = 4) (ht : b.2.2[k]? = some t) (hn : nextB b.2.2 < k) (hz : t.1 ≠ 0) : blkOk b = false := by
  cases hb : blkOk b with
  | false => rfl
  | true =>
    have hk := (List.getElem?_eq_some_iff.1 ht).1
    simp only [blkOk, Bool.and_eq_true] at hb
    have hall : ∀ k, k < b.2.2.length → leafAt b.2.2 k = true := fun k hk => List.all_eq_true.1 hb.2 k (List.mem_range.2 hk)
    obtain ⟨u, hu, h0⟩ := nextB_blank (by omega) hk hn
    exact absurd (blank_on hall hu h0 (k - nextB b.2.2) t (by rw [show nextB b.2.2 + (k - nextB b.2.2) = k by omega]; exact ht)) hz
theorem blkOk_each {b : Bk} (h4 : b.2.2.length = 4) (hw : 0 ≤ b.2.1 ∧ b.2.1 ≤ 1000000000) (h : ∀ k t, b.2.2[k]? = some t → leafOk t = true ∧ (nextB b.2.2 < k → t.1 = 0)) : blkOk b = true := by
  refine blkOk_yes h4 hw (fun k hk => ?_)
  have ht : b.2.2[k]? = some b.2.2[k] := List.getElem?_eq_getElem hk
  generalize b.2.2[k] = t at ht
  cases k with
  | zero => exact leafAt_zero ht (h 0 t ht).1
  | succ k =>
    have hu : b.2.2[k]? = some b.2.2[k] := List.getElem?_eq_getElem (by omega)
    generalize b.2.2[k] = u at hu
    refine leafAt_yes ht hu (h _ t ht).1 ?_
    cases Decidable.em (u.1 = 0) with
    | inr e => exact Or.inl e
    | inl e => exact Or.inr ((h _ t ht).2 (by have := nextB_le hu e; omega))

end Go.Proofs.YthgfhjfnlecolabDoor

/-
  Flashes that functions answer.
-/
namespace Go.Proofs.YthgfhjfnlecolabDoor
open Go.RowKit

theorem row_set {w : World} {g : Nat} {cs : Array Value} {t : TypeId} (h : w.heap[g]? = some (.cells cs t (0, 0))) (i : Nat) (u : Value) : (w.setCell ⟨g, i, none⟩ u).heap[g]? = some (.cells (cs.setIfInBounds i u) t (0, 0)) := by
  rw [setCell_eq_setRow w g i cs t (0, 0) u h]
  exact setRow_heap w g cs _ t _ h
theorem row_set_ne {w : World} {g g' : Nat} {o : Obj} (h : w.heap[g]? = some o) (hn : g ≠ g') (i : Nat) (u : Value) : (w.setCell ⟨g', i, none⟩ u).heap[g]? = some o := (Below.heap_setCell _ _ _ _ hn).trans h
theorem own_down {w : World} {B B' : Nat} {e : TypeId} {size n : Nat} {v : Value} {xs : List Value} (h : w.ownsRow B e size v n xs) (hb : B' ≤ B) : w.ownsRow B' e size v n xs := by
  obtain ⟨h1, h2⟩ := h
  refine ⟨h1, ?_⟩
  rcases h2 with h | ⟨g, cap, cur, rfl, a2, a3⟩
  · exact .inl h
  · exact .inr ⟨g, cap, cur, rfl, by omega, a3⟩
theorem own_cell {w : World} {B : Nat} {e : TypeId} {size n : Nat} {v : Value} {xs : List Value} (h : w.ownsRow B e size v n xs) {g : Nat} (hg : g < B) (i : Nat) (u : Value) : (w.setCell ⟨g, i, none⟩ u).ownsRow B e size v n xs := by
  obtain ⟨h1, h2⟩ := h
  refine ⟨h1, ?_⟩
  rcases h2 with h | ⟨g', cap, cur, rfl, a2, a3, a4⟩
  · exact .inl h
  · exact .inr ⟨g', cap, cur, rfl, a2, row_set_ne a3 (by omega) _ _, a4⟩
theorem infoLeaf2 : (Tryd.prog.info? 71).map (·.size) = some 2 := by kernel_rfl
theorem infoBlock3 : (Tryd.prog.info? 65).map (·.size) = some 3 := by kernel_rfl
theorem infoFlash1 : (Tryd.prog.info? 38).map (·.size) = some 1 := by kernel_rfl
theorem own_block_lt {w : World} {B : Nat} {e : TypeId} {size n : Nat} {v : Value} {xs : List Value} (h : w.ownsRow B e size v n xs) : ∀ g, v.ownBlock = some g → B ≤ g ∧ g < w.heap.size := by
  intro g hg
  exact h.lt g hg
theorem leaf_cell {w : World} {B g : Nat} {n hi : Nat} {xs : List Value} {v : Value} {ls : List (Int × ByteArray)} (hu : w.ownsRow B 65 3 (.slice (some ⟨g, 0, none⟩) n n) n xs) (h : LeafIn w B hi v ls) (j : Nat) (u : Value) : LeafIn (w.setCell ⟨g, j, none⟩ u) B hi v ls :=
  ⟨h.1.kept (grown_cell w g j u) (leaf_ne hu h.1), h.2⟩
/-- Blocks that the call owns from block B on, and what they tell. -/
def FlashOf (w : World) (B : Nat) (v : Value) (bs : List Bk) : Prop := ∃ ss : List Rw, ss.map tellOf = bs ∧ FlashIn w B w.heap.size v ss
theorem FlashOf.form {w : World} {B : Nat} {v : Value} {bs : List Bk} (h : FlashOf w B v bs) : ∃ ad cap, v = .slice ad bs.length cap := by
  obtain ⟨ss, rfl, hs⟩ := h
  obtain ⟨ad, cap, rfl, -⟩ := frow_form hs.1
  exact ⟨ad, cap, by simp⟩
theorem FlashOf.below {w w' : World} {B : Nat} {v : Value} {bs : List Bk} (h : FlashOf w B v bs) (hb : Below w.heap.size w w') : FlashOf w' B v bs := by
  obtain ⟨ss, e, hs⟩ := h
  exact ⟨ss, e, (hs.below hb (Nat.le_refl _)).up hb.size⟩
theorem FlashIn.down {w : World} {lo lo' hi : Nat} {v : Value} {rs : List Rw} (h : FlashIn w lo hi v rs) (hh : lo' ≤ lo) : FlashIn w lo' hi v rs := ⟨own_down h.1 hh, h.2.1, fun r hr => ⟨own_down (h.2.2.1 r hr).1 hh, (h.2.2.1 r hr).2⟩, h.2.2.2⟩
theorem FlashOf.down {w : World} {B B' : Nat} {v : Value} {bs : List Bk} (h : FlashOf w B v bs) (hh : B' ≤ B) : FlashOf w B' v bs := by
  obtain ⟨ss, e, hs⟩ := h
  exact ⟨ss, e, hs.down hh⟩
/-- A cell below is written. -/
theorem FlashOf.cell {w : World} {B : Nat} {v : Value} {bs : List Bk} (h : FlashOf w B v bs) {g : Nat} (hg : g < B) (i : Nat) (u : Value) : FlashOf (w.setCell ⟨g, i, none⟩ u) B v bs := by
  obtain ⟨ss, e, hs⟩ := h
  refine ⟨ss, e, ?_⟩
  have := hs.kept (w' := w.setCell ⟨g, i, none⟩ u) (fun k h1 _ => Below.heap_setCell _ _ _ _ (by show k ≠ g; omega))
  simpa [World.setCell] using this
end Go.Proofs.YthgfhjfnlecolabDoor

/-
  Flashes that can be read, whoever owns them, and wherever their leaves begin.
-/
namespace Go.Proofs.YthgfhjfnlecolabDoor
open Go.RowKit

def LeafRd (w : World) (u : Value) (ls : List (Int × ByteArray)) : Prop :=
  ∃ ld lc, u = .slice ld ls.length lc ∧ (ld = none → lc = 0) ∧ ∀ j t, ls[j]? = some t → ∃ gl o, ld = some ⟨gl, o, none⟩ ∧ w.cell? ⟨gl, o + j * 2, none⟩ = some (.int .i64 t.1) ∧ w.cell? ⟨gl, o + j * 2 + 1, none⟩ = some (.string t.2)
def FlashRd (w : World) (v : Value) (rs : List Rw) : Prop :=
  ∃ vd vcap, v = .slice vd rs.length vcap ∧ (vd = none → vcap = 0) ∧ ∀ k r, rs[k]? = some r → ∃ g, vd = some ⟨g, 0, none⟩ ∧ (w.cell? ⟨g, k * 3, none⟩ = some (.bool r.1) ∧ w.cell? ⟨g, k * 3 + 1, none⟩ = some (.int .i64 r.2.1) ∧ w.cell? ⟨g, k * 3 + 2, none⟩ = some r.2.2.1) ∧ LeafRd w r.2.2.1 r.2.2.2
theorem LeafRd.below {w w' : World} {u : Value} {ls : List (Int × ByteArray)} (h : LeafRd w u ls) (hb : Below w.heap.size w w') : LeafRd w' u ls := by
  obtain ⟨ld, lc, e, en, h⟩ := h
  refine ⟨ld, lc, e, en, fun j t ht => ?_⟩
  obtain ⟨gl, o, e2, c1, c2⟩ := h j t ht
  exact ⟨gl, o, e2, (hb.cell (World.block_lt_of_cell? w _ c1)).trans c1, (hb.cell (World.block_lt_of_cell? w _ c2)).trans c2⟩
theorem FlashRd.below {w w' : World} {v : Value} {rs : List Rw} (h : FlashRd w v rs) (hb : Below w.heap.size w w') : FlashRd w' v rs := by
  obtain ⟨vd, vcap, e, en, h⟩ := h
  refine ⟨vd, vcap, e, en, fun k r hr => ?_⟩
  obtain ⟨g, e2, ⟨c1, c2, c3⟩, hl⟩ := h k r hr
  exact ⟨g, e2, ⟨(hb.cell (World.block_lt_of_cell? w _ c1)).trans c1, (hb.cell (World.block_lt_of_cell? w _ c2)).trans c2, (hb.cell (World.block_lt_of_cell? w _ c3)).trans c3⟩, hl.below hb⟩
theorem FlashRd.at {w : World} {vd : Option Addr} {n vcap k : Nat} {rs : List Rw} {r : Rw} (h : FlashRd w (.slice vd n vcap) rs) (hr : rs[k]? = some r) : ∃ g, vd = some ⟨g, 0, none⟩ ∧ (w.cell? ⟨g, k * 3, none⟩ = some (.bool r.1) ∧ w.cell? ⟨g, k * 3 + 1, none⟩ = some (.int .i64 r.2.1) ∧ w.cell? ⟨g, k * 3 + 2, none⟩ = some r.2.2.1) ∧ LeafRd w r.2.2.1 r.2.2.2 := by
  obtain ⟨vd', vcap', e, -, h⟩ := h
  injection e with e1 e2 e3
  subst e1
  exact h k r hr
theorem own_nil {w : World} {B : Nat} {e : TypeId} {size n cap m : Nat} {a : Option Addr} {xs : List Value} (h : w.ownsRow B e size (.slice a m cap) n xs) : a = none → cap = 0 := by
  rintro rfl
  rcases h.2 with ⟨h, -⟩ | ⟨g, cap', cur, h, -⟩
  · injection h
  · cases h
theorem LeafIn.rd {w : World} {lo hi : Nat} {u : Value} {ls : List (Int × ByteArray)} (h : LeafIn w lo hi u ls) : LeafRd w u ls := by
  obtain ⟨ld, lc, rfl, -, -, l3⟩ := frow_form h.1
  refine ⟨ld, lc, rfl, own_nil h.1, fun j t ht => ?_⟩
  obtain ⟨gl, rfl, -, -⟩ := l3 (by have := (List.getElem?_eq_some_iff.1 ht).1; omega)
  obtain ⟨d1, d2⟩ := lown_cells h.1 ht
  exact ⟨gl, 0, rfl, by rw [Nat.zero_add]; exact d1, by rw [Nat.zero_add]; exact d2⟩
theorem FlashIn.rd {w : World} {lo hi : Nat} {v : Value} {rs : List Rw} (h : FlashIn w lo hi v rs) : FlashRd w v rs := by
  obtain ⟨vd, vcap, rfl, -, -, a3⟩ := frow_form h.1
  refine ⟨vd, vcap, rfl, own_nil h.1, fun k r hr => ?_⟩
  obtain ⟨g, rfl, -, -⟩ := a3 (by have := (List.getElem?_eq_some_iff.1 hr).1; omega)
  exact ⟨g, rfl, kown_cells (k := k) (t := cellOf r) h.1 (by rw [List.getElem?_map, hr]; rfl), (h.2.2.1 r (List.mem_of_getElem? hr)).rd⟩
theorem addr_off (g o j : Nat) : (⟨g, o, none⟩ : Addr).add j = ⟨g, o + j, none⟩ := by
  simp only [Addr.add]
  split <;> simp_all
theorem LeafRd.cells {w : World} {gl o n lc : Nat} {ls : List (Int × ByteArray)} (h : LeafRd w (.slice (some ⟨gl, o, none⟩) n lc) ls) (j : Nat) (u : Value) (hj : (lcells ls)[j]? = some u) : w.cell? ⟨gl, o + j, none⟩ = some u := by
  obtain ⟨ld, lc', e, -, h⟩ := h
  injection e with e1 e2 e3
  subst e1
  have hlt := (List.getElem?_eq_some_iff.1 hj).1
  rw [lcells_len] at hlt
  obtain ⟨t, ht⟩ : ∃ t, ls[j / 2]? = some t := ⟨_, List.getElem?_eq_getElem (by omega)⟩
  obtain ⟨gl', o', e4, c1, c2⟩ := h _ t ht
  injection e4 with e4
  injection e4 with e5 e6
  subst e5 e6
  obtain ⟨k1, k2⟩ := lcells_at ls (j / 2) t ht
  rcases Nat.mod_two_eq_zero_or_one j with hm | hm
  · have e : j / 2 * 2 = j := by omega
    rw [e] at k1 c1
    rw [hj] at k1
    cases k1
    exact c1
  · have e : j / 2 * 2 + 1 = j := by omega
    rw [e, hj] at k2
    cases k2
    rw [Nat.add_assoc, e] at c2
    exact c2
/-- Where leaves begin. -/
theorem LeafRd.head {w : World} {ld : Option Addr} {n lc : Nat} {ls : List (Int × ByteArray)} (h : LeafRd w (.slice ld n lc) ls) (hn : 0 < ls.length) : ∃ gl o, ld = some ⟨gl, o, none⟩ := by
  obtain ⟨ld', lc', e, -, h⟩ := h
  injection e with e1 e2 e3
  subst e1
  obtain ⟨gl, o, e, -⟩ := h 0 _ (List.getElem?_eq_getElem hn)
  exact ⟨gl, o, e⟩
theorem LeafRd.two {w : World} {gl o n lc j : Nat} {ls : List (Int × ByteArray)} {t : Int × ByteArray} (h : LeafRd w (.slice (some ⟨gl, o, none⟩) n lc) ls) (ht : ls[j]? = some t) : w.cell? ⟨gl, o + j * 2, none⟩ = some (.int .i64 t.1) ∧ w.cell? ⟨gl, o + j * 2 + 1, none⟩ = some (.string t.2) := by
  obtain ⟨k1, k2⟩ := lcells_at ls j t ht
  exact ⟨h.cells _ _ k1, h.cells _ _ k2⟩
theorem LeafRd.none0 {w : World} {ld : Option Addr} {n lc : Nat} {ls : List (Int × ByteArray)} (h : LeafRd w (.slice ld n lc) ls) : ld = none → lc = 0 := by
  obtain ⟨ld', lc', e, h, -⟩ := h
  injection e with e1 e2 e3
  subst e1 e3
  exact h
theorem FlashRd.head {w : World} {vd : Option Addr} {n vcap : Nat} {rs : List Rw} (h : FlashRd w (.slice vd n vcap) rs) (hn : 0 < rs.length) : ∃ g, vd = some ⟨g, 0, none⟩ := by
  obtain ⟨g, e, -⟩ := h.at (List.getElem?_eq_getElem hn)
  exact ⟨g, e⟩
end Go.Proofs.YthgfhjfnlecolabDoor
