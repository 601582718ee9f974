/-
  Flashes that can be read, behind a cell that is written.
-/
import Derived.Test.YtaolinlginloaacDoorPq37
import Derived.Test.YtaolinlginloaacDoorPq35
namespace Go.Proofs.YtaolinlginloaacDoor
open Go.RowKit

/-- Neither long lists nor long texts. -/
def LenF (rs : List Rw) : Prop := rs.length ≤ 10 ∧ ∀ r ∈ rs, r.2.2.2.length ≤ 4 ∧ ∀ t ∈ r.2.2.2, t.2.size ≤ 120
theorem LenF.of {n : Int} {bs : List Bk} {ss : List Rw} (hr : Right n bs) (e : ss.map tellOf = bs) : LenF ss := by
  subst e
  obtain ⟨-, l1, l2⟩ := hr.lens
  rw [List.length_map] at l1
  refine ⟨l1, fun r hr2 => ⟨?_, fun t ht => ?_⟩⟩
  · have := l2 _ (List.mem_map_of_mem (f := tellOf) hr2)
    simp only [tellOf] at this
    omega
  · exact hr.tx _ (List.mem_map_of_mem (f := tellOf) hr2) t ht
theorem LenF.set {rs : List Rw} (h : LenF rs) (k : Nat) (r : Rw) (h1 : r.2.2.2.length ≤ 4) (h2 : ∀ t ∈ r.2.2.2, t.2.size ≤ 120) : LenF (rs.set k r) := by
  refine ⟨by rw [List.length_set]; exact h.1, fun q hq => ?_⟩
  rcases List.mem_or_eq_of_mem_set hq with hq | rfl
  · exact h.2 q hq
  · exact ⟨h1, h2⟩
theorem LenF.take {rs : List Rw} (h : LenF rs) (k : Nat) : LenF (rs.take k) := ⟨by rw [List.length_take]; have := h.1; omega, fun q hq => h.2 q (List.mem_of_mem_take hq)⟩
/-- A cell that has a slice, in a block of its own, is written: no flash is touched. -/
theorem rd_aside {w : World} {v : Value} {rs : List Rw} {c n m : Nat} {a : Option Addr} {t : TypeId} (h : FlashRd w v rs) (hc : w.heap[c]? = some (.cells #[.slice a n m] t (0, 0))) (u : Value) : FlashRd (w.setCell ⟨c, 0, none⟩ u) v rs := by
  have h0 : w.cell? ⟨c, 0, none⟩ = some (.slice a n m) := cell_of_row _ _ 0 _ _ _ hc
  have hp : ∀ o, w.cell? ⟨c, o + 1, none⟩ = none := fun o => by rw [cell_of_row _ _ (o + 1) _ _ _ hc]; rfl
  have far : ∀ (g o : Nat) (x : Value), w.cell? ⟨g, o, none⟩ = some x → (o = 0 → x ≠ .slice a n m) → (w.setCell ⟨c, 0, none⟩ u).cell? ⟨g, o, none⟩ = some x := by
    intro g o x hx hne
    rw [World.cell?_setCell_other _ _ _ _ (fun e => ?_)]
    · exact hx
    · injection e with e1 e2
      subst e1 e2
      rw [h0] at hx
      cases hx
      exact hne rfl rfl
  obtain ⟨vd, vcap, e, en, h⟩ := h
  refine ⟨vd, vcap, e, en, fun k r hr => ?_⟩
  obtain ⟨g, e2, ⟨c1, c2, c3⟩, ld, lc, e3, en3, hl⟩ := h k r hr
  refine ⟨g, e2, ⟨far _ _ _ c1 (fun _ e => by cases e), far _ _ _ c2 (fun e => by omega), far _ _ _ c3 (fun e => by omega)⟩, ld, lc, e3, en3, fun j t ht => ?_⟩
  obtain ⟨gl, o, e4, d1, d2⟩ := hl j t ht
  exact ⟨gl, o, e4, far _ _ _ d1 (fun _ e => by cases e), far _ _ _ d2 (fun e => by omega)⟩
/-- One leaf's Is is another. -/
theorem FlashIn.leafIs {w : World} {lo hi k j gl n cl : Nat} {v : Value} {rs : List Rw} {r : Rw} {t0 : Int × ByteArray} (h : FlashIn w lo hi v rs) (hr : rs[k]? = some r) (hu : r.2.2.1 = .slice (some ⟨gl, 0, none⟩) n cl) (ht : r.2.2.2[j]? = some t0) (z : Int) : FlashIn (w.setCell ⟨gl, j * 2, none⟩ (.int .i64 z)) lo hi v (rs.set k (r.1, r.2.1, r.2.2.1, r.2.2.2.set j (z, t0.2))) := by
  have hl := h.2.2.1 r (List.mem_of_getElem? hr)
  have g1 := grown_cell w gl (j * 2) (.int .i64 z)
  refine h.leaves hr (by rw [hu]; exact g1) ⟨?_, hl.2⟩
  have hn : n = r.2.2.2.length := by
    obtain ⟨a, c, e, -⟩ := frow_form hl.1
    rw [hu] at e
    injection e
  have := fown_set hl.1 (by rw [hu, hn]) (j * 2) (.int .i64 z)
  rw [(lcells_upd _ j t0 ht).1 z] at this
  rw [List.length_set]
  exact this
/-- The leaves of one block begin at the second one. -/
theorem rd_tail {w : World} {lo hi k g n cap gl m cl : Nat} {rs : List Rw} {r : Rw} (h : FlashIn w lo hi (.slice (some ⟨g, 0, none⟩) n cap) rs) (hn : n = rs.length) (hr : rs[k]? = some r) (hu : r.2.2.1 = .slice (some ⟨gl, 0, none⟩) (m + 1) cl) :
    FlashRd (w.setCell ⟨g, k * 3 + 2, none⟩ (.slice (some ⟨gl, 2, none⟩) m (cl - 1))) (.slice (some ⟨g, 0, none⟩) n cap) (rs.set k (r.1, r.2.1, .slice (some ⟨gl, 2, none⟩) m (cl - 1), r.2.2.2.drop 1)) := by
  subst hn
  have hrl := h.2.2.1 r (List.mem_of_getElem? hr)
  have hm : m + 1 = r.2.2.2.length := by
    obtain ⟨a, c, e, -⟩ := frow_form hrl.1
    rw [hu] at e
    injection e
  have g1 := grown_cell w g (k * 3 + 2) (.slice (some ⟨gl, 2, none⟩) m (cl - 1))
  have hlr : ∀ q ∈ rs, LeafRd (w.setCell ⟨g, k * 3 + 2, none⟩ (.slice (some ⟨gl, 2, none⟩) m (cl - 1))) q.2.2.1 q.2.2.2 := fun q hq => by
    have hl := h.2.2.1 q hq
    exact LeafIn.rd ⟨hl.1.kept g1 (leaf_ne h.1 hl.1), hl.2⟩
  refine ⟨_, _, by rw [List.length_set], (fun e => by cases e), fun i q hq => ⟨g, rfl, ?_⟩⟩
  have hc : ∀ i q, rs[i]? = some q → w.cell? ⟨g, i * 3, none⟩ = some (.bool q.1) ∧ w.cell? ⟨g, i * 3 + 1, none⟩ = some (.int .i64 q.2.1) ∧ w.cell? ⟨g, i * 3 + 2, none⟩ = some q.2.2.1 := fun i q hq => kown_cells (k := i) (t := cellOf q) h.1 (by rw [List.getElem?_map, hq]; rfl)
  have far : ∀ o x, w.cell? ⟨g, o, none⟩ = some x → o ≠ k * 3 + 2 → (w.setCell ⟨g, k * 3 + 2, none⟩ (.slice (some ⟨gl, 2, none⟩) m (cl - 1))).cell? ⟨g, o, none⟩ = some x := fun o x hx hne => by
    rw [World.cell?_setCell_other _ _ _ _ (fun e => hne (by injection e with e1 e2; exact e2.symm))]
    exact hx
  by_cases e : i = k
  · subst e
    rw [List.getElem?_set_self (List.getElem?_eq_some_iff.1 hr).1] at hq
    cases hq
    obtain ⟨c1, c2, c3⟩ := hc i r hr
    refine ⟨⟨far _ _ c1 (by omega), far _ _ c2 (by omega), World.cell?_setCell_same _ _ _ c3⟩, ?_⟩
    · obtain ⟨ld, lc, e5, -, h5⟩ := hlr r (List.mem_of_getElem? hr)
      rw [hu] at e5
      injection e5 with e6 e7 e8
      subst e6
      refine ⟨some ⟨gl, 2, none⟩, cl - 1, by rw [List.length_drop, ← hm]; rfl, (fun e => by cases e), fun j t ht => ?_⟩
      rw [List.getElem?_drop] at ht
      obtain ⟨gl', o, e9, d1, d2⟩ := h5 (1 + j) t ht
      injection e9 with e9
      injection e9 with e9 e10
      subst e9 e10
      refine ⟨gl, 2, rfl, ?_, ?_⟩
      · rw [show 2 + j * 2 = 0 + (1 + j) * 2 by omega]
        exact d1
      · rw [show 2 + j * 2 + 1 = 0 + (1 + j) * 2 + 1 by omega]
        exact d2
  · rw [List.getElem?_set_ne (fun q => e q.symm)] at hq
    obtain ⟨c1, c2, c3⟩ := hc i q hq
    exact ⟨⟨far _ _ c1 (by omega), far _ _ c2 (by omega), far _ _ c3 (by omega)⟩, hlr q (List.mem_of_getElem? hq)⟩
end Go.Proofs.YtaolinlginloaacDoor
