/-
  spec.EventOk; the laws' own walks over an Event.
-/
import Derived.Test.YtiicghepilbgfaaGreatDoorPk46
namespace Go.Proofs.YtiicghepilbgfaaGreatDoor
open Go.RowKit
open Words Sums

/-- An event as a value. -/
def evV (q : Ak) (c : Bool) (wh : Int) (tn : Bool) : Value := .agg #[.int .i64 q.kind, .int .i64 q.vol, .int .i64 q.sector, .int .i64 q.of, .string q.text, .bool c, .int .i64 wh, .bool tn]
/-- The cells of an event. -/
def EvAt (W : World) (g : Nat) (q : Ak) (c : Bool) (wh : Int) (tn : Bool) (T : TypeId) : Prop := W.heap[g]? = some (.cells #[.int .i64 q.kind, .int .i64 q.vol, .int .i64 q.sector, .int .i64 q.of, .string q.text, .bool c, .int .i64 wh, .bool tn] T (0, 0))
def noAk : Ak := ⟨0, 0, 0, 0, ⟨#[]⟩⟩
theorem EvAt.fr {W : World} {g : Nat} {q : Ak} {c : Bool} {wh : Int} {tn : Bool} {T : TypeId} (h : EvAt W g q c wh tn T) (k : Nat) : W.frozen? ⟨g, k, none⟩ = false := frozen_of_row _ _ k _ _ h
theorem EvAt.cells {W : World} {g : Nat} {q : Ak} {c : Bool} {wh : Int} {tn : Bool} {T : TypeId} (h : EvAt W g q c wh tn T) : W.cell? ⟨g, 0, none⟩ = some (.int .i64 q.kind) ∧ W.cell? ⟨g, 1, none⟩ = some (.int .i64 q.vol) ∧ W.cell? ⟨g, 2, none⟩ = some (.int .i64 q.sector) ∧ W.cell? ⟨g, 3, none⟩ = some (.int .i64 q.of) ∧ W.cell? ⟨g, 4, none⟩ = some (.string q.text) ∧ W.cell? ⟨g, 5, none⟩ = some (.bool c) ∧ W.cell? ⟨g, 6, none⟩ = some (.int .i64 wh) ∧ W.cell? ⟨g, 7, none⟩ = some (.bool tn) :=
  ⟨cell_of_row _ _ 0 _ _ _ h, cell_of_row _ _ 1 _ _ _ h, cell_of_row _ _ 2 _ _ _ h, cell_of_row _ _ 3 _ _ _ h, cell_of_row _ _ 4 _ _ _ h, cell_of_row _ _ 5 _ _ _ h, cell_of_row _ _ 6 _ _ _ h, cell_of_row _ _ 7 _ _ _ h⟩
theorem EvAt.on {W W' : World} {g : Nat} {q : Ak} {c : Bool} {wh : Int} {tn : Bool} {T : TypeId} (h : EvAt W g q c wh tn T) (e : W'.heap[g]? = W.heap[g]?) : EvAt W' g q c wh tn T := e.trans h
/-- An event laid into the cells of block g. -/
def putEv (W : World) (g : Nat) (q : Ak) (c : Bool) (wh : Int) (tn : Bool) : World := (((((((W.setCell ⟨g, 0, none⟩ (.int .i64 q.kind)).setCell ⟨g, 1, none⟩ (.int .i64 q.vol)).setCell ⟨g, 2, none⟩ (.int .i64 q.sector)).setCell ⟨g, 3, none⟩ (.int .i64 q.of)).setCell ⟨g, 4, none⟩ (.string q.text)).setCell ⟨g, 5, none⟩ (.bool c)).setCell ⟨g, 6, none⟩ (.int .i64 wh)).setCell ⟨g, 7, none⟩ (.bool tn)
theorem putEv_other (W : World) (g : Nat) (q : Ak) (c : Bool) (wh : Int) (tn : Bool) {i : Nat} (h : i ≠ g) : (putEv W g q c wh tn).heap[i]? = W.heap[i]? := by
  unfold putEv
  rw [Below.heap_setCell _ _ _ _ h, Below.heap_setCell _ _ _ _ h, Below.heap_setCell _ _ _ _ h, Below.heap_setCell _ _ _ _ h, Below.heap_setCell _ _ _ _ h, Below.heap_setCell _ _ _ _ h, Below.heap_setCell _ _ _ _ h, Below.heap_setCell _ _ _ _ h]
theorem putEv_below {B g : Nat} {w W : World} (q : Ak) (c : Bool) (wh : Int) (tn : Bool) (h : Below B w W) (hg : B ≤ g) : Below B w (putEv W g q c wh tn) :=
  (((((((h.setCell (p := ⟨g, 0, none⟩) hg _).setCell (p := ⟨g, 1, none⟩) hg _).setCell (p := ⟨g, 2, none⟩) hg _).setCell (p := ⟨g, 3, none⟩) hg _).setCell (p := ⟨g, 4, none⟩) hg _).setCell (p := ⟨g, 5, none⟩) hg _).setCell (p := ⟨g, 6, none⟩) hg _).setCell (p := ⟨g, 7, none⟩) hg _
theorem putEv_at {W : World} {g : Nat} {a b c d e f x y : Value} {T : TypeId} (h : W.heap[g]? = some (.cells #[a, b, c, d, e, f, x, y] T (0, 0))) (q : Ak) (cu : Bool) (wh : Int) (tn : Bool) : EvAt (putEv W g q cu wh tn) g q cu wh tn T := by
  unfold putEv
  have h0 : (W.setCell ⟨g, 0, none⟩ (.int .i64 q.kind)).heap[g]? = some (.cells #[.int .i64 q.kind, b, c, d, e, f, x, y] T (0, 0)) := heap_setCell_same _ _ 0 _ _ _ h
  generalize W.setCell ⟨g, 0, none⟩ (.int .i64 q.kind) = W0 at h0 ⊢
  have h1 : (W0.setCell ⟨g, 1, none⟩ (.int .i64 q.vol)).heap[g]? = some (.cells #[.int .i64 q.kind, .int .i64 q.vol, c, d, e, f, x, y] T (0, 0)) := heap_setCell_same _ _ 1 _ _ _ h0
  generalize W0.setCell ⟨g, 1, none⟩ (.int .i64 q.vol) = W1 at h1 ⊢
  have h2 : (W1.setCell ⟨g, 2, none⟩ (.int .i64 q.sector)).heap[g]? = some (.cells #[.int .i64 q.kind, .int .i64 q.vol, .int .i64 q.sector, d, e, f, x, y] T (0, 0)) := heap_setCell_same _ _ 2 _ _ _ h1
  generalize W1.setCell ⟨g, 2, none⟩ (.int .i64 q.sector) = W2 at h2 ⊢
  have h3 : (W2.setCell ⟨g, 3, none⟩ (.int .i64 q.of)).heap[g]? = some (.cells #[.int .i64 q.kind, .int .i64 q.vol, .int .i64 q.sector, .int .i64 q.of, e, f, x, y] T (0, 0)) := heap_setCell_same _ _ 3 _ _ _ h2
  generalize W2.setCell ⟨g, 3, none⟩ (.int .i64 q.of) = W3 at h3 ⊢
  have h4 : (W3.setCell ⟨g, 4, none⟩ (.string q.text)).heap[g]? = some (.cells #[.int .i64 q.kind, .int .i64 q.vol, .int .i64 q.sector, .int .i64 q.of, .string q.text, f, x, y] T (0, 0)) := heap_setCell_same _ _ 4 _ _ _ h3
  generalize W3.setCell ⟨g, 4, none⟩ (.string q.text) = W4 at h4 ⊢
  have h5 : (W4.setCell ⟨g, 5, none⟩ (.bool cu)).heap[g]? = some (.cells #[.int .i64 q.kind, .int .i64 q.vol, .int .i64 q.sector, .int .i64 q.of, .string q.text, .bool cu, x, y] T (0, 0)) := heap_setCell_same _ _ 5 _ _ _ h4
  generalize W4.setCell ⟨g, 5, none⟩ (.bool cu) = W5 at h5 ⊢
  have h6 : (W5.setCell ⟨g, 6, none⟩ (.int .i64 wh)).heap[g]? = some (.cells #[.int .i64 q.kind, .int .i64 q.vol, .int .i64 q.sector, .int .i64 q.of, .string q.text, .bool cu, .int .i64 wh, y] T (0, 0)) := heap_setCell_same _ _ 6 _ _ _ h5
  generalize W5.setCell ⟨g, 6, none⟩ (.int .i64 wh) = W6 at h6 ⊢
  exact heap_setCell_same _ _ 7 _ _ _ h6
theorem infoEvz : (Tryz.prog.info? 30).map (·.size) = some 8 := by kernel_rfl
/-- What an EventOk does. -/
def EvOkC (f : Nat) : Prop := ∀ (q : Ak) (c : Bool) (wh : Int) (tn : Bool) (w : World), Calls Tryz.prog f #[evV q c wh tn] w fun e w' => e = .returned (.bool (akB q && decide (0 ≤ wh))) ∧ Below w.heap.size w w'
set_option maxHeartbeats 1000000 in
set_option maxRecDepth 100000 in
theorem sevOk : EvOkC 6 := by
  intro q c wh tn w
  obtain ⟨k, v, s, o, t⟩ := q
  unfold evV
  simp only
  have bA : Below w.heap.size w (w.alloc (.cells #[.int .i64 k, .int .i64 v, .int .i64 s, .int .i64 o, .string t, .bool c, .int .i64 wh, .bool tn] 30)) := (Below.refl _ _).alloc (Nat.le_refl _) _
  have gA : (w.alloc (.cells #[.int .i64 k, .int .i64 v, .int .i64 s, .int .i64 o, .string t, .bool c, .int .i64 wh, .bool tn] 30)).heap[w.heap.size]? = some (.cells #[.int .i64 k, .int .i64 v, .int .i64 s, .int .i64 o, .string t, .bool c, .int .i64 wh, .bool tn] 30 (0, 0)) := heap_alloc_new _ _
  obtain ⟨R, hR⟩ : ∃ R, akB ⟨k, v, s, o, t⟩ = R := ⟨_, rfl⟩
  have HR := hide hR
  have HB := hide bA
  have HG := hide gA
  rw [hR]
  clear bA gA hR
  go_enter Tryz.func6, Tryz.ntmps6
  go_wp2_with fail
  have CS := saskOk ⟨k, v, s, o, t⟩ (w.alloc (.cells #[.int .i64 k, .int .i64 v, .int .i64 s, .int .i64 o, .string t, .bool c, .int .i64 wh, .bool tn] 30))
  rw [HR.out] at CS
  unfold akV at CS
  simp only at CS
  refine CS.mono ?_
  rintro e w1 ⟨rfl, b1⟩
  have B1 := hide (HB.out.trans (b1.mono HB.out.size))
  have G1 := hide ((b1.block _ (Array.getElem?_eq_some_iff.1 HG.out).1).trans HG.out)
  have c6 := cell_of_row _ _ 6 _ _ _ G1.out
  simp at c6
  clear b1 CS HB HG HR G1
  cases R with
  | false =>
    go_wp2
    go_ret
    exact ⟨rfl, B1.out⟩
  | true =>
    go_wp2
    go_ret
    exact ⟨by simp, B1.out⟩
set_option maxHeartbeats 1000000 in
set_option maxRecDepth 100000 in
theorem toEv_any (q : Ak) (c : Bool) (wh : Int) (tn : Bool) (w : World) :
    Calls Tryz.prog 7 #[evV q c wh tn] w fun e w' => e = .returned (evV q c wh tn) ∧ Below w.heap.size w w' := by
  obtain ⟨k, v, s, o, t⟩ := q
  unfold evV
  simp only
  have s0 : (w.alloc (.cells #[.int .i64 k, .int .i64 v, .int .i64 s, .int .i64 o, .string t, .bool c, .int .i64 wh, .bool tn] 25)).heap.size = w.heap.size + 1 := by simp
  have g0 := heap_alloc_new w (.cells #[.int .i64 k, .int .i64 v, .int .i64 s, .int .i64 o, .string t, .bool c, .int .i64 wh, .bool tn] 25)
  have b0 := (Below.refl w.heap.size w).alloc (Nat.le_refl _) (.cells #[.int .i64 k, .int .i64 v, .int .i64 s, .int .i64 o, .string t, .bool c, .int .i64 wh, .bool tn] 25)
  go_enter Tryz.func7, Tryz.ntmps7
  go_wp2_with fail
  generalize w.alloc (.cells #[.int .i64 k, .int .i64 v, .int .i64 s, .int .i64 o, .string t, .bool c, .int .i64 wh, .bool tn] 25) = wa at s0 g0 b0 ⊢
  have s1 : (wa.alloc (.cells #[.int .i64 0, .int .i64 0, .int .i64 0, .int .i64 0, .string ⟨#[]⟩, .bool false, .int .i64 0, .bool false] 30)).heap.size = w.heap.size + 1 + 1 := by simp [s0]
  have g1 := heap_alloc_new wa (.cells #[.int .i64 0, .int .i64 0, .int .i64 0, .int .i64 0, .string ⟨#[]⟩, .bool false, .int .i64 0, .bool false] 30)
  have b1 := (Below.refl wa.heap.size wa).alloc (Nat.le_refl _) (.cells #[.int .i64 0, .int .i64 0, .int .i64 0, .int .i64 0, .string ⟨#[]⟩, .bool false, .int .i64 0, .bool false] 30)
  generalize wa.alloc (.cells #[.int .i64 0, .int .i64 0, .int .i64 0, .int .i64 0, .string ⟨#[]⟩, .bool false, .int .i64 0, .bool false] 30) = wb at s1 g1 b1 ⊢
  have s2 : (wb.alloc (.cells #[.int .i64 0, .int .i64 0, .int .i64 0, .int .i64 0, .string ⟨#[]⟩, .bool false, .int .i64 0, .bool false] 30)).heap.size = w.heap.size + 1 + 1 + 1 := by simp [s1]
  have g2 := heap_alloc_new wb (.cells #[.int .i64 0, .int .i64 0, .int .i64 0, .int .i64 0, .string ⟨#[]⟩, .bool false, .int .i64 0, .bool false] 30)
  have b2 := (Below.refl wb.heap.size wb).alloc (Nat.le_refl _) (.cells #[.int .i64 0, .int .i64 0, .int .i64 0, .int .i64 0, .string ⟨#[]⟩, .bool false, .int .i64 0, .bool false] 30)
  generalize wb.alloc (.cells #[.int .i64 0, .int .i64 0, .int .i64 0, .int .i64 0, .string ⟨#[]⟩, .bool false, .int .i64 0, .bool false] 30) = wc at s2 g2 b2 ⊢
  refine (toAk_any k v s o t wc).mono ?_
  rintro e w1 ⟨rfl, b3⟩
  have B1 : Hid (Below w.heap.size w w1) := b0.trans ((b1.trans (b2.trans (b3.mono (by omega)) |>.mono (by omega))).mono (by omega))
  have R0 := hide ((b3.block w.heap.size (by omega)).trans ((b2.block w.heap.size (by omega)).trans ((b1.block w.heap.size (by omega)).trans g0)))
  rw [s0] at g1
  rw [s1] at g2
  have R1 := hide ((b3.block (w.heap.size + 1) (by omega)).trans ((b2.block (w.heap.size + 1) (by omega)).trans g1))
  have R2 := hide ((b3.block (w.heap.size + 1 + 1) (by omega)).trans g2)
  have hw1 : w.heap.size + 1 + 1 < w1.heap.size := by have := b3.size; omega
  clear s0 s1 s2 g0 g1 g2 b0 b1 b2 b3
  have x5 := cell_of_row _ _ 5 _ _ _ R0.out
  have x6 := cell_of_row _ _ 6 _ _ _ R0.out
  have x7 := cell_of_row _ _ 7 _ _ _ R0.out
  have y0 := cell_of_row _ _ 0 _ _ _ R2.out
  have y1 := cell_of_row _ _ 1 _ _ _ R2.out
  have y2 := cell_of_row _ _ 2 _ _ _ R2.out
  have y3 := cell_of_row _ _ 3 _ _ _ R2.out
  have y4 := cell_of_row _ _ 4 _ _ _ R2.out
  have y5 := cell_of_row _ _ 5 _ _ _ R2.out
  have y6 := cell_of_row _ _ 6 _ _ _ R2.out
  have y7 := cell_of_row _ _ 7 _ _ _ R2.out
  have z0 := frozen_of_row _ _ 0 _ _ R2.out
  have z1 := frozen_of_row _ _ 1 _ _ R2.out
  have z2 := frozen_of_row _ _ 2 _ _ R2.out
  have z3 := frozen_of_row _ _ 3 _ _ R2.out
  have z4 := frozen_of_row _ _ 4 _ _ R2.out
  have z5 := frozen_of_row _ _ 5 _ _ R2.out
  have z6 := frozen_of_row _ _ 6 _ _ R2.out
  have z7 := frozen_of_row _ _ 7 _ _ R2.out
  have p0 := cell_of_row _ _ 0 _ _ _ R1.out
  have p1 := cell_of_row _ _ 1 _ _ _ R1.out
  have p2 := cell_of_row _ _ 2 _ _ _ R1.out
  have p3 := cell_of_row _ _ 3 _ _ _ R1.out
  have p4 := cell_of_row _ _ 4 _ _ _ R1.out
  have p5 := cell_of_row _ _ 5 _ _ _ R1.out
  have p6 := cell_of_row _ _ 6 _ _ _ R1.out
  have p7 := cell_of_row _ _ 7 _ _ _ R1.out
  have r0 := frozen_of_row _ _ 0 _ _ R1.out
  have r1 := frozen_of_row _ _ 1 _ _ R1.out
  have r2 := frozen_of_row _ _ 2 _ _ R1.out
  have r3 := frozen_of_row _ _ 3 _ _ R1.out
  have r4 := frozen_of_row _ _ 4 _ _ R1.out
  have r5 := frozen_of_row _ _ 5 _ _ R1.out
  have r6 := frozen_of_row _ _ 6 _ _ R1.out
  have r7 := frozen_of_row _ _ 7 _ _ R1.out
  simp at x5 x6 x7 y0 y1 y2 y3 y4 y5 y6 y7 p0 p1 p2 p3 p4 p5 p6 p7
  have FN := hide (putEv_at ((putEv_other w1 (w.heap.size + 1 + 1) ⟨k, v, s, o, t⟩ c wh tn (show w.heap.size + 1 ≠ w.heap.size + 1 + 1 by omega)).trans R1.out) ⟨k, v, s, o, t⟩ c wh tn)
  have FB := hide (putEv_below ⟨k, v, s, o, t⟩ c wh tn (putEv_below ⟨k, v, s, o, t⟩ c wh tn B1.out (show w.heap.size ≤ w.heap.size + 1 + 1 by omega)) (show w.heap.size ≤ w.heap.size + 1 by omega))
  clear R0 R1 R2 B1
  go_wp2
  exact bodyPost_ret (results_cell_row rfl _ _ (w.heap.size + 1) 30 _ (0, 0) _ rfl FN.out Tryz.underlying30 rfl infoEvz) rfl ⟨rfl, FB.out⟩
set_option maxHeartbeats 400000 in
set_option maxRecDepth 100000 in
theorem szEv_any (q : Ak) (c : Bool) (wh : Int) (tn : Bool) (z : Nat) (w : World) (ht : q.text.size ≤ maxLen) (hz : z ≤ 1048576) :
    Calls Tryz.prog 5 #[evV q c wh tn, .int .i64 z] w fun e w' => (∃ r : Int, e = .returned (.int .i64 r) ∧ -1 ≤ r ∧ r ≤ z ∧ (0 ≤ r → r + (q.text.size : Int) ≤ z)) ∧ Below w.heap.size w w' := by
  obtain ⟨k, v, s, o, t⟩ := q
  unfold evV
  simp only at ht ⊢
  have b0 := (Below.refl w.heap.size w).alloc (Nat.le_refl _) (.cells #[.int .i64 k, .int .i64 v, .int .i64 s, .int .i64 o, .string t, .bool c, .int .i64 wh, .bool tn] 25)
  have B0 := hide b0
  have CS := hide (szAk_any k v s o t z (w.alloc (.cells #[.int .i64 k, .int .i64 v, .int .i64 s, .int .i64 o, .string t, .bool c, .int .i64 wh, .bool tn] 25)) ht hz)
  clear b0
  go_enter Tryz.func5, Tryz.ntmps5
  go_wp2_with fail
  refine CS.out.mono ?_
  rintro e w1 ⟨⟨r, rfl, r1, r2, r3⟩, b1⟩
  have B1 := hide (B0.out.trans (b1.mono B0.out.size))
  have R3 := hide r3
  clear b1 CS B0 r3
  by_cases hr : r < 0
  · go_wp2
    go_ret
    exact ⟨⟨_, rfl, by omega, by omega, by omega⟩, B1.out⟩
  · go_wp2
    go_ret
    exact ⟨⟨_, rfl, by omega, by omega, fun h => R3.out h⟩, B1.out⟩
end Go.Proofs.YtiicghepilbgfaaGreatDoor
