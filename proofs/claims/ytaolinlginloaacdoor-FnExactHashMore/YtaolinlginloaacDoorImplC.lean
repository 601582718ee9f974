/-
  The walks of impl's copy of a hasher, and of HashMore where it changes nothing.
-/
import Derived.Test.YtaolinlginloaacDoorImplH
import Derived.Test.YtaolinlginloaacDoorImplOk
import Derived.Test.YtaolinlginloaacDoorBoxes
namespace Go.Proofs.YtaolinlginloaacDoor
open Go.RowKit
open Dig

/-- A hasher in block w0.heap.size, and behind it the cells of a result. -/
def LayH (w0 w : World) (s r : ByteArray) (c : Int) : Prop := (w.cell? ⟨w0.heap.size, 0, none⟩ = some (.string s) ∧ w.cell? ⟨w0.heap.size, 1, none⟩ = some (.string r) ∧ w.cell? ⟨w0.heap.size, 2, none⟩ = some (.int .i64 c)) ∧
  (w.cell? ⟨w0.heap.size + 1, 0, none⟩ = some (.string ⟨#[]⟩) ∧ w.cell? ⟨w0.heap.size + 1, 1, none⟩ = some (.string ⟨#[]⟩) ∧ w.cell? ⟨w0.heap.size + 1, 2, none⟩ = some (.int .i64 0)) ∧
  (w.frozen? ⟨w0.heap.size + 1, 0, none⟩ = false ∧ w.frozen? ⟨w0.heap.size + 1, 1, none⟩ = false ∧ w.frozen? ⟨w0.heap.size + 1, 2, none⟩ = false) ∧ w0.heap.size + 2 ≤ w.heap.size ∧ Below w0.heap.size w0 w
theorem LayH.on {w0 w w' : World} {s r : ByteArray} {c : Int} (h : LayH w0 w s r c) (hb : Below w.heap.size w w') : LayH w0 w' s r c := by
  obtain ⟨⟨a0, a1, a2⟩, ⟨b0, b1, b2⟩, ⟨f0, f1, f2⟩, hs, hB⟩ := h
  have e : ∀ j, w'.cell? ⟨w0.heap.size, j, none⟩ = w.cell? ⟨w0.heap.size, j, none⟩ := fun j => hb.cell (show w0.heap.size < w.heap.size by omega)
  have g : ∀ j, w'.cell? ⟨w0.heap.size + 1, j, none⟩ = w.cell? ⟨w0.heap.size + 1, j, none⟩ := fun j => hb.cell (show w0.heap.size + 1 < w.heap.size by omega)
  have f : ∀ j, w'.frozen? ⟨w0.heap.size + 1, j, none⟩ = w.frozen? ⟨w0.heap.size + 1, j, none⟩ := fun j => hb.frozen (show w0.heap.size + 1 < w.heap.size by omega)
  exact ⟨⟨by rw [e]; exact a0, by rw [e]; exact a1, by rw [e]; exact a2⟩, ⟨by rw [g]; exact b0, by rw [g]; exact b1, by rw [g]; exact b2⟩, ⟨by rw [f]; exact f0, by rw [f]; exact f1, by rw [f]; exact f2⟩, Nat.le_trans hs hb.size, hB.trans (hb.mono hB.size)⟩
theorem LayH.drew {w0 w : World} {s r : ByteArray} {c : Int} (h : LayH w0 w s r c) : LayH w0 w.drew s r c := h.on (Below.refl _ _).drew
theorem lay_new (w : World) (s r : ByteArray) (c : Int) (t1 t2 : TypeId) : LayH w ((w.alloc (.cells #[.string s, .string r, .int .i64 c] t1)).alloc (.cells #[.string ⟨#[]⟩, .string ⟨#[]⟩, .int .i64 0] t2)) s r c := by
  obtain ⟨h1, h2, h3, h4, h5⟩ := boxed (w := w) (a := .string s) (b := .string r) (c := .int .i64 c) (d := .string ⟨#[]⟩) (e := .string ⟨#[]⟩) (f := .int .i64 0) (t1 := t1) (t2 := t2) (Below.refl _ _)
  exact ⟨h1, h2, ⟨h3 0, h3 1, h3 2⟩, h4, h5⟩
/-- The result is written. -/
theorem LayH.put {w0 w : World} {s r : ByteArray} {c : Int} (h : LayH w0 w s r c) (a b d : Value) :
    ((((w.setCell ⟨w0.heap.size + 1, 0, none⟩ a).setCell ⟨w0.heap.size + 1, 1, none⟩ b).setCell ⟨w0.heap.size + 1, 2, none⟩ d).cell? ⟨w0.heap.size + 1, 0, none⟩ = some a ∧
    (((w.setCell ⟨w0.heap.size + 1, 0, none⟩ a).setCell ⟨w0.heap.size + 1, 1, none⟩ b).setCell ⟨w0.heap.size + 1, 2, none⟩ d).cell? ⟨w0.heap.size + 1, 1, none⟩ = some b ∧
    (((w.setCell ⟨w0.heap.size + 1, 0, none⟩ a).setCell ⟨w0.heap.size + 1, 1, none⟩ b).setCell ⟨w0.heap.size + 1, 2, none⟩ d).cell? ⟨w0.heap.size + 1, 2, none⟩ = some d) ∧
    Below w0.heap.size w0 (((w.setCell ⟨w0.heap.size + 1, 0, none⟩ a).setCell ⟨w0.heap.size + 1, 1, none⟩ b).setCell ⟨w0.heap.size + 1, 2, none⟩ d) :=
  ⟨three h.2.1.1 h.2.1.2.1 h.2.1.2.2, ((h.2.2.2.2.setCell (p := ⟨w0.heap.size + 1, 0, none⟩) (by show w0.heap.size ≤ w0.heap.size + 1; omega) a).setCell (p := ⟨w0.heap.size + 1, 1, none⟩) (by show w0.heap.size ≤ w0.heap.size + 1; omega) b).setCell (p := ⟨w0.heap.size + 1, 2, none⟩) (by show w0.heap.size ≤ w0.heap.size + 1; omega) d⟩

set_option maxHeartbeats 1000000 in
set_option maxRecDepth 100000 in
theorem copied_any (s r : ByteArray) (c : Int) (w : World) (hs : s.size ≤ 4000000) (hr : r.size ≤ 4000000) :
    Calls Tryd.prog 43 #[.agg #[.string s, .string r, .int .i64 c]] w fun e w' => e = .returned (.agg #[.string s, .string r, .int .i64 c]) ∧ Below w.heap.size w w' := by
  have C1 : Hid (∀ w1, LayH w w1 s r c → Calls Tryd.prog 46 #[.string s] w1 fun e w2 => e = .returned (.string s) ∧ (w2.cell? ⟨w.heap.size, 0, none⟩ = some (.string s) ∧ w2.cell? ⟨w.heap.size, 1, none⟩ = some (.string r) ∧ w2.cell? ⟨w.heap.size, 2, none⟩ = some (.int .i64 c)) ∧ Hid (LayH w w2 s r c)) := by
    intro w1 h1
    refine (clone_any s w1 hs).mono ?_
    rintro e w2 ⟨rfl, hb⟩
    have h2 := h1.on hb
    exact ⟨rfl, h2.1, h2⟩
  have C2 : Hid (∀ w1, LayH w w1 s r c → Calls Tryd.prog 46 #[.string r] w1 fun e w2 => e = .returned (.string r) ∧ (w2.cell? ⟨w.heap.size, 0, none⟩ = some (.string s) ∧ w2.cell? ⟨w.heap.size, 1, none⟩ = some (.string r) ∧ w2.cell? ⟨w.heap.size, 2, none⟩ = some (.int .i64 c)) ∧
      (w2.cell? ⟨w.heap.size + 1, 0, none⟩ = some (.string ⟨#[]⟩) ∧ w2.cell? ⟨w.heap.size + 1, 1, none⟩ = some (.string ⟨#[]⟩) ∧ w2.cell? ⟨w.heap.size + 1, 2, none⟩ = some (.int .i64 0)) ∧ (w2.frozen? ⟨w.heap.size + 1, 0, none⟩ = false ∧ w2.frozen? ⟨w.heap.size + 1, 1, none⟩ = false ∧ w2.frozen? ⟨w.heap.size + 1, 2, none⟩ = false) ∧ Hid (LayH w w2 s r c)) := by
    intro w1 h1
    refine (clone_any r w1 hr).mono ?_
    rintro e w2 ⟨rfl, hb⟩
    have h2 := h1.on hb
    exact ⟨rfl, h2.1, h2.2.1, h2.2.2.1, h2⟩
  go_enter Tryd.func43, Tryd.ntmps43
  go_wp2
  have hL0 := lay_new w s r c 26 26
  generalize (w.alloc (.cells #[.string s, .string r, .int .i64 c] 26)).alloc (.cells #[.string ⟨#[]⟩, .string ⟨#[]⟩, .int .i64 0] 26) = w0 at hL0 ⊢
  obtain ⟨c0, c1, c2⟩ := hL0.1
  have HL0 := hide hL0.drew
  clear hL0
  go_region_with (first
    | (go_at_call 46; with_reducible refine Calls.mono (C1.out _ HL0.out) ?_; rintro en w2 ⟨rfl, ⟨a0, a1, a2⟩, HL2⟩)
    | (go_at_call 46; with_reducible refine Calls.mono (C2.out _ HL2.out) ?_; rintro en w3 ⟨rfl, ⟨b0, b1, b2⟩, ⟨r0, r1, r2⟩, ⟨f0, f1, f2⟩, HL3⟩))
  all_goals
    obtain ⟨q, hq⟩ := HL3.out.put (.string s) (.string r) (.int .i64 c)
    have HB := hide hq
    have HQ := hide q
    clear q hq r0 r1 r2 f0 f1 f2 b0 b1 b2 a0 a1 a2 c0 c1 c2 HL3 HL2 HL0 C1 C2
    generalize ((w3.setCell ⟨w.heap.size + 1, 0, none⟩ (.string s)).setCell ⟨w.heap.size + 1, 1, none⟩ (.string r)).setCell ⟨w.heap.size + 1, 2, none⟩ (.int .i64 c) = w4 at HQ HB ⊢
    go_wp2
    obtain ⟨q0, q1, q2⟩ := HQ.out
    exact bodyPost_ret (v := .agg #[.string s, .string r, .int .i64 c]) (by simp [results, Tryd.results43, go_sem, q0, q1, q2]) rfl ⟨rfl, HB.out⟩
end Go.Proofs.YtaolinlginloaacDoor
