/-
  The walks of impl's HashEnd and HashMore.
-/
import Derived.Test.YtaolinlginloaacDoorImplH
import Derived.Test.YtaolinlginloaacDoorImplOk
namespace Go.Proofs.YtaolinlginloaacDoor
open Go.RowKit
open Dig

/-- A hasher's three cells in block g. -/
def H3 (w : World) (g : Nat) (s r : ByteArray) (c : Int) : Prop := w.cell? ⟨g, 0, none⟩ = some (.string s) ∧ w.cell? ⟨g, 1, none⟩ = some (.string r) ∧ w.cell? ⟨g, 2, none⟩ = some (.int .i64 c)
theorem H3.below {w w' : World} {g C : Nat} {s r : ByteArray} {c : Int} (h : H3 w g s r c) (hb : Below C w w') (hg : g < C) : H3 w' g s r c :=
  ⟨by rw [hb.cell (show g < C from hg)]; exact h.1, by rw [hb.cell (show g < C from hg)]; exact h.2.1, by rw [hb.cell (show g < C from hg)]; exact h.2.2⟩

set_option maxHeartbeats 400000 in
theorem implEnd_no (s r : ByteArray) (c : Int) (w : World) (hr : r.size ≤ maxLen) (hn : ¬ HRight s r c) :
    Calls Tryd.prog 12 #[.agg #[.string s, .string r, .int .i64 c]] w fun e w' => e = .returned (.string ⟨#[]⟩) ∧ Below w.heap.size w w' := by
  have d : @decide (HRight s r c) (decH s r c) = false := dcN hn
  clear hn
  go_enter Tryd.func12, Tryd.ntmps12
  go_wp2_with fail
  refine (implOk_any s r c _ hr).mono ?_
  rintro e w1 ⟨rfl, hb⟩
  rw [d]
  have hb1 : Below w.heap.size w w1 := ((Below.refl _ _).alloc (Nat.le_refl _) _).trans (hb.mono (by simp))
  clear hb
  go_wp2
  go_ret
  exact ⟨rfl, hb1⟩

set_option maxHeartbeats 1000000 in
set_option maxRecDepth 100000 in
theorem implEnd_yes (s r : ByteArray) (n : Nat) (w : World) (hR : HRight s r n) (hT : StepIn w) :
    Calls Tryd.prog 12 #[.agg #[.string s, .string r, .int .i64 n]] w fun e w' => e = .returned (.string ⟨(endL s.data.toList r.data.toList n).toArray⟩) ∧ Below w.heap.size w w' := by
  have d : @decide (HRight s r n) (decH s r n) = true := dcY hR
  obtain ⟨hs32, hr64, -, hn9, hrn⟩ := hR
  have hst := words_st s.data.toList (by simpa using hs32)
  have HT := hide hT
  have CE0 := fun w' h => end_any (words s.data.toList) r n w' hst (by omega) (by omega) h
  rw [endS_words] at CE0
  have CR0 := fun w' => readState_any s w' hs32
  obtain ⟨S0, hS0⟩ : ∃ S0, S0 = wagg (words s.data.toList) := ⟨_, rfl⟩
  rw [← hS0] at CE0 CR0
  obtain ⟨D, hD⟩ : ∃ D, endL s.data.toList r.data.toList n = D := ⟨_, rfl⟩
  rw [hD] at CE0
  have EE := hide hD
  clear hT hst hS0 hD hrn
  go_enter Tryd.func12, Tryd.ntmps12
  go_wp2_with fail
  refine (implOk_any s r n _ (by unfold maxLen; omega)).mono ?_
  rintro e w1 ⟨rfl, hb⟩
  rw [d]
  have hb0 : Below (w.heap.size + 1) (w.alloc (.cells #[.string s, .string r, .int .i64 n] 26)) w1 := by simpa using hb
  have hb1 : Below w.heap.size w w1 := ((Below.refl _ _).alloc (Nat.le_refl _) _).trans (hb0.mono (by omega))
  have h3 : H3 w1 w.heap.size s r n := H3.below (w := w.alloc (.cells #[.string s, .string r, .int .i64 n] 26)) ⟨by simp, by simp, by simp⟩ hb0 (by omega)
  have hs1 : w.heap.size + 1 ≤ w1.heap.size := by have := hb0.size; simpa using this
  have HT1 := HT.out.on hb1
  have CR : Hid (Calls Tryd.prog 42 #[.string s] w1.drew fun e w2 => e = .returned S0 ∧ (w2.cell? ⟨w.heap.size, 0, none⟩ = some (.string s) ∧ w2.cell? ⟨w.heap.size, 1, none⟩ = some (.string r) ∧ w2.cell? ⟨w.heap.size, 2, none⟩ = some (.int .i64 n)) ∧ Hid (StepIn w2) ∧ Hid (Below w.heap.size w w2)) := by
    refine (CR0 _).mono ?_
    rintro e w2 ⟨rfl, hb2⟩
    have hd : Below w.heap.size w w1.drew := hb1.drew
    exact ⟨rfl, H3.below (w := w1.drew) h3 hb2 (show w.heap.size < w1.heap.size by omega), (HT.out.on hd).on hb2, hd.trans (hb2.mono hd.size)⟩
  obtain ⟨c0, c1, c2⟩ := h3
  have CE := hide CE0
  clear hb hb0 hb1 HT1 CR0 CE0 HT d
  go_wp2
  go_region_held3 (fun w' => w'.cell? ⟨w.heap.size, 0, none⟩ = some (.string s) ∧ w'.cell? ⟨w.heap.size, 1, none⟩ = some (.string r) ∧ w'.cell? ⟨w.heap.size, 2, none⟩ = some (.int .i64 n)) (first | go_keep | exact ⟨e0, e1, e2⟩ | exact True.intro) (first
    | (go_at_call 42; refine CR.out.mono ?_; rintro en w2 ⟨rfl, ⟨d0, d1, d2⟩, HT2, HB2⟩)
    | (go_at_call 41; refine (CE.out _ HT2.out).mono ?_; rintro en w3 ⟨rfl, hb3⟩; have e0 : w3.cell? ⟨w.heap.size, 0, none⟩ = some (.string s) := by (rw [hb3.cell (show w.heap.size < w2.heap.size from World.block_lt_of_cell? w2 _ d0)]; exact d0)
       have e1 : w3.cell? ⟨w.heap.size, 1, none⟩ = some (.string r) := by (rw [hb3.cell (show w.heap.size < w2.heap.size from World.block_lt_of_cell? w2 _ d0)]; exact d1)
       have e2 : w3.cell? ⟨w.heap.size, 2, none⟩ = some (.int .i64 n) := by (rw [hb3.cell (show w.heap.size < w2.heap.size from World.block_lt_of_cell? w2 _ d0)]; exact d2)))
  have HB3 : Hid (Below w.heap.size w w3) := HB2.out.trans (hb3.mono HB2.out.size)
  clear hb3 CR CE c0 c1 c2 d0 d1 d2 e0 e1 e2
  go_wp2
  go_ret
  exact ⟨by rw [EE.out]; rfl, HB3.out⟩
end Go.Proofs.YtaolinlginloaacDoor
