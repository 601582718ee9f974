/-
  Flashes that functions answer.
-/
import Derived.Test.YthkkefbhcmhijaaPq2
import Derived.Test.YthkkefbhcmhijaaFRow
namespace Go.Proofs.Ythkkefbhcmhijaa
open Go.RowKit

theorem infoLeaf2 : (Try.prog.info? 41).map (·.size) = some 2 := by kernel_rfl
theorem infoBlock3 : (Try.prog.info? 33).map (·.size) = some 3 := by kernel_rfl
theorem infoFlash1 : (Try.prog.info? 26).map (·.size) = some 1 := by kernel_rfl
theorem leaf_cell {w : World} {B g : Nat} {n hi : Nat} {xs : List Value} {v : Value} {ls : List (Int × ByteArray)} (hu : w.ownsRow B 33 3 (.slice (some ⟨g, 0, none⟩) n n) n xs) (h : LeafIn w B hi v ls) (j : Nat) (u : Value) : LeafIn (w.setCell ⟨g, j, none⟩ u) B hi v ls :=
  ⟨h.1.kept (grown_cell w g j u) (leaf_ne hu h.1), h.2⟩
/-- Blocks that the call owns from block B on, and what they tell. -/
def FlashOf (w : World) (B : Nat) (v : Value) (bs : List Bk) : Prop := ∃ ss : List Rw, ss.map tellOf = bs ∧ FlashIn w B w.heap.size v ss
theorem FlashOf.form {w : World} {B : Nat} {v : Value} {bs : List Bk} (h : FlashOf w B v bs) : ∃ ad cap, v = .slice ad bs.length cap := by
  obtain ⟨ss, rfl, hs⟩ := h
  obtain ⟨ad, cap, rfl, -⟩ := frow_form hs.1
  exact ⟨ad, cap, by simp⟩
theorem FlashOf.below {w w' : World} {B : Nat} {v : Value} {bs : List Bk} (h : FlashOf w B v bs) (hb : Below w.heap.size w w') : FlashOf w' B v bs := by
  obtain ⟨ss, e, hs⟩ := h
  exact ⟨ss, e, (hs.below hb (Nat.le_refl _)).up hb.size⟩
theorem FlashIn.down {w : World} {lo lo' hi : Nat} {v : Value} {rs : List Rw} (h : FlashIn w lo hi v rs) (hh : lo' ≤ lo) : FlashIn w lo' hi v rs := ⟨own_down h.1 hh, h.2.1, fun r hr => ⟨own_down (h.2.2.1 r hr).1 hh, (h.2.2.1 r hr).2⟩, h.2.2.2⟩
theorem FlashOf.down {w : World} {B B' : Nat} {v : Value} {bs : List Bk} (h : FlashOf w B v bs) (hh : B' ≤ B) : FlashOf w B' v bs := by
  obtain ⟨ss, e, hs⟩ := h
  exact ⟨ss, e, hs.down hh⟩
/-- A cell below is written. -/
theorem FlashOf.cell {w : World} {B : Nat} {v : Value} {bs : List Bk} (h : FlashOf w B v bs) {g : Nat} (hg : g < B) (i : Nat) (u : Value) : FlashOf (w.setCell ⟨g, i, none⟩ u) B v bs := by
  obtain ⟨ss, e, hs⟩ := h
  refine ⟨ss, e, ?_⟩
  have := hs.kept (w' := w.setCell ⟨g, i, none⟩ u) (fun k h1 _ => Below.heap_setCell _ _ _ _ (by show k ≠ g; omega))
  simpa [World.setCell] using this
end Go.Proofs.Ythkkefbhcmhijaa
