/-
  (*impl.wearHeap).Swap.
-/
import Derived.Test.YtcjgjkejhkhknaaWRow
import Derived.BigRegion
namespace Go.Proofs.Ytcjgjkejhkhknaa
open Go.RowKit

set_option maxHeartbeats 1000000 in
set_option maxRecDepth 100000 in
theorem hswap_ne (hp q i j : Nat) (u : Value) (D : List Wb) (a b : Wb) (w : World) (h : HeapAt w hp q u D) (hi : D[i]? = some a) (hj : D[j]? = some b) (hij : i ≠ j) :
    Calls Try.prog 173 #[.pointer (some ⟨hp, 0, none⟩), .int .i64 i, .int .i64 j] w fun e w' => e = .returned (.tuple #[]) ∧ HeapAt w' hp q u (swp D i j a b) ∧ KeptG w w' hp u := by
  obtain ⟨ad, cap, rfl, -, -, h3⟩ := h.form
  have li := (List.getElem?_eq_some_iff.1 hi).1
  have lj := (List.getElem?_eq_some_iff.1 hj).1
  obtain ⟨g, rfl, hqg, -⟩ := h3 (by omega)
  have c := h.cell
  have hl := h.2.2.1
  obtain ⟨a0, a1⟩ := wown_cells h.2.2.2.2 hi
  obtain ⟨b0, b1⟩ := wown_cells h.2.2.2.2 hj
  have f0 := fun o => wown_frozen h.2.2.2.2 o
  have hD := h.below (Below.refl _ _).drew
  have P1 := hD.put i li b
  have P2 := P1
  rw [show D.length = (D.set i b).length by simp] at P2
  have P3 := P2.put j (by simpa using lj) a
  rw [show (D.set i b).length = D.length by simp] at P3
  have PF : Hid (HeapAt ((((w.drew.setCell ⟨g, i * 2, none⟩ (.int .i64 b.1)).setCell ⟨g, i * 2 + 1, none⟩ (.int .i64 b.2)).setCell ⟨g, j * 2, none⟩ (.int .i64 a.1)).setCell ⟨g, j * 2 + 1, none⟩ (.int .i64 a.2)) hp q (.slice (some ⟨g, 0, none⟩) D.length cap) (swp D i j a b) ∧ KeptG w ((((w.drew.setCell ⟨g, i * 2, none⟩ (.int .i64 b.1)).setCell ⟨g, i * 2 + 1, none⟩ (.int .i64 b.2)).setCell ⟨g, j * 2, none⟩ (.int .i64 a.1)).setCell ⟨g, j * 2 + 1, none⟩ (.int .i64 a.2)) hp (.slice (some ⟨g, 0, none⟩) D.length cap)) := ⟨P3, ((KeptG.below (Below.refl w.heap.size w).drew).trans (keptG_put _ _ _ _)).trans (keptG_put _ _ _ _)⟩
  obtain ⟨x, y⟩ := a
  obtain ⟨x2, y2⟩ := b
  simp only at a0 a1 b0 b1 PF
  clear P1 P2 P3 hD
  generalize swp D i j (x, y) (x2, y2) = D2 at PF ⊢
  have hpg : hp ≠ g := by have := h.1; omega
  clear h h3 hi hj
  generalize D.length = n at li lj hl c PF ⊢
  have i0 : (0 : Int) ≤ i := by omega
  have j0 : (0 : Int) ≤ j := by omega
  have iN : (i : Int) < n := by omega
  have jN : (j : Int) < n := by omega
  have e1 : i * 2 ≠ j * 2 := by omega
  have e2 : i * 2 + 1 ≠ j * 2 := by omega
  have e3 : i * 2 ≠ j * 2 + 1 := by omega
  have e4 : j * 2 ≠ i * 2 := by omega
  have e5 : j * 2 + 1 ≠ i * 2 := by omega
  have e6 : j * 2 ≠ i * 2 + 1 := by omega
  go_enter Try.func173, Try.ntmps173
  go_wp2
  go_region
  all_goals
    go_wp2
    go_end0
    exact ⟨rfl, PF.out⟩
end Go.Proofs.Ytcjgjkejhkhknaa
