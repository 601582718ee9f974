/-
  (*impl.wearHeap).Pop, and Swap of a place with itself.
-/
import Derived.Test.YtcjgjkejhkhknaaWSwap
namespace Go.Proofs.Ytcjgjkejhkhknaa
open Go.RowKit

theorem set_same_wb (D : List Wb) (i : Nat) (a : Wb) (h : D[i]? = some a) : D.set i a = D := by
  obtain ⟨h1, rfl⟩ := List.getElem?_eq_some_iff.1 h
  exact List.set_getElem_self h1
set_option maxHeartbeats 1000000 in
set_option maxRecDepth 100000 in
theorem hswap_self (hp q i : Nat) (u : Value) (D : List Wb) (a : Wb) (w : World) (h : HeapAt w hp q u D) (hi : D[i]? = some a) :
    Calls Try.prog 173 #[.pointer (some ⟨hp, 0, none⟩), .int .i64 i, .int .i64 i] w fun e w' => e = .returned (.tuple #[]) ∧ HeapAt w' hp q u D ∧ KeptG w w' hp u := by
  obtain ⟨ad, cap, rfl, -, -, h3⟩ := h.form
  have li := (List.getElem?_eq_some_iff.1 hi).1
  obtain ⟨g, rfl, hqg, -⟩ := h3 (by omega)
  have c := h.cell
  have hl := h.2.2.1
  obtain ⟨a0, a1⟩ := wown_cells h.2.2.2.2 hi
  have f0 := fun o => wown_frozen h.2.2.2.2 o
  have hD := h.below (Below.refl _ _).drew
  have P1 := hD.put i li a
  rw [set_same_wb D i a hi] at P1
  have P3 := P1.put i li a
  rw [set_same_wb D i a hi] at P3
  have PF : Hid (HeapAt ((((w.drew.setCell ⟨g, i * 2, none⟩ (.int .i64 a.1)).setCell ⟨g, i * 2 + 1, none⟩ (.int .i64 a.2)).setCell ⟨g, i * 2, none⟩ (.int .i64 a.1)).setCell ⟨g, i * 2 + 1, none⟩ (.int .i64 a.2)) hp q (.slice (some ⟨g, 0, none⟩) D.length cap) D ∧ KeptG w ((((w.drew.setCell ⟨g, i * 2, none⟩ (.int .i64 a.1)).setCell ⟨g, i * 2 + 1, none⟩ (.int .i64 a.2)).setCell ⟨g, i * 2, none⟩ (.int .i64 a.1)).setCell ⟨g, i * 2 + 1, none⟩ (.int .i64 a.2)) hp (.slice (some ⟨g, 0, none⟩) D.length cap)) := ⟨P3, ((KeptG.below (Below.refl w.heap.size w).drew).trans (keptG_put _ _ _ _)).trans (keptG_put _ _ _ _)⟩
  obtain ⟨x, y⟩ := a
  simp only at a0 a1 PF
  clear P1 P3 hD
  have hpg : hp ≠ g := by have := h.1; omega
  clear h h3 hi
  generalize D.length = n at li hl c PF ⊢
  have i0 : (0 : Int) ≤ i := by omega
  have iN : (i : Int) < n := by omega
  go_enter Try.func173, Try.ntmps173
  go_wp2
  go_region
  all_goals
    go_wp2
    go_end0
    exact ⟨rfl, PF.out⟩

set_option maxHeartbeats 1000000 in
set_option maxRecDepth 100000 in
theorem hpop_any (hp q n : Nat) (u : Value) (D : List Wb) (a : Wb) (w : World) (h : HeapAt w hp q u D) (hn : D.length = n + 1) (ha : D[n]? = some a) :
    Calls Try.prog 171 #[.pointer (some ⟨hp, 0, none⟩)] w fun e w' => e = .returned (.iface 89 (.agg #[.int .i64 a.1, .int .i64 a.2])) ∧ KeptG w w' hp u := by
  obtain ⟨ad, cap, rfl, h1, h2, h3⟩ := h.form
  obtain ⟨g, rfl, hqg, hgl⟩ := h3 (by omega)
  have c := h.cell
  have hl := h.2.2.1
  obtain ⟨a0, a1⟩ := wown_cells h.2.2.2.2 ha
  have hpl : hp < w.heap.size := (Array.getElem?_eq_some_iff.1 h.2.2.2.1).1
  have hp1 := h.1
  rw [hn] at c hl h1
  obtain ⟨x, y⟩ := a
  simp only at a0 a1 ⊢
  have b1 := (Below.refl w.heap.size w).alloc (Nat.le_refl _) (.cells #[.int .i64 x, .int .i64 y] 89)
  have r1 := (b1.block _ hpl).trans h.2.2.2.1
  rw [hn] at r1
  have c1 : (w.alloc (.cells #[.int .i64 x, .int .i64 y] 89)).cell? ⟨hp, 0, none⟩ = some (.slice (some ⟨g, 0, none⟩) (n + 1) cap) := cell_of_row _ _ 0 _ _ _ r1
  have f1 : (w.alloc (.cells #[.int .i64 x, .int .i64 y] 89)).frozen? ⟨hp, 0, none⟩ = false := frozen_of_row _ _ 0 _ _ r1
  have PF : ∀ v, Hid (KeptG w ((w.setCell ⟨hp, 0, none⟩ v).alloc (.cells #[.int .i64 x, .int .i64 y] 89)) hp (.slice (some ⟨g, 0, none⟩) D.length cap)) := fun v => KeptG.trans (b := w.setCell ⟨hp, 0, none⟩ v) ⟨rfl, rfl, rfl, by simp, fun i _ hne => Below.heap_setCell _ _ _ _ hne.1⟩ (KeptG.below ((Below.refl _ _).alloc (Nat.le_refl _) _))
  unfold maxLen at h2
  have n0 : (0 : Int) ≤ n := by omega
  have hnw : ((n + 1 : Nat) : Int) - 1 = n := by omega
  have hne : hp ≠ w.heap.size := by omega
  clear h h3 ha b1 r1
  go_enter Try.func171, Try.ntmps171
  go_wp2
  go_ret
  exact ⟨rfl, (PF _).out⟩
end Go.Proofs.Ytcjgjkejhkhknaa
