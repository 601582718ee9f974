/-
  (*impl.wearHeap).Len, Less.
-/
import Derived.Test.YtcjgjkejhkhknaaWCmp
import Derived.Deep.RegionHeld3
namespace Go.Proofs.Ytcjgjkejhkhknaa
open Go.RowKit

set_option maxHeartbeats 400000 in
set_option maxRecDepth 100000 in
theorem hlen_any (hp q : Nat) (u : Value) (D : List Wb) (w : World) (h : HeapAt w hp q u D) :
    Calls Try.prog 46 #[.pointer (some ⟨hp, 0, none⟩)] w fun e w' => e = .returned (.int .i64 D.length) ∧ w' = w := by
  obtain ⟨ad, cap, rfl, -⟩ := h.form
  have c := h.cell
  go_enter Try.func46, Try.ntmps46
  go_wp2
  go_ret
  exact ⟨rfl, rfl⟩

set_option maxHeartbeats 1000000 in
set_option maxRecDepth 100000 in
theorem hless_any (hp q i j : Nat) (u : Value) (D : List Wb) (a b : Wb) (w : World) (h : HeapAt w hp q u D) (hi : D[i]? = some a) (hj : D[j]? = some b) :
    Calls Try.prog 170 #[.pointer (some ⟨hp, 0, none⟩), .int .i64 i, .int .i64 j] w fun e w' => e = .returned (.bool (decide (ltW a b))) ∧ Below w.heap.size w w' := by
  obtain ⟨ad, cap, rfl, -, -, h3⟩ := h.form
  have li := (List.getElem?_eq_some_iff.1 hi).1
  have lj := (List.getElem?_eq_some_iff.1 hj).1
  obtain ⟨g, rfl, -, -⟩ := h3 (by omega)
  have c := h.cell
  have hl := h.2.2.1
  obtain ⟨a0, a1⟩ := wown_cells h.2.2.2.2 hi
  obtain ⟨b0, b1⟩ := wown_cells h.2.2.2.2 hj
  have LI := hide (less_is a b)
  obtain ⟨x, y⟩ := a
  obtain ⟨x2, y2⟩ := b
  simp only at a0 a1 b0 b1 LI
  generalize D.length = n at li lj hl c
  have i0 : (0 : Int) ≤ i := by omega
  have j0 : (0 : Int) ≤ j := by omega
  have iN : (i : Int) < n := by omega
  have jN : (j : Int) < n := by omega
  have hpl : hp < w.heap.size := (Array.getElem?_eq_some_iff.1 h.2.2.2.1).1
  have hgl : g < w.heap.size := (h.2.2.2.2.lt g rfl).2
  have A1 : ∀ (o : Obj) (b : Nat) (k : Nat), b < w.heap.size → (w.alloc o).cell? ⟨b, k, none⟩ = w.cell? ⟨b, k, none⟩ := fun o b k hb => ((Below.refl w.heap.size w).alloc (Nat.le_refl _) o).cell (p := ⟨b, k, none⟩) hb
  have A2 : ∀ (o o' : Obj) (b : Nat) (k : Nat), b < w.heap.size → ((w.alloc o).alloc o').cell? ⟨b, k, none⟩ = w.cell? ⟨b, k, none⟩ := fun o o' b k hb => (((Below.refl w.heap.size w).alloc (Nat.le_refl _) o).alloc (by simp) o').cell (p := ⟨b, k, none⟩) hb
  clear h h3 hi hj
  go_enter Try.func170, Try.ntmps170
  go_wp2
  go_region
  all_goals go_wp2
  all_goals clear A1 A2 a0 a1 b0 b1 c hpl hgl
  · have HB := hide ((((Below.refl w.heap.size w).alloc (Nat.le_refl _) (.cells #[.int .i64 x, .int .i64 y] 89)).alloc (by simp) (.cells #[.int .i64 x2, .int .i64 y2] 89)).drew)
    have r1 : (((w.alloc (.cells #[.int .i64 x, .int .i64 y] 89)).alloc (.cells #[.int .i64 x2, .int .i64 y2] 89)).drew).heap[w.heap.size]? = some (.cells #[.int .i64 x, .int .i64 y] 89 (0, 0)) := (Below.heap_alloc _ _ _ (by simp)).trans (heap_alloc_new w _)
    have r2 : (((w.alloc (.cells #[.int .i64 x, .int .i64 y] 89)).alloc (.cells #[.int .i64 x2, .int .i64 y2] 89)).drew).heap[w.heap.size + 1]? = some (.cells #[.int .i64 x2, .int .i64 y2] 89 (0, 0)) := by
      have := heap_alloc_new (w.alloc (.cells #[.int .i64 x, .int .i64 y] 89)) (.cells #[.int .i64 x2, .int .i64 y2] 89)
      rw [show (w.alloc (.cells #[.int .i64 x, .int .i64 y] 89)).heap.size = w.heap.size + 1 by simp] at this
      exact this
    generalize ((w.alloc (.cells #[.int .i64 x, .int .i64 y] 89)).alloc (.cells #[.int .i64 x2, .int .i64 y2] 89)).drew = W at HB r1 r2 ⊢
    have x0 : W.cell? ⟨w.heap.size, 0, none⟩ = some (.int .i64 x) := cell_of_row _ _ 0 _ _ _ r1
    have x1 : W.cell? ⟨w.heap.size, 1, none⟩ = some (.int .i64 y) := cell_of_row _ _ 1 _ _ _ r1
    have z0 : W.cell? ⟨w.heap.size + 1, 0, none⟩ = some (.int .i64 x2) := cell_of_row _ _ 0 _ _ _ r2
    have z1 : W.cell? ⟨w.heap.size + 1, 1, none⟩ = some (.int .i64 y2) := cell_of_row _ _ 1 _ _ _ r2
    have C1 := hide (fun W => compare_any y y2 W)
    have C2 := hide (fun W => compare_any x x2 W)
    clear r1 r2
    generalize cmpI y y2 = e1 at C1 LI
    generalize cmpI x x2 = e2 at C2 LI
    go_region_held3 (fun w' => w'.cell? ⟨w.heap.size, 0, none⟩ = some (.int .i64 x) ∧ w'.cell? ⟨w.heap.size, 1, none⟩ = some (.int .i64 y) ∧ w'.cell? ⟨w.heap.size + 1, 0, none⟩ = some (.int .i64 x2) ∧ w'.cell? ⟨w.heap.size + 1, 1, none⟩ = some (.int .i64 y2)) (go_keep) (first
      | (go_at_call 73; (with_reducible refine Calls.mono (C1.out _) ?_); rintro e w1 ⟨rfl, rfl⟩)
      | (go_at_call 73; (with_reducible refine Calls.mono (C2.out _) ?_); rintro e w1 ⟨rfl, rfl⟩)
      | (go_at_call 174; (refine Calls.mono (or_any _ _ _ _ _ (by simp; rfl) (by simp; rfl)) ?_); rintro e w1 ⟨rfl, rfl⟩))
    all_goals
      go_wp2
      go_ret
      exact ⟨by rw [← LI.out]; rfl, HB.out.drew.alloc (by simpa using HB.out.size) _⟩
  · have HB := hide ((((Below.refl w.heap.size w).alloc (Nat.le_refl _) (.cells #[.int .i64 x2, .int .i64 y2] 89)).alloc (by simp) (.cells #[.int .i64 x, .int .i64 y] 89)).drew)
    have r1 : (((w.alloc (.cells #[.int .i64 x2, .int .i64 y2] 89)).alloc (.cells #[.int .i64 x, .int .i64 y] 89)).drew).heap[w.heap.size]? = some (.cells #[.int .i64 x2, .int .i64 y2] 89 (0, 0)) := (Below.heap_alloc _ _ _ (by simp)).trans (heap_alloc_new w _)
    have r2 : (((w.alloc (.cells #[.int .i64 x2, .int .i64 y2] 89)).alloc (.cells #[.int .i64 x, .int .i64 y] 89)).drew).heap[w.heap.size + 1]? = some (.cells #[.int .i64 x, .int .i64 y] 89 (0, 0)) := by
      have := heap_alloc_new (w.alloc (.cells #[.int .i64 x2, .int .i64 y2] 89)) (.cells #[.int .i64 x, .int .i64 y] 89)
      rw [show (w.alloc (.cells #[.int .i64 x2, .int .i64 y2] 89)).heap.size = w.heap.size + 1 by simp] at this
      exact this
    generalize ((w.alloc (.cells #[.int .i64 x2, .int .i64 y2] 89)).alloc (.cells #[.int .i64 x, .int .i64 y] 89)).drew = W at HB r1 r2 ⊢
    have x0 : W.cell? ⟨w.heap.size + 1, 0, none⟩ = some (.int .i64 x) := cell_of_row _ _ 0 _ _ _ r2
    have x1 : W.cell? ⟨w.heap.size + 1, 1, none⟩ = some (.int .i64 y) := cell_of_row _ _ 1 _ _ _ r2
    have z0 : W.cell? ⟨w.heap.size, 0, none⟩ = some (.int .i64 x2) := cell_of_row _ _ 0 _ _ _ r1
    have z1 : W.cell? ⟨w.heap.size, 1, none⟩ = some (.int .i64 y2) := cell_of_row _ _ 1 _ _ _ r1
    have C1 := hide (fun W => compare_any y y2 W)
    have C2 := hide (fun W => compare_any x x2 W)
    clear r1 r2
    generalize cmpI y y2 = e1 at C1 LI
    generalize cmpI x x2 = e2 at C2 LI
    go_region_held3 (fun w' => w'.cell? ⟨w.heap.size + 1, 0, none⟩ = some (.int .i64 x) ∧ w'.cell? ⟨w.heap.size + 1, 1, none⟩ = some (.int .i64 y) ∧ w'.cell? ⟨w.heap.size, 0, none⟩ = some (.int .i64 x2) ∧ w'.cell? ⟨w.heap.size, 1, none⟩ = some (.int .i64 y2)) (go_keep) (first
      | (go_at_call 73; (with_reducible refine Calls.mono (C1.out _) ?_); rintro e w1 ⟨rfl, rfl⟩)
      | (go_at_call 73; (with_reducible refine Calls.mono (C2.out _) ?_); rintro e w1 ⟨rfl, rfl⟩)
      | (go_at_call 174; (refine Calls.mono (or_any _ _ _ _ _ (by simp; rfl) (by simp; rfl)) ?_); rintro e w1 ⟨rfl, rfl⟩))
    all_goals
      go_wp2
      go_ret
      exact ⟨by rw [← LI.out]; rfl, HB.out.drew.alloc (by simpa using HB.out.size) _⟩
end Go.Proofs.Ytcjgjkejhkhknaa
