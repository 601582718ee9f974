/-
  (*impl.wearHeap).Push.
-/
import Derived.Test.YtcjgjkejhkhknaaWRow
import Derived.Test.YtcjgjkejhkhknaaPq7
import Derived.Deep.RegionLaw
import Derived.Deep.AppendLies
namespace Go.Proofs.Ytcjgjkejhkhknaa
open Go.RowKit

theorem worn_assert (x y : Int) (w : World) : (Instr.typeAssert (.iface 89 (.agg #[.int .i64 x, .int .i64 y])) 20 89 false).run Try.prog w = .ok (.agg #[.int .i64 x, .int .i64 y]) w := by kernel_rfl

theorem HeapAt.row {w w2 : World} {hp q : Nat} {u : Value} {D : List Wb} (h : HeapAt w hp q u D) (hg : w.grownBy w2 u.ownBlock) : w2.heap[hp]? = some (.cells #[u] 134 (0, 0)) := by
  obtain ⟨h1, h2, h3, h4, h5⟩ := h
  exact (hg.block hp (Array.getElem?_eq_some_iff.1 h4).1 (fun e => by have := (h5.lt hp e.symm).1; omega)).trans h4
theorem HeapAt.snoc {w w2 : World} {hp q g cap : Nat} {u : Value} {D : List Wb} {x : Wb} (h : HeapAt w hp q u D) (hd : D.length < 1048576) (hg : w.grownBy w2 u.ownBlock) (ho : w2.ownsRow q 89 2 (.slice (some ⟨g, 0, none⟩) (D.length + 1) cap) (D.length + 1) (wcells D ++ [.int .i64 x.1, .int .i64 x.2])) :
    HeapAt (w2.setCell ⟨hp, 0, none⟩ (.slice (some ⟨g, 0, none⟩) (D.length + 1) cap)) hp q (.slice (some ⟨g, 0, none⟩) (D.length + 1) cap) (D ++ [x]) ∧ KeptH w (w2.setCell ⟨hp, 0, none⟩ (.slice (some ⟨g, 0, none⟩) (D.length + 1) cap)) hp q := by
  obtain ⟨h1, h2, h3, h4, h5⟩ := h
  have hlt := (Array.getElem?_eq_some_iff.1 h4).1
  have hb := hg.block hp hlt (fun e => by have := (h5.lt hp e.symm).1; omega)
  have hs := hg.size
  rw [wcells_snoc] at ho
  refine ⟨⟨h1, by simp only [World.setCell, Array.size_modify]; omega, by simp; omega, ?_, ?_⟩, ?_⟩
  · have := row_set (hb.trans h4) 0 (.slice (some ⟨g, 0, none⟩) (D.length + 1) cap)
    simpa using this
  · rw [List.length_append]
    exact own_cell ho h1 _ _
  · refine ⟨hg.os, hg.tape, hg.output, by simp only [World.setCell, Array.size_modify]; omega, fun i hi hne => ?_⟩
    refine (Below.heap_setCell _ _ _ _ (fun (e : i = hp) => by omega)).trans (hg.block i hi (fun e => ?_))
    have := (h5.lt i e.symm).1
    omega

set_option maxHeartbeats 1000000 in
set_option maxRecDepth 100000 in
theorem hpush_any (hp q : Nat) (u : Value) (D : List Wb) (x : Wb) (w : World) (h : HeapAt w hp q u D) (hd : D.length < 1048576) :
    Calls Try.prog 172 #[.pointer (some ⟨hp, 0, none⟩), .iface 89 (.agg #[.int .i64 x.1, .int .i64 x.2])] w fun e w' => e = .returned (.tuple #[]) ∧ ∃ u', HeapAt w' hp q u' (D ++ [x]) ∧ KeptH w w' hp q := by
  obtain ⟨i0, hi0, hz0, hz1, hz2⟩ := info_parts infoWorn
  obtain ⟨ad, cap, rfl, -⟩ := h.form
  have c := h.cell
  obtain ⟨x, y⟩ := x
  simp only
  have TA := worn_assert x y
  have bA := (Below.refl w.heap.size w).alloc (Nat.le_refl _) (.cells #[.int .i64 x, .int .i64 y] 89)
  have HA := hide (h.below bA.drew)
  have HK : Hid (KeptH w (w.alloc (.cells #[.int .i64 x, .int .i64 y] 89)).drew hp q) := KeptH.below bA.drew
  have ca : (w.alloc (.cells #[.int .i64 x, .int .i64 y] 89)).cell? ⟨hp, 0, none⟩ = some (.slice ad D.length cap) := HA.out.cell
  have HN : Hid (∀ (j : Nat) (u : Value), [Value.int .i64 x, Value.int .i64 y][j]? = some u → (w.alloc (.cells #[.int .i64 x, .int .i64 y] 89)).drew.cell? ((⟨w.heap.size, 0, none⟩ : Addr).add j) = some u) := cells_new w #[.int .i64 x, .int .i64 y] 89 w.heap.size rfl
  have HD := hide hd
  clear bA h hd
  go_enter Try.func172, Try.ntmps172
  go_wp2
  go_region_law (
    (refine step_append_lies _ (by rfl) (.tmp 7) (.tmp 10) 134 (by rfl) q 89 i0 (.agg #[.int .i64 0, .int .i64 0]) 2 16 Try.underlying134 hi0 hz0 hz1 hz2 rfl (by decide) _ D.length (wcells D) (by simp [Act.eval]) HA.out.2.2.2.2 ⟨w.heap.size, 0, none⟩ 1 1 [.int .i64 x, .int .i64 y] (by simp [Act.eval]) (by rfl) HN.out (worn_one (x, y)) (by omega) (by have := HD.out; unfold maxLen; omega) (by have := HD.out; omega) HA.out.2.1 _ rfl ?_; intro g6 cap6 w6 o6 gr6 hat hlt6; have P6 := hide (HA.out.snoc (x := (x, y)) HD.out gr6 o6); have t6 := HA.out.row gr6; have x6 := cell_of_row _ _ 0 _ _ _ t6; have y6 := frozen_of_row _ _ 0 _ _ t6))
  all_goals
    go_wp2
    go_end0
    exact ⟨rfl, _, P6.out.1, HK.out.trans P6.out.2⟩
end Go.Proofs.Ytcjgjkejhkhknaa
