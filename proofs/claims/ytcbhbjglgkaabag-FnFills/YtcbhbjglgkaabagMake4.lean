/-
  make([]impl.Leaf, 4).
-/
import Derived.Test.YtcbhbjglgkaabagFMath
import Derived.Test.YtcbhbjglgkaabagFSnoc
namespace Go.Proofs.Ytcbhbjglgkaabag
open Go.RowKit

def four : Array Value := #[.int .i64 0, .string ⟨#[]⟩, .int .i64 0, .string ⟨#[]⟩, .int .i64 0, .string ⟨#[]⟩, .int .i64 0, .string ⟨#[]⟩]
theorem made4 : madeCells #[Value.int .i64 0, Value.string ⟨#[]⟩] (4 * 2) = four := by
  apply Array.toList_inj.1
  simp [madeCells]
  rfl
theorem make4 (w : World) : (Instr.makeSlice 48 (.int .i64 4) (.int .i64 4)).run Try.prog w = .ok (.slice (some ⟨w.heap.size, 0, none⟩) 4 4) (w.alloc (.cells four 62)) := by
  obtain ⟨i0, hi0, hz0, hz1, hz2⟩ := info_parts infoLeaf
  have hr := run_make (P := Try.prog) w 48 62 i0 (.agg #[.int .i64 0, .string ⟨#[]⟩]) Try.underlying48 hi0 hz0 .i64 .i64 4 4 (by omega) (Int.le_refl _) (by rw [hz2]; omega) (by omega)
  rw [hz1] at hr
  rw [← made4]
  exact hr
theorem own4 (w : World) : (w.alloc (.cells four 62)).ownsRow w.heap.size 62 2 (.slice (some ⟨w.heap.size, 0, none⟩) 4 4) blank4.length (lcells blank4) :=
  ⟨rfl, .inr ⟨w.heap.size, 4, four, rfl, Nat.le_refl _, heap_alloc_new w _, Nat.le_refl _, by unfold maxLen; omega, rfl, rfl⟩⟩
end Go.Proofs.Ytcbhbjglgkaabag
