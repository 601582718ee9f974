/-
  The walk of the specification's HasherNew.
-/
import Derived.Test.YtaolinlginloaabDoorBoxes
import Derived.Test.YtaolinlginloaabDoorPk16
import Derived.Test.YtaolinlginloaabDoorSpecR2
namespace Go.Proofs.YtaolinlginloaabDoor
open Go.RowKit
open Dig

set_option maxHeartbeats 1000000 in
set_option maxRecDepth 100000 in
theorem specNew (w : World) :
    Calls Tryd.prog 30 #[] w fun e w' => e = .returned (.agg #[.string ⟨(bytesOf first).toArray⟩, .string ⟨#[]⟩, .int .i64 0]) ∧ Below w.heap.size w w' := by
  go_enter Tryd.func30, Tryd.ntmps30
  go_wp2_with fail
  refine (first_any _).mono ?_
  rintro e w1 ⟨g, cap, rfl, hg, hW, hb⟩
  have h8 : first.length = 8 := rfl
  rw [h8]
  have hgw := hW.1
  have hB1 : Below (w.heap.size + 1) (w.alloc (.cells #[.string ⟨#[]⟩, .string ⟨#[]⟩, .int .i64 0] 28)) w1 := by simpa using hb
  have HB := hide hB1
  have HW := hide hW
  clear hb hW hB1
  go_wp2_with fail
  have hby := bytes_any first g cap w1 (by decide) first_st.2 HW.out
  rw [h8] at hby
  refine hby.mono ?_
  rintro e w2 ⟨rfl, hb2⟩
  have hs1 := HB.out.size
  have hB2 : Below (w.heap.size + 1) (w.alloc (.cells #[.string ⟨#[]⟩, .string ⟨#[]⟩, .int .i64 0] 28)) w2 := HB.out.trans (hb2.mono (by simp at hs1; omega))
  have r0 : w2.cell? ⟨w.heap.size, 0, none⟩ = some (.string ⟨#[]⟩) := by rw [hB2.cell (show w.heap.size < w.heap.size + 1 by omega)]; simp
  have r1 : w2.cell? ⟨w.heap.size, 1, none⟩ = some (.string ⟨#[]⟩) := by rw [hB2.cell (show w.heap.size < w.heap.size + 1 by omega)]; simp
  have r2 : w2.cell? ⟨w.heap.size, 2, none⟩ = some (.int .i64 0) := by rw [hB2.cell (show w.heap.size < w.heap.size + 1 by omega)]; simp
  have f0 : w2.frozen? ⟨w.heap.size, 0, none⟩ = false := by rw [hB2.frozen (show w.heap.size < w.heap.size + 1 by omega)]; simp
  have f1 : w2.frozen? ⟨w.heap.size, 1, none⟩ = false := by rw [hB2.frozen (show w.heap.size < w.heap.size + 1 by omega)]; simp
  have f2 : w2.frozen? ⟨w.heap.size, 2, none⟩ = false := by rw [hB2.frozen (show w.heap.size < w.heap.size + 1 by omega)]; simp
  have hb3 : Below w.heap.size w w2 := ((Below.refl _ _).alloc (Nat.le_refl _) _).trans (hB2.mono (by omega))
  obtain ⟨BS, hBS⟩ : ∃ BS : ByteArray, BS = ⟨(bytesOf first).toArray⟩ := ⟨_, rfl⟩
  rw [← hBS]
  have EB := hide hBS
  have HT := hide (three (a := .string BS) (b := .string ⟨#[]⟩) (c := .int .i64 0) r0 r1 r2)
  have HB4 := hide (((hb3.setCell (p := ⟨w.heap.size, 0, none⟩) (by show w.heap.size ≤ w.heap.size; omega) (.string BS)).setCell (p := ⟨w.heap.size, 1, none⟩) (by show w.heap.size ≤ w.heap.size; omega) (.string ⟨#[]⟩)).setCell (p := ⟨w.heap.size, 2, none⟩) (by show w.heap.size ≤ w.heap.size; omega) (.int .i64 0))
  clear hBS hb2 hB2 hb3 HB HW hby
  go_wp2
  generalize ((w2.setCell ⟨w.heap.size, 0, none⟩ (.string BS)).setCell ⟨w.heap.size, 1, none⟩ (.string ⟨#[]⟩)).setCell ⟨w.heap.size, 2, none⟩ (.int .i64 0) = w3 at HT HB4
  obtain ⟨q0, q1, q2⟩ := HT.out
  refine bodyPost_ret (v := .agg #[.string BS, .string ⟨#[]⟩, .int .i64 0]) (by simp [results, Tryd.results30, go_sem, q0, q1, q2]) rfl ⟨by rw [EB.out], HB4.out⟩
end Go.Proofs.YtaolinlginloaabDoor
