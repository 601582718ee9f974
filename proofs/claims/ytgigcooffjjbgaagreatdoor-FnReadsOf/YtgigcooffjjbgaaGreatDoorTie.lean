/-
  DERIVED. GIVEN WITH THE SEED: THE PROGRAM's TIES (one call each: nine closed facts by the kernel) AND EACH ROW's TIE, after the 31st guide's Derived/Test/Toyas{Tie, Card}.lean. No idea stands in it: it is a product of the set-up. Laid BY PROGRAM, IN A SANDBOX (cutbox-door.mjs). By AI agents, Wed Nov 11 2026. No macro, syntax, notation, axiom, sorry.
-/
import Derived.Test.YtgigcooffjjbgaaGreatDoorRows
import Derived.LaidByTextLater
import Derived.SevenTiedAt
import Derived.LaidSub
import Derived.LaidOnce
namespace Go.Proofs.YtgigcooffjjbgaaGreatDoor
open Go
set_option maxRecDepth 100000
theorem seatTie1 : Tryz.prog.laidByTextLater [("loop.example/g00195/impl.fourHalvings", Rows.laid_loop_example_g00195_impl_fourHalvings), ("loop.example/g00195/impl.stepWords", Rows.laid_loop_example_g00195_impl_stepWords)] [.data, .data] true :=
  Program.laidByTextLater_by_one 19 8 65 (by kernel_rfl) (by kernel_rfl) (by kernel_rfl) (by kernel_rfl) (by kernel_rfl) (by kernel_rfl) (fun _ _ => by kernel_rfl)
theorem noOwnUnsafe : Tryz.pinned.checked.prog.headLifts.contains "ownunsafe" = false := by kernel_rfl
theorem tie : Tryz.prog.laidByTextLater [("loop.example/g00195/impl.fourHalvings", Rows.laid_loop_example_g00195_impl_fourHalvings), ("loop.example/g00195/impl.stepWords", Rows.laid_loop_example_g00195_impl_stepWords)] [.data, .data] true :=
  Program.laidByTextLater.sub seatTie1 ["loop.example/g00195/impl.fourHalvings", "loop.example/g00195/impl.stepWords"] (by kernel_rfl) (by kernel_rfl)
theorem fnChunks_row_tie : Rows.fnChunksRow.laidByTextAt .later Tryz.pinned [.data, .data] true :=
  OpenClaim.laidByTextAt_later rfl rfl tie noOwnUnsafe
theorem fnPlans_row_tie : Rows.fnPlansRow.laidByTextAt .later Tryz.pinned [.data, .data] true :=
  OpenClaim.laidByTextAt_later rfl rfl tie noOwnUnsafe
theorem fnReadsOf_row_tie : Rows.fnReadsOfRow.laidByTextAt .later Tryz.pinned [.data, .data] true :=
  OpenClaim.laidByTextAt_later rfl rfl tie noOwnUnsafe
theorem tie2 : Tryz.prog.laidByTextLater [("loop.example/g00195/impl.fourHalvings", Rows.laid_loop_example_g00195_impl_fourHalvings)] [.data] true :=
  Program.laidByTextLater.sub seatTie1 ["loop.example/g00195/impl.fourHalvings"] (by kernel_rfl) (by kernel_rfl)
theorem fnNeeded_row_tie : Rows.fnNeededRow.laidByTextAt .later Tryz.pinned [.data] true :=
  OpenClaim.laidByTextAt_later rfl rfl tie2 noOwnUnsafe
theorem fnChunksUpto_row_tie : Rows.fnChunksUptoRow.laidByTextAt .later Tryz.pinned [.data, .data] true :=
  OpenClaim.laidByTextAt_later rfl rfl tie noOwnUnsafe
theorem fnNeededUpto_row_tie : Rows.fnNeededUptoRow.laidByTextAt .later Tryz.pinned [.data] true :=
  OpenClaim.laidByTextAt_later rfl rfl tie2 noOwnUnsafe
theorem fnPlansUpto_row_tie : Rows.fnPlansUptoRow.laidByTextAt .later Tryz.pinned [.data, .data] true :=
  OpenClaim.laidByTextAt_later rfl rfl tie noOwnUnsafe
theorem fnReadsOfUpto_row_tie : Rows.fnReadsOfUptoRow.laidByTextAt .later Tryz.pinned [.data, .data] true :=
  OpenClaim.laidByTextAt_later rfl rfl tie noOwnUnsafe
end Go.Proofs.YtgigcooffjjbgaaGreatDoor
