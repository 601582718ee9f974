/-
  The laws' own toPage.
-/
import Derived.Test.YtaolinlginloaacDoorPq2
namespace Go.Proofs.YtaolinlginloaacDoor
open Go.RowKit
open Words

set_option maxHeartbeats 400000 in
set_option maxRecDepth 100000 in
theorem toPage_any (p : Pg) (w : World) :
    Calls Tryd.prog 33 #[pgVal p] w fun e w' => e = .returned (pgVal p) ∧ Below w.heap.size w w' := by
  obtain ⟨k, s, x, q, c, t⟩ := p
  unfold pgVal
  simp only
  go_enter Tryd.func33, Tryd.ntmps33
  go_wp2
  exact bodyPost_ret (v := .agg #[.int .i64 k, .int .i64 s, .int .i64 x, .int .i64 q, .int .i64 c, .string t]) (by simp [results, Tryd.results33, go_sem]) rfl ⟨rfl, (((Below.refl _ _).alloc (Nat.le_refl _) _).alloc (by simp) _).alloc (by simp; omega) _⟩
end Go.Proofs.YtaolinlginloaacDoor
