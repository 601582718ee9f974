/-
  The laws' own eqPage.
-/
import Derived.Test.YtaolinlginloaacDoorPq2
namespace Go.Proofs.YtaolinlginloaacDoor
open Go.RowKit
open Words

set_option maxHeartbeats 400000 in
set_option maxRecDepth 100000 in
theorem eqPage_same (p : Pg) (w : World) :
    Calls Tryd.prog 34 #[pgVal p, pgVal p] w fun e w' => e = .returned (.bool true) ∧ Below w.heap.size w w' := by
  obtain ⟨k, s, x, q, c, t⟩ := p
  unfold pgVal
  simp only
  go_enter Tryd.func34, Tryd.ntmps34
  go_wp2
  go_ret
  exact ⟨rfl, ((Below.refl _ _).alloc (Nat.le_refl _) _).alloc (by simp) _⟩
end Go.Proofs.YtaolinlginloaacDoor
