/-
  The walk of the specification's first state.
-/
import Derived.Test.YtaolinlginloaabDoorRowW
namespace Go.Proofs.YtaolinlginloaabDoor
open Go.RowKit
open Dig

theorem first_any (w : World) : Calls Tryd.prog 46 #[] w fun e w' => Row w e w' first := by
  go_enter Tryd.func46, Tryd.ntmps46
  go_wp2
  go_ret
  exact ⟨w.heap.size, 8, rfl, Nat.le_refl _, words_new w first _ rfl, (Below.refl _ _).alloc (Nat.le_refl _) _⟩
end Go.Proofs.YtaolinlginloaabDoor
