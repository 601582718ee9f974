/-
  The walk of the specification's first state.
-/
import Derived.Test.YtagppohcobeglalDoorRowW
namespace Go.Proofs.YtagppohcobeglalDoor
open Go.RowKit
open Dig

theorem first_any (w : World) : Calls Tryd.prog 39 #[] w fun e w' => Row w e w' first := by
  go_enter Tryd.func39, Tryd.ntmps39
  go_wp2
  go_ret
  exact ⟨w.heap.size, 8, rfl, Nat.le_refl _, words_new w first _ rfl, (Below.refl _ _).alloc (Nat.le_refl _) _⟩
end Go.Proofs.YtagppohcobeglalDoor
