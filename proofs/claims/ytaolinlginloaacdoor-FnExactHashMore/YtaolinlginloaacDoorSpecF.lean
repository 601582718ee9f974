/-
  The walk of the specification's first state.
-/
import Derived.Test.YtaolinlginloaacDoorRowW
namespace Go.Proofs.YtaolinlginloaacDoor
open Go.RowKit
open Dig

end Go.Proofs.YtaolinlginloaacDoor
