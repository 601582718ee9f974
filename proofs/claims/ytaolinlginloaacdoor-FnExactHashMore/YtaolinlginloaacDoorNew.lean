/-
  The walk of the specification's HasherNew.
-/
import Derived.Test.YtaolinlginloaacDoorBoxes
import Derived.Test.YtaolinlginloaacDoorSpecF
import Derived.Test.YtaolinlginloaacDoorSpecR2
namespace Go.Proofs.YtaolinlginloaacDoor
open Go.RowKit
open Dig

end Go.Proofs.YtaolinlginloaacDoor
