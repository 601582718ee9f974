/-
  What ReadPage answers.
-/
import Derived.Test.YtcbhbjglgkaabaoDoorSUnseal
import Derived.Test.YtcbhbjglgkaabaoDoorPk17
namespace Go.Proofs.YtcbhbjglgkaabaoDoor
open Go.RowKit
open Words Sums

/-- What ReadPage answers, as a value. -/
def pgRes : Option Pg → Value
  | some p => .tuple #[pgVal p, .bool true]
  | none => .tuple #[pgVal ⟨0, 0, 0, 0, 0, ⟨#[]⟩⟩, .bool false]
def readPg (t : ByteArray) : Option Pg := match unA t with | none => none | some s => pgOf s
end Go.Proofs.YtcbhbjglgkaabaoDoor
