/-
  Rows of records: marked.
-/
import Derived.Test.YtcjgjkejhkhknaaPq50
import Derived.Test.YtcjgjkejhkhknaaPq31
import Derived.Deep.DeepCutAuto
import Derived.Deep.RegionHeld3
namespace Go.Proofs.Ytcjgjkejhkhknaa
open Go.RowKit

/-- What the cells of one element are: numbers, and texts. -/
def patRc : List Bool := [false, false, false, false]
end Go.Proofs.Ytcjgjkejhkhknaa
