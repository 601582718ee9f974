/-
  Rows of pages: marked, held.
-/
import Derived.Test.YtcjgjkejhkhknaaPq50
import Derived.Test.YtcjgjkejhkhknaaPq31
import Derived.Deep.DeepCutAuto
import Derived.Deep.RegionHeld3
namespace Go.Proofs.Ytcjgjkejhkhknaa
open Go.RowKit

/-- What the cells of one element are: numbers, and texts. -/
def patPg : List Bool := [false, false, false, false, false, true]
end Go.Proofs.Ytcjgjkejhkhknaa
