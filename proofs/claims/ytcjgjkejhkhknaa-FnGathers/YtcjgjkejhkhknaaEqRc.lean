/-
  The laws' own toRec, eqRec and eqRecS.
-/
import Derived.Test.YtcjgjkejhkhknaaPq47
import Derived.Test.YtcjgjkejhkhknaaPq50
import Derived.Deep.RegionHeld3
namespace Go.Proofs.Ytcjgjkejhkhknaa
open Go.RowKit

end Go.Proofs.Ytcjgjkejhkhknaa
