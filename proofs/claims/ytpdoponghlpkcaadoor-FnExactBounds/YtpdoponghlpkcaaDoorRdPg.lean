/-
  RdPg
-/
import Derived.Test.YtpdoponghlpkcaaDoorSUnseal
import Derived.Test.YtpdoponghlpkcaaDoorPk2
import Derived.Test.YtpdoponghlpkcaaDoorPk23
namespace Go.Proofs.YtpdoponghlpkcaaDoor
open Go.RowKit
open Words Sums
def pgRes:Option Pg→Value
 |some p=> .tuple #[pgVal p,.bool true]
 |none=> .tuple #[pgVal ⟨0,0,0,0,0,⟨#[]⟩⟩,.bool false]
end Go.Proofs.YtpdoponghlpkcaaDoor
