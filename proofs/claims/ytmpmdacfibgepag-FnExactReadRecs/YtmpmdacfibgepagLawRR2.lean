/-
  FnExactReadRecs.
-/
import Derived.Test.YtmpmdacfibgepagLawRR
import Derived.Test.YtmpmdacfibgepagIReadRecs
namespace Go.Proofs.Ytmpmdacfibgepag
open Go.RowKit
open Words
theorem lawRR (t : ByteArray) (w : World) :
    Calls Try.prog 4 #[.string t] w fun e w' => e = .returned (.bool true) ∧ Below w.heap.size w w' :=
  lawRR_of t w (fun w h => ireadRecs t w h)
theorem lawRRs (t : ByteArray) (w : World) (_ : t.size ≤ maxLen) :
    Calls Try.prog 4 #[.string t] w fun e w' => e = .returned (.bool true) ∧ Below w.heap.size w w' := lawRR t w
end Go.Proofs.Ytmpmdacfibgepag
