/-
  FnExactReadRecs.
-/
import Derived.Test.YtgckgjeehdjpkaqLawRR
import Derived.Test.YtgckgjeehdjpkaqIReadRecs
namespace Go.Proofs.Ytgckgjeehdjpkaq
open Go.RowKit
open Words
theorem lawRR (t : ByteArray) (w : World) :
    Calls Try.prog 5 #[.string t] w fun e w' => e = .returned (.bool true) ∧ Below w.heap.size w w' :=
  lawRR_of t w (fun w h => ireadRecs t w h)
theorem lawRRs (t : ByteArray) (w : World) (_ : t.size ≤ maxLen) :
    Calls Try.prog 5 #[.string t] w fun e w' => e = .returned (.bool true) ∧ Below w.heap.size w w' := lawRR t w
end Go.Proofs.Ytgckgjeehdjpkaq
