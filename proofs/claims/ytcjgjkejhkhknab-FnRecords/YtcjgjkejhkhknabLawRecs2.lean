/-
  FnRecords.
-/
import Derived.Test.YtcjgjkejhkhknabLawRecs
import Derived.Test.YtcjgjkejhkhknabIReadRecs
import Derived.Test.YtcjgjkejhkhknabIRecText
namespace Go.Proofs.Ytcjgjkejhkhknab
open Go.RowKit
open Words
theorem lawRecs (ad : Option Addr) (len cap : Nat) (w : World) (hd : CodeIn w ad len w.heap.size) :
    Calls Try.prog 4 #[.slice ad len cap] w fun e w' => e = .returned (.bool true) ∧ Below w.heap.size w w' :=
  lawRecs_of ad len cap w hd (fun r w => irecOk r w) (fun r w => irecText r w) (fun t w h => ireadRecs t w h)
end Go.Proofs.Ytcjgjkejhkhknab
