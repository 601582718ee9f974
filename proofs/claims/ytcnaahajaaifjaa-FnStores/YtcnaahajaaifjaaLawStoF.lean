/-
  FnStores, whole.
-/
import Derived.Test.YtcnaahajaaifjaaLawSto
import Derived.Test.YtcnaahajaaifjaaPq44
import Derived.Test.YtcnaahajaaifjaaISame
import Derived.Test.YtcnaahajaaifjaaIChunk
namespace Go.Proofs.Ytcnaahajaaifjaa
open Go.RowKit
open Words

theorem lawSto (ad : Option Addr) (len cap : Nat) (w : World) (hd : CodeIn w ad len w.heap.size) :
    Calls Try.prog 3 #[.slice ad len cap] w fun e w' => e = .returned (.bool true) ∧ Below w.heap.size w w' := lawSt_of ad len cap w hd ienter isame istoOk ichunk
end Go.Proofs.Ytcnaahajaaifjaa
