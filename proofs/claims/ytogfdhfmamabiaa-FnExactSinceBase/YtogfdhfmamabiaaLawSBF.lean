/-
  FnExactSinceBase.
-/
import Derived.Test.YtogfdhfmamabiaaLawSB
import Derived.Test.YtogfdhfmamabiaaISince
namespace Go.Proofs.Ytogfdhfmamabiaa
open Go.RowKit
open Words

theorem lawSB (a : Option Addr) (len cap : Nat) (rs : List Xw) (w : World) (h : TxRd w a len rs) :
    Calls Try.prog 5 #[.slice a len cap] w fun e w' => e = .returned (.bool true) ∧ Below w.heap.size w w' :=
  lawSB_of a len cap rs w h isince
end Go.Proofs.Ytogfdhfmamabiaa
