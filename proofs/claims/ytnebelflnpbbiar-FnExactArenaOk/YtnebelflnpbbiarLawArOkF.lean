/-
  FnExactArenaOk, whole.
-/
import Derived.Test.YtnebelflnpbbiarLawArOk
import Derived.Test.YtnebelflnpbbiarITree
namespace Go.Proofs.Ytnebelflnpbbiar
open Go.RowKit
open Words

theorem lawArOk (a : Option Addr) (len cap : Nat) (rs : List Kw) (w : World) (h : KnRd w a len rs) :
    Calls Try.prog 3 #[.agg #[.slice a len cap]] w fun e w' => e = .returned (.bool true) ∧ Below w.heap.size w w' := lawArOk_of a len cap rs w h iarOk
end Go.Proofs.Ytnebelflnpbbiar
