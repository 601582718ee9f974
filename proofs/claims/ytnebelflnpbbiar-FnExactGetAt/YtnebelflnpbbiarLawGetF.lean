/-
  FnExactGetAt, whole.
-/
import Derived.Test.YtnebelflnpbbiarLawGetAt
import Derived.Test.YtnebelflnpbbiarITree
namespace Go.Proofs.Ytnebelflnpbbiar
open Go.RowKit
open Words

theorem lawGet (a : Option Addr) (len cap : Nat) (rs : List Kw) (r s : Int) (w : World) (h : KnRd w a len rs) :
    Calls Try.prog 4 #[.agg #[.slice a len cap], .int .i64 r, .int .i64 s] w fun e w' => e = .returned (.bool true) ∧ Below w.heap.size w w' := lawGetAt_of a len cap rs r s w h igetAt
end Go.Proofs.Ytnebelflnpbbiar
