/-
  FnExactAllAt, whole.
-/
import Derived.Test.YtnebelflnpbbiarLawAll
import Derived.Test.YtnebelflnpbbiarIAll
namespace Go.Proofs.Ytnebelflnpbbiar
open Go.RowKit
open Words

theorem lawAll (a : Option Addr) (len cap : Nat) (rs : List Kw) (r : Int) (w : World) (h : KnRd w a len rs) :
    Calls Try.prog 6 #[.agg #[.slice a len cap], .int .i64 r] w fun e w' => e = .returned (.bool true) ∧ Below w.heap.size w w' := lawAll_of a len cap rs r w h iallAt
end Go.Proofs.Ytnebelflnpbbiar
