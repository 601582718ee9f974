/-
  FnExactPutAt, whole.
-/
import Derived.Test.YtnebelflnpbbiarLawPut
import Derived.Test.YtnebelflnpbbiarIPut
namespace Go.Proofs.Ytnebelflnpbbiar
open Go.RowKit
open Words

theorem lawPut (a : Option Addr) (len cap : Nat) (rs : List Kw) (r s n : Int) (w : World) (h : KnRd w a len rs) :
    Calls Try.prog 5 #[.agg #[.slice a len cap], .int .i64 r, .int .i64 s, .int .i64 n] w fun e w' => e = .returned (.bool true) ∧ Below w.heap.size w w' := lawPut_of a len cap rs r s n w h iput
end Go.Proofs.Ytnebelflnpbbiar
