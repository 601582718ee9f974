/-
  FnExactSharedBy, whole.
-/
import Derived.Test.YtnebelflnpbbiarLawShd
import Derived.Test.YtnebelflnpbbiarIShare
namespace Go.Proofs.Ytnebelflnpbbiar
open Go.RowKit
open Words

theorem lawShd (a : Option Addr) (len cap : Nat) (rs : List Kw) (r s : Int) (w : World) (h : KnRd w a len rs) :
    Calls Try.prog 7 #[.agg #[.slice a len cap], .int .i64 r, .int .i64 s] w fun e w' => e = .returned (.bool true) ∧ Below w.heap.size w w' := lawShd_of a len cap rs r s w h ishare
end Go.Proofs.Ytnebelflnpbbiar
