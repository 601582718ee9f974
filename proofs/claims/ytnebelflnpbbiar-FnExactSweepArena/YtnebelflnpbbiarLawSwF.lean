/-
  FnExactSweepArena, whole.
-/
import Derived.Test.YtnebelflnpbbiarLawSw
import Derived.Test.YtnebelflnpbbiarISweep
namespace Go.Proofs.Ytnebelflnpbbiar
open Go.RowKit
open Words

theorem lawSw (a : Option Addr) (len cap : Nat) (rs : List Kw) (ra : Option Addr) (n rc : Nat) (qs : List Int) (w : World) (h : KnRd w a len rs) (hq : ISl w (.slice ra n rc) qs) :
    Calls Try.prog 8 #[.agg #[.slice a len cap], .slice ra n rc] w fun e w' => e = .returned (.bool true) ∧ Below w.heap.size w w' := lawSw_of a len cap rs ra n rc qs w h hq isweep
end Go.Proofs.Ytnebelflnpbbiar
