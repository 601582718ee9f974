/-
  FnExactTxPages.
-/
import Derived.Test.YtmpmdacfibgepagLawTxP
import Derived.Test.YtmpmdacfibgepagITxP
namespace Go.Proofs.Ytmpmdacfibgepag
open Go.RowKit
open Words

theorem lawTxP (seq tx : Int) (a : Option Addr) (len cap : Nat) (ls : List (Int × Int × Int × Int)) (w : World) (h : RcRow w a len ls) :
    Calls Try.prog 5 #[.int .i64 seq, .int .i64 tx, .slice a len cap] w fun e w' => e = .returned (.bool true) ∧ Below w.heap.size w w' :=
  lawTxP_of seq tx a len cap ls w h itxPages
end Go.Proofs.Ytmpmdacfibgepag
