/-
  What TxPages does.
-/
import Derived.Test.YtogfdhfmamabiaaTxRow
import Derived.Test.YtogfdhfmamabiaaTxMath2
import Derived.Test.YtogfdhfmamabiaaRcRow
namespace Go.Proofs.Ytogfdhfmamabiaa
open Go.RowKit
open Words

/-- What a TxPages does. -/
def TxPagesC (f : Nat) : Prop := ∀ (seq tx : Int) (ad : Option Addr) (len cap : Nat) (l : List Rc) (w : World), len ≤ 33554432 → RcRow w ad len (l.map Rc.tu) → Calls Try.prog f #[.int .i64 seq, .int .i64 tx, .slice ad len cap] w (PgOut w (txOut seq tx l) (@decide (TxOk seq tx l) (decTx seq tx l)))
end Go.Proofs.Ytogfdhfmamabiaa
