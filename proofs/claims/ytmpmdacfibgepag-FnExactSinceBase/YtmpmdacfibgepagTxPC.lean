/-
  What TxPages does.
-/
import Derived.Test.YtmpmdacfibgepagTxRow
import Derived.Test.YtmpmdacfibgepagTxMath2
import Derived.Test.YtmpmdacfibgepagRcRow
namespace Go.Proofs.Ytmpmdacfibgepag
open Go.RowKit
open Words

/-- What a TxPages does. -/
def TxPagesC (f : Nat) : Prop := ∀ (seq tx : Int) (ad : Option Addr) (len cap : Nat) (l : List Rc) (w : World), len ≤ 1048576 → RcRow w ad len (l.map Rc.tu) → Calls Try.prog f #[.int .i64 seq, .int .i64 tx, .slice ad len cap] w (PgOut w (txOut seq tx l) (@decide (TxOk seq tx l) (decTx seq tx l)))
end Go.Proofs.Ytmpmdacfibgepag
