/-
  A page as a value.
-/
import Derived.Test.YtaolinlginloaabBase
import Derived.Test.YtaolinlginloaabPgMath
namespace Go.Proofs.Ytaolinlginloaab
open Go.RowKit
open Words

def pgVal (p : Pg) : Value := .agg #[.int .i64 p.kind, .int .i64 p.seq, .int .i64 p.tx, .int .i64 p.part, .int .i64 p.count, .string p.text]
end Go.Proofs.Ytaolinlginloaab
