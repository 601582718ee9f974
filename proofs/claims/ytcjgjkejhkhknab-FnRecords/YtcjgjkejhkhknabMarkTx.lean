/-
  The walk of the law's own mark of a number.
-/
import Derived.Test.YtcjgjkejhkhknabMtConv
import Derived.Test.YtcjgjkejhkhknabDecMath
namespace Go.Proofs.Ytcjgjkejhkhknab
open Go.RowKit
open Words
open Go.Lib (decDigits)

/-- The mark of a number. -/
def markL (k : Nat) : List UInt8 := 109 :: decDigits k
theorem fig48 (m : Nat) : ((fig (m % 10)).toNat : Int) = 48 + (m : Int) % 10 := by
  rw [fig_nat (m % 10) (by omega)]
  unfold figZ
  rw [if_pos (by omega)]
  omega
end Go.Proofs.Ytcjgjkejhkhknab
