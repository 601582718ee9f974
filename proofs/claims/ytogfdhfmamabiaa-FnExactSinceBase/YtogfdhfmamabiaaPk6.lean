/-
  DecMath; MarkTx
-/
import Derived.Lib.ItoaNum
import Derived.Lib.ItoaMem
import Derived.Lib.ItoaLen
import Derived.Test.YtogfdhfmamabiaaPk5
/-
  Plain facts on decimal figures: no Go in them.
-/
namespace Go.Proofs.Ytogfdhfmamabiaa.Words
open Go.Lib (decDigits itoa)

/-- The figures ahead of those that were written. -/
def pre (m : Nat) : List UInt8 := if m = 0 then [] else decDigits m
theorem pre_zero : pre 0 = [] := rfl
theorem pre_pos (m : Nat) (h : 0 < m) : pre m = decDigits m := by rw [pre, if_neg (by omega)]
theorem pre_step (m : Nat) (h : 0 < m) : pre m = pre (m / 10) ++ [fig (m % 10)] := by
  have hf : fig (m % 10) = UInt8.ofNat (48 + m % 10) := by
    unfold fig figZ
    rw [if_pos (by omega)]
    congr 1
  rw [pre_pos m h, decDigits]
  by_cases h10 : m < 10
  · rw [dif_pos h10, show m / 10 = 0 by omega, pre_zero, hf, Nat.mod_eq_of_lt h10]; rfl
  · rw [dif_neg h10, pre_pos (m / 10) (by omega), hf]
theorem dacc_step {m u : Nat} {acc : List UInt8} (h : pre m ++ acc = decDigits u) (hm : 0 < m) : pre (m / 10) ++ (fig (m % 10) :: acc) = decDigits u := by
  rw [← h, pre_step m hm]; simp
theorem dacc_len {m u : Nat} {acc : List UInt8} (h : pre m ++ acc = decDigits u) (hu : u ≤ 9223372036854775808) : acc.length ≤ 21 := by
  have h1 := congrArg List.length h
  have h2 : (decDigits u).length ≤ 21 := by
    by_cases h0 : u = 0
    · subst h0
      have := Go.Lib.itoa_length_le 0 (by omega) (by omega)
      rw [show (0 : Int) = ((0 : Nat) : Int) from rfl, Go.Lib.itoa_nonneg] at this
      exact this
    · have := Go.Lib.itoa_length_le (-(u : Int)) (by omega) (by omega)
      rw [Go.Lib.itoa_neg u (by omega)] at this
      simp at this
      omega
  simp at h1
  omega
theorem tmod_neg (m : Nat) : (-(m : Int)).tmod 10 = -((m % 10 : Nat) : Int) := by
  rw [Int.neg_tmod, Int.tmod_eq_emod_of_nonneg (by omega)]; rfl
theorem tdiv_neg (m : Nat) : (-(m : Int)).tdiv 10 = -((m / 10 : Nat) : Int) := by
  rw [Int.neg_tdiv, Int.tdiv_eq_ediv_of_nonneg (by omega)]; rfl
theorem dec_zero : decDigits 0 = [48] := by rw [decDigits, dif_pos (by omega)]; rfl
end Go.Proofs.Ytogfdhfmamabiaa.Words

/-
  The walk of the law's own mark of a number.
-/
namespace Go.Proofs.Ytogfdhfmamabiaa
open Go.RowKit
open Words
open Go.Lib (decDigits)

/-- The mark of a number. -/
def markL (k : Nat) : List UInt8 := 109 :: decDigits k
theorem fig48 (m : Nat) : ((fig (m % 10)).toNat : Int) = 48 + (m : Int) % 10 := by
  rw [fig_nat (m % 10) (by omega)]
  unfold figZ
  rw [if_pos (by omega)]
  omega
end Go.Proofs.Ytogfdhfmamabiaa
