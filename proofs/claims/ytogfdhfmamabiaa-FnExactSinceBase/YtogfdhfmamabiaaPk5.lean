/-
  MtConv; HexMath
-/
import Derived.Test.YtogfdhfmamabiaaBase
/-
  One byte made a text, and put ahead of one.
-/
namespace Go.Proofs.Ytogfdhfmamabiaa
open Go.RowKit

theorem mt_conv (w : World) (c : UInt8) (x : Int) (h : (c.toNat : Int) = x) :
    (convert 22 9 (.slice (some ⟨w.heap.size, 0, none⟩) 1 1)).run Try.prog (w.alloc (.cells #[.int .u8 x] 5)) = .ok (.string ⟨#[c]⟩) (w.alloc (.cells #[.int .u8 x] 5)) := by
  subst h
  exact run_convert_bytes_back (P := Try.prog) (w.alloc (.cells #[.int .u8 c.toNat] 5)) 22 9 5 ⟨w.heap.size, 0, none⟩ 1 [c] Try.underlying22 Try.underlying5 Try.underlying9
    (fun j hj => by
      have : j = 0 := by simpa using hj
      subst this
      exact one_cell w _ 5 0 _ rfl)
theorem mt_cons (c : UInt8) (l : List UInt8) : Value.string (⟨#[c]⟩ ++ ⟨l.toArray⟩) = .string ⟨(c :: l).toArray⟩ := by
  rw [show (#[c] : Array UInt8) = [c].toArray from rfl, ByteArray.mk_append_mk]; rfl
end Go.Proofs.Ytogfdhfmamabiaa

/-
  Plain facts on figures: no Go in them.
-/
namespace Go.Proofs.Ytogfdhfmamabiaa.Words

/-- A figure's byte, as a number. -/
def figZ (x : Int) : Int := if x < 10 then 48 + x else 97 + x - 10
def fig (x : Nat) : UInt8 := UInt8.ofNat (figZ x).toNat
theorem figZ_bd (x : Int) (h0 : 0 ≤ x) (h1 : x < 16) : 48 ≤ figZ x ∧ figZ x ≤ 102 := by unfold figZ; split <;> omega
theorem fig_nat (x : Nat) (h1 : x < 16) : ((fig x).toNat : Int) = figZ x := by
  have := figZ_bd x (by omega) (by omega)
  unfold fig
  rw [UInt8.toNat_ofNat']
  omega

def hexL : List UInt8 → List UInt8
  | [] => []
  | c :: r => fig (c.toNat / 16) :: fig (c.toNat % 16) :: hexL r
theorem hexL_snoc (l : List UInt8) (c : UInt8) : hexL (l ++ [c]) = hexL l ++ [fig (c.toNat / 16), fig (c.toNat % 16)] := by
  induction l with
  | nil => rfl
  | cons a l ih => simp [hexL, ih]
theorem hexL_len (l : List UInt8) : (hexL l).length = 2 * l.length := by
  induction l with
  | nil => rfl
  | cons a l ih => simp [hexL, ih]; omega
theorem hexL_take (l : List UInt8) (k : Nat) (h : k < l.length) : hexL (l.take (k + 1)) = hexL (l.take k) ++ [fig (l[k].toNat / 16), fig (l[k].toNat % 16)] := by
  rw [List.take_succ_eq_append_getElem h, hexL_snoc]
end Go.Proofs.Ytogfdhfmamabiaa.Words
