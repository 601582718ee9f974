/-
  MtConv; HexMath; DecMath; MarkTx
-/
import Derived.Test.YtaolinlginloaadDoorPk0
import Derived.Lib.ItoaNum
import Derived.Lib.ItoaMem
import Derived.Lib.ItoaLen
/-
  One byte made a text, and put ahead of one.
-/
namespace Go.Proofs.YtaolinlginloaadDoor
open Go.RowKit

theorem mt_conv (w : World) (c : UInt8) (x : Int) (h : (c.toNat : Int) = x) :
    (convert 78 9 (.slice (some ⟨w.heap.size, 0, none⟩) 1 1)).run Tryd.prog (w.alloc (.cells #[.int .u8 x] 5)) = .ok (.string ⟨#[c]⟩) (w.alloc (.cells #[.int .u8 x] 5)) := by
  subst h
  exact run_convert_bytes_back (P := Tryd.prog) (w.alloc (.cells #[.int .u8 c.toNat] 5)) 78 9 5 ⟨w.heap.size, 0, none⟩ 1 [c] Tryd.underlying78 Tryd.underlying5 Tryd.underlying9
    (fun j hj => by
      have : j = 0 := by simpa using hj
      subst this
      exact one_cell w _ 5 0 _ rfl)
theorem mt_cons (c : UInt8) (l : List UInt8) : Value.string (⟨#[c]⟩ ++ ⟨l.toArray⟩) = .string ⟨(c :: l).toArray⟩ := by
  rw [show (#[c] : Array UInt8) = [c].toArray from rfl, ByteArray.mk_append_mk]; rfl
end Go.Proofs.YtaolinlginloaadDoor

/-
  Plain facts on figures: no Go in them.
-/
namespace Go.Proofs.YtaolinlginloaadDoor.Words

/-- A figure's byte, as a number. -/
def figZ (x : Int) : Int := if x < 10 then 48 + x else 97 + x - 10
def fig (x : Nat) : UInt8 := UInt8.ofNat (figZ x).toNat
theorem figZ_bd (x : Int) (h0 : 0 ≤ x) (h1 : x < 16) : 48 ≤ figZ x ∧ figZ x ≤ 102 := by unfold figZ; split <;> omega
theorem fig_nat (x : Nat) (h1 : x < 16) : ((fig x).toNat : Int) = figZ x := by
  have := figZ_bd x (by omega) (by omega)
  unfold fig
  rw [UInt8.toNat_ofNat']
  omega

def hexL : List UInt8 → List UInt8
  | [] => []
  | c :: r => fig (c.toNat / 16) :: fig (c.toNat % 16) :: hexL r
theorem hexL_snoc (l : List UInt8) (c : UInt8) : hexL (l ++ [c]) = hexL l ++ [fig (c.toNat / 16), fig (c.toNat % 16)] := by
  induction l with
  | nil => rfl
  | cons a l ih => simp [hexL, ih]
theorem hexL_len (l : List UInt8) : (hexL l).length = 2 * l.length := by
  induction l with
  | nil => rfl
  | cons a l ih => simp [hexL, ih]; omega
theorem hexL_take (l : List UInt8) (k : Nat) (h : k < l.length) : hexL (l.take (k + 1)) = hexL (l.take k) ++ [fig (l[k].toNat / 16), fig (l[k].toNat % 16)] := by
  rw [List.take_succ_eq_append_getElem h, hexL_snoc]
end Go.Proofs.YtaolinlginloaadDoor.Words

/-
  Plain facts on decimal figures: no Go in them.
-/
namespace Go.Proofs.YtaolinlginloaadDoor.Words
open Go.Lib (decDigits itoa)

/-- The figures ahead of those that were written. -/
def pre (m : Nat) : List UInt8 := if m = 0 then [] else decDigits m
theorem pre_zero : pre 0 = [] := rfl
theorem pre_pos (m : Nat) (h : 0 < m) : pre m = decDigits m := by rw [pre, if_neg (by omega)]
theorem pre_step (m : Nat) (h : 0 < m) : pre m = pre (m / 10) ++ [fig (m % 10)] := by
  have hf : fig (m % 10) = UInt8.ofNat (48 + m % 10) := by
    unfold fig figZ
    rw [if_pos (by omega)]
    congr 1
  rw [pre_pos m h, decDigits]
  by_cases h10 : m < 10
  · rw [dif_pos h10, show m / 10 = 0 by omega, pre_zero, hf, Nat.mod_eq_of_lt h10]; rfl
  · rw [dif_neg h10, pre_pos (m / 10) (by omega), hf]
theorem dacc_step {m u : Nat} {acc : List UInt8} (h : pre m ++ acc = decDigits u) (hm : 0 < m) : pre (m / 10) ++ (fig (m % 10) :: acc) = decDigits u := by
  rw [← h, pre_step m hm]; simp
theorem dacc_len {m u : Nat} {acc : List UInt8} (h : pre m ++ acc = decDigits u) (hu : u ≤ 9223372036854775808) : acc.length ≤ 21 := by
  have h1 := congrArg List.length h
  have h2 : (decDigits u).length ≤ 21 := by
    by_cases h0 : u = 0
    · subst h0
      have := Go.Lib.itoa_length_le 0 (by omega) (by omega)
      rw [show (0 : Int) = ((0 : Nat) : Int) from rfl, Go.Lib.itoa_nonneg] at this
      exact this
    · have := Go.Lib.itoa_length_le (-(u : Int)) (by omega) (by omega)
      rw [Go.Lib.itoa_neg u (by omega)] at this
      simp at this
      omega
  simp at h1
  omega
theorem tmod_neg (m : Nat) : (-(m : Int)).tmod 10 = -((m % 10 : Nat) : Int) := by
  rw [Int.neg_tmod, Int.tmod_eq_emod_of_nonneg (by omega)]; rfl
theorem tdiv_neg (m : Nat) : (-(m : Int)).tdiv 10 = -((m / 10 : Nat) : Int) := by
  rw [Int.neg_tdiv, Int.tdiv_eq_ediv_of_nonneg (by omega)]; rfl
theorem dec_zero : decDigits 0 = [48] := by rw [decDigits, dif_pos (by omega)]; rfl
end Go.Proofs.YtaolinlginloaadDoor.Words

/-
  The walk of the law's own mark of a number.
-/
namespace Go.Proofs.YtaolinlginloaadDoor
open Go.RowKit
open Words
open Go.Lib (decDigits)

/-- The mark of a number. -/
def markL (k : Nat) : List UInt8 := 109 :: decDigits k
theorem fig48 (m : Nat) : ((fig (m % 10)).toNat : Int) = 48 + (m : Int) % 10 := by
  rw [fig_nat (m % 10) (by omega)]
  unfold figZ
  rw [if_pos (by omega)]
  omega
set_option maxHeartbeats 400000 in
set_option maxRecDepth 100000 in
theorem markText_any (k : Nat) (w : World) (hk : 0 < k) (hk2 : k ≤ 1000000000000) :
    Calls Tryd.prog 27 #[.int .i64 k] w fun e w' => e = .returned (.string ⟨(markL k).toArray⟩) ∧ Below w.heap.size w w' := by
  have g1 : ¬ (k : Int) ≤ 0 := by omega
  go_enter Tryd.func27, Tryd.ntmps27
  go_wp2
  go_loopw [0, 3] (fun nv sv wr => ∃ (m : Nat) (acc : List UInt8), nv = .int .i64 m ∧ m ≤ k ∧ Hid (pre m ++ acc = decDigits k) ∧ sv = .string ⟨acc.toArray⟩ ∧ Below w.heap.size w wr) (fun nv _ _ => (intOf nv).toNat)
  case atStart => exact ⟨k, [], rfl, Nat.le_refl _, by show _ = _; rw [pre_pos k hk, List.append_nil], rfl, Below.refl _ _⟩
  case round =>
    obtain ⟨m, acc, rfl, hm, hacc, rfl, hbel⟩ := hrel
    have hsz := hbel.size
    have hal := dacc_len hacc.out (by omega)
    by_cases hm0 : m = 0
    · subst hm0
      have E : Hid (acc = decDigits k) := hacc
      go_wp2
      go_ret
      exact ⟨by rw [markL, ← E.out]; exact congrArg Ending.returned (mt_cons 109 acc), hbel⟩
    · have t1 : (0 : Int) < m := by omega
      have A2 : Hid (pre (m / 10) ++ (fig (m % 10) :: acc) = decDigits k) := dacc_step hacc.out (by omega)
      have hcv := mt_conv wr (fig (m % 10)) _ (fig48 m)
      clear hacc hm0
      go_wp2
      go_roundw
      case rel => exact ⟨m / 10, fig (m % 10) :: acc, by go_num, by omega, A2, mt_cons _ _, hbel.alloc (by omega) _⟩
      case measure => simp [intOf]; omega
theorem markText_int (x : Int) (n : Nat) (hx : x = n) (w : World) (h0 : 0 < n) (h1 : n ≤ 1000000000000) :
    Calls Tryd.prog 27 #[.int .i64 x] w fun e w' => e = .returned (.string ⟨(markL n).toArray⟩) ∧ Below w.heap.size w w' := by
  subst hx
  exact markText_any n w h0 h1
end Go.Proofs.YtaolinlginloaadDoor
