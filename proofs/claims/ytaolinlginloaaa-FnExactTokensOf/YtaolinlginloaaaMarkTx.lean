/-
  The walk of the law's own mark of a number.
-/
import Derived.Test.YtaolinlginloaaaMtConv
import Derived.Test.YtaolinlginloaaaDecMath
namespace Go.Proofs.Ytaolinlginloaaa
open Go.RowKit
open Words
open Go.Lib (decDigits)

/-- The mark of a number. -/
def markL (k : Nat) : List UInt8 := 109 :: decDigits k
theorem fig48 (m : Nat) : ((fig (m % 10)).toNat : Int) = 48 + (m : Int) % 10 := by
  rw [fig_nat (m % 10) (by omega)]
  unfold figZ
  rw [if_pos (by omega)]
  omega
set_option maxHeartbeats 400000 in
set_option maxRecDepth 100000 in
theorem markText_any (k : Nat) (w : World) (hk : 0 < k) (hk2 : k ≤ 1000000000000) :
    Calls Try.prog 50 #[.int .i64 k] w fun e w' => e = .returned (.string ⟨(markL k).toArray⟩) ∧ Below w.heap.size w w' := by
  have g1 : ¬ (k : Int) ≤ 0 := by omega
  go_enter Try.func50, Try.ntmps50
  go_wp2
  go_loopw [0, 3] (fun nv sv wr => ∃ (m : Nat) (acc : List UInt8), nv = .int .i64 m ∧ m ≤ k ∧ Hid (pre m ++ acc = decDigits k) ∧ sv = .string ⟨acc.toArray⟩ ∧ Below w.heap.size w wr) (fun nv _ _ => (intOf nv).toNat)
  case atStart => exact ⟨k, [], rfl, Nat.le_refl _, by show _ = _; rw [pre_pos k hk, List.append_nil], rfl, Below.refl _ _⟩
  case round =>
    obtain ⟨m, acc, rfl, hm, hacc, rfl, hbel⟩ := hrel
    have hsz := hbel.size
    have hal := dacc_len hacc.out (by omega)
    by_cases hm0 : m = 0
    · subst hm0
      have E : Hid (acc = decDigits k) := hacc
      go_wp2
      go_ret
      exact ⟨by rw [markL, ← E.out]; exact congrArg Ending.returned (mt_cons 109 acc), hbel⟩
    · have t1 : (0 : Int) < m := by omega
      have A2 : Hid (pre (m / 10) ++ (fig (m % 10) :: acc) = decDigits k) := dacc_step hacc.out (by omega)
      have hcv := mt_conv wr (fig (m % 10)) _ (fig48 m)
      clear hacc hm0
      go_wp2
      go_roundw
      case rel => exact ⟨m / 10, fig (m % 10) :: acc, by go_num, by omega, A2, mt_cons _ _, hbel.alloc (by omega) _⟩
      case measure => simp [intOf]; omega
theorem markText_int (x : Int) (n : Nat) (hx : x = n) (w : World) (h0 : 0 < n) (h1 : n ≤ 1000000000000) :
    Calls Try.prog 50 #[.int .i64 x] w fun e w' => e = .returned (.string ⟨(markL n).toArray⟩) ∧ Below w.heap.size w w' := by
  subst hx
  exact markText_any n w h0 h1
end Go.Proofs.Ytaolinlginloaaa
