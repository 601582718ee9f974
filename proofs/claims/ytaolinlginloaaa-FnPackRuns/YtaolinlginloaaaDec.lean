/-
  The walk of spec.Decimal.
-/
import Derived.Test.YtaolinlginloaaaBase
import Derived.Test.YtaolinlginloaaaDecMath
namespace Go.Proofs.Ytaolinlginloaaa
open Go.RowKit
open Words
open Go.Lib (decDigits itoa)

theorem figure_any (x : Int) (w : World) (h0 : 0 ≤ x) (h1 : x < 16) :
    Calls Try.prog 45 #[.int .i64 x] w fun e w' => e = .returned (.int .u8 (figZ x)) ∧ w' = w := by
  by_cases h : x < 10
  · have F : Hid (figZ x = 48 + x) := if_pos h
    go_enter Try.func45, Try.ntmps45
    go_wp2
    go_ret
    exact ⟨by rw [F.out]; rfl, rfl⟩
  · have F : Hid (figZ x = 97 + x - 10) := if_neg h
    go_enter Try.func45, Try.ntmps45
    go_wp2
    go_ret
    exact ⟨by rw [F.out]; rfl, rfl⟩

theorem conv_one (w : World) (c : UInt8) (x : Int) (h : (c.toNat : Int) = x) :
    (convert 22 9 (.slice (some ⟨w.heap.size, 0, none⟩) 1 1)).run Try.prog (w.alloc (.cells #[.int .u8 x] 5)) = .ok (.string ⟨#[c]⟩) (w.alloc (.cells #[.int .u8 x] 5)) := by
  subst h
  exact run_convert_bytes_back (P := Try.prog) (w.alloc (.cells #[.int .u8 c.toNat] 5)) 22 9 5 ⟨w.heap.size, 0, none⟩ 1 [c] Try.underlying22 Try.underlying5 Try.underlying9
    (fun j hj => by
      have : j = 0 := by simpa using hj
      subst this
      exact one_cell w _ 5 0 _ rfl)

theorem str_cons (c : UInt8) (l : List UInt8) : Value.string (⟨#[c]⟩ ++ ⟨l.toArray⟩) = .string ⟨(c :: l).toArray⟩ := by
  rw [show (#[c] : Array UInt8) = [c].toArray from rfl, ByteArray.mk_append_mk]; rfl

set_option maxHeartbeats 400000 in
set_option maxRecDepth 100000 in
theorem specDec_pos (u : Nat) (w : World) (hu : u ≤ 9223372036854775807) (h0 : 0 < u) :
    Calls Try.prog 21 #[.int .i64 u] w fun e w' => e = .returned (.string ⟨(decDigits u).toArray⟩) ∧ Below w.heap.size w w' := by
  have g1 : ((u : Int) == 0) = false := by rw [beq_eq_false_iff_ne]; omega
  have g2 : ¬ (u : Int) < 0 := by omega
  go_enter Try.func21, Try.ntmps21
  go_wp2
  go_loopw [0, 4] (fun nv sv wr => ∃ (m : Nat) (acc : List UInt8), nv = .int .i64 m ∧ m ≤ u ∧ Hid (pre m ++ acc = decDigits u) ∧ sv = .string ⟨acc.toArray⟩ ∧ Below w.heap.size w wr) (fun nv _ _ => (intOf nv).toNat)
  case atStart => exact ⟨u, [], rfl, Nat.le_refl _, by show _ = _; rw [pre_pos u h0, List.append_nil], rfl, Below.refl _ _⟩
  case round =>
    obtain ⟨m, acc, rfl, hm, hacc, rfl, hbel⟩ := hrel
    have hsz := hbel.size
    have hal := dacc_len hacc.out (by omega)
    by_cases hm0 : m = 0
    · subst hm0
      have E : Hid (acc = decDigits u) := hacc
      go_wp2
      go_ret
      exact ⟨by rw [← E.out]; rfl, hbel⟩
    · have t1 : ((m : Int) != 0) = true := by rw [bne_iff_ne]; omega
      have A2 : Hid (pre (m / 10) ++ (fig (m % 10) :: acc) = decDigits u) := dacc_step hacc.out (by omega)
      have hfn := fig_nat (m % 10) (by omega)
      rw [show ((m % 10 : Nat) : Int) = (m : Int) % 10 by omega] at hfn
      have hcv := conv_one wr (fig (m % 10)) _ hfn
      have hmp : 0 < m := by omega
      clear hacc hfn hm0
      go_wp2_with fail
      refine (figure_any _ _ (by omega) (by omega)).mono ?_
      rintro e w' ⟨rfl, rfl⟩
      go_wp2
      go_roundw
      case rel => exact ⟨m / 10, fig (m % 10) :: acc, by go_num, by omega, A2, str_cons _ _, hbel.alloc (by omega) _⟩
      case measure => simp [intOf]; omega

set_option maxHeartbeats 400000 in
set_option maxRecDepth 100000 in
theorem specDec_neg (u : Nat) (w : World) (hu : u ≤ 9223372036854775808) (h0 : 0 < u) :
    Calls Try.prog 21 #[.int .i64 (-(u : Int))] w fun e w' => e = .returned (.string ⟨(45 :: decDigits u).toArray⟩) ∧ Below w.heap.size w w' := by
  have g1 : (-(u : Int) == 0) = false := by rw [beq_eq_false_iff_ne]; omega
  have g2 : -(u : Int) < 0 := by omega
  go_enter Try.func21, Try.ntmps21
  go_wp2
  go_loopw [0, 4] (fun nv sv wr => ∃ (m : Nat) (acc : List UInt8), nv = .int .i64 (-(m : Int)) ∧ m ≤ u ∧ Hid (pre m ++ acc = decDigits u) ∧ sv = .string ⟨acc.toArray⟩ ∧ Below w.heap.size w wr) (fun nv _ _ => (-(intOf nv)).toNat)
  case atStart => exact ⟨u, [], rfl, Nat.le_refl _, by show _ = _; rw [pre_pos u h0, List.append_nil], rfl, Below.refl _ _⟩
  case round =>
    obtain ⟨m, acc, rfl, hm, hacc, rfl, hbel⟩ := hrel
    have hsz := hbel.size
    have hal := dacc_len hacc.out (by omega)
    by_cases hm0 : m = 0
    · subst hm0
      have E : Hid (acc = decDigits u) := hacc
      go_wp2
      go_ret
      exact ⟨by rw [← E.out]; exact congrArg Ending.returned (str_cons 45 acc), hbel⟩
    · have t1 : (-(m : Int) != 0) = true := by rw [bne_iff_ne]; omega
      have A2 : Hid (pre (m / 10) ++ (fig (m % 10) :: acc) = decDigits u) := dacc_step hacc.out (by omega)
      have hfn := fig_nat (m % 10) (by omega)
      have hcv := conv_one wr (fig (m % 10)) _ hfn
      have m1 := tmod_neg m
      have m2 := tdiv_neg m
      have hr : m % 10 < 10 := by omega
      have hq : m / 10 < m := by omega
      obtain ⟨r, er⟩ : ∃ r, m % 10 = r := ⟨_, rfl⟩
      obtain ⟨q, eq⟩ : ∃ q, m / 10 = q := ⟨_, rfl⟩
      rw [er] at A2 hcv m1 hr
      rw [eq] at A2 m2 hq
      clear hacc hfn hm0 er eq
      by_cases hr0 : r = 0
      · subst hr0
        rw [show ((0 : Nat) : Int) = 0 from rfl] at hcv
        go_wp2_with fail
        refine (figure_any _ _ (by omega) (by omega)).mono ?_
        rintro e w' ⟨rfl, rfl⟩
        go_wp2
        go_roundw
        case rel => exact ⟨q, fig 0 :: acc, rfl, by omega, A2, str_cons _ _, hbel.alloc (by omega) _⟩
        case measure => simp [intOf]; omega
      · have d1 : -(r : Int) < 0 := by omega
        go_wp2_with fail
        refine (figure_any _ _ (by omega) (by omega)).mono ?_
        rintro e w' ⟨rfl, rfl⟩
        go_wp2
        go_roundw
        case rel => exact ⟨q, fig r :: acc, rfl, by omega, A2, str_cons _ _, hbel.alloc (by omega) _⟩
        case measure => simp [intOf]; omega

theorem specDec_zero (w : World) : Calls Try.prog 21 #[.int .i64 0] w fun e w' => e = .returned (.string ⟨#[48]⟩) ∧ w' = w := by
  go_enter Try.func21, Try.ntmps21
  go_wp2
  go_ret
  exact ⟨rfl, rfl⟩

theorem specDec (n : Int) (w : World) (h0 : -9223372036854775808 ≤ n) (h1 : n ≤ 9223372036854775807) :
    Calls Try.prog 21 #[.int .i64 n] w fun e w' => e = .returned (.string ⟨(itoa n).toArray⟩) ∧ Below w.heap.size w w' := by
  by_cases hn : n < 0
  · obtain ⟨u, rfl⟩ : ∃ u : Nat, n = -(u : Int) := ⟨n.natAbs, by omega⟩
    rw [Go.Lib.itoa_neg u (by omega)]
    exact specDec_neg u w (by omega) (by omega)
  · obtain ⟨u, rfl⟩ := Int.eq_ofNat_of_zero_le (show 0 ≤ n by omega)
    rw [Go.Lib.itoa_nonneg]
    by_cases hu : u = 0
    · subst hu
      refine (specDec_zero w).mono ?_
      rintro e w' ⟨rfl, rfl⟩
      exact ⟨by rw [dec_zero], Below.refl _ _⟩
    · exact specDec_pos u w (by omega) (by omega)
end Go.Proofs.Ytaolinlginloaaa
