/-
  ImplVar; SVar; SByte
-/
import Derived.Test.YtogfdhfmamabiaaPk0
import Derived.Test.YtogfdhfmamabiaaPk1
import Derived.Lib.Hide
import Derived.Test.YtogfdhfmamabiaaPgMath
/-
  The walk of impl.VarText.
-/
namespace Go.Proofs.Ytogfdhfmamabiaa
open Go.RowKit
open Words

theorem acc_len {acc : List UInt8} {m n : Nat} (h : acc ++ varL m = varL n) (hn : n < 9223372036854775808) : acc.length ≤ 9 := by
  have h1 := congrArg List.length h
  have h2 := varL_len n hn
  simp at h1
  omega
theorem acc_step {acc : List UInt8} {m n : Nat} (h : acc ++ varL m = varL n) (hm : 128 ≤ m) : (acc ++ [UInt8.ofNat (m % 128 + 128)]) ++ varL (m / 128) = varL n := by
  rw [← h, varL_high m hm]; simp
theorem byte_of (m : Nat) : ((UInt8.ofNat (m % 128 + 128)).toNat : Int) = (m : Int) % 128 + 128 := by
  simp; omega

theorem byte_of' (m : Nat) (h : m < 128) : ((UInt8.ofNat m).toNat : Int) = (m : Int) := by
  simp; omega

set_option maxHeartbeats 400000 in
theorem implVar_yes (n : Nat) (w : World) (hn : n ≤ 1000000000) :
    Calls Try.prog 76 #[.int .i64 n] w fun e w' => e = .returned (.tuple #[.string ⟨(varL n).toArray⟩, .bool true]) ∧ Below w.heap.size w w' := by
  obtain ⟨i0, hi, hz0, hz1, hz2⟩ := info_parts infoByte
  have hlen := varL_len n (by omega)
  have g1 : ¬ (n : Int) < 0 := by omega
  have g2 : ¬ (1000000000 : Int) < n := by omega
  go_enter Try.func76, Try.ntmps76
  go_wp2
  go_loopw [0, 4] (fun nv out wr => ∃ (m : Nat) (acc : List UInt8), nv = .int .i64 m ∧ m ≤ n ∧ Hid (acc ++ varL m = varL n) ∧ wr.ownsRow w.heap.size 5 1 out acc.length (bcells acc) ∧ Below w.heap.size w wr) (fun nv _ _ => (intOf nv).toNat)
  case atStart => exact ⟨n, [], rfl, Nat.le_refl _, rfl, World.ownsRow_nil _ _ _ _, Below.refl _ _⟩
  case round =>
    obtain ⟨m, acc, rfl, hm, hacc, hown, hbel⟩ := hrel
    have hsz := hbel.size
    have hal := acc_len hacc (by omega)
    by_cases hlt : 128 ≤ (m : Int)
    · go_wp2_with (at_builtin; refine wpList_append_own _ rfl _ _ 22 rfl w.heap.size 5 i0 (.int .u8 0) 1 1 Try.underlying22 hi hz0 hz1 hz2 rfl (by decide) _ _ _ rfl (hown.alloc _) ⟨wr.heap.size, 0, none⟩ 1 1 [Value.int .u8 _] rfl rfl (one_cell _ _ _) (one_u8 _) ?c1 ?c2 ?c3 ?_)
      case c1 => unfold maxLen; omega
      case c2 => omega
      case c3 => first | omega | (simp; omega)
      intro v' w1 hown' hgrow _
      have hb1 := own_grown hbel (by omega) hown hgrow
      rw [bcells_snoc acc _ _ (byte_of m)] at hown'
      have hacc' := acc_step hacc (by omega)
      clear hown hgrow hacc
      go_wp2
      go_roundw
      case rel => exact ⟨m / 128, _, by go_num, by omega, hacc', by simpa using hown', hb1⟩
      case measure => simp [intOf]; omega
    · go_wp2_with (at_builtin; refine wpList_append_own _ rfl _ _ 22 rfl w.heap.size 5 i0 (.int .u8 0) 1 1 Try.underlying22 hi hz0 hz1 hz2 rfl (by decide) _ _ _ rfl (hown.alloc _) ⟨wr.heap.size, 0, none⟩ 1 1 [Value.int .u8 _] rfl rfl (one_cell _ _ _) (one_u8 _) ?c1 ?c2 ?c3 ?_)
      case c1 => unfold maxLen; omega
      case c2 => omega
      case c3 => first | omega | (simp; omega)
      intro v' w1 hown' hgrow _
      have hb1 := own_grown hbel (by omega) hown hgrow
      rw [bcells_snoc acc _ _ (byte_of' m (by omega))] at hown'
      have e : acc ++ [UInt8.ofNat m] = varL n := by rw [← hacc.out, varL_low m (by omega)]
      have eN : acc.length + 1 = (acc ++ [UInt8.ofNat m]).length := by simp
      rw [eN, e] at hown'
      have E := Lib.hid e
      clear hown hgrow hacc e eN
      obtain ⟨l, hl⟩ : ∃ l, l = varL n := ⟨_, rfl⟩
      rw [← hl] at hown' hlen
      have HL := Lib.hid hl
      clear hl E
      rcases hown'.2 with ⟨-, h0⟩ | ⟨g, cap, cur, rfl, -, -, -, -, -, -⟩
      · omega
      · have hcv := run_convert_bytes_back (P := Try.prog) w1 22 9 5 ⟨g, 0, none⟩ cap l Try.underlying22 Try.underlying5 Try.underlying9 (fun j hj => hown'.cells (g := g) rfl j _ (bcells_at l j hj))
        go_wp2
        go_ret2
        exact ⟨by rw [HL.out]; rfl, hb1⟩
theorem implVar_no (n : Int) (w : World) (hn : n < 0 ∨ 1000000000 < n) :
    Calls Try.prog 76 #[.int .i64 n] w fun e w' => e = .returned (.tuple #[.string ⟨#[]⟩, .bool false]) ∧ w' = w := by
  rcases hn with h | h
  · go_enter Try.func76, Try.ntmps76
    go_wp2
    go_ret2
    exact ⟨rfl, rfl⟩
  · have g1 : ¬ n < 0 := by omega
    go_enter Try.func76, Try.ntmps76
    go_wp2
    go_ret2
    exact ⟨rfl, rfl⟩
end Go.Proofs.Ytogfdhfmamabiaa

/-
  spec.l01Var.
-/
namespace Go.Proofs.Ytogfdhfmamabiaa
open Go.RowKit
open Words

set_option maxHeartbeats 400000 in
theorem l01Var_any (n : Nat) (w : World) (hn : n < 9223372036854775808) :
    Calls Try.prog 80 #[.int .i64 n] w fun e w' => e = .returned (.string ⟨(varL n).toArray⟩) ∧ Below w.heap.size w w' := by
  obtain ⟨i0, hi, hz0, hz1, hz2⟩ := info_parts infoByte
  have hlen := varL_len n hn
  go_enter Try.func80, Try.ntmps80
  go_wp2
  go_loopw [0, 3] (fun nv out wr => ∃ (m : Nat) (acc : List UInt8), nv = .int .i64 m ∧ m ≤ n ∧ Hid (acc ++ varL m = varL n) ∧ wr.ownsRow w.heap.size 5 1 out acc.length (bcells acc) ∧ Below w.heap.size w wr) (fun nv _ _ => (intOf nv).toNat)
  case atStart => exact ⟨n, [], rfl, Nat.le_refl _, rfl, World.ownsRow_made w #[] 0 (Nat.le_refl _) (by unfold maxLen; omega) (by simp), (Below.refl _ _).alloc (Nat.le_refl _) _⟩
  case round =>
    obtain ⟨m, acc, rfl, hm, hacc, hown, hbel⟩ := hrel
    have hsz := hbel.size
    have hal := acc_len hacc hn
    by_cases hlt : 127 < (m : Int)
    · go_wp2_with (at_builtin; refine wpList_append_own _ rfl _ _ 22 rfl w.heap.size 5 i0 (.int .u8 0) 1 1 Try.underlying22 hi hz0 hz1 hz2 rfl (by decide) _ _ _ rfl (hown.alloc _) ⟨wr.heap.size, 0, none⟩ 1 1 [Value.int .u8 _] rfl rfl (one_cell _ _ _) (one_u8 _) ?c1 ?c2 ?c3 ?_)
      case c1 => unfold maxLen; omega
      case c2 => omega
      case c3 => first | omega | (simp; omega)
      intro v' w1 hown' hgrow _
      have hb1 := own_grown hbel (by omega) hown hgrow
      rw [bcells_snoc acc _ _ (byte_of m)] at hown'
      have hacc' := acc_step hacc (by omega)
      clear hown hgrow hacc
      go_wp2
      go_roundw
      case rel => exact ⟨m / 128, _, by go_num, by omega, hacc', by simpa using hown', hb1⟩
      case measure => simp [intOf]; omega
    · go_wp2_with (at_builtin; refine wpList_append_own _ rfl _ _ 22 rfl w.heap.size 5 i0 (.int .u8 0) 1 1 Try.underlying22 hi hz0 hz1 hz2 rfl (by decide) _ _ _ rfl (hown.alloc _) ⟨wr.heap.size, 0, none⟩ 1 1 [Value.int .u8 _] rfl rfl (one_cell _ _ _) (one_u8 _) ?c1 ?c2 ?c3 ?_)
      case c1 => unfold maxLen; omega
      case c2 => omega
      case c3 => first | omega | (simp; omega)
      intro v' w1 hown' hgrow _
      have hb1 := own_grown hbel (by omega) hown hgrow
      rw [bcells_snoc acc _ _ (byte_of' m (by omega))] at hown'
      have e : acc ++ [UInt8.ofNat m] = varL n := by rw [← hacc.out, varL_low m (by omega)]
      have eN : acc.length + 1 = (acc ++ [UInt8.ofNat m]).length := by simp
      rw [eN, e] at hown'
      have E := Lib.hid e
      clear hown hgrow hacc e eN
      obtain ⟨l, hl⟩ : ∃ l, l = varL n := ⟨_, rfl⟩
      rw [← hl] at hown' hlen
      have HL := Lib.hid hl
      clear hl E
      rcases hown'.2 with ⟨-, h0⟩ | ⟨g, cap, cur, rfl, -, -, -, -, -, -⟩
      · omega
      · have hcv := run_convert_bytes_back (P := Try.prog) w1 22 9 5 ⟨g, 0, none⟩ cap l Try.underlying22 Try.underlying5 Try.underlying9 (fun j hj => hown'.cells (g := g) rfl j _ (bcells_at l j hj))
        go_wp2
        go_ret
        exact ⟨by rw [HL.out]; rfl, hb1⟩

end Go.Proofs.Ytogfdhfmamabiaa

/-
  spec.l06Byte.
-/
namespace Go.Proofs.Ytogfdhfmamabiaa
open Go.RowKit
open Words

theorem i_nat {x : Int} (h : 0 ≤ x) : ∃ n : Nat, x = n ∧ x.toNat = n := ⟨x.toNat, by omega, rfl⟩

set_option maxHeartbeats 400000 in
set_option maxRecDepth 100000 in
theorem sbyte (n : Nat) (hn : n < 256) (w : World) :
    Calls Try.prog 79 #[.int .i64 n] w fun e w' => e = .returned (.string (byteA n)) ∧ Below w.heap.size w w' := by
  have hcv := run_convert_bytes_back (P := Try.prog) (w.alloc (.cells #[Value.int .u8 n] 5)) 22 9 5 ⟨w.heap.size, 0, none⟩ 1 [UInt8.ofNat n] Try.underlying22 Try.underlying5 Try.underlying9 (fun j hj => by
    match j, hj with
    | 0, _ => simp [Addr.add]; omega)
  rw [show [UInt8.ofNat n].length = 1 from rfl] at hcv
  have E : Hid (byteA n = ByteArray.mk [UInt8.ofNat n].toArray) := rfl
  generalize ByteArray.mk [UInt8.ofNat n].toArray = r at hcv E
  have ew : IntKind.u8.wrap (n : Int) = n := by rw [IntKind.wrap_u8]; omega
  go_enter Try.func79, Try.ntmps79
  go_wp2
  go_ret
  exact ⟨by rw [E.out]; rfl, (Below.refl _ _).alloc (Nat.le_refl _) _⟩

end Go.Proofs.Ytogfdhfmamabiaa
