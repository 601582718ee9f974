/-
  The walk of the program's match.
-/
import Derived.Test.YtaolinlginloaabBase
import Derived.Test.YtaolinlginloaabTRows
namespace Go.Proofs.Ytaolinlginloaab
open Go.RowKit
open Pack

set_option maxHeartbeats 400000 in
set_option maxRecDepth 100000 in
theorem imatch_any (s : ByteArray) (i j : Nat) (w : World) (hs : s.size ≤ 64) (hij : i < j) (hj : j ≤ s.size) :
    Calls Try.prog 40 #[.string s, .int .i64 i, .int .i64 j] w fun e w' => e = .returned (.int .i64 (mlen 31 (s.data.toList.drop i) (s.data.toList.drop j) : Nat)) ∧ Below w.heap.size w w' := by
  have hl : s.data.toList.length = s.size := by simp
  go_enter Try.func40, Try.ntmps40
  go_wp2
  go_loopw [7] (fun nv wr => ∃ n : Nat, n ≤ 31 ∧ j + n ≤ s.size ∧ nv = .int .i64 n ∧ Hid (mlen 31 (s.data.toList.drop i) (s.data.toList.drop j) = n + mlen (31 - n) (s.data.toList.drop (i + n)) (s.data.toList.drop (j + n))) ∧ Below w.heap.size w wr) (fun nv _ => 31 - (intOf nv).toNat)
  case atStart => exact ⟨0, by omega, by omega, rfl, (by show _ = 0 + _; simp), Below.refl _ _⟩
  case round =>
    obtain ⟨n, hn, hjn, rfl, HM, hbel⟩ := hrel
    have w1 : IntKind.i64.wrap ((j : Int) + n) = (j : Int) + n := by rw [IntKind.wrap_i64]; omega
    have w2 : IntKind.i64.wrap ((i : Int) + n) = (i : Int) + n := by rw [IntKind.wrap_i64]; omega
    have HB := hide hbel
    clear hbel
    by_cases h31 : n < 31
    · have d1 : decide ((n : Int) < 31) = true := decide_eq_true (by omega)
      by_cases hlt : j + n < s.size
      · have d2 : decide ((j : Int) + n < s.size) = true := decide_eq_true (by omega)
        have f1 := byte_ofT s (i + n) ((i : Int) + n) (by omega) (by omega)
        have f2 := byte_ofT s (j + n) ((j : Int) + n) (by omega) (by omega)
        by_cases heq : s.data.toList.getD (i + n) 0 = s.data.toList.getD (j + n) 0
        · have HM2 : Hid (mlen 31 (s.data.toList.drop i) (s.data.toList.drop j) = (n + 1) + mlen (31 - (n + 1)) (s.data.toList.drop (i + (n + 1))) (s.data.toList.drop (j + (n + 1)))) := by
            show _ = _
            rw [HM.out, show 31 - n = (31 - (n + 1)) + 1 by omega, mlen_yes _ _ _ _ (by omega) (by omega) heq, show i + n + 1 = i + (n + 1) by omega, show j + n + 1 = j + (n + 1) by omega]
            omega
          rw [heq] at f1
          generalize (s.data.toList.getD (j + n) 0).toNat = c at f1 f2
          have e1 : ((c : Int) == (c : Int)) = true := by simp
          clear HM heq hl
          go_wp2
          go_quiet (fail)
          go_wp2
          go_roundw
          case rel => exact ⟨n + 1, by omega, by omega, by go_num, HM2, below_drewN HB.out _⟩
          case measure => simp [intOf]; omega
        · have HM2 : Hid (mlen 31 (s.data.toList.drop i) (s.data.toList.drop j) = n) := by
            show _ = _
            rw [HM.out, mlen_no _ _ _ _ (by omega) (by omega) heq]; rfl
          have hne : ((((s.data.toList.getD (i + n) 0).toNat : Nat) : Int) == (((s.data.toList.getD (j + n) 0).toNat : Nat) : Int)) = false := by
            rw [beq_eq_false_iff_ne]
            intro h
            exact heq (UInt8.toNat_inj.1 (by omega))
          generalize (s.data.toList.getD (i + n) 0).toNat = c1 at f1 hne
          generalize (s.data.toList.getD (j + n) 0).toNat = c2 at f2 hne
          clear HM heq hl
          go_wp2
          go_quiet (fail)
          go_wp2
          go_ret
          exact ⟨by rw [HM2.out]; rfl, below_drewN HB.out _⟩
      · have d2 : decide ((j : Int) + n < s.size) = false := decide_eq_false (by omega)
        have HM2 : Hid (mlen 31 (s.data.toList.drop i) (s.data.toList.drop j) = n) := by
          show _ = _
          rw [HM.out, mlen_end _ _ _ _ (by omega)]; rfl
        clear HM hl
        go_wp2
        go_quiet (fail)
        go_wp2
        go_ret
        exact ⟨by rw [HM2.out]; rfl, below_drewN HB.out _⟩
    · have d1 : decide ((n : Int) < 31) = false := decide_eq_false (by omega)
      have e31 : n = 31 := by omega
      have HM2 : Hid (mlen 31 (s.data.toList.drop i) (s.data.toList.drop j) = n) := by
        show _ = _
        rw [HM.out, e31]; rfl
      clear HM hl e31
      go_wp2
      go_quiet (fail)
      go_wp2
      go_ret
      exact ⟨by rw [HM2.out]; rfl, below_drewN HB.out _⟩
end Go.Proofs.Ytaolinlginloaab
