/-
  spec.l06Byte.
-/
import Derived.Test.YtogfdhfmamabiaaBase
import Derived.Test.YtogfdhfmamabiaaPgMath
namespace Go.Proofs.Ytogfdhfmamabiaa
open Go.RowKit
open Words

theorem i_nat {x : Int} (h : 0 ≤ x) : ∃ n : Nat, x = n ∧ x.toNat = n := ⟨x.toNat, by omega, rfl⟩

set_option maxHeartbeats 400000 in
set_option maxRecDepth 100000 in
theorem sbyte (n : Nat) (hn : n < 256) (w : World) :
    Calls Try.prog 79 #[.int .i64 n] w fun e w' => e = .returned (.string (byteA n)) ∧ Below w.heap.size w w' := by
  have hcv := run_convert_bytes_back (P := Try.prog) (w.alloc (.cells #[Value.int .u8 n] 5)) 22 9 5 ⟨w.heap.size, 0, none⟩ 1 [UInt8.ofNat n] Try.underlying22 Try.underlying5 Try.underlying9 (fun j hj => by
    match j, hj with
    | 0, _ => simp [Addr.add]; omega)
  rw [show [UInt8.ofNat n].length = 1 from rfl] at hcv
  have E : Hid (byteA n = ByteArray.mk [UInt8.ofNat n].toArray) := rfl
  generalize ByteArray.mk [UInt8.ofNat n].toArray = r at hcv E
  have ew : IntKind.u8.wrap (n : Int) = n := by rw [IntKind.wrap_u8]; omega
  go_enter Try.func79, Try.ntmps79
  go_wp2
  go_ret
  exact ⟨by rw [E.out]; rfl, (Below.refl _ _).alloc (Nat.le_refl _) _⟩

end Go.Proofs.Ytogfdhfmamabiaa
