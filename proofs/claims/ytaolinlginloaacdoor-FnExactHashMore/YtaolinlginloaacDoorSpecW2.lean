/-
  The walk of the specification's word of four bytes.
-/
import Derived.Test.YtaolinlginloaacDoorSpecW
namespace Go.Proofs.YtaolinlginloaacDoor
open Go.RowKit
open Dig

theorem byte_at (s : ByteArray) (j : Nat) (a : Int) (ha : a = j) (hj : j < s.size) (W : World) : (Instr.index 9 (.string s) (.int .i64 a)).run Tryd.prog W = .ok (.int .u8 (((s.data.toList.getD j 0).toNat : Nat) : Int)) W := by
  subst ha
  rw [run_index_string W 9 s .i64 j Tryd.underlying9, dif_pos (by omega)]
  have : s.data.toList.getD j 0 = s[j] := by
    rw [List.getD_eq_getElem?_getD, List.getElem?_eq_getElem (by simpa using hj)]
    rfl
  rw [this]
  rfl
theorem word_drop (l : List UInt8) (i : Nat) : word (l.drop i) = (l.getD i 0).toNat * 16777216 + (l.getD (i + 1) 0).toNat * 65536 + (l.getD (i + 2) 0).toNat * 256 + (l.getD (i + 3) 0).toNat := by
  simp [word, List.getD_eq_getElem?_getD, List.getElem?_drop]

set_option maxHeartbeats 400000 in
theorem word_any (s : ByteArray) (i : Nat) (w : World) (hs : s.size ≤ maxLen) (hi : i + 4 ≤ s.size) :
    Calls Tryd.prog 68 #[.string s, .int .i64 i] w fun e w' => e = .returned (.int .u32 (word (s.data.toList.drop i) : Nat)) ∧ Below w.heap.size w w' := by
  unfold maxLen at hs
  have f0 := byte_at s i (i : Int) rfl (by omega)
  have f1 := byte_at s (i + 1) ((i : Int) + 1) (by omega) (by omega)
  have f2 := byte_at s (i + 2) ((i : Int) + 2) (by omega) (by omega)
  have f3 := byte_at s (i + 3) ((i : Int) + 3) (by omega) (by omega)
  have E := hide (word_drop s.data.toList i)
  have b0 : (s.data.toList.getD i 0).toNat < 256 := UInt8.toNat_lt _
  have b1 : (s.data.toList.getD (i + 1) 0).toNat < 256 := UInt8.toNat_lt _
  have b2 : (s.data.toList.getD (i + 2) 0).toNat < 256 := UInt8.toNat_lt _
  have b3 : (s.data.toList.getD (i + 3) 0).toNat < 256 := UInt8.toNat_lt _
  generalize (s.data.toList.getD i 0).toNat = c0 at *
  generalize (s.data.toList.getD (i + 1) 0).toNat = c1 at *
  generalize (s.data.toList.getD (i + 2) 0).toNat = c2 at *
  generalize (s.data.toList.getD (i + 3) 0).toNat = c3 at *
  have g1 : IntKind.i64.wrap ((i : Int) + 1) = (i : Int) + 1 := by rw [IntKind.wrap_i64]; omega
  have g2 : IntKind.i64.wrap ((i : Int) + 2) = (i : Int) + 2 := by rw [IntKind.wrap_i64]; omega
  have g3 : IntKind.i64.wrap ((i : Int) + 3) = (i : Int) + 3 := by rw [IntKind.wrap_i64]; omega
  have k0 : IntKind.u32.wrap (c0 : Int) = c0 := by rw [IntKind.wrap_u32']; omega
  have k1 : IntKind.u32.wrap (c1 : Int) = c1 := by rw [IntKind.wrap_u32']; omega
  have k2 : IntKind.u32.wrap (c2 : Int) = c2 := by rw [IntKind.wrap_u32']; omega
  have k3 : IntKind.u32.wrap (c3 : Int) = c3 := by rw [IntKind.wrap_u32']; omega
  have m0 : IntKind.u32.wrap ((c0 : Int) * 16777216) = (c0 : Int) * 16777216 := by rw [IntKind.wrap_u32']; omega
  have m1 : IntKind.u32.wrap ((c1 : Int) * 65536) = (c1 : Int) * 65536 := by rw [IntKind.wrap_u32']; omega
  have m2 : IntKind.u32.wrap ((c2 : Int) * 256) = (c2 : Int) * 256 := by rw [IntKind.wrap_u32']; omega
  have a1 : IntKind.u32.wrap ((c0 : Int) * 16777216 + (c1 : Int) * 65536) = (c0 : Int) * 16777216 + (c1 : Int) * 65536 := by rw [IntKind.wrap_u32']; omega
  have a2 : IntKind.u32.wrap ((c0 : Int) * 16777216 + (c1 : Int) * 65536 + (c2 : Int) * 256) = (c0 : Int) * 16777216 + (c1 : Int) * 65536 + (c2 : Int) * 256 := by rw [IntKind.wrap_u32']; omega
  have a3 : IntKind.u32.wrap ((c0 : Int) * 16777216 + (c1 : Int) * 65536 + (c2 : Int) * 256 + c3) = (c0 : Int) * 16777216 + (c1 : Int) * 65536 + (c2 : Int) * 256 + c3 := by rw [IntKind.wrap_u32']; omega
  have E2 : Hid (((c0 * 16777216 + c1 * 65536 + c2 * 256 + c3 : Nat) : Int) = (c0 : Int) * 16777216 + (c1 : Int) * 65536 + (c2 : Int) * 256 + c3) := by show _ = _; omega
  go_enter Tryd.func68, Tryd.ntmps68
  go_wp2
  go_quiet (fail)
  go_wp2
  go_ret
  refine ⟨?_, below_drewN (Below.refl _ _) _⟩
  rw [E.out, E2.out]
  rfl
end Go.Proofs.YtaolinlginloaacDoor
