/-
  The walks of impl's words of bytes, and of the state's.
-/
import Derived.Test.YtaolinlginloaacDoorImplW
import Derived.Test.YtaolinlginloaacDoorSpecW2
import Derived.Test.YtaolinlginloaacDoorImplAB
namespace Go.Proofs.YtaolinlginloaacDoor
open Go.RowKit
open Dig

set_option maxHeartbeats 400000 in
theorem wordAt_any (s : ByteArray) (i : Nat) (w : World) (hs : s.size ≤ maxLen) (hi : i + 4 ≤ s.size) :
    Calls Tryd.prog 71 #[.string s, .int .i64 i] w fun e w' => e = .returned (.int .u32 (word (s.data.toList.drop i) : Nat)) ∧ Below w.heap.size w w' := by
  unfold maxLen at hs
  have f0 := byte_at s i (i : Int) rfl (by omega)
  have f1 := byte_at s (i + 1) ((i : Int) + 1) (by omega) (by omega)
  have f2 := byte_at s (i + 2) ((i : Int) + 2) (by omega) (by omega)
  have f3 := byte_at s (i + 3) ((i : Int) + 3) (by omega) (by omega)
  have E := word_drop s.data.toList i
  have b0 : (s.data.toList.getD i 0).toNat < 256 := UInt8.toNat_lt _
  have b1 : (s.data.toList.getD (i + 1) 0).toNat < 256 := UInt8.toNat_lt _
  have b2 : (s.data.toList.getD (i + 2) 0).toNat < 256 := UInt8.toNat_lt _
  have b3 : (s.data.toList.getD (i + 3) 0).toNat < 256 := UInt8.toNat_lt _
  generalize (s.data.toList.getD i 0).toNat = c0 at *
  generalize (s.data.toList.getD (i + 1) 0).toNat = c1 at *
  generalize (s.data.toList.getD (i + 2) 0).toNat = c2 at *
  generalize (s.data.toList.getD (i + 3) 0).toNat = c3 at *
  rw [← four_or c0 c1 c2 c3 b1 b2 b3] at E
  have g1 : IntKind.i64.wrap ((i : Int) + 1) = (i : Int) + 1 := by rw [IntKind.wrap_i64]; omega
  have g2 : IntKind.i64.wrap ((i : Int) + 2) = (i : Int) + 2 := by rw [IntKind.wrap_i64]; omega
  have g3 : IntKind.i64.wrap ((i : Int) + 3) = (i : Int) + 3 := by rw [IntKind.wrap_i64]; omega
  have k0 : IntKind.u32.wrap (c0 : Int) = c0 := by rw [IntKind.wrap_u32']; omega
  have k1 : IntKind.u32.wrap (c1 : Int) = c1 := by rw [IntKind.wrap_u32']; omega
  have k2 : IntKind.u32.wrap (c2 : Int) = c2 := by rw [IntKind.wrap_u32']; omega
  have k3 : IntKind.u32.wrap (c3 : Int) = c3 := by rw [IntKind.wrap_u32']; omega
  obtain ⟨d0, e0⟩ : ∃ d, d = c0 * 16777216 := ⟨_, rfl⟩
  obtain ⟨d1, e1⟩ : ∃ d, d = c1 * 65536 := ⟨_, rfl⟩
  obtain ⟨d2, e2⟩ : ∃ d, d = c2 * 256 := ⟨_, rfl⟩
  rw [← e0, ← e1, ← e2] at E
  have o1 := u32_or_nat d0 d1 (by omega) (by omega)
  have l1 : d0 ||| d1 < 4294967296 := Nat.or_lt_two_pow (n := 32) (show d0 < 4294967296 by omega) (show d1 < 4294967296 by omega)
  have o2 := u32_or_nat (d0 ||| d1) d2 l1 (by omega)
  have l2 : d0 ||| d1 ||| d2 < 4294967296 := Nat.or_lt_two_pow (n := 32) l1 (show d2 < 4294967296 by omega)
  have o3 := u32_or_nat (d0 ||| d1 ||| d2) c3 l2 (by omega)
  rw [← E] at o3
  clear E
  generalize word (s.data.toList.drop i) = x at o3 ⊢
  generalize d0 ||| d1 ||| d2 = y2 at o2 o3
  generalize d0 ||| d1 = y1 at o1 o2
  have m0 : IntKind.u32.wrap ((c0 : Int) * 16777216) = (d0 : Int) := by rw [IntKind.wrap_u32']; omega
  have m1 : IntKind.u32.wrap ((c1 : Int) * 65536) = (d1 : Int) := by rw [IntKind.wrap_u32']; omega
  have m2 : IntKind.u32.wrap ((c2 : Int) * 256) = (d2 : Int) := by rw [IntKind.wrap_u32']; omega
  clear e0 e1 e2 l1 l2
  go_enter Tryd.func71, Tryd.ntmps71
  go_wp2
  go_quiet (fail)
  go_wp2
  go_ret
  exact ⟨rfl, below_drewN (Below.refl _ _) _⟩

theorem wordAt_int (s : ByteArray) (z : Int) (i : Nat) (hz : z = i) (w : World) (hs : s.size ≤ maxLen) (hi : i + 4 ≤ s.size) :
    Calls Tryd.prog 71 #[.string s, .int .i64 z] w fun e w' => e = .returned (.int .u32 (word (s.data.toList.drop i) : Nat)) ∧ Below w.heap.size w w' := by
  subst hz
  exact wordAt_any s i w hs hi
theorem fill_set (A : List Nat) (n k x : Nat) (hA : A.length = k) (hk : k < n) : (A ++ List.replicate (n - k) 0).set k x = (A ++ [x]) ++ List.replicate (n - (k + 1)) 0 := by
  obtain ⟨d, hd⟩ : ∃ d, n - k = d + 1 := ⟨n - k - 1, by omega⟩
  have hd2 : n - (k + 1) = d := by omega
  rw [hd, hd2, List.set_append_right _ _ (by omega), hA, Nat.sub_self, List.replicate_succ]
  simp
theorem fill_len (A : List Nat) (n k : Nat) (hA : A.length = k) (hk : k ≤ n) : (A ++ List.replicate (n - k) 0).length = n := by
  simp; omega

set_option maxHeartbeats 400000 in
theorem readState_any (s : ByteArray) (w : World) (hs : s.size = 32) :
    Calls Tryd.prog 42 #[.string s] w fun e w' => e = .returned (wagg (words s.data.toList)) ∧ Below w.heap.size w w' := by
  have EW : Hid (words s.data.toList = wordsN 8 s.data.toList) := by
    show words _ = _
    unfold words
    have : s.data.toList.length = 32 := by simpa using hs
    rw [this]
  go_enter Tryd.func42, Tryd.ntmps42
  go_wp2
  go_loopw [5] (fun iv wr => ∃ k : Nat, k ≤ 8 ∧ iv = .int .i64 k ∧ Hid (VAt wr (w.heap.size + 1) (wordsN k s.data.toList ++ List.replicate (8 - k) 0)) ∧ Hid (VAt wr w.heap.size (List.replicate 8 0)) ∧ Below w.heap.size w wr) (fun iv _ => 8 - (intOf iv).toNat)
  case atStart =>
    refine ⟨0, by omega, rfl, ?_, ?_, ((Below.refl _ _).alloc (Nat.le_refl _) _).alloc (by simp) _⟩
    · have := v_new (w.alloc (.cells #[.int .u32 0, .int .u32 0, .int .u32 0, .int .u32 0, .int .u32 0, .int .u32 0, .int .u32 0, .int .u32 0] 71)) (List.replicate 8 0) #[.int .u32 0, .int .u32 0, .int .u32 0, .int .u32 0, .int .u32 0, .int .u32 0, .int .u32 0, .int .u32 0] 71 rfl
      show VAt _ _ _
      simpa [wordsN] using this
    · exact (v_new w (List.replicate 8 0) _ _ rfl).alloc _
  case round =>
    obtain ⟨k, hk, rfl, HV, HZ, hbel⟩ := hrel
    have hsz := hbel.size
    by_cases hlt : (k : Int) < 8
    · have F : Hid ((wordsN k s.data.toList ++ List.replicate (8 - k) 0).set k (word (s.data.toList.drop (4 * k))) = wordsN (k + 1) s.data.toList ++ List.replicate (8 - (k + 1)) 0) :=
        fill_set _ 8 k _ (wordsN_len k _) (by omega)
      have hlen := fill_len (wordsN k s.data.toList) 8 k (wordsN_len k _) (by omega)
      go_wp2_with fail
      refine (wordAt_int s _ (4 * k) (by omega) _ (by unfold maxLen; omega) (by omega)).mono ?_
      rintro e w1 ⟨rfl, hb1⟩
      have hb : Below w.heap.size w w1 := hbel.trans (hb1.mono hsz)
      have HV1 := hide (HV.out.below hb1 HV.out.1.1)
      have HZ1 := hide (HZ.out.below hb1 HZ.out.1.1)
      obtain ⟨xo, kc⟩ : ∃ xo, w1.cell? ⟨w.heap.size + 1, k, none⟩ = some xo := ⟨_, HV1.out.1.2 k (by omega)⟩
      have kf := HV1.out.2 k
      have HV2 := hide (HV1.out.set k (word (s.data.toList.drop (4 * k))))
      rw [F.out] at HV2
      generalize word (s.data.toList.drop (4 * k)) = x at HV2
      have HZ2 := hide (HZ1.out.other (r := w.heap.size + 1) (i := k) (u := .int .u32 x) (by omega))
      have hb2 := hb.setCell (p := ⟨w.heap.size + 1, k, none⟩) (by show w.heap.size ≤ w.heap.size + 1; omega) (.int .u32 x)
      clear HV HZ hbel hb1 HV1 HZ1 F hb
      go_wp2
      go_roundw
      case rel => exact ⟨k + 1, by omega, by go_num, HV2, HZ2, hb2⟩
      case measure => simp [intOf]; omega
    · have e8 : k = 8 := by omega
      subst e8
      have hw8 : (wordsN 8 s.data.toList).length = 8 := wordsN_len 8 _
      have HV8 : Hid (VAt wr (w.heap.size + 1) (wordsN 8 s.data.toList)) := by
        have := HV.out
        show VAt _ _ _
        simpa using this
      generalize wordsN 8 s.data.toList = L at EW HV8 hw8
      clear HV
      go_wp2_with (first
        | refine wpList_load_words rfl _ _ rfl (w.heap.size + 1) rfl L _ HV8.out.1 Tryd.underlying71 rfl (by rw [hw8]; exact info8) ?_
        | (refine wpList_store_words rfl _ _ _ rfl w.heap.size L (List.replicate 8 0) rfl rfl HZ.out (by rw [hw8]; rfl) (by rw [hw8]; exact info8) ?_; intro w2 hw2))
      have hV2 : VAt (wr.setCells w.heap.size 0 (wcells L)) w.heap.size L := HZ.out.store L (by rw [hw8]; rfl)
      exact bodyPost_ret (results_words rfl _ _ _ _ _ rfl hV2.1 Tryd.underlying71 rfl (by rw [hw8]; exact info8)) rfl ⟨by rw [EW.out], below_cellsD (Nat.le_refl _) _ _ _ hbel⟩
end Go.Proofs.YtaolinlginloaacDoor
