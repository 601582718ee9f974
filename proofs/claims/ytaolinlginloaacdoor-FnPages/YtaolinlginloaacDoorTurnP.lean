/-
  laws.turned: a text with one byte turned.
-/
import Derived.Test.YtaolinlginloaacDoorPq10
import Derived.Test.YtaolinlginloaacDoorDPl
import Derived.Test.YtaolinlginloaacDoorBytes
namespace Go.Proofs.YtaolinlginloaacDoor
open Go.RowKit
open Sums

theorem set_mid (l : List UInt8) (i : Nat) (y : UInt8) (hi : i < l.length) : l.set i y = l.take i ++ y :: l.drop (i + 1) := by
  rw [List.set_eq_take_append_cons_drop, if_pos hi]
theorem mid (l : List UInt8) (i : Nat) (hi : i < l.length) : l = l.take i ++ l[i] :: l.drop (i + 1) := by
  simp
/-- A sealed text with one byte turned is not what its own body is sealed as. -/
theorem turned_no (s : ByteArray) (i : Nat) (y : UInt8) (hi : i < (sealA s).data.toList.length) (hy : y ≠ (sealA s).data.toList[i]) : sealA (body ⟨((sealA s).data.toList.set i y).toArray⟩) ≠ ⟨((sealA s).data.toList.set i y).toArray⟩ := by
  intro h
  have h1 := congrArg (fun z : ByteArray => z.data.toList) h
  simp only [sealA_list] at h1
  have h2 := mid _ i hi
  rw [set_mid _ i y (by simpa [sealA_list] using hi)] at h1
  rw [← sealA_list s] at h1
  exact seal_turned s.data.toList _ _ _ _ y (fun e => hy e.symm) ((sealA_list s).symm.trans h2) h1
theorem xor_ne (c d : Nat) (h0 : d ≠ 0) : c ^^^ d ≠ c := by
  intro h
  have : c ^^^ d = c ^^^ 0 := by rw [h, Nat.xor_zero]
  exact h0 (xor_left_cancel this)
theorem turn_byte (c : UInt8) (d : Nat) (h0 : d ≠ 0) (h1 : d < 256) : ((UInt8.ofNat (c.toNat ^^^ d)).toNat : Int) = ((c.toNat ^^^ d : Nat) : Int) ∧ UInt8.ofNat (c.toNat ^^^ d) ≠ c := by
  have hlt : c.toNat ^^^ d < 256 := Nat.xor_lt_two_pow (n := 8) (by have := byte_lt c; omega) h1
  have e : (UInt8.ofNat (c.toNat ^^^ d)).toNat = c.toNat ^^^ d := by rw [UInt8.toNat_ofNat']; omega
  refine ⟨by rw [e], fun h => ?_⟩
  rw [h] at e
  exact xor_ne _ _ h0 e.symm

set_option maxHeartbeats 1000000 in
set_option maxRecDepth 100000 in
theorem turned_any (T : ByteArray) (g cp : Nat) (q0 q1 : Int) (w : World) (hn : T.size ≤ 20004) (hg : g < w.heap.size) (p0 : 0 ≤ q0 ∧ q0 < 10000) (p1 : 0 ≤ q1 ∧ q1 < 10000)
    (k0 : w.cell? ⟨g, 0, none⟩ = some (.int .i64 q0)) (k1 : w.cell? ⟨g, 1, none⟩ = some (.int .i64 q1)) :
    Calls Tryd.prog 24 #[.string T, .slice (some ⟨g, 0, none⟩) 12 cp] w fun e w' => ∃ r : ByteArray, e = .returned (.string r) ∧ r.size ≤ 20005 ∧ (∀ s, T = sealA s → unA r = none) ∧ Below w.heap.size w w' := by
  obtain ⟨C, w6, hcv, b6, y6⟩ := bytes_new w T
  have s6 := b6.size
  have k0' : w6.cell? ⟨g, 0, none⟩ = some (.int .i64 q0) := by rw [b6.cell (show g < w.heap.size from hg)]; exact k0
  have k1' : w6.cell? ⟨g, 1, none⟩ = some (.int .i64 q1) := by rw [b6.cell (show g < w.heap.size from hg)]; exact k1
  have B6 := hide b6
  have hTl : T.data.toList.length = T.size := by simp
  by_cases hz : T.size = 0
  · have hz' : ((T.size : Int) == 0) = true := by simp [hz]
    have HZ := hide hz
    clear hz k0 k1 k0' k1' b6
    go_enter Tryd.func24, Tryd.ntmps24
    go_wp2
    go_ret
    refine ⟨_, rfl, by decide, fun s hs => ?_, B6.out⟩
    have := sealA_size s
    rw [← hs, HZ.out] at this
    omega
  · have hz' : ((T.size : Int) == 0) = false := beq_eq_false_iff_ne.2 (by omega)
    obtain ⟨n, hnn⟩ : ∃ n, n = T.size := ⟨_, rfl⟩
    obtain ⟨i, hi, hm1⟩ : ∃ i : Nat, i < T.size ∧ q0 % (T.size : Int) = i := by
      refine ⟨(q0 % (T.size : Int)).toNat, ?_, ?_⟩
      · have := Int.emod_lt_of_pos q0 (show (0 : Int) < T.size by omega)
        have := Int.emod_nonneg q0 (show (T.size : Int) ≠ 0 by omega)
        omega
      · have := Int.emod_nonneg q0 (show (T.size : Int) ≠ 0 by omega)
        omega
    have m0 : q0.tmod (T.size : Int) = i := by rw [Int.tmod_eq_emod_of_nonneg (by omega)]; exact hm1
    have y7 := y6.2 i (by omega)
    have N2 : ∀ (y : UInt8) (hi : i < T.data.toList.length), y ≠ T.data.toList[i] → ∀ s, T = sealA s → unA ⟨(T.data.toList.set i y).toArray⟩ = none := by
      intro y hi' hy s hs
      subst hs
      exact unA_none (fun h => turned_no s i y hi' hy h.2.2)
    obtain ⟨c, hc⟩ : ∃ c, c = T.data.toList[i] := ⟨_, rfl⟩
    rw [← hc] at y7
    obtain ⟨d, hd⟩ : ∃ d : Int, d = q1 % 255 := ⟨_, rfl⟩
    have d0 : 0 ≤ d := by omega
    have d1 : d < 255 := by omega
    have m1 : q1.tmod 255 = d := by rw [Int.tmod_eq_emod_of_nonneg (by omega)]; exact hd.symm
    have m2 : IntKind.i64.wrap (1 + d) = 1 + d := by rw [IntKind.wrap_i64]; omega
    have m3 : IntKind.u8.wrap (1 + d) = 1 + d := by rw [IntKind.wrap_u8]; omega
    have hcl := byte_lt c
    have m4 := u8_xor (c.toNat : Int) (1 + d) (by omega) (by omega) (by omega) (by omega)
    obtain ⟨t1, t2⟩ := turn_byte c (1 + d).toNat (by omega) (by omega)
    rw [Int.toNat_natCast] at m4
    have N3 := hide (N2 _ (by omega) (by rw [← hc]; exact t2))
    have V1 := hide t1
    generalize UInt8.ofNat (c.toNat ^^^ (1 + d).toNat) = y at N3 V1
    generalize ((c.toNat ^^^ (1 + d).toNat : Nat) : Int) = v at m4 V1
    have Y6 := hide y6
    have hcc := y7.1
    have hcf := y7.2
    generalize (c.toNat : Int) = c' at hcc m4
    have i0 : (0 : Int) ≤ i := by omega
    have i2 : (i : Int) < (T.size : Int) := by omega
    clear N2 t1 t2 hc y6 y7 hd k0 k1 b6 hm1
    go_enter Tryd.func24, Tryd.ntmps24
    go_wp2
    clear k0'
    go_region
    have Y7 : BytesAt (w6.setCell ⟨w.heap.size, i, none⟩ (.int .u8 v)).drew w.heap.size (T.data.toList.set i y) := Y6.out.set i y v V1.out
    have b7 : Below w.heap.size w (w6.setCell ⟨w.heap.size, i, none⟩ (.int .u8 v)).drew := B6.out.trans ((grown_below (grown_set w6 w.heap.size i (.int .u8 v)) (Nat.le_refl _) s6).drew)
    generalize (w6.setCell ⟨w.heap.size, i, none⟩ (.int .u8 v)).drew = w7 at Y7 b7
    have hcv2 := Y7.text T.size C (by simp)
    have B7 := hide b7
    have hTs : (⟨(T.data.toList.set i y).toArray⟩ : ByteArray).size = T.size := by
      show (T.data.toList.set i y).toArray.size = _
      simp
    obtain ⟨r, hr⟩ : ∃ r : ByteArray, r = ⟨(T.data.toList.set i y).toArray⟩ := ⟨_, rfl⟩
    rw [← hr] at hcv2 hTs N3
    clear hr Y7 b7 Y6
    go_wp2
    go_ret
    exact ⟨r, rfl, by omega, N3.out, B7.out⟩
end Go.Proofs.YtaolinlginloaacDoor
