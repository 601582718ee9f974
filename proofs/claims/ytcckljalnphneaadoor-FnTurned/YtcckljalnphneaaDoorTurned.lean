/-
  The walk of the law on texts with one byte turned.
-/
import Derived.Test.YtcckljalnphneaaDoorUnseal
import Derived.Test.YtcckljalnphneaaDoorBig
import Derived.Test.YtcckljalnphneaaDoorDrawS
import Derived.Test.YtcckljalnphneaaDoorDrawP
import Derived.Test.YtcckljalnphneaaDoorBytes
namespace Go.Proofs.YtcckljalnphneaaDoor
open Go.RowKit
open Sums

theorem sealA_body (s : ByteArray) : body (sealA s) = s := by
  have h := sealA_size s
  unfold body
  rw [h]
  apply ByteArray.ext
  simp [sealA, ByteArray.data_append]
theorem set_mid (l : List UInt8) (i : Nat) (y : UInt8) (hi : i < l.length) : l.set i y = l.take i ++ y :: l.drop (i + 1) := by
  rw [List.set_eq_take_append_cons_drop, if_pos hi]
theorem mid (l : List UInt8) (i : Nat) (hi : i < l.length) : l = l.take i ++ l[i] :: l.drop (i + 1) := by
  simp
/-- A sealed text with one byte turned is not what its own body is sealed as. -/
theorem turned_no (s : ByteArray) (i : Nat) (y : UInt8) (hi : i < (sealA s).data.toList.length) (hy : y ≠ (sealA s).data.toList[i]) : sealA (body ⟨((sealA s).data.toList.set i y).toArray⟩) ≠ ⟨((sealA s).data.toList.set i y).toArray⟩ := by
  intro h
  have h1 := congrArg (fun z : ByteArray => z.data.toList) h
  simp only [sealA_list] at h1
  have h2 := mid _ i hi
  rw [set_mid _ i y (by simpa [sealA_list] using hi)] at h1
  rw [← sealA_list s] at h1
  exact seal_turned s.data.toList _ _ _ _ y (fun e => hy e.symm) ((sealA_list s).symm.trans h2) h1
theorem xor_ne (c d : Nat) (h0 : d ≠ 0) : c ^^^ d ≠ c := by
  intro h
  have : c ^^^ d = c ^^^ 0 := by rw [h, Nat.xor_zero]
  exact h0 (xor_left_cancel this)
theorem turn_byte (c : UInt8) (d : Nat) (h0 : d ≠ 0) (h1 : d < 256) : ((UInt8.ofNat (c.toNat ^^^ d)).toNat : Int) = ((c.toNat ^^^ d : Nat) : Int) ∧ UInt8.ofNat (c.toNat ^^^ d) ≠ c := by
  have hlt : c.toNat ^^^ d < 256 := Nat.xor_lt_two_pow (n := 8) (by have := byte_lt c; omega) h1
  have e : (UInt8.ofNat (c.toNat ^^^ d)).toNat = c.toNat ^^^ d := by rw [UInt8.toNat_ofNat']; omega
  refine ⟨by rw [e], fun h => ?_⟩
  rw [h] at e
  exact xor_ne _ _ h0 e.symm
theorem sum_goes_on (s : ByteArray) : sumL (sumOf s.data.toList) [120] = sumOf (s ++ ⟨#[120]⟩).data.toList := by
  have : (s ++ ⟨#[120]⟩).data.toList = s.data.toList ++ [120] := by simp [ByteArray.data_append]
  rw [this]
  unfold sumOf
  rw [sumL_app]

set_option maxHeartbeats 1000000 in
set_option maxRecDepth 100000 in
theorem lawTurned (ad : Option Addr) (len cap : Nat) (w : World) (hd : CodeIn w ad len w.heap.size) (ht : HalvIn w) :
    Calls Tryd.prog 4 #[.slice ad len cap] w fun e w' => e = .returned (.bool true) ∧ Below w.heap.size w w' := by
  have HD := hide hd
  have HT := hide ht
  clear hd ht
  by_cases hbig : (1048576 : Int) < len
  · go_enter Tryd.func4, Tryd.ntmps4
    go_wp2_with fail
    refine (big_any ad len cap _).mono ?_
    rintro e w1 ⟨rfl, rfl⟩
    rw [decide_eq_true hbig]
    go_wp2
    go_ret
    exact ⟨rfl, Below.refl _ _⟩
  · go_enter Tryd.func4, Tryd.ntmps4
    go_wp2_with fail
    refine (big_any ad len cap _).mono ?_
    rintro e w1 ⟨rfl, rfl⟩
    rw [decide_eq_false (show ¬ (1048576 : Int) < len by omega)]
    go_wp2_with fail
    refine (drawSum_any ad len cap _ (by omega) HD.out).mono ?_
    rintro e w2 ⟨l, rfl, hl, b2⟩
    have s2 := b2.size
    have HT2 := hide (HT.out.on b2)
    have HD2 := hide (HD.out.on b2 (Nat.le_refl _))
    go_wp2_with fail
    refine (places_any ad len cap _ (by omega) (HD2.out.up s2)).mono ?_
    rintro e w3 ⟨g, cp, ps, rfl, hg, hgw, hpl, hall, hcell, b3⟩
    have k0 := hcell 0 (by omega)
    have k1 := hcell 1 (by omega)
    have p0 := hall ps[0] (List.getElem_mem _)
    have p1 := hall ps[1] (List.getElem_mem _)
    generalize ps[0] = q0 at k0 p0
    generalize ps[1] = q1 at k1 p1
    have s3 := b3.size
    have HT3 := hide (HT2.out.on b3)
    have B3 : Hid (Below w1.heap.size w1 w3) := b2.trans (b3.mono s2)
    have hsz : (⟨l.toArray⟩ : ByteArray).size = l.length := by show l.toArray.size = _; simp
    clear HD HD2 HT HT2 hcell hall hpl ps b2 b3
    obtain ⟨s, hsl⟩ : ∃ s : ByteArray, s = ⟨l.toArray⟩ := ⟨_, rfl⟩
    rw [← hsl] at hsz ⊢
    clear hsl
    go_wp2_with fail
    refine (sealed_any s _ (by omega) HT3.out).mono ?_
    rintro e w4 ⟨rfl, b4⟩
    have s4 := b4.size
    have HT4 := hide (HT3.out.on b4)
    have k0' : w4.cell? ⟨g, 0, none⟩ = some (.int .i64 q0) := by rw [b4.cell (show g < w3.heap.size from hgw)]; exact k0
    have k1' : w4.cell? ⟨g, 1, none⟩ = some (.int .i64 q1) := by rw [b4.cell (show g < w3.heap.size from hgw)]; exact k1
    have B4 : Hid (Below w1.heap.size w1 w4) := B3.out.trans (b4.mono (by omega))
    have T1 := sealA_size s
    have E1 := hide (sealA_body s)
    have N1 := hide (turned_no s)
    obtain ⟨T, hT⟩ : ∃ T, sealA s = T := ⟨_, rfl⟩
    have ET := hide hT
    rw [hT] at T1 E1 N1 ⊢
    clear hT k0 k1 B3 HT3 b4
    go_wp2_with fail
    refine (unsealed_yes T _ (by omega) (by omega) (by rw [E1.out]; exact ET.out) HT4.out).mono ?_
    rintro e w5 ⟨rfl, b5⟩
    rw [E1.out]
    have s5 := b5.size
    have HT5 := hide (HT4.out.on b5)
    have k0 : w5.cell? ⟨g, 0, none⟩ = some (.int .i64 q0) := by rw [b5.cell (show g < w4.heap.size by omega)]; exact k0'
    have k1 : w5.cell? ⟨g, 1, none⟩ = some (.int .i64 q1) := by rw [b5.cell (show g < w4.heap.size by omega)]; exact k1'
    have B5 : Hid (Below w1.heap.size w1 w5) := B4.out.trans (b5.mono (by omega))
    clear k0' k1' B4 HT4 b5 E1
    obtain ⟨C, w6, hcv, b6, y6⟩ := bytes_new w5 T
    have s6 := b6.size
    have g5 : g < w5.heap.size := by omega
    have k0' : w6.cell? ⟨g, 0, none⟩ = some (.int .i64 q0) := by rw [b6.cell (show g < w5.heap.size from g5)]; exact k0
    have k1' : w6.cell? ⟨g, 1, none⟩ = some (.int .i64 q1) := by rw [b6.cell (show g < w5.heap.size from g5)]; exact k1
    have HT6 := hide (HT5.out.on b6)
    have B6 : Hid (Below w1.heap.size w1 w6) := B5.out.trans (b6.mono (by omega))
    have hTl : T.data.toList.length = l.length + 4 := by
      have : T.data.toList.length = T.size := by simp
      omega
    obtain ⟨i, hi, hm1⟩ : ∃ i : Nat, i < l.length + 4 ∧ q0 % ((l.length : Int) + 4) = i := by
      refine ⟨(q0 % ((l.length : Int) + 4)).toNat, ?_, ?_⟩
      · have := Int.emod_lt_of_pos q0 (show (0 : Int) < (l.length : Int) + 4 by omega)
        have := Int.emod_nonneg q0 (show (l.length : Int) + 4 ≠ 0 by omega)
        omega
      · have := Int.emod_nonneg q0 (show (l.length : Int) + 4 ≠ 0 by omega)
        omega
    have y7 := y6.2 i (by omega)
    have N2 := N1.out i
    obtain ⟨c, hc⟩ : ∃ c, c = T.data.toList[i] := ⟨_, rfl⟩
    rw [← hc] at y7
    obtain ⟨d, hd⟩ : ∃ d : Int, d = q1 % 255 := ⟨_, rfl⟩
    have d0 : 0 ≤ d := by omega
    have d1 : d < 255 := by omega
    have m1 : q1.tmod 255 = d := by rw [Int.tmod_eq_emod_of_nonneg (by omega)]; exact hd.symm
    have m2 : IntKind.i64.wrap (1 + d) = 1 + d := by rw [IntKind.wrap_i64]; omega
    have m3 : IntKind.u8.wrap (1 + d) = 1 + d := by rw [IntKind.wrap_u8]; omega
    have hcl := byte_lt c
    have m4 := u8_xor (c.toNat : Int) (1 + d) (by omega) (by omega) (by omega) (by omega)
    obtain ⟨t1, t2⟩ := turn_byte c (1 + d).toNat (by omega) (by omega)
    rw [Int.toNat_natCast] at m4
    have N3 := hide (N2 _ (by omega) (by rw [← hc]; exact t2))
    have V1 := hide t1
    generalize UInt8.ofNat (c.toNat ^^^ (1 + d).toNat) = y at N3 V1
    generalize ((c.toNat ^^^ (1 + d).toNat : Nat) : Int) = v at m4 V1
    have Y6 := hide y6
    have hcc := y7.1
    have hcf := y7.2
    generalize (c.toNat : Int) = c' at hcc m4
    have B56 := hide b6
    clear N1 N2 t1 t2 hc y6 y7 hd k0 k1 b6 HT6 B6
    have hq1 : (s.toList == s.toList) = true := by simp
    go_wp2
    rw [hm1]
    have i0 : (0 : Int) ≤ i := by omega
    have i1 : (i : Int) < ((l.length + 4 : Nat) : Int) := by omega
    have i2 : (i : Int) < (l.length : Int) + 4 := by omega
    clear hm1 k0'
    go_region
    have Y7 : BytesAt (w6.setCell ⟨w5.heap.size, i, none⟩ (.int .u8 v)).drew w5.heap.size (T.data.toList.set i y) := Y6.out.set i y v V1.out
    have b7 : Below w5.heap.size w5 (w6.setCell ⟨w5.heap.size, i, none⟩ (.int .u8 v)).drew := B56.out.trans ((grown_below (grown_set w6 w5.heap.size i (.int .u8 v)) (Nat.le_refl _) s6).drew)
    generalize (w6.setCell ⟨w5.heap.size, i, none⟩ (.int .u8 v)).drew = w7 at Y7 b7
    have hcv2 := Y7.text (l.length + 4) C (by simp; omega)
    have HT7 := hide (HT5.out.on b7)
    have s7 := b7.size
    have B7 : Hid (Below w1.heap.size w1 w7) := B5.out.trans (b7.mono (by omega))
    have hTs : (⟨(T.data.toList.set i y).toArray⟩ : ByteArray).size = l.length + 4 := by
      show (T.data.toList.set i y).toArray.size = _
      simp; omega
    generalize (⟨(T.data.toList.set i y).toArray⟩ : ByteArray) = T' at N3 hcv2 hTs
    clear Y7 b7 hcv hcc hcf m1 m2 m3 m4 k1' Y6 V1 B56 B5 HT5 hq1
    go_wp2_with fail
    refine (unsealed_no T' _ (by omega) (by omega) N3.out HT7.out).mono ?_
    rintro e w8 ⟨rfl, b8⟩
    have s8 := b8.size
    have HT8 := hide (HT7.out.on b8)
    have B8 : Hid (Below w1.heap.size w1 w8) := B7.out.trans (b8.mono (by omega))
    clear HT7 b8 B7 N3 hcv2
    have hG := sum_goes_on s
    have hx := sumOf_lt s.data.toList
    have hxs : (s ++ ⟨#[120]⟩ : ByteArray).size = s.size + 1 := by simp [ByteArray.size_append]; rfl
    go_wp2_with fail
    refine (sumOf_any s _ (by unfold maxLen; omega) HT8.out).mono ?_
    rintro e w9 ⟨rfl, rfl⟩
    generalize sumOf s.data.toList = x at hG hx
    go_wp2_with fail
    refine (sumMore_any x ⟨#[120]⟩ _ hx (by decide) HT8.out).mono ?_
    rintro e w10 ⟨rfl, rfl⟩
    have hG2 : Hid (sumL x (⟨#[120]⟩ : ByteArray).data.toList = sumOf (s ++ ⟨#[120]⟩ : ByteArray).data.toList) := hG
    clear hG
    generalize sumL x (⟨#[120]⟩ : ByteArray).data.toList = z at hG2
    obtain ⟨s', hs'⟩ : ∃ s' : ByteArray, s' = s ++ ⟨#[120]⟩ := ⟨_, rfl⟩
    rw [← hs'] at hG2 hxs
    go_wp2_with fail
    rw [← hs']
    refine (sumOf_any s' _ (by unfold maxLen; omega) HT8.out).mono ?_
    rintro e w11 ⟨rfl, rfl⟩
    rw [← hG2.out]
    clear hG2 hs'
    go_wp2
    go_ret
    exact ⟨rfl, B8.out⟩
end Go.Proofs.YtcckljalnphneaaDoor
