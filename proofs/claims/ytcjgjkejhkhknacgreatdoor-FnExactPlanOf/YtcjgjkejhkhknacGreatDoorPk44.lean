/-
  New; Digest; ImplH; ImplD; SSameL; IDig
-/
import Derived.Test.YtcjgjkejhkhknacGreatDoorPk43
import Derived.Test.YtcjgjkejhkhknacGreatDoorPk41
import Derived.Test.YtcjgjkejhkhknacGreatDoorPk6
import Derived.Test.YtcjgjkejhkhknacGreatDoorPk35
import Derived.Test.YtcjgjkejhkhknacGreatDoorPk37
import Derived.Test.YtcjgjkejhkhknacGreatDoorPk1
import Derived.Test.YtcjgjkejhkhknacGreatDoorPk39
import Derived.Maps.AppendAt
set_option maxHeartbeats 2000000
set_option maxRecDepth 100000
namespace Go.Proofs.YtcjgjkejhkhknacGreatDoor
open Go.RowKit
open Dig
def digL (t : List UInt8) : List UInt8 := endL (bytesOf (mixes (t.length / 64) first t)) (t.drop (64 * (t.length / 64))) t.length
theorem digL_of (t : ByteArray) : digL t.data.toList = endL (bytesOf (mixes (t.size / 64) first t.data.toList)) (t.extract (64 * (t.size / 64)) t.size).data.toList t.size := by
 have hl : t.data.toList.length = t.size := by simp
 have hx : (t.extract (64 * (t.size / 64)) t.size).data.toList = t.data.toList.drop (64 * (t.size / 64)) := by
  rw [Lib.extract_data, List.take_of_length_le (by simp)]
 unfold digL
 rw [hl, hx]
theorem end_any (st : List Nat) (r : ByteArray) (n : Nat) (w : World) (hst : St st) (hr : r.size = n % 64) (hn : n ≤ 1000000000) (hT : StepIn w) :
 Calls Tryz.prog 172 #[wagg st, .string r, .int .i64 n] w fun e w' => e = .returned (.string ⟨(endS st r.data.toList n).toArray⟩) ∧ Below w.heap.size w w' := by
 have HT := hide hT
 have hp := padL_last r.data.toList n (by simpa using hr)
 have hrl : r.data.toList.length = r.size := by simp
 have hpl := (padL_len r.data.toList n (by omega)).2
 obtain ⟨t, htt⟩ : ∃ t : ByteArray, t = r ++ ⟨(lastL n).toArray⟩ := ⟨_, rfl⟩
 have htl : t.data.toList = padL r.data.toList n := by rw [htt, ByteArray.data_append, hp]; simp
 have hts : t.size = (padL r.data.toList n).length := by rw [← htl]; simp
 have CB0 : ∀ w', StepIn w' → _ := fun w' h => blocks_any st t w' hst (by omega) h
 have EE : Hid (endS st r.data.toList n = bytesOf (mixes (t.size / 64) st t.data.toList)) := by
  show endS _ _ _ = _
  unfold endS
  rw [hts, htl]
 have hM := mixes_st hst (t.size / 64) t.data.toList
 obtain ⟨M, hMM⟩ : ∃ M, M = mixes (t.size / 64) st t.data.toList := ⟨_, rfl⟩
 rw [← hMM] at CB0 EE hM
 obtain ⟨R, hRR⟩ : ∃ R, R = t.extract (64 * (t.size / 64)) t.size := ⟨_, rfl⟩
 rw [← hRR] at CB0
 have CL0 := last_any n
 obtain ⟨q, hq⟩ : ∃ q : ByteArray, q = ⟨(lastL n).toArray⟩ := ⟨_, rfl⟩
 have hqs : q.size ≤ 200 := by
  have h1 : (r ++ q).size = r.size + q.size := ByteArray.size_append
  rw [hq, ← htt] at h1
  rw [hq]; omega
 rw [← hq] at CL0 htt
 have TT := hide htt.symm
 obtain ⟨m0, m1, m2, m3, m4, m5, m6, m7, hm8, -⟩ := hst.open
 obtain ⟨p0, p1, p2, p3, p4, p5, p6, p7, hp8, -⟩ := hM.open
 have hwM : wagg st = .agg #[.int .u32 m0, .int .u32 m1, .int .u32 m2, .int .u32 m3, .int .u32 m4, .int .u32 m5, .int .u32 m6, .int .u32 m7] := by rw [hm8]; rfl
 have hwP : wagg M = .agg #[.int .u32 p0, .int .u32 p1, .int .u32 p2, .int .u32 p3, .int .u32 p4, .int .u32 p5, .int .u32 p6, .int .u32 p7] := by rw [hp8]; rfl
 rw [hwM, hwP] at CB0
 rw [hwM]
 have HM := hide hM
 have HP := hide hp8
 have CB : Hid (∀ w1, StepIn w1 → VAt w1 w.heap.size st → Below w.heap.size w w1 → Calls Tryz.prog 171 #[.agg #[.int .u32 m0, .int .u32 m1, .int .u32 m2, .int .u32 m3, .int .u32 m4, .int .u32 m5, .int .u32 m6, .int .u32 m7], .string t] w1 fun e w2 => e = .returned (.tuple #[.agg #[.int .u32 p0, .int .u32 p1, .int .u32 p2, .int .u32 p3, .int .u32 p4, .int .u32 p5, .int .u32 p6, .int .u32 p7], .string R]) ∧ St8 w2 w.heap.size m0 m1 m2 m3 m4 m5 m6 m7 ∧ Hid (VAt w2 w.heap.size st) ∧ Hid (Below w.heap.size w w2)) := by
  intro w1 h1 h2 h3
  refine (CB0 w1 h1).mono ?_
  rintro e w2 ⟨rfl, hb⟩
  have h4 := h2.below hb h2.1.1
  have h5 := h4
  rw [hm8] at h5
  exact ⟨rfl, st8_of h5, h4, h3.trans (hb.mono h3.size)⟩
 have CL : Hid (∀ w1, StepIn w1 → VAt w1 w.heap.size st → Below w.heap.size w w1 → Calls Tryz.prog 195 #[.int .i64 n] w1 fun e w2 => e = .returned (.string q) ∧ St8 w2 w.heap.size m0 m1 m2 m3 m4 m5 m6 m7 ∧ Hid (VAt w2 w.heap.size st) ∧ Hid (Below w.heap.size w w2) ∧ Hid (StepIn w2)) := by
  intro w1 h1 h2 h3
  refine (CL0 w1 hn).mono ?_
  rintro e w2 ⟨rfl, hb⟩
  have h4 := h2.below hb h2.1.1
  have h5 := h4
  rw [hm8] at h5
  exact ⟨rfl, st8_of h5, h4, h3.trans (hb.mono h3.size), h1.on hb⟩
 have HS := hide hm8
 have hl8 := hst.1
 clear hT hst hp hpl hrl CB0 CL0 hM hMM hRR hq hwM hwP hm8 hp8 htl hts htt
 go_enter Tryz.func172, Tryz.ntmps172
 go_wp2
 obtain ⟨W1, hW1⟩ : ∃ W1, W1 = w.alloc (.cells #[.int .u32 m0, .int .u32 m1, .int .u32 m2, .int .u32 m3, .int .u32 m4, .int .u32 m5, .int .u32 m6, .int .u32 m7] 246) := ⟨_, rfl⟩
 have hB1 : Below w.heap.size w W1 := by rw [hW1]; exact (Below.refl _ _).alloc (Nat.le_refl _) _
 have hV1 : VAt W1 w.heap.size st := by rw [hW1]; exact v_new w st _ _ (by rw [HS.out]; rfl)
 rw [← hW1]
 clear hW1
 have hV1' := hV1
 rw [HS.out] at hV1'
 obtain ⟨⟨s0, s1, s2, s3, s4, s5, s6, s7⟩, -⟩ := st8_of hV1'
 have CL1 := hide (CL.out W1.drew (HT.out.on hB1.drew) hV1 hB1.drew)
 clear CL hV1 hV1' hB1
 go_region_with (first
  | (go_at_call 195; refine CL1.out.mono ?_; rintro en w2 ⟨rfl, ⟨⟨a0, a1, a2, a3, a4, a5, a6, a7⟩, -⟩, HV2, HB2, HT2⟩)
  | (go_at_call 171; rw [TT.out]; refine (CB.out _ HT2.out HV2.out HB2.out).mono ?_; rintro en w3 ⟨rfl, ⟨⟨c0, c1, c2, c3, c4, c5, c6, c7⟩, ⟨f0, f1, f2, f3, f4, f5, f6, f7⟩⟩, HV3, HB3⟩))
 all_goals
  have hV4 := store8 (p0 := p0) (p1 := p1) (p2 := p2) (p3 := p3) (p4 := p4) (p5 := p5) (p6 := p6) (p7 := p7) HV3.out hl8
  have hB4 := below8 (p0 := p0) (p1 := p1) (p2 := p2) (p3 := p3) (p4 := p4) (p5 := p5) (p6 := p6) (p7 := p7) HB3.out (Nat.le_refl _)
  rw [← HP.out] at hV4
  have HV4 := hide hV4
  have HB4 := hide hB4
  clear hV4 hB4
  generalize (((((((w3.setCell ⟨w.heap.size, 0, none⟩ (.int .u32 p0)).setCell ⟨w.heap.size, 1, none⟩ (.int .u32 p1)).setCell ⟨w.heap.size, 2, none⟩ (.int .u32 p2)).setCell ⟨w.heap.size, 3, none⟩ (.int .u32 p3)).setCell ⟨w.heap.size, 4, none⟩ (.int .u32 p4)).setCell ⟨w.heap.size, 5, none⟩ (.int .u32 p5)).setCell ⟨w.heap.size, 6, none⟩ (.int .u32 p6)).setCell ⟨w.heap.size, 7, none⟩ (.int .u32 p7) = w4 at HV4 HB4 ⊢
  clear HV3 HB3 HV2 HB2 HT2 CB CL1 a0 a1 a2 a3 a4 a5 a6 a7 c0 c1 c2 c3 c4 c5 c6 c7 f0 f1 f2 f3 f4 f5 f6 f7 s0 s1 s2 s3 s4 s5 s6 s7 TT
  have hM8 := HM.out.1
  go_wp2_with (refine wpList_load_words rfl _ _ rfl w.heap.size rfl M _ HV4.out.1 Tryz.underlying246 rfl (by rw [hM8]; exact info8) ?_)
  refine (asBytes_anyD M _ HM.out).mono ?_
  rintro en w5 ⟨rfl, hb5⟩
  have HB5 : Hid (Below w.heap.size w w5) := HB4.out.trans (hb5.mono HB4.out.size)
  obtain ⟨D, hD⟩ : ∃ D, bytesOf M = D := ⟨_, rfl⟩
  rw [hD] at EE
  rw [hD]
  clear hD hb5 HB4 HV4
  go_wp2
  go_ret
  exact ⟨by rw [EE.out]; rfl, HB5.out⟩
theorem digL_endS (t : ByteArray) : digL t.data.toList = endS (mixes (t.size / 64) first t.data.toList) (t.extract (64 * (t.size / 64)) t.size).data.toList t.size := by
 rw [digL_of, ← endS_words, words_bytesOf (mixes_st first_st _ _)]
theorem implDig_any (t : ByteArray) (w : World) (ht : t.size ≤ 1048576) (hT : StepIn w) :
 Calls Tryz.prog 154 #[.string t] w fun e w' => e = .returned (.string ⟨(digL t.data.toList).toArray⟩) ∧ Below w.heap.size w w' := by
 have HT := hide hT
 have hM := mixes_st first_st (t.size / 64) t.data.toList
 have hRs : (t.extract (64 * (t.size / 64)) t.size).size = t.size % 64 := by simp; omega
 have CB := hide (fun w' h => blocks_any first t w' first_st (by omega) h)
 have EE := hide (digL_endS t)
 obtain ⟨M, hMM⟩ : ∃ M, M = mixes (t.size / 64) first t.data.toList := ⟨_, rfl⟩
 obtain ⟨R, hRR⟩ : ∃ R, R = t.extract (64 * (t.size / 64)) t.size := ⟨_, rfl⟩
 rw [← hMM, ← hRR] at CB EE
 rw [← hMM] at hM
 rw [← hRR] at hRs
 have CE := hide (fun w' h => end_any M R t.size w' hM hRs (by omega) h)
 have HM := hide hM
 have hM8 := hM.1
 obtain ⟨D, hD⟩ : ∃ D, endS M R.data.toList t.size = D := ⟨_, rfl⟩
 rw [hD] at CE EE
 clear hT hM hMM hRR hD
 obtain ⟨F, hF⟩ : ∃ F, F = first := ⟨_, rfl⟩
 have CF := hide firstState_any
 rw [← hF] at CF CB
 clear hF
 go_enter Tryz.func154, Tryz.ntmps154
 go_wp2_with fail
 refine (CF.out _).mono ?_
 rintro en w1 ⟨rfl, hb1⟩
 have HT1 := hide (HT.out.on hb1)
 have hs1 := hb1.size
 go_wp2_with fail
 refine (CB.out _ HT1.out).mono ?_
 rintro en w2 ⟨rfl, hb2⟩
 have HT2 := hide (HT1.out.on hb2)
 have hs2 := hb2.size
 have HB2 : Hid (Below w.heap.size w w2) := hb1.trans (hb2.mono hs1)
 clear HT HT1 hb1 hb2 CF CB
 have hz8 : (List.replicate 8 0 : List Nat).length = 8 := rfl
 go_wp2_with (first
  | (refine wpList_store_words rfl _ _ _ rfl w2.heap.size M (List.replicate 8 0) rfl rfl (v_new w2 (List.replicate 8 0) _ _ rfl) (by rw [hM8, hz8]) (by rw [hM8]; exact info8) ?_
     intro w3 hw3
     have HV3 : Hid (VAt w3 w2.heap.size M ∧ Below w2.heap.size w2 w3) := by
      rw [hw3]
      exact ⟨(v_new w2 (List.replicate 8 0) _ _ rfl).store M (by rw [hM8, hz8]), below_cellsD (Nat.le_refl _) _ _ _ ((Below.refl _ _).alloc (Nat.le_refl _) _)⟩
     clear hw3)
  | refine wpList_load_words rfl _ _ rfl w2.heap.size rfl M _ HV3.out.1.1 Tryz.underlying246 rfl (by rw [hM8]; exact info8) ?_)
 refine (CE.out _ (HT2.out.on HV3.out.2)).mono ?_
 rintro en w4 ⟨rfl, hb4⟩
 have HB4 : Hid (Below w.heap.size w w4) := by
  have h3 := HB2.out.trans (HV3.out.2.mono HB2.out.size)
  exact h3.trans (hb4.mono h3.size)
 clear CE HV3 HT2 HB2 hb4
 go_wp2
 go_ret
 exact ⟨by rw [EE.out]; rfl, HB4.out⟩
end Go.Proofs.YtcjgjkejhkhknacGreatDoor
namespace Go.Proofs.YtcjgjkejhkhknacGreatDoor
open Go.RowKit
open Words Sums Pack
theorem text_same {o : List UInt8} {t : ByteArray} (h : o = t.data.toList) : ((BA o).toList == t.toList) = true := by
 subst h
 rw [Lib.toList_data, Lib.toList_data, BA_list]
 exact beq_self_eq_true _
theorem text_other {o : List UInt8} {t : ByteArray} (h : o ≠ t.data.toList) : ((BA o).toList == t.toList) = false := by
 rw [Lib.toList_data, Lib.toList_data, BA_list, beq_eq_false_iff_ne]
 exact h
theorem ssameL (ad : Option Addr) (len cap : Nat) (M : List Fnd) (la : Option Addr) (ll lc : Nat) (live : List Int) (t : ByteArray) (w : World) (hl : len ≤ 1000000000000000000) (hll : ll ≤ 1000000000000000000) (ht : ∀ x ∈ M, x.page.text.size ≤ 1048576) (h : FdRd w ad len M) (hi : IRow w la ll live) :
 Calls Tryz.prog 46 #[.slice ad len cap, .slice la ll lc, .string t] w fun e w' => e = .returned (.int .i64 (sameP M live t.data.toList)) ∧ Below w.heap.size w w' := by
 have HR := hide h
 have HT := hide ht
 have HI := hide hi
 have HN := hide hi.1
 clear h ht hi
 go_enter Tryz.func46, Tryz.ntmps46
 go_wp2
 go_loopw [7] (fun iv wr => ∃ k : Nat, iv = .int .i64 k ∧ k ≤ ll ∧ Hid (sameP M live t.data.toList = sameP M (live.drop k) t.data.toList) ∧ Hid (Below w.heap.size w wr)) (fun iv _ => ll - (intOf iv).toNat)
 case atStart => exact ⟨0, rfl, Nat.zero_le _, rfl, Below.refl _ _⟩
 case round =>
  rename World => wr
  obtain ⟨k, rfl, hk, HS, B⟩ := hrel
  have hk0 : (0 : Int) ≤ k := by omega
  by_cases hlt : (k : Int) < ll
  ·obtain ⟨c, hc⟩ : ∃ c, live[k]? = some c := ⟨_, List.getElem?_eq_getElem (by have := HN.out; omega)⟩
   obtain ⟨lb, lo, rfl, -, cc⟩ := (HI.out.below B.out).at hc
   have HD := hide (sameP_drop (M := M) t.data.toList hc)
   have C := hide (stextL ad len cap M c wr hl HT.out (HR.out.below B.out))
   clear hc
   cases hx : textP M c with
   | none =>
    rw [hx] at C
    rw [plainV_none] at C
    have NS : Hid (sameP M live t.data.toList = sameP M (live.drop (k + 1)) t.data.toList) := by show _ = _; rw [HS.out, HD.out, hx, if_neg (by simp)]
    clear hx HD HS
    go_wp2_with fail
    refine C.out.mono ?_
    rintro e w1 ⟨rfl, b1⟩
    have B1 := hide (B.out.trans (b1.mono B.out.size))
    clear b1 C
    go_wp2
    go_roundw
    case rel => exact ⟨k + 1, by go_num, by omega, NS, B1⟩
    case measure => simp [intOf]; omega
   | some o =>
    rw [hx] at C
    rw [plainV_some] at C
    by_cases ho : o = t.data.toList
    ·have NS : Hid (sameP M live t.data.toList = c) := by show _ = _; rw [HS.out, HD.out, hx, if_pos (by rw [ho])]
     have he := text_same ho
     clear hx HD HS ho
     go_wp2_with fail
     refine C.out.mono ?_
     rintro e w1 ⟨rfl, b1⟩
     have B1 := hide (B.out.trans (b1.mono B.out.size))
     have cc' := (b1.cell (World.block_lt_of_cell? wr _ cc)).trans cc
     clear b1 C cc
     go_wp2
     go_ret
     rw [NS.out]
     exact ⟨rfl, B1.out⟩
    ·have NS : Hid (sameP M live t.data.toList = sameP M (live.drop (k + 1)) t.data.toList) := by show _ = _; rw [HS.out, HD.out, hx, if_neg (by simpa using ho)]
     have he := text_other ho
     clear hx HD HS ho
     go_wp2_with fail
     refine C.out.mono ?_
     rintro e w1 ⟨rfl, b1⟩
     have B1 := hide (B.out.trans (b1.mono B.out.size))
     clear b1 C
     go_wp2
     go_roundw
     case rel => exact ⟨k + 1, by go_num, by omega, NS, B1⟩
     case measure => simp [intOf]; omega
  ·have NS : Hid (sameP M live t.data.toList = 0) := by show _ = _; rw [HS.out, List.drop_eq_nil_of_le (by have := HN.out; omega)]; rfl
   clear HS
   go_wp2
   go_ret
   rw [NS.out]
   exact ⟨rfl, B.out⟩
theorem sfind (v : Value) (rs : List Rw) (la : Option Addr) (ll lc : Nat) (live : List Int) (t : ByteArray) (w : World) (hl : rs.length ≤ 1048576) (hll : ∀ r ∈ rs, r.2.2.2.length ≤ 1048576) (htx : TxB rs) (ha : FlashRd w v rs) (hlv : ll ≤ 1000000000000000000) (hi : IRow w la ll live) :
 Calls Tryz.prog 26 #[.agg #[v], .slice la ll lc, .string t] w fun e w' => e = .returned (.int .i64 (sameP (scanF (rs.map tellOf)) live t.data.toList)) ∧ Below w.heap.size w w' := by
 have b0 : Below w.heap.size w (w.alloc (.cells #[v] 46)) := (Below.refl _ _).alloc (Nat.le_refl _) _
 have k0 : (w.alloc (.cells #[v] 46)).cell? ⟨w.heap.size, 0, none⟩ = some v := cell_of_row _ _ 0 _ _ _ (heap_alloc_new w (.cells #[v] 46))
 have C := hide (sscanO v rs _ hl hll htx (ha.below b0))
 have HI := hide (hi.below b0)
 have B0 := hide b0
 obtain ⟨M, hM⟩ : ∃ M, scanF (rs.map tellOf) = M := ⟨_, rfl⟩
 have HT : Hid (∀ x ∈ M, x.page.text.size ≤ 1048576) := by rw [← hM]; exact scan_text
 unfold ScOut at C
 rw [hM] at C ⊢
 clear hl hll htx ha hi b0 hM
 go_enter Tryz.func26, Tryz.ntmps26
 go_wp2_with fail
 refine C.out.mono ?_
 rintro e w1 ⟨ad, cap, rfl, h1, h2, h3⟩
 have CS := hide (ssameL ad M.length cap M la ll lc live t w1 (by omega) hlv HT.out h1 (HI.out.below h3))
 have B1 := hide (B0.out.trans (h3.mono B0.out.size))
 clear C h1 h2 h3 HI B0
 go_wp2_with fail
 refine CS.out.mono ?_
 rintro e w2 ⟨rfl, b2⟩
 have B2 := hide (B1.out.trans (b2.mono B1.out.size))
 clear b2 CS
 go_wp2
 go_ret
 exact ⟨rfl, B2.out⟩
theorem kc_one (c : Int) (s : ByteArray) : ∀ u ∈ [Value.int .i64 c, Value.string s], u.oneCell' = true := by
 intro u hu
 simp at hu
 rcases hu with h | h <;> subst h <;> rfl
theorem kc_new (w : World) (c : Int) (s : ByteArray) (t : TypeId) : ∀ (j : Nat) (u : Value), [Value.int .i64 c, Value.string s][j]? = some u → (w.alloc (.cells #[.int .i64 c, .string s] t)).cell? ((⟨w.heap.size, 0, none⟩ : Addr).add j) = some u := fun j u h => cells_new w ([Value.int .i64 c, Value.string s] : List Value).toArray t w.heap.size rfl j u (by simpa using h)
theorem get_len {G : Dg} {kept : List (Int × List UInt8)} {dg : List UInt8 → List UInt8} (h : DK dg G kept) (d : List UInt8) : (G.get d).2.length ≤ kept.length := by
 rw [h d]
 exact List.length_filter_le _ _
def AddCO (lo : Nat) (w : World) (B : Nat) (kept : List (Int × List UInt8)) (e : Ending) (w' : World) : Prop := e = .returned (.tuple #[]) ∧ ∃ G', DM lo w' B G' ∧ DK digL G' kept ∧ Below lo w w'
theorem iaddC (lo B BN : Nat) (M : List Fnd) (G : Dg) (kept : List (Int × List UInt8)) (c : Int) (w : World) (ht : ∀ x ∈ M, x.page.text.size ≤ 1048576) (hk : kept.length ≤ 16777216) (hlo : lo ≤ w.heap.size) (hG : DM lo w B G) (hD : DK digL G kept) (hN : NM w BN M) (hS : StepIn w) :
 Calls Tryz.prog 130 #[.map (some B), .int .i64 c, .map (some BN)] w (AddCO lo w B (kept ++ ((textP M c).map fun t => (c, t)).toList)) := by
 have C := hide (itextOf BN M c w ht hN)
 have HG := hide hG
 have HD := hide hD
 have HS := hide hS
 have HLO := hide hlo
 clear hN hG hD hS ht hlo
 cases hx : textP M c with
 | none =>
  rw [hx, plainV_none] at C
  clear hx
  go_enter Tryz.func130, Tryz.ntmps130
  go_wp2_with fail
  refine C.out.mono ?_
  rintro e w1 ⟨rfl, b1⟩
  have G1 := hide (HG.out.below b1)
  have B1 := hide (b1.mono HLO.out)
  clear b1 C HG
  go_wp2
  refine bodyPost_ret (results_none rfl _ _ _) rfl ?_
  exact ⟨rfl, G, G1.out, by simpa using HD.out, B1.out⟩
 | some o =>
  obtain ⟨i0, hi0, hz0, hz1, hz2⟩ := info_parts infoKc
  have hol := text_len hx
  rw [hx, plainV_some] at C
  have CD := hide (fun W h => implDig_any (BA o) W (by rw [BA_size]; omega) h)
  rw [BA_list] at CD
  clear hx
  obtain ⟨d, hd⟩ : ∃ d, digL o = d := ⟨_, rfl⟩
  rw [hd] at CD
  have HDD := hide hd
  have hgl := get_len HD.out d
  clear hd
  go_enter Tryz.func130, Tryz.ntmps130
  go_wp2_with fail
  refine C.out.mono ?_
  rintro e w1 ⟨rfl, b1⟩
  have G1 := hide (HG.out.below b1)
  have S1 := hide (HS.out.on b1)
  have B1 := hide (b1.mono HLO.out)
  have hs1 := b1.size
  clear b1 C HG HS
  go_wp2_with fail
  refine (CD.out _ S1.out).mono ?_
  rintro e w2 ⟨rfl, b2⟩
  have G2 := hide (G1.out.below b2)
  have hs2 := b2.size
  have HL2 : Hid (lo ≤ w2.heap.size) := by have := HLO.out; show _ ≤ _; omega
  have B2 := hide (B1.out.trans (b2.mono (by have := HLO.out; omega)))
  have hlk := G2.out.look d
  have G3 := hide (G2.out.below ((Below.refl _ _).alloc (Nat.le_refl _) (.cells #[.int .i64 c, .string (BA o)] 226)))
  have O3 := hide (G3.out.own d)
  have N3 := hide (kc_new w2 c (BA o) 226)
  have B3 := hide (B2.out.trans (((Below.refl w2.heap.size w2).alloc (Nat.le_refl _) (.cells #[.int .i64 c, .string (BA o)] 226)).mono HL2.out))
  clear b2 CD G1 S1 B1 G2 B2
  go_wp2_with (at_builtin; refine wpList_append_own_at _ rfl _ _ 224 rfl lo 226 i0 (.agg #[.int .i64 0, .string ⟨#[]⟩]) 2 24 Tryz.underlying224 hi0 hz0 hz1 hz2 rfl (by decide) _ (G.get d).2.length (kccells (G.get d).2) rfl O3.out ⟨w2.heap.size, 0, none⟩ 1 1 [.int .i64 c, .string (BA o)] rfl rfl N3.out (kc_one _ _) ?g1 ?g2 ?g3 ?_)
  case g1 => unfold maxLen; omega
  case g2 => omega
  case g3 => have := HL2.out; simp; omega
  intro v' w4 hown hgrow hnil hloc
  have hl1 : (G.get d).2.length + 1 = ((G.get d).2 ++ [(c, o)]).length := by simp
  have hc1 := kccells_snoc (G.get d).2 (c, o)
  simp only at hc1
  rw [hl1, hc1] at hown
  have hB4 := B3.out.grown hgrow (Nat.le_trans HLO.out B3.out.size) (fun q hq => (O3.out.lt q hq).1)
  obtain ⟨w5, e5, g5, g6⟩ := G3.out.put d hgrow hown (hloc.imp id (fun h => ⟨_, h, by simp⟩))
  have HG5 := hide g5
  have HB5 := hide (hB4.grown g6 (Nat.le_trans HLO.out hB4.size) (fun q hq => by cases hq; exact g5.1))
  clear hown hgrow hnil hloc hl1 hc1 hB4 g5 g6 O3 N3 B3 G3
  go_wp2
  go_end0
  refine ⟨rfl, _, HG5.out, ?_, HB5.out⟩
  have := HD.out.put (c, o) v'
  simp only at this
  rw [HDD.out] at this
  exact this
theorem kc_own_at {W : World} {lo : Nat} {ad : Option Addr} {n cap k : Nat} {L : List (Int × List UInt8)} {p : Int × List UInt8} (h : W.ownsRow lo 226 2 (.slice ad n cap) L.length (kccells L)) (hk : L[k]? = some p) :
 ∃ g, ad = some ⟨g, 0, none⟩ ∧ W.cell? ⟨g, k * 2, none⟩ = some (.int .i64 p.1) ∧ W.cell? ⟨g, k * 2 + 1, none⟩ = some (.string (BA p.2)) := by
 have hl := (List.getElem?_eq_some_iff.1 hk).1
 have h2 := h.2
 rcases h2 with ⟨e, h0⟩ | ⟨g, cap', cur, e, -⟩
 ·omega
 ·injection e with e1 e2 e3
  subst e1
  obtain ⟨h1, h2⟩ := kccells_at L k p hk
  have q1 := h.cells (g := g) rfl (k * 2) _ h1
  have q2 := h.cells (g := g) rfl (k * 2 + 1) _ h2
  rw [addr_at] at q1 q2
  exact ⟨g, rfl, q1, q2⟩
theorem kc_form {W : World} {lo : Nat} {v : Value} {L : List (Int × List UInt8)} (h : W.ownsRow lo 226 2 v L.length (kccells L)) : ∃ ad cap, v = .slice ad L.length cap := by
 rcases h.2 with ⟨rfl, h0⟩ | ⟨g, cap', cur, rfl, -⟩
 ·exact ⟨none, 0, by rw [h0]⟩
 ·exact ⟨_, _, rfl⟩
theorem ifirst (lo B : Nat) (G : Dg) (kept : List (Int × List UInt8)) (t : ByteArray) (w : World) (ht : t.size ≤ 1048576) (hk : kept.length ≤ 16777216) (hG : DM lo w B G) (hD : DK digL G kept) (hS : StepIn w) :
 Calls Tryz.prog 131 #[.map (some B), .string t] w fun e w' => e = .returned (.int .i64 (firstN kept t.data.toList)) ∧ Below w.heap.size w w' := by
 have CD := hide (fun W h => implDig_any t W ht h)
 have HG := hide hG
 have HS := hide hS
 have hgl := get_len hD (digL t.data.toList)
 have HF : Hid (firstN kept t.data.toList = firstN (G.get (digL t.data.toList)).2 t.data.toList) := by show _ = _; rw [hD, firstN_filter]
 clear hG hD hS
 go_enter Tryz.func131, Tryz.ntmps131
 go_wp2_with fail
 refine (CD.out _ HS.out).mono ?_
 rintro e w1 ⟨rfl, b1⟩
 have hlk := (HG.out.below b1).look (digL t.data.toList)
 have hown := (HG.out.below b1).own (digL t.data.toList)
 have B1 := hide b1
 clear b1 CD HG HS
 obtain ⟨L, hL⟩ : ∃ L, (G.get (digL t.data.toList)).2 = L := ⟨_, rfl⟩
 rw [hL] at hown HF hgl
 obtain ⟨ad, cap, hv⟩ := kc_form hown
 rw [hv] at hlk hown
 have HO := hide hown
 obtain ⟨n, hn⟩ : ∃ n, L.length = n := ⟨_, rfl⟩
 have HN := hide hn
 rw [hn] at hlk hgl
 clear hown hL hv hn
 go_wp2
 go_loopw [12] (fun iv wr => ∃ k : Nat, iv = .int .i64 k ∧ k ≤ n ∧ Hid (firstN L t.data.toList = firstN (L.drop k) t.data.toList) ∧ Hid (Below w1.heap.size w1 wr)) (fun iv _ => n - (intOf iv).toNat)
 case atStart => exact ⟨0, rfl, Nat.zero_le _, rfl, Below.refl _ _⟩
 case round =>
  rename World => wr
  obtain ⟨k, rfl, hkn, HS, B2⟩ := hrel
  have hk0 : (0 : Int) ≤ k := by omega
  by_cases hlt : (k : Int) < n
  ·obtain ⟨p, hp⟩ : ∃ p, L[k]? = some p := ⟨_, List.getElem?_eq_getElem (by have := HN.out; omega)⟩
   obtain ⟨g, rfl, c0, c1⟩ := kc_own_at (own_below HO.out B2.out) hp
   have HD := hide (firstN_drop t.data.toList hp)
   obtain ⟨pc, po⟩ := p
   simp only at c0 c1 HD
   have ba : Below wr.heap.size wr (wr.alloc (.cells #[.int .i64 pc, .string (BA po)] 226)) := (Below.refl _ _).alloc (Nat.le_refl _) _
   have B3 := hide (B2.out.trans (ba.mono B2.out.size))
   have y0 : (wr.alloc (.cells #[.int .i64 pc, .string (BA po)] 226)).cell? ⟨wr.heap.size, 0, none⟩ = some (.int .i64 pc) := cell_of_row _ _ 0 _ _ _ (heap_alloc_new wr (.cells #[.int .i64 pc, .string (BA po)] 226))
   have y1 : (wr.alloc (.cells #[.int .i64 pc, .string (BA po)] 226)).cell? ⟨wr.heap.size, 1, none⟩ = some (.string (BA po)) := cell_of_row _ _ 1 _ _ _ (heap_alloc_new wr (.cells #[.int .i64 pc, .string (BA po)] 226))
   clear hp ba
   by_cases ho : po = t.data.toList
   ·have he := text_same ho
    have NS : Hid (firstN kept t.data.toList = pc) := by show _ = _; rw [HF.out, HS.out, HD.out, if_pos ho]
    have BF := hide (B1.out.trans (B3.out.mono B1.out.size))
    clear ho HD HS
    go_wp2
    go_ret
    rw [NS.out]
    exact ⟨rfl, BF.out⟩
   ·have he := text_other ho
    have NS : Hid (firstN L t.data.toList = firstN (L.drop (k + 1)) t.data.toList) := by show _ = _; rw [HS.out, HD.out, if_neg ho]
    clear ho HD HS
    go_wp2
    go_roundw
    case rel => exact ⟨k + 1, by go_num, by omega, NS, B3⟩
    case measure => simp [intOf]; omega
  ·have NS : Hid (firstN kept t.data.toList = 0) := by show _ = _; rw [HF.out, HS.out, List.drop_eq_nil_of_le (by have := HN.out; omega)]; rfl
   have BF := hide (B1.out.trans (B2.out.mono B1.out.size))
   clear HS
   go_wp2
   go_ret
   rw [NS.out]
   exact ⟨rfl, BF.out⟩
theorem ifind (v : Value) (rs : List Rw) (la : Option Addr) (ll lc : Nat) (live : List Int) (t : ByteArray) (w : World) (hl : rs.length ≤ 1048576) (hll : ∀ r ∈ rs, r.2.2.2.length ≤ 1048576) (htx : TxB rs) (ha : FlashRd w v rs) (hlv : ll ≤ 16777216) (hi : IRow w la ll live) (ht : t.size ≤ 1048576) (hH : HalvIn w) (hS : StepIn w) :
 Calls Tryz.prog 100 #[.agg #[v], .slice la ll lc, .string t] w fun e w' => e = .returned (.int .i64 (sameP (scanF (rs.map tellOf)) live t.data.toList)) ∧ Below w.heap.size w w' := by
 have b0 : Below w.heap.size w (w.alloc (.cells #[v] 46)) := (Below.refl _ _).alloc (Nat.le_refl _) _
 have k0 : (w.alloc (.cells #[v] 46)).cell? ⟨w.heap.size, 0, none⟩ = some v := cell_of_row _ _ 0 _ _ _ (heap_alloc_new w (.cells #[v] 46))
 have C := hide (iscanO v rs _ hl hll htx (ha.below b0) (hH.on b0))
 have HI := hide (hi.below b0)
 have HNL := hide hi.1
 have HS := hide (hS.on b0)
 have B0 := hide b0
 obtain ⟨M, hM⟩ : ∃ M, scanF (rs.map tellOf) = M := ⟨_, rfl⟩
 have HT : Hid (∀ x ∈ M, x.page.text.size ≤ 1048576) := by rw [← hM]; exact scan_text
 unfold ScOut at C
 rw [hM] at C ⊢
 have hmm := @run_makeMap Tryz.prog
 clear hl hll htx ha hi b0 hM hH hS
 go_enter Tryz.func100, Tryz.ntmps100
 go_wp2_with fail
 refine C.out.mono ?_
 rintro e w1 ⟨ad, cap, rfl, h1, h2, h3⟩
 have CN := hide (inewestOf ad M.length cap M w1 h2 h1)
 have B1 := hide (B0.out.trans (h3.mono B0.out.size))
 have I1 := hide (HI.out.below h3)
 have S1 := hide (HS.out.on h3)
 clear C h1 h2 h3 HI B0 HS k0
 go_wp2_with fail
 refine CN.out.mono ?_
 rintro e w2 ⟨BN, rfl, -, hN, b2⟩
 have B2 := hide (B1.out.trans (b2.mono B1.out.size))
 have I2 := hide (I1.out.below b2)
 have S2 := hide (S1.out.on b2)
 have N2 := hide hN
 have D0 := hide (DM.made w2)
 have BM : Hid (Below w2.heap.size w2 (w2.alloc (.map #[] 0))) := (Below.refl _ _).alloc (Nat.le_refl _) _
 clear CN b2 hN B1 I1 S1
 go_wp2
 generalize w2.alloc (.map #[] 0) = w3 at BM D0 ⊢
 go_loopw [17] (fun iv wr => ∃ (k : Nat) (G : Dg), iv = .int .i64 k ∧ k ≤ ll ∧ Hid (DM w2.heap.size wr w2.heap.size G) ∧ Hid (DK digL G (keptL M (live.take k))) ∧ Hid (Below w2.heap.size w2 wr)) (fun iv _ => ll - (intOf iv).toNat)
 case atStart => exact ⟨0, [], rfl, Nat.zero_le _, D0, DK.made _, BM⟩
 case round =>
  rename World => wr
  obtain ⟨k, G, rfl, hk, HG, HD, BW⟩ := hrel
  clear D0 BM
  have hk0 : (0 : Int) ≤ k := by omega
  have kz : (keptL M (live.take k)).length ≤ 16777216 := by
   refine Nat.le_trans (List.length_filterMap_le _ _) ?_
   rw [List.length_take]
   omega
  have KZ := hide kz
  clear kz
  by_cases hlt : (k : Int) < ll
  ·obtain ⟨c, hc⟩ : ∃ c, live[k]? = some c := ⟨_, List.getElem?_eq_getElem (by have := HNL.out; omega)⟩
   obtain ⟨lb, lo, rfl, -, cc⟩ := (I2.out.below BW.out).at hc
   have CA := hide (iaddC w2.heap.size w2.heap.size BN M G (keptL M (live.take k)) c wr HT.out KZ.out BW.out.size HG.out HD.out (N2.out.below BW.out) (S2.out.on BW.out))
   have NK : Hid (keptL M (live.take k) ++ ((textP M c).map fun t => (c, t)).toList = keptL M (live.take (k + 1))) := by
    show _ = _
    cases hx : textP M c with
    | none => rw [kept_none hc hx]; simp
    | some o => rw [kept_some hc hx]; rfl
   rw [NK.out] at CA
   clear hc NK HG HD KZ
   go_wp2_with fail
   refine CA.out.mono ?_
   rintro e w4 ⟨rfl, G', h1, h2, h3⟩
   have HG := hide h1
   have HD := hide h2
   have BX := hide (BW.out.trans h3)
   clear h1 h2 h3 CA BW
   go_wp2
   go_roundw
   case rel => exact ⟨k + 1, G', by go_num, by omega, HG, HD, BX⟩
   case measure => simp [intOf]; omega
  ·have ek : live.take k = live := List.take_of_length_le (by have := HNL.out; omega)
   rw [ek] at HD KZ
   have CF := hide (ifirst w2.heap.size w2.heap.size G (keptL M live) t wr ht KZ.out HG.out HD.out (S2.out.on BW.out))
   rw [← same_first] at CF
   clear HG HD KZ ek
   go_wp2_with fail
   refine CF.out.mono ?_
   rintro e w4 ⟨rfl, b4⟩
   have BF := hide (B2.out.trans ((BW.out.trans (b4.mono BW.out.size)).mono B2.out.size))
   clear b4 CF
   go_wp2
   go_ret
   exact ⟨rfl, BF.out⟩
end Go.Proofs.YtcjgjkejhkhknacGreatDoor
