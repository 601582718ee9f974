/-
  The walks of impl's hashers, but for more text.
-/
import Derived.Test.YtaolinlginloaacDoorImplE
import Derived.Test.YtaolinlginloaacDoorDigest
import Derived.Test.YtaolinlginloaacDoorShelf
namespace Go.Proofs.YtaolinlginloaacDoor
open Go.RowKit
open Dig

theorem clone_any (s : ByteArray) (w : World) (hs : s.size ≤ 4000000) :
    Calls Tryd.prog 46 #[.string s] w fun e w' => e = .returned (.string s) ∧ Below w.heap.size w w' := by
  go_enter Tryd.func46, Tryd.ntmps46
  go_wp2_with fail
  refine (Tryd.stringslite_Clone s _ (by omega)).mono ?_
  rintro e w1 ⟨rfl, hb⟩
  go_wp2
  go_ret
  exact ⟨rfl, hb⟩

set_option maxHeartbeats 1000000 in
set_option maxRecDepth 100000 in
theorem end_any (st : List Nat) (r : ByteArray) (n : Nat) (w : World) (hst : St st) (hr : r.size = n % 64) (hn : n ≤ 1000000000) (hT : StepIn w) :
    Calls Tryd.prog 41 #[wagg st, .string r, .int .i64 n] w fun e w' => e = .returned (.string ⟨(endS st r.data.toList n).toArray⟩) ∧ Below w.heap.size w w' := by
  have HT := hide hT
  have hp := padL_last r.data.toList n (by simpa using hr)
  have hrl : r.data.toList.length = r.size := by simp
  have hpl := (padL_len r.data.toList n (by omega)).2
  obtain ⟨t, htt⟩ : ∃ t : ByteArray, t = r ++ ⟨(lastL n).toArray⟩ := ⟨_, rfl⟩
  have htl : t.data.toList = padL r.data.toList n := by rw [htt, ByteArray.data_append, hp]; simp
  have hts : t.size = (padL r.data.toList n).length := by rw [← htl]; simp
  have CB0 : ∀ w', StepIn w' → _ := fun w' h => blocks_any st t w' hst (by omega) h
  have EE : Hid (endS st r.data.toList n = bytesOf (mixes (t.size / 64) st t.data.toList)) := by
    show endS _ _ _ = _
    unfold endS
    rw [hts, htl]
  have hM := mixes_st hst (t.size / 64) t.data.toList
  obtain ⟨M, hMM⟩ : ∃ M, M = mixes (t.size / 64) st t.data.toList := ⟨_, rfl⟩
  rw [← hMM] at CB0 EE hM
  obtain ⟨R, hRR⟩ : ∃ R, R = t.extract (64 * (t.size / 64)) t.size := ⟨_, rfl⟩
  rw [← hRR] at CB0
  have CL0 := last_any n
  obtain ⟨q, hq⟩ : ∃ q : ByteArray, q = ⟨(lastL n).toArray⟩ := ⟨_, rfl⟩
  have hqs : q.size ≤ 200 := by
    have h1 : (r ++ q).size = r.size + q.size := ByteArray.size_append
    rw [hq, ← htt] at h1
    rw [hq]; omega
  rw [← hq] at CL0 htt
  have TT := hide htt.symm
  obtain ⟨m0, m1, m2, m3, m4, m5, m6, m7, hm8, -⟩ := hst.open
  obtain ⟨p0, p1, p2, p3, p4, p5, p6, p7, hp8, -⟩ := hM.open
  have hwM : wagg st = .agg #[.int .u32 m0, .int .u32 m1, .int .u32 m2, .int .u32 m3, .int .u32 m4, .int .u32 m5, .int .u32 m6, .int .u32 m7] := by rw [hm8]; rfl
  have hwP : wagg M = .agg #[.int .u32 p0, .int .u32 p1, .int .u32 p2, .int .u32 p3, .int .u32 p4, .int .u32 p5, .int .u32 p6, .int .u32 p7] := by rw [hp8]; rfl
  rw [hwM, hwP] at CB0
  rw [hwM]
  have HM := hide hM
  have HP := hide hp8
  have CB : Hid (∀ w1, StepIn w1 → VAt w1 w.heap.size st → Below w.heap.size w w1 → Calls Tryd.prog 44 #[.agg #[.int .u32 m0, .int .u32 m1, .int .u32 m2, .int .u32 m3, .int .u32 m4, .int .u32 m5, .int .u32 m6, .int .u32 m7], .string t] w1 fun e w2 => e = .returned (.tuple #[.agg #[.int .u32 p0, .int .u32 p1, .int .u32 p2, .int .u32 p3, .int .u32 p4, .int .u32 p5, .int .u32 p6, .int .u32 p7], .string R]) ∧ St8 w2 w.heap.size m0 m1 m2 m3 m4 m5 m6 m7 ∧ Hid (VAt w2 w.heap.size st) ∧ Hid (Below w.heap.size w w2)) := by
    intro w1 h1 h2 h3
    refine (CB0 w1 h1).mono ?_
    rintro e w2 ⟨rfl, hb⟩
    have h4 := h2.below hb h2.1.1
    have h5 := h4
    rw [hm8] at h5
    exact ⟨rfl, st8_of h5, h4, h3.trans (hb.mono h3.size)⟩
  have CL : Hid (∀ w1, StepIn w1 → VAt w1 w.heap.size st → Below w.heap.size w w1 → Calls Tryd.prog 70 #[.int .i64 n] w1 fun e w2 => e = .returned (.string q) ∧ St8 w2 w.heap.size m0 m1 m2 m3 m4 m5 m6 m7 ∧ Hid (VAt w2 w.heap.size st) ∧ Hid (Below w.heap.size w w2) ∧ Hid (StepIn w2)) := by
    intro w1 h1 h2 h3
    refine (CL0 w1 hn).mono ?_
    rintro e w2 ⟨rfl, hb⟩
    have h4 := h2.below hb h2.1.1
    have h5 := h4
    rw [hm8] at h5
    exact ⟨rfl, st8_of h5, h4, h3.trans (hb.mono h3.size), h1.on hb⟩
  have HS := hide hm8
  have hl8 := hst.1
  clear hT hst hp hpl hrl CB0 CL0 hM hMM hRR hq hwM hwP hm8 hp8 htl hts htt
  go_enter Tryd.func41, Tryd.ntmps41
  go_wp2
  obtain ⟨W1, hW1⟩ : ∃ W1, W1 = w.alloc (.cells #[.int .u32 m0, .int .u32 m1, .int .u32 m2, .int .u32 m3, .int .u32 m4, .int .u32 m5, .int .u32 m6, .int .u32 m7] 71) := ⟨_, rfl⟩
  have hB1 : Below w.heap.size w W1 := by rw [hW1]; exact (Below.refl _ _).alloc (Nat.le_refl _) _
  have hV1 : VAt W1 w.heap.size st := by rw [hW1]; exact v_new w st _ _ (by rw [HS.out]; rfl)
  rw [← hW1]
  clear hW1
  have hV1' := hV1
  rw [HS.out] at hV1'
  obtain ⟨⟨s0, s1, s2, s3, s4, s5, s6, s7⟩, -⟩ := st8_of hV1'
  have CL1 := hide (CL.out W1.drew (HT.out.on hB1.drew) hV1 hB1.drew)
  clear CL hV1 hV1' hB1
  go_region_with (first
    | (go_at_call 70; refine CL1.out.mono ?_; rintro en w2 ⟨rfl, ⟨⟨a0, a1, a2, a3, a4, a5, a6, a7⟩, -⟩, HV2, HB2, HT2⟩)
    | (go_at_call 44; rw [TT.out]; refine (CB.out _ HT2.out HV2.out HB2.out).mono ?_; rintro en w3 ⟨rfl, ⟨⟨c0, c1, c2, c3, c4, c5, c6, c7⟩, ⟨f0, f1, f2, f3, f4, f5, f6, f7⟩⟩, HV3, HB3⟩))
  all_goals
    have hV4 := store8 (p0 := p0) (p1 := p1) (p2 := p2) (p3 := p3) (p4 := p4) (p5 := p5) (p6 := p6) (p7 := p7) HV3.out hl8
    have hB4 := below8 (p0 := p0) (p1 := p1) (p2 := p2) (p3 := p3) (p4 := p4) (p5 := p5) (p6 := p6) (p7 := p7) HB3.out (Nat.le_refl _)
    rw [← HP.out] at hV4
    have HV4 := hide hV4
    have HB4 := hide hB4
    clear hV4 hB4
    generalize (((((((w3.setCell ⟨w.heap.size, 0, none⟩ (.int .u32 p0)).setCell ⟨w.heap.size, 1, none⟩ (.int .u32 p1)).setCell ⟨w.heap.size, 2, none⟩ (.int .u32 p2)).setCell ⟨w.heap.size, 3, none⟩ (.int .u32 p3)).setCell ⟨w.heap.size, 4, none⟩ (.int .u32 p4)).setCell ⟨w.heap.size, 5, none⟩ (.int .u32 p5)).setCell ⟨w.heap.size, 6, none⟩ (.int .u32 p6)).setCell ⟨w.heap.size, 7, none⟩ (.int .u32 p7) = w4 at HV4 HB4 ⊢
    clear HV3 HB3 HV2 HB2 HT2 CB CL1 a0 a1 a2 a3 a4 a5 a6 a7 c0 c1 c2 c3 c4 c5 c6 c7 f0 f1 f2 f3 f4 f5 f6 f7 s0 s1 s2 s3 s4 s5 s6 s7 TT
    have hM8 := HM.out.1
    go_wp2_with (refine wpList_load_words rfl _ _ rfl w.heap.size rfl M _ HV4.out.1 Tryd.underlying71 rfl (by rw [hM8]; exact info8) ?_)
    refine (asBytes_anyD M _ HM.out).mono ?_
    rintro en w5 ⟨rfl, hb5⟩
    have HB5 : Hid (Below w.heap.size w w5) := HB4.out.trans (hb5.mono HB4.out.size)
    obtain ⟨D, hD⟩ : ∃ D, bytesOf M = D := ⟨_, rfl⟩
    rw [hD] at EE
    rw [hD]
    clear hD hb5 HB4 HV4
    go_wp2
    go_ret
    exact ⟨by rw [EE.out]; rfl, HB5.out⟩
end Go.Proofs.YtaolinlginloaacDoor
