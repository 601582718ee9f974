/-
  New; Digest; ImplH; ImplD; SPlain
-/
import Derived.Test.YtcjgjkejhkhknabGreatDoorPk46
import Derived.Test.YtcjgjkejhkhknabGreatDoorPk44
import Derived.Test.YtcjgjkejhkhknabGreatDoorPk47
import Derived.Test.YtcjgjkejhkhknabGreatDoorShelf
import Derived.Test.YtcjgjkejhkhknabGreatDoorPk24
/-
  The walk of the specification's HasherNew.
-/
namespace Go.Proofs.YtcjgjkejhkhknabGreatDoor
open Go.RowKit
open Dig

end Go.Proofs.YtcjgjkejhkhknabGreatDoor

/-
  The walk of the specification's DigestOf, and of the laws' own helpers on hashers.
-/
namespace Go.Proofs.YtcjgjkejhkhknabGreatDoor
open Go.RowKit
open Dig

/-- The digest of a text. -/
def digL (t : List UInt8) : List UInt8 := endL (bytesOf (mixes (t.length / 64) first t)) (t.drop (64 * (t.length / 64))) t.length

theorem empty_append' (t : ByteArray) : (⟨#[]⟩ : ByteArray) ++ t = t := by
  apply ByteArray.ext
  simp [ByteArray.data_append]
theorem size_mk (l : List UInt8) : (⟨l.toArray⟩ : ByteArray).size = l.length := by show l.toArray.size = _; simp
theorem list_mk (l : List UInt8) : (⟨l.toArray⟩ : ByteArray).data.toList = l := by simp
theorem right_new : HRight ⟨(bytesOf first).toArray⟩ ⟨#[]⟩ ((0 : Nat) : Int) := by
  refine ⟨by rw [size_mk, bytesOf_len first_st], by decide, by decide, by decide, by decide⟩

theorem right_more (s r t : ByteArray) (n : Nat) (h : HRight s r n) (hc : (n : Int) + t.size ≤ 1000000000) :
    HRight ⟨(bytesOf (mixes ((r ++ t).size / 64) (words s.data.toList) (r ++ t).data.toList)).toArray⟩ ((r ++ t).extract (64 * ((r ++ t).size / 64)) (r ++ t).size) ((n + t.size : Nat) : Int) := by
  obtain ⟨h1, h2, h3, h4, h5⟩ := h
  have hst := words_st s.data.toList (by simpa using h1)
  have hsz : (r ++ t).size = r.size + t.size := ByteArray.size_append
  have he : ((r ++ t).extract (64 * ((r ++ t).size / 64)) (r ++ t).size).size = (r ++ t).size - 64 * ((r ++ t).size / 64) := by simp
  refine ⟨by rw [size_mk, bytesOf_len (mixes_st hst _ _)], by rw [he]; omega, by omega, by omega, ?_⟩
  rw [he, hsz]
  omega

theorem right_first (t : ByteArray) (ht : t.size ≤ 1048576) : HRight ⟨(bytesOf (mixes (t.size / 64) first t.data.toList)).toArray⟩ (t.extract (64 * (t.size / 64)) t.size) (t.size : Int) := by
  refine ⟨by rw [size_mk, bytesOf_len (mixes_st first_st _ _)], by simp; omega, by omega, by omega, ?_⟩
  simp
  omega
theorem digL_of (t : ByteArray) : digL t.data.toList = endL (bytesOf (mixes (t.size / 64) first t.data.toList)) (t.extract (64 * (t.size / 64)) t.size).data.toList t.size := by
  have hl : t.data.toList.length = t.size := by simp
  have hx : (t.extract (64 * (t.size / 64)) t.size).data.toList = t.data.toList.drop (64 * (t.size / 64)) := by
    rw [Lib.extract_data, List.take_of_length_le (by simp)]
  unfold digL
  rw [hl, hx]
end Go.Proofs.YtcjgjkejhkhknabGreatDoor

/-
  The walks of impl's hashers, but for more text.
-/
namespace Go.Proofs.YtcjgjkejhkhknabGreatDoor
open Go.RowKit
open Dig

theorem clone_any (s : ByteArray) (w : World) (hs : s.size ≤ 4000000) :
    Calls Tryz.prog 99 #[.string s] w fun e w' => e = .returned (.string s) ∧ Below w.heap.size w w' := by
  go_enter Tryz.func99, Tryz.ntmps99
  go_wp2_with fail
  refine (Tryz.stringslite_Clone s _ (by omega)).mono ?_
  rintro e w1 ⟨rfl, hb⟩
  go_wp2
  go_ret
  exact ⟨rfl, hb⟩

set_option maxHeartbeats 1000000 in
set_option maxRecDepth 100000 in
theorem end_any (st : List Nat) (r : ByteArray) (n : Nat) (w : World) (hst : St st) (hr : r.size = n % 64) (hn : n ≤ 1000000000) (hT : StepIn w) :
    Calls Tryz.prog 75 #[wagg st, .string r, .int .i64 n] w fun e w' => e = .returned (.string ⟨(endS st r.data.toList n).toArray⟩) ∧ Below w.heap.size w w' := by
  have HT := hide hT
  have hp := padL_last r.data.toList n (by simpa using hr)
  have hrl : r.data.toList.length = r.size := by simp
  have hpl := (padL_len r.data.toList n (by omega)).2
  obtain ⟨t, htt⟩ : ∃ t : ByteArray, t = r ++ ⟨(lastL n).toArray⟩ := ⟨_, rfl⟩
  have htl : t.data.toList = padL r.data.toList n := by rw [htt, ByteArray.data_append, hp]; simp
  have hts : t.size = (padL r.data.toList n).length := by rw [← htl]; simp
  have CB0 : ∀ w', StepIn w' → _ := fun w' h => blocks_any st t w' hst (by omega) h
  have EE : Hid (endS st r.data.toList n = bytesOf (mixes (t.size / 64) st t.data.toList)) := by
    show endS _ _ _ = _
    unfold endS
    rw [hts, htl]
  have hM := mixes_st hst (t.size / 64) t.data.toList
  obtain ⟨M, hMM⟩ : ∃ M, M = mixes (t.size / 64) st t.data.toList := ⟨_, rfl⟩
  rw [← hMM] at CB0 EE hM
  obtain ⟨R, hRR⟩ : ∃ R, R = t.extract (64 * (t.size / 64)) t.size := ⟨_, rfl⟩
  rw [← hRR] at CB0
  have CL0 := last_any n
  obtain ⟨q, hq⟩ : ∃ q : ByteArray, q = ⟨(lastL n).toArray⟩ := ⟨_, rfl⟩
  have hqs : q.size ≤ 200 := by
    have h1 : (r ++ q).size = r.size + q.size := ByteArray.size_append
    rw [hq, ← htt] at h1
    rw [hq]; omega
  rw [← hq] at CL0 htt
  have TT := hide htt.symm
  obtain ⟨m0, m1, m2, m3, m4, m5, m6, m7, hm8, -⟩ := hst.open
  obtain ⟨p0, p1, p2, p3, p4, p5, p6, p7, hp8, -⟩ := hM.open
  have hwM : wagg st = .agg #[.int .u32 m0, .int .u32 m1, .int .u32 m2, .int .u32 m3, .int .u32 m4, .int .u32 m5, .int .u32 m6, .int .u32 m7] := by rw [hm8]; rfl
  have hwP : wagg M = .agg #[.int .u32 p0, .int .u32 p1, .int .u32 p2, .int .u32 p3, .int .u32 p4, .int .u32 p5, .int .u32 p6, .int .u32 p7] := by rw [hp8]; rfl
  rw [hwM, hwP] at CB0
  rw [hwM]
  have HM := hide hM
  have HP := hide hp8
  have CB : Hid (∀ w1, StepIn w1 → VAt w1 w.heap.size st → Below w.heap.size w w1 → Calls Tryz.prog 74 #[.agg #[.int .u32 m0, .int .u32 m1, .int .u32 m2, .int .u32 m3, .int .u32 m4, .int .u32 m5, .int .u32 m6, .int .u32 m7], .string t] w1 fun e w2 => e = .returned (.tuple #[.agg #[.int .u32 p0, .int .u32 p1, .int .u32 p2, .int .u32 p3, .int .u32 p4, .int .u32 p5, .int .u32 p6, .int .u32 p7], .string R]) ∧ St8 w2 w.heap.size m0 m1 m2 m3 m4 m5 m6 m7 ∧ Hid (VAt w2 w.heap.size st) ∧ Hid (Below w.heap.size w w2)) := by
    intro w1 h1 h2 h3
    refine (CB0 w1 h1).mono ?_
    rintro e w2 ⟨rfl, hb⟩
    have h4 := h2.below hb h2.1.1
    have h5 := h4
    rw [hm8] at h5
    exact ⟨rfl, st8_of h5, h4, h3.trans (hb.mono h3.size)⟩
  have CL : Hid (∀ w1, StepIn w1 → VAt w1 w.heap.size st → Below w.heap.size w w1 → Calls Tryz.prog 106 #[.int .i64 n] w1 fun e w2 => e = .returned (.string q) ∧ St8 w2 w.heap.size m0 m1 m2 m3 m4 m5 m6 m7 ∧ Hid (VAt w2 w.heap.size st) ∧ Hid (Below w.heap.size w w2) ∧ Hid (StepIn w2)) := by
    intro w1 h1 h2 h3
    refine (CL0 w1 hn).mono ?_
    rintro e w2 ⟨rfl, hb⟩
    have h4 := h2.below hb h2.1.1
    have h5 := h4
    rw [hm8] at h5
    exact ⟨rfl, st8_of h5, h4, h3.trans (hb.mono h3.size), h1.on hb⟩
  have HS := hide hm8
  have hl8 := hst.1
  clear hT hst hp hpl hrl CB0 CL0 hM hMM hRR hq hwM hwP hm8 hp8 htl hts htt
  go_enter Tryz.func75, Tryz.ntmps75
  go_wp2
  obtain ⟨W1, hW1⟩ : ∃ W1, W1 = w.alloc (.cells #[.int .u32 m0, .int .u32 m1, .int .u32 m2, .int .u32 m3, .int .u32 m4, .int .u32 m5, .int .u32 m6, .int .u32 m7] 133) := ⟨_, rfl⟩
  have hB1 : Below w.heap.size w W1 := by rw [hW1]; exact (Below.refl _ _).alloc (Nat.le_refl _) _
  have hV1 : VAt W1 w.heap.size st := by rw [hW1]; exact v_new w st _ _ (by rw [HS.out]; rfl)
  rw [← hW1]
  clear hW1
  have hV1' := hV1
  rw [HS.out] at hV1'
  obtain ⟨⟨s0, s1, s2, s3, s4, s5, s6, s7⟩, -⟩ := st8_of hV1'
  have CL1 := hide (CL.out W1.drew (HT.out.on hB1.drew) hV1 hB1.drew)
  clear CL hV1 hV1' hB1
  go_region_with (first
    | (go_at_call 106; refine CL1.out.mono ?_; rintro en w2 ⟨rfl, ⟨⟨a0, a1, a2, a3, a4, a5, a6, a7⟩, -⟩, HV2, HB2, HT2⟩)
    | (go_at_call 74; rw [TT.out]; refine (CB.out _ HT2.out HV2.out HB2.out).mono ?_; rintro en w3 ⟨rfl, ⟨⟨c0, c1, c2, c3, c4, c5, c6, c7⟩, ⟨f0, f1, f2, f3, f4, f5, f6, f7⟩⟩, HV3, HB3⟩))
  all_goals
    have hV4 := store8 (p0 := p0) (p1 := p1) (p2 := p2) (p3 := p3) (p4 := p4) (p5 := p5) (p6 := p6) (p7 := p7) HV3.out hl8
    have hB4 := below8 (p0 := p0) (p1 := p1) (p2 := p2) (p3 := p3) (p4 := p4) (p5 := p5) (p6 := p6) (p7 := p7) HB3.out (Nat.le_refl _)
    rw [← HP.out] at hV4
    have HV4 := hide hV4
    have HB4 := hide hB4
    clear hV4 hB4
    generalize (((((((w3.setCell ⟨w.heap.size, 0, none⟩ (.int .u32 p0)).setCell ⟨w.heap.size, 1, none⟩ (.int .u32 p1)).setCell ⟨w.heap.size, 2, none⟩ (.int .u32 p2)).setCell ⟨w.heap.size, 3, none⟩ (.int .u32 p3)).setCell ⟨w.heap.size, 4, none⟩ (.int .u32 p4)).setCell ⟨w.heap.size, 5, none⟩ (.int .u32 p5)).setCell ⟨w.heap.size, 6, none⟩ (.int .u32 p6)).setCell ⟨w.heap.size, 7, none⟩ (.int .u32 p7) = w4 at HV4 HB4 ⊢
    clear HV3 HB3 HV2 HB2 HT2 CB CL1 a0 a1 a2 a3 a4 a5 a6 a7 c0 c1 c2 c3 c4 c5 c6 c7 f0 f1 f2 f3 f4 f5 f6 f7 s0 s1 s2 s3 s4 s5 s6 s7 TT
    have hM8 := HM.out.1
    go_wp2_with (refine wpList_load_words rfl _ _ rfl w.heap.size rfl M _ HV4.out.1 Tryz.underlying133 rfl (by rw [hM8]; exact info8) ?_)
    refine (asBytes_anyD M _ HM.out).mono ?_
    rintro en w5 ⟨rfl, hb5⟩
    have HB5 : Hid (Below w.heap.size w w5) := HB4.out.trans (hb5.mono HB4.out.size)
    obtain ⟨D, hD⟩ : ∃ D, bytesOf M = D := ⟨_, rfl⟩
    rw [hD] at EE
    rw [hD]
    clear hD hb5 HB4 HV4
    go_wp2
    go_ret
    exact ⟨by rw [EE.out]; rfl, HB5.out⟩
end Go.Proofs.YtcjgjkejhkhknabGreatDoor

/-
  The walk of impl's DigestOf.
-/
namespace Go.Proofs.YtcjgjkejhkhknabGreatDoor
open Go.RowKit
open Dig

theorem digL_endS (t : ByteArray) : digL t.data.toList = endS (mixes (t.size / 64) first t.data.toList) (t.extract (64 * (t.size / 64)) t.size).data.toList t.size := by
  rw [digL_of, ← endS_words, words_bytesOf (mixes_st first_st _ _)]

set_option maxHeartbeats 1000000 in
set_option maxRecDepth 100000 in
theorem implDig_any (t : ByteArray) (w : World) (ht : t.size ≤ 1048576) (hT : StepIn w) :
    Calls Tryz.prog 47 #[.string t] w fun e w' => e = .returned (.string ⟨(digL t.data.toList).toArray⟩) ∧ Below w.heap.size w w' := by
  have HT := hide hT
  have hM := mixes_st first_st (t.size / 64) t.data.toList
  have hRs : (t.extract (64 * (t.size / 64)) t.size).size = t.size % 64 := by simp; omega
  have CB := hide (fun w' h => blocks_any first t w' first_st (by omega) h)
  have EE := hide (digL_endS t)
  obtain ⟨M, hMM⟩ : ∃ M, M = mixes (t.size / 64) first t.data.toList := ⟨_, rfl⟩
  obtain ⟨R, hRR⟩ : ∃ R, R = t.extract (64 * (t.size / 64)) t.size := ⟨_, rfl⟩
  rw [← hMM, ← hRR] at CB EE
  rw [← hMM] at hM
  rw [← hRR] at hRs
  have CE := hide (fun w' h => end_any M R t.size w' hM hRs (by omega) h)
  have HM := hide hM
  have hM8 := hM.1
  obtain ⟨D, hD⟩ : ∃ D, endS M R.data.toList t.size = D := ⟨_, rfl⟩
  rw [hD] at CE EE
  clear hT hM hMM hRR hD
  obtain ⟨F, hF⟩ : ∃ F, F = first := ⟨_, rfl⟩
  have CF := hide firstState_any
  rw [← hF] at CF CB
  clear hF
  go_enter Tryz.func47, Tryz.ntmps47
  go_wp2_with fail
  refine (CF.out _).mono ?_
  rintro en w1 ⟨rfl, hb1⟩
  have HT1 := hide (HT.out.on hb1)
  have hs1 := hb1.size
  go_wp2_with fail
  refine (CB.out _ HT1.out).mono ?_
  rintro en w2 ⟨rfl, hb2⟩
  have HT2 := hide (HT1.out.on hb2)
  have hs2 := hb2.size
  have HB2 : Hid (Below w.heap.size w w2) := hb1.trans (hb2.mono hs1)
  clear HT HT1 hb1 hb2 CF CB
  have hz8 : (List.replicate 8 0 : List Nat).length = 8 := rfl
  go_wp2_with (first
    | (refine wpList_store_words rfl _ _ _ rfl w2.heap.size M (List.replicate 8 0) rfl rfl (v_new w2 (List.replicate 8 0) _ _ rfl) (by rw [hM8, hz8]) (by rw [hM8]; exact info8) ?_
       intro w3 hw3
       have HV3 : Hid (VAt w3 w2.heap.size M ∧ Below w2.heap.size w2 w3) := by
         rw [hw3]
         exact ⟨(v_new w2 (List.replicate 8 0) _ _ rfl).store M (by rw [hM8, hz8]), below_cellsD (Nat.le_refl _) _ _ _ ((Below.refl _ _).alloc (Nat.le_refl _) _)⟩
       clear hw3)
    | refine wpList_load_words rfl _ _ rfl w2.heap.size rfl M _ HV3.out.1.1 Tryz.underlying133 rfl (by rw [hM8]; exact info8) ?_)
  refine (CE.out _ (HT2.out.on HV3.out.2)).mono ?_
  rintro en w4 ⟨rfl, hb4⟩
  have HB4 : Hid (Below w.heap.size w w4) := by
    have h3 := HB2.out.trans (HV3.out.2.mono HB2.out.size)
    exact h3.trans (hb4.mono h3.size)
  clear CE HV3 HT2 HB2 hb4
  go_wp2
  go_ret
  exact ⟨by rw [EE.out]; rfl, HB4.out⟩

end Go.Proofs.YtcjgjkejhkhknabGreatDoor

/-
  The walk of the specification's plain text of tokens.
-/
namespace Go.Proofs.YtcjgjkejhkhknabGreatDoor
open Go.RowKit
open Pack

theorem in_b (x lo hi : Int) (b : Bool) (w : World) (h : (lo ≤ x ∧ x ≤ hi ∧ b = true) ∨ ((x < lo ∨ lo ≤ x ∧ ¬ x ≤ hi) ∧ b = false)) :
    Calls Tryz.prog 63 #[.int .i64 x, .int .i64 lo, .int .i64 hi] w fun e w' => e = .returned (.bool b) ∧ w' = w := by
  rcases h with ⟨h1, h2, rfl⟩ | ⟨h1 | ⟨h1, h2⟩, rfl⟩
  all_goals
    go_enter Tryz.func63, Tryz.ntmps63
    go_wp2
    go_ret
    exact ⟨rfl, rfl⟩
theorem in_any (x lo hi : Int) (w : World) :
    Calls Tryz.prog 63 #[.int .i64 x, .int .i64 lo, .int .i64 hi] w fun e w' => e = .returned (.bool (decide (lo ≤ x ∧ x ≤ hi))) ∧ w' = w := by
  apply in_b
  by_cases h : lo ≤ x ∧ x ≤ hi
  · exact .inl ⟨h.1, h.2, decide_eq_true h⟩
  · exact .inr ⟨by omega, decide_eq_false h⟩

theorem bytes_news {w : World} {g : Nat} {l : List UInt8} (h : BytesAt w g l) : ∀ (j : Nat) (u : Value), (bcells l)[j]? = some u → w.cell? ((⟨g, 0, none⟩ : Addr).add j) = some u := by
  intro j u hj
  rw [addr_at]
  have := bytes_range h j u hj
  rwa [Nat.zero_add] at this

set_option maxHeartbeats 2000000 in
set_option maxRecDepth 100000 in
theorem splain_any (v : Value) (ls : List (Int × Int × ByteArray)) (B : Nat) (w : World) (hl : ls.length ≤ 1048576) (ha : w.ownsRow B 190 3 v ls.length (gcells ls)) :
    Calls Tryz.prog 87 #[v] w fun e w' => e = .returned (plainV (gplain ls)) ∧ Below w.heap.size w w' := by
  obtain ⟨i0, hi, hz0, hz1, hz2⟩ := info_parts infoByte
  obtain ⟨ad, capa, rfl, a1, a2, a3⟩ := row_form3 ha
  unfold maxLen at a2
  have A3 := hide a3
  have HA := hide ha
  clear a3 ha
  have EI := hide in_any
  go_enter Tryz.func87, Tryz.ntmps87
  go_wp2
  go_loopw [4, 5] (fun pv iv wr => ∃ (k : Nat) (o : List UInt8), k ≤ ls.length ∧ o.length ≤ 64 ∧ iv = .int .i64 k ∧ Hid (wr.ownsRow w.heap.size 5 1 pv o.length (bcells o)) ∧ Hid (gplain ls = gplainFrom o (ls.drop k)) ∧ Hid (Below w.heap.size w wr)) (fun _ iv _ => ls.length - (intOf iv).toNat)
  case atStart => exact ⟨0, [], Nat.zero_le _, by simp, rfl, World.ownsRow_made w #[] 0 (Nat.le_refl _) (by unfold maxLen; omega) (by simp), rfl, (Below.refl _ _).alloc (Nat.le_refl _) _⟩
  case round =>
    obtain ⟨k, o, hk, ho, rfl, HO, HG, HW⟩ := hrel
    have hsz := HW.out.size
    by_cases hlt : (k : Int) < ls.length
    · obtain ⟨ga, rfl, _, hga⟩ := A3.out (by omega)
      have hkl : k < ls.length := by omega
      obtain ⟨x, y, t, ht⟩ : ∃ x y t, ls[k]? = some (x, y, t) := ⟨ls[k].1, ls[k].2.1, ls[k].2.2, List.getElem?_eq_getElem hkl⟩
      obtain ⟨c1, c2, c3⟩ := gown_cells (own_below HA.out HW.out) ht
      simp only at c1 c2 c3
      have hst := gplain_step o ls k _ ht
      simp only at hst
      rw [← HG.out] at hst
      have HST := hide hst
      have k0 : (0 : Int) ≤ k := by omega
      obtain ⟨ap, capp, rfl, -⟩ := row_form3 HO.out
      have CT := hide (tok_new wr x y t)
      have HO5 := hide (HO.out.alloc (.cells #[.int .i64 x, .int .i64 y, .string t] 190))
      have HW5 := hide (HW.out.alloc hsz (.cells #[.int .i64 x, .int .i64 y, .string t] 190))
      have HBad : Hid (¬ (GOk o.length (x, y, t) ∧ o.length + t.size + y.toNat ≤ 64) → gplain ls = none) := fun h => by rw [HST.out, if_neg h]
      clear ht hst HG
      by_cases hx0 : (x == 0) = true
      · obtain rfl : x = 0 := by simpa using hx0
        by_cases hin : 1 ≤ (t.size : Int) ∧ (t.size : Int) ≤ 31
        · by_cases hy0 : (y != 0) = false
          · obtain rfl : y = 0 := by simpa using hy0
            obtain ⟨w5, hw5⟩ : ∃ w5, w5 = wr.alloc (.cells #[.int .i64 0, .int .i64 0, .string t] 190) := ⟨_, rfl⟩
            obtain ⟨C, w6, hcv, hb6, hby⟩ := bytes_new w5 t
            have hs5 : w5.heap.size = wr.heap.size + 1 := by rw [hw5]; simp
            rw [hs5] at hcv hby hb6
            rw [← hw5] at HO5 HW5
            have HO6 := hide (own_below HO5.out (by rw [hs5]; exact hb6))
            have HW6 := hide (HW5.out.trans (hb6.mono (by omega)))
            have HNW := hide (bytes_news hby)
            have hs6 : w.heap.size ≤ w6.heap.size := by have := hb6.size; omega
            rw [hw5] at hcv
            have hbl : (bcells t.data.toList).length = t.size * 1 := by simp [bcells]
            have hgt : Hid (gtell o (0, 0, t) = o ++ t.data.toList) := rfl
            have HOK : Hid (o.length + t.size ≤ 64 → gplain ls = gplainFrom (o ++ t.data.toList) (ls.drop (k + 1))) := fun h => by
              rw [HST.out, if_pos ⟨Or.inl ⟨rfl, (by show 1 ≤ t.size; omega), (by show t.size ≤ 31; omega), rfl⟩, by simpa using h⟩, hgt.out]
            have hbad2 : Hid (¬ o.length + t.size ≤ 64 → gplain ls = none) := fun h => HBad.out (fun h2 => h (by omega))
            clear hb6 hby hw5 hs5 HST HBad hgt
            go_wp2_with fail
            refine (EI.out _ _ _ _).mono ?_
            rintro e w7 ⟨rfl, rfl⟩
            rw [decide_eq_true hin]
            go_wp2_with (at_builtin; refine wpList_append_own _ rfl _ _ 191 rfl w.heap.size 5 i0 (.int .u8 0) 1 1 Tryz.underlying191 hi hz0 hz1 hz2 rfl (by decide) _ _ _ rfl (by exact HO6.out) ⟨wr.heap.size + 1, 0, none⟩ t.size C (bcells t.data.toList) rfl hbl (by exact HNW.out) (bcells_one _) (by unfold maxLen; omega) (by omega) (by omega) ?_)
            intro v8 w8 ho8 hg8 _
            have HW8 := hide (HW6.out.grown hg8 (by omega) (fun j hj => (HO6.out.lt j hj).1))
            have HO8 : Hid (w8.ownsRow w.heap.size 5 1 v8 (o ++ t.data.toList).length (bcells (o ++ t.data.toList))) := by
              show World.ownsRow _ _ _ _ _ _ _
              have e1 : (o ++ t.data.toList).length = o.length + t.size := by simp
              have e2 : bcells (o ++ t.data.toList) = bcells o ++ bcells t.data.toList := by simp [bcells]
              rw [e1, e2]
              exact ho8
            obtain ⟨ap8, cp8, rfl, -⟩ := row_form3 HO8.out
            have hlen8 : (o ++ t.data.toList).length = o.length + t.size := by simp
            obtain ⟨q, hq⟩ : ∃ q, o ++ t.data.toList = q := ⟨_, rfl⟩
            rw [hq] at HO8 HOK hlen8 ⊢
            have HL := hide hlen8
            clear ho8 hg8 HO6 HW6 hq hlen8 HNW
            by_cases h64 : (64 : Int) < q.length
            · have HX := hide (hbad2.out (by have := HL.out; omega))
              go_wp2
              exact bodyPost_ret (results_tmp2 rfl _ _ _) rfl ⟨by rw [HX.out]; rfl, HW8.out⟩
            · have HG2 := hide (HOK.out (by have := HL.out; omega))
              have hq64 : q.length ≤ 64 := by omega
              clear HOK hbad2 HL
              go_wp2
              go_roundw
              case rel => exact ⟨k + 1, q, by omega, hq64, by go_num, HO8, HG2, HW8⟩
              case measure => simp [intOf]; omega
          · have hy1 : (y != 0) = true := by simpa using hy0
            have HX := hide (HBad.out (fun h => by have := h.1; unfold GOk at this; simp at this hy1; omega))
            go_wp2_with fail
            refine (EI.out _ _ _ _).mono ?_
            rintro e w7 ⟨rfl, rfl⟩
            rw [decide_eq_true hin]
            go_wp2
            exact bodyPost_ret (results_tmp2 rfl _ _ _) rfl ⟨by rw [HX.out]; rfl, HW5.out⟩
        · have HX := hide (HBad.out (fun h => by have := h.1; unfold GOk at this; simp only at this; omega))
          go_wp2_with fail
          refine (EI.out _ _ _ _).mono ?_
          rintro e w7 ⟨rfl, rfl⟩
          rw [decide_eq_false hin]
          go_wp2
          exact bodyPost_ret (results_tmp2 rfl _ _ _) rfl ⟨by rw [HX.out]; rfl, HW5.out⟩
      · have hx1 : (x == 0) = false := by simpa using hx0
        have ex : ¬ x = 0 := by simpa using hx0
        by_cases hin : 1 ≤ x ∧ x ≤ (o.length : Int)
        · by_cases hin2 : 1 ≤ y ∧ y ≤ 31
          · by_cases ht0 : t = ⟨#[]⟩
            · subst ht0
              obtain ⟨A, rfl⟩ : ∃ A : Nat, x = A := ⟨x.toNat, by omega⟩
              obtain ⟨N, rfl⟩ : ∃ N : Nat, y = N := ⟨y.toNat, by omega⟩
              have hA1 : 1 ≤ A := by omega
              have hA2 : A ≤ o.length := by omega
              have hN1 : N ≤ 31 := by omega
              have hN2 : 1 ≤ N := by omega
              have HOK : Hid (o.length + N ≤ 64 → gplain ls = gplainFrom (gtell o ((A : Int), (N : Int), ⟨#[]⟩)) (ls.drop (k + 1))) := fun h => by
                rw [HST.out, if_pos ⟨Or.inr ⟨by show (1 : Int) ≤ A; omega, by show (A : Int) ≤ o.length; omega, by show (1 : Int) ≤ N; omega, by show (N : Int) ≤ 31; omega, rfl⟩, by rw [Int.toNat_natCast]; exact h⟩]
              have hbad2 : Hid (¬ o.length + N ≤ 64 → gplain ls = none) := fun h => HBad.out (fun h2 => h (by have := h2.2; rw [Int.toNat_natCast] at this; exact this))
              have hg5 : wr.heap.size < (wr.alloc (.cells #[.int .i64 (A : Int), .int .i64 (N : Int), .string ⟨#[]⟩] 190)).heap.size := CT.out.lt
              obtain ⟨q0, q1, q2⟩ := CT.out.cells
              clear HST HBad ex
              go_wp2_with fail
              refine (EI.out _ _ _ _).mono ?_
              rintro e w7 ⟨rfl, rfl⟩
              rw [decide_eq_true hin]
              go_wp2_with fail
              refine (EI.out _ _ _ _).mono ?_
              rintro e w7 ⟨rfl, rfl⟩
              rw [decide_eq_true hin2]
              clear hin hin2
              generalize hw5 : wr.alloc (.cells #[.int .i64 (A : Int), .int .i64 (N : Int), .string ⟨#[]⟩] 190) = w5 at CT HO5 HW5 q0 q1 q2 hg5 ⊢
              generalize wr.heap.size = g at CT q0 q1 q2 hg5 hsz hw5 ⊢
              clear hw5 c1 c2 c3
              go_wp2
              go_loopw [4, 7] (fun pv jv w8 => ∃ (j : Nat) (q : List UInt8), j ≤ N ∧ jv = .int .i64 j ∧ o.length ≤ q.length ∧ q.length ≤ 95 ∧ Hid (q.length = o.length + j) ∧ Hid (w8.ownsRow w.heap.size 5 1 pv q.length (bcells q)) ∧ Hid (gtell o ((A : Int), (N : Int), ⟨#[]⟩) = again (N - j) A q) ∧ Hid (TokAt w8 g A N ⟨#[]⟩) ∧ Hid (Below w.heap.size w w8)) (fun _ jv _ => N - (intOf jv).toNat)
              case atStart => exact ⟨0, o, Nat.zero_le _, rfl, Nat.le_refl _, by omega, rfl, HO5, (by show _ = _; unfold gtell; simp), CT, HW5⟩
              case round =>
                obtain ⟨j, q, hj, rfl, hq1, hq2, HQL, HO8, HG8, HT8, HW8⟩ := hrel
                obtain ⟨q0, q1, q2⟩ := HT8.out.cells
                by_cases hjn : (j : Int) < N
                · obtain ⟨ap8, cp8, rfl, -, hcp8, h8⟩ := row_form3 HO8.out
                  obtain ⟨gp, rfl, _, _⟩ := h8 (by omega)
                  obtain ⟨d, hd⟩ : ∃ d : Nat, d = q.length - A := ⟨_, rfl⟩
                  have hd2 : (q.length : Int) - A = (d : Int) := by omega
                  have hdl : d < q.length := by omega
                  have cb : _ := HO8.out.cells (g := gp) rfl d _ (bcells_getD q d hdl)
                  rw [addr_at] at cb
                  have HG9 : Hid (gtell o ((A : Int), (N : Int), ⟨#[]⟩) = again (N - (j + 1)) A (q ++ [q.getD d 0])) := by
                    show _ = _
                    rw [HG8.out, show N - j = (N - (j + 1)) + 1 by omega, again_next, ← hd]
                  have hs8 := HW8.out.size
                  have hq95 : q.length + 1 ≤ 95 := by have := HQL.out; omega
                  obtain ⟨c, hc⟩ : ∃ c : UInt8, q.getD d 0 = c := ⟨_, rfl⟩
                  rw [hc] at cb HG9
                  obtain ⟨z, hz⟩ : ∃ z : Int, (c.toNat : Int) = z := ⟨_, rfl⟩
                  rw [hz] at cb
                  have HZ := hide hz
                  clear hc hd HG8 hz
                  have d0 : (0 : Int) ≤ d := by omega
                  go_wp2_with (at_builtin; refine wpList_append_own _ rfl _ _ 191 rfl w.heap.size 5 i0 (.int .u8 0) 1 1 Tryz.underlying191 hi hz0 hz1 hz2 rfl (by decide) _ _ _ rfl (by exact HO8.out.alloc _) ⟨_, 0, none⟩ 1 1 [Value.int .u8 z] rfl rfl (by exact one_cell _ _ _) (one_u8 _) (by unfold maxLen; omega) (by omega) (by simp; omega) ?_)
                  intro v9 w9 ho9 hg9 _
                  rw [bcells_snoc q c z HZ.out] at ho9
                  have hql9 : (q ++ [c]).length = q.length + 1 := by simp
                  have HO9 : Hid (w9.ownsRow w.heap.size 5 1 v9 (q ++ [c]).length (bcells (q ++ [c]))) := by
                    show World.ownsRow _ _ _ _ _ _ _
                    rw [hql9]; exact ho9
                  have HT9 := hide ((HT8.out.alloc _).grown (HO8.out.alloc _) hg9)
                  have HW9 := hide (own_grown HW8.out (by omega) HO8.out hg9)
                  clear ho9 hg9 HO8 HT8 HW8 cb q0 q1 q2
                  go_wp2
                  go_roundw
                  case rel => exact ⟨j + 1, q ++ [c], by omega, by go_num, by omega, by omega, (by show _ = _; have := HQL.out; omega), HO9, HG9, HT9, HW9⟩
                  case measure => simp [intOf]; omega
                · have hje : j = N := by omega
                  have HX : Hid (gtell o ((A : Int), (N : Int), ⟨#[]⟩) = q) := by show _ = _; rw [HG8.out, hje, Nat.sub_self]; rfl
                  rw [HX.out] at HOK
                  have HQ2 : Hid (q.length = o.length + N) := by show _ = _; rw [HQL.out, hje]
                  obtain ⟨ap8, cp8, rfl, -⟩ := row_form3 HO8.out
                  clear hje HG8 HX HQL
                  by_cases h64 : (64 : Int) < q.length
                  · have HX := hide (hbad2.out (by have := HQ2.out; omega))
                    go_wp2
                    exact bodyPost_ret (results_tmp2 rfl _ _ _) rfl ⟨by rw [HX.out]; rfl, HW8.out⟩
                  · have HG2 := hide (HOK.out (by have := HQ2.out; omega))
                    have hq64 : q.length ≤ 64 := by omega
                    clear HOK hbad2 HQ2
                    go_wp2
                    go_roundw
                    case rel => exact ⟨k + 1, q, by omega, hq64, by go_num, HO8, HG2, HW8⟩
                    case measure => simp [intOf]; omega
            · have hsz0 : ¬ t.size = 0 := fun h => ht0 (by
                apply ByteArray.ext
                exact Array.eq_empty_of_size_eq_zero h)
              have HX := hide (HBad.out (fun h => by have := h.1; unfold GOk at this; simp only at this; omega))
              have hne : t.toList.isEmpty = false := by
                rw [Lib.toList_data, List.isEmpty_eq_false_iff]
                intro h
                exact hsz0 (by have e : t.data.toList.length = t.size := by simp
                               rw [← e, h]; rfl)
              go_wp2_with fail
              refine (EI.out _ _ _ _).mono ?_
              rintro e w7 ⟨rfl, rfl⟩
              rw [decide_eq_true hin]
              go_wp2_with fail
              refine (EI.out _ _ _ _).mono ?_
              rintro e w7 ⟨rfl, rfl⟩
              rw [decide_eq_true hin2]
              go_wp2
              exact bodyPost_ret (results_tmp2 rfl _ _ _) rfl ⟨by rw [HX.out]; rfl, HW5.out⟩
          · have HX := hide (HBad.out (fun h => by have := h.1; unfold GOk at this; simp only at this; omega))
            go_wp2_with fail
            refine (EI.out _ _ _ _).mono ?_
            rintro e w7 ⟨rfl, rfl⟩
            rw [decide_eq_true hin]
            go_wp2_with fail
            refine (EI.out _ _ _ _).mono ?_
            rintro e w7 ⟨rfl, rfl⟩
            rw [decide_eq_false hin2]
            go_wp2
            exact bodyPost_ret (results_tmp2 rfl _ _ _) rfl ⟨by rw [HX.out]; rfl, HW5.out⟩
        · have HX := hide (HBad.out (fun h => by have := h.1; unfold GOk at this; simp only at this; omega))
          go_wp2_with fail
          refine (EI.out _ _ _ _).mono ?_
          rintro e w7 ⟨rfl, rfl⟩
          rw [decide_eq_false hin]
          go_wp2
          exact bodyPost_ret (results_tmp2 rfl _ _ _) rfl ⟨by rw [HX.out]; rfl, HW5.out⟩
    · have hke : k = ls.length := by omega
      have HX : Hid (gplain ls = some o) := by show _ = _; rw [HG.out, hke, List.drop_length]; rfl
      have hcv := conv_own wr _ o HO.out
      clear HG hke
      go_wp2
      exact bodyPost_ret (results_tmp2 rfl _ _ _) rfl ⟨by rw [HX.out]; rfl, HW.out⟩
end Go.Proofs.YtcjgjkejhkhknabGreatDoor
