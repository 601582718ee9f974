/-
  BRow; End; ImplE; New; Digest; ImplH; ImplD
-/
import Derived.Test.YtcjgjkejhkhknabGreatDoorPk0
import Derived.ArgAppend
import Derived.Test.YtcjgjkejhkhknabGreatDoorPk44
import Derived.Test.YtcjgjkejhkhknabGreatDoorPk42
import Derived.Test.YtcjgjkejhkhknabGreatDoorPk41
import Derived.Test.YtcjgjkejhkhknabGreatDoorShelf
set_option maxHeartbeats 1000000
set_option maxRecDepth 100000
namespace Go.Proofs.YtcjgjkejhkhknabGreatDoor
open Go.RowKit
open Dig
def lbN : Nat → Nat → List UInt8
 | 0, _ => []
 | m + 1, b => lbN m b ++ [UInt8.ofNat (b / 256 ^ (7 - m) % 256)]
theorem lbN_len (m b : Nat) : (lbN m b).length = m := by
 induction m with
 | zero => rfl
 | succ m ih => simp [lbN, ih]
def padN (r : List UInt8) (k : Nat) : List UInt8 := r ++ [128] ++ List.replicate k 0
theorem padN_len (r : List UInt8) (k : Nat) : (padN r k).length = r.length + 1 + k := by simp [padN]; omega
def padL (r : List UInt8) (n : Nat) : List UInt8 := padN r ((119 - r.length) % 64) ++ lbN 8 (8 * n)
theorem padL_len (r : List UInt8) (n : Nat) (hr : r.length < 64) : (padL r n).length % 64 = 0 ∧ (padL r n).length ≤ 128 := by
 unfold padL
 rw [List.length_append, padN_len, lbN_len]
 omega
def endL (s r : List UInt8) (n : Nat) : List UInt8 := bytesOf (mixes ((padL r n).length / 64) (words s) (padL r n))
def lenOf : Value → Nat
 | .slice _ n _ => n
 | _ => 0
theorem lbN_four (b : Nat) : lbN 8 b = four4 (b / 4294967296) ++ four4 (b % 4294967296) := by
 have e : ∀ x y : Nat, x % 256 = y % 256 → UInt8.ofNat x = UInt8.ofNat y := by
  intro x y h
  apply UInt8.toNat_inj.1
  rw [UInt8.toNat_ofNat', UInt8.toNat_ofNat']
  exact h
 simp only [lbN, four4, List.nil_append, List.cons_append]
 simp only [List.cons.injEq, and_true]
 refine ⟨?_, ?_, ?_, ?_, ?_, ?_, ?_, ?_⟩
 all_goals first | exact e _ _ (by omega) | trivial
def lastL (n : Nat) : List UInt8 := [128] ++ List.replicate ((119 - n % 64) % 64) 0 ++ lbN 8 (8 * n)
theorem padL_last (r : List UInt8) (n : Nat) (h : r.length = n % 64) : padL r n = r ++ lastL n := by
 unfold padL padN lastL
 rw [h]
 simp [List.append_assoc]
theorem own_slice {w : World} {base : Nat} {v : Value} {l : List UInt8} (h : w.ownsRow base 5 1 v l.length (bcells l)) (h0 : 0 < l.length) : ∃ g cap, v = .slice (some ⟨g, 0, none⟩) l.length cap := by
 rcases h.2 with ⟨-, h0'⟩ | ⟨g, cap, cur, rfl, -⟩
 ·omega
 ·exact ⟨g, cap, rfl⟩
theorem appendWord_int (v : Value) (l : List UInt8) (z : Int) (x base : Nat) (hz : z = x) (w : World) (hx : x < 4294967296) (hl : l.length ≤ 1000000) (hown : w.ownsRow base 5 1 v l.length (bcells l)) (hB : base ≤ w.heap.size) :
 Calls Tryz.prog 142 #[v, .int .u32 z] w fun e w' => ∃ v' : Value, e = .returned v' ∧ w'.ownsRow base 5 1 v' (l ++ four4 x).length (bcells (l ++ four4 x)) ∧ Below base w w' := by
 subst hz
 exact appendWord_any v l x base w hx hl hown hB
theorem pad_snoc (k : Nat) : ([128] ++ List.replicate k 0 : List UInt8) ++ [0] = [128] ++ List.replicate (k + 1) 0 := by simp [List.replicate_succ']
theorem last_any (n : Nat) (w : World) (hn : n ≤ 1000000000) :
 Calls Tryz.prog 106 #[.int .i64 n] w fun e w' => e = .returned (.string ⟨(lastL n).toArray⟩) ∧ Below w.heap.size w w' := by
 obtain ⟨i0, hi, hz0, hz1, hz2⟩ := info_parts infoByte
 go_enter Tryz.func106, Tryz.ntmps106
 go_wp2
 go_loopw [3] (fun out wr => ∃ (k : Nat) (l : List UInt8), k ≤ (119 - n % 64) % 64 ∧ Hid (l = [128] ++ List.replicate k 0) ∧ l.length = k + 1 ∧ Hid (wr.ownsRow w.heap.size 5 1 out l.length (bcells l)) ∧ Below w.heap.size w wr) (fun out _ => 64 - lenOf out)
 case atStart =>
  refine ⟨0, [128], by omega, rfl, rfl, ?_, (Below.refl _ _).alloc (Nat.le_refl _) _⟩
  exact ⟨rfl, .inr ⟨w.heap.size, 1, #[.int .u8 128], rfl, Nat.le_refl _, heap_alloc_new w _, Nat.le_refl _, by unfold maxLen; omega, rfl, rfl⟩⟩
 case round =>
  obtain ⟨k, l, hk, EL, hl, HO, hbel⟩ := hrel
  have hsz := hbel.size
  obtain ⟨gg, cap, rfl⟩ := own_slice HO.out (by omega)
  by_cases h56 : k = (119 - n % 64) % 64
  ·have t1 : ((n : Int) + ((k + 1 : Nat) : Int)) % 64 = 56 := by omega
   obtain ⟨S, hS⟩ : ∃ S, S = 8 * n := ⟨_, rfl⟩
   have hS9 : S ≤ 8000000000 := by omega
   have fS : (8 : Int) * (n : Int) = (S : Int) := by omega
   obtain ⟨hi', hH⟩ : ∃ x, x = S / 4294967296 := ⟨_, rfl⟩
   obtain ⟨lo, hL⟩ : ∃ x, x = S % 4294967296 := ⟨_, rfl⟩
   have fH : (S : Int) / 4294967296 = (hi' : Int) := by omega
   have fL : (S : Int) % 4294967296 = (lo : Int) := by omega
   have EF : Hid (lastL n = l ++ four4 hi' ++ four4 lo) := by
    show _ = _
    unfold lastL
    rw [EL.out, ← h56, ← hS, lbN_four S, hH, hL, List.append_assoc, List.append_assoc, List.append_assoc]
   have hlo : lo < 4294967296 := by omega
   have hhi : hi' < 4294967296 := by omega
   have t2 : ((n : Int) + (l.length : Int)) % 64 = 56 := by rw [hl]; exact t1
   have hl9 : l.length ≤ 1000 := by omega
   have HO1 : Hid (wr.ownsRow w.heap.size 5 1 (.slice (some ⟨gg, 0, none⟩) (k + 1) cap) l.length (bcells l)) := by
    show World.ownsRow _ _ _ _ _ _ _
    have := HO.out
    rw [hl] at this ⊢
    exact this
   clear hS hH hL h56 EL t2 hk HO
   go_wp2_with fail
   refine (appendWord_int _ l _ hi' w.heap.size rfl _ hhi (by omega) HO1.out hsz).mono ?_
   rintro e w1 ⟨v1, rfl, hown1, hb1⟩
   have HO3 := hide hown1
   have hb1' := hide hb1
   have hsz1 : w.heap.size ≤ w1.heap.size := by have := hb1.size; omega
   have hl1 : (l ++ four4 hi').length ≤ 1000000 := by simp [four4]; omega
   clear hown1 hb1 HO1
   go_wp2_with fail
   refine (appendWord_int _ (l ++ four4 hi') _ lo w.heap.size rfl _ hlo hl1 HO3.out hsz1).mono ?_
   rintro e w2 ⟨v2, rfl, hown2, hb2⟩
   have hcv := conv_own w2 _ _ hown2
   rw [← EF.out] at hcv
   have HB : Hid (Below w.heap.size w w2) := (hbel.trans hb1'.out).trans hb2
   obtain ⟨r, hr⟩ : ∃ r, lastL n = r := ⟨_, rfl⟩
   rw [hr] at hcv
   have HR := hide hr
   clear hr hown2 hb2 HO3 EF
   go_wp2
   go_ret
   exact ⟨by rw [HR.out]; rfl, HB.out⟩
  ·have t1 : ¬ ((n : Int) + (l.length : Int)) % 64 = 56 := by omega
   have F : Hid (l ++ [0] = [128] ++ List.replicate (k + 1) 0) := by show _ = _; rw [EL.out, pad_snoc]
   clear EL
   go_wp2_with (at_builtin; refine wpList_append_own _ rfl _ _ 191 rfl w.heap.size 5 i0 (.int .u8 0) 1 1 Tryz.underlying191 hi hz0 hz1 hz2 rfl (by decide) _ _ _ rfl (by exact HO.out.alloc _) ⟨wr.heap.size, 0, none⟩ 1 1 [Value.int .u8 _] rfl rfl (by exact one_cell _ _ _) (one_u8 _) (by unfold maxLen; omega) (by omega) (by simp; omega) ?_)
   intro v' w2 hown2 hgrow _
   have hb2 : Below w.heap.size w w2 := own_grown hbel hsz HO.out (by rw [hl]; exact hgrow)
   rw [bcells_snoc l 0 0 rfl] at hown2
   have HO2 : Hid (w2.ownsRow w.heap.size 5 1 v' (l ++ [0]).length (bcells (l ++ [0]))) := by
    show World.ownsRow _ _ _ _ _ _ _
    rw [List.length_append, hl]; exact hown2
   have hl2 : (l ++ [0]).length = k + 1 + 1 := by simp [hl]
   have hm : lenOf v' = k + 1 + 1 := by
    obtain ⟨g2, c2, hv2⟩ := own_slice HO2.out (by omega)
    rw [hv2, hl2]; rfl
   clear hown2 hgrow HO hbel
   go_wp2
   go_roundw
   case rel => exact ⟨k + 1, l ++ [0], by omega, F, hl2, HO2, hb2⟩
   case measure => simp [lenOf] at hm ⊢; omega
def endS (st : List Nat) (r : List UInt8) (n : Nat) : List UInt8 := bytesOf (mixes ((padL r n).length / 64) st (padL r n))
theorem endS_words (s r : List UInt8) (n : Nat) : endS (words s) r n = endL s r n := rfl
def St8 (w : World) (g m0 m1 m2 m3 m4 m5 m6 m7 : Nat) : Prop := (w.cell? ⟨g, 0, none⟩ = some (.int .u32 m0) ∧ w.cell? ⟨g, 1, none⟩ = some (.int .u32 m1) ∧ w.cell? ⟨g, 2, none⟩ = some (.int .u32 m2) ∧ w.cell? ⟨g, 3, none⟩ = some (.int .u32 m3) ∧ w.cell? ⟨g, 4, none⟩ = some (.int .u32 m4) ∧ w.cell? ⟨g, 5, none⟩ = some (.int .u32 m5) ∧ w.cell? ⟨g, 6, none⟩ = some (.int .u32 m6) ∧ w.cell? ⟨g, 7, none⟩ = some (.int .u32 m7)) ∧
 (w.frozen? ⟨g, 0, none⟩ = false ∧ w.frozen? ⟨g, 1, none⟩ = false ∧ w.frozen? ⟨g, 2, none⟩ = false ∧ w.frozen? ⟨g, 3, none⟩ = false ∧ w.frozen? ⟨g, 4, none⟩ = false ∧ w.frozen? ⟨g, 5, none⟩ = false ∧ w.frozen? ⟨g, 6, none⟩ = false ∧ w.frozen? ⟨g, 7, none⟩ = false)
theorem st8_of {w : World} {g m0 m1 m2 m3 m4 m5 m6 m7 : Nat} (h : VAt w g [m0, m1, m2, m3, m4, m5, m6, m7]) : St8 w g m0 m1 m2 m3 m4 m5 m6 m7 :=
 ⟨⟨words_at h.1 0 m0 rfl, words_at h.1 1 m1 rfl, words_at h.1 2 m2 rfl, words_at h.1 3 m3 rfl, words_at h.1 4 m4 rfl, words_at h.1 5 m5 rfl, words_at h.1 6 m6 rfl, words_at h.1 7 m7 rfl⟩, h.2 0, h.2 1, h.2 2, h.2 3, h.2 4, h.2 5, h.2 6, h.2 7⟩
theorem store8 {w : World} {g p0 p1 p2 p3 p4 p5 p6 p7 : Nat} {l : List Nat} (h : VAt w g l) (hl : l.length = 8) : VAt ((((((((w.setCell ⟨g, 0, none⟩ (.int .u32 p0)).setCell ⟨g, 1, none⟩ (.int .u32 p1)).setCell ⟨g, 2, none⟩ (.int .u32 p2)).setCell ⟨g, 3, none⟩ (.int .u32 p3)).setCell ⟨g, 4, none⟩ (.int .u32 p4)).setCell ⟨g, 5, none⟩ (.int .u32 p5)).setCell ⟨g, 6, none⟩ (.int .u32 p6)).setCell ⟨g, 7, none⟩ (.int .u32 p7)) g [p0, p1, p2, p3, p4, p5, p6, p7] :=
 h.store [p0, p1, p2, p3, p4, p5, p6, p7] (by rw [hl]; rfl)
theorem below8 {B : Nat} {a w : World} {g p0 p1 p2 p3 p4 p5 p6 p7 : Nat} (h : Below B a w) (hg : B ≤ g) : Below B a ((((((((w.setCell ⟨g, 0, none⟩ (.int .u32 p0)).setCell ⟨g, 1, none⟩ (.int .u32 p1)).setCell ⟨g, 2, none⟩ (.int .u32 p2)).setCell ⟨g, 3, none⟩ (.int .u32 p3)).setCell ⟨g, 4, none⟩ (.int .u32 p4)).setCell ⟨g, 5, none⟩ (.int .u32 p5)).setCell ⟨g, 6, none⟩ (.int .u32 p6)).setCell ⟨g, 7, none⟩ (.int .u32 p7)) :=
 below_cellsD hg (wcells [p0, p1, p2, p3, p4, p5, p6, p7]) 0 w h
def digL (t : List UInt8) : List UInt8 := endL (bytesOf (mixes (t.length / 64) first t)) (t.drop (64 * (t.length / 64))) t.length
theorem digL_of (t : ByteArray) : digL t.data.toList = endL (bytesOf (mixes (t.size / 64) first t.data.toList)) (t.extract (64 * (t.size / 64)) t.size).data.toList t.size := by
 have hl : t.data.toList.length = t.size := by simp
 have hx : (t.extract (64 * (t.size / 64)) t.size).data.toList = t.data.toList.drop (64 * (t.size / 64)) := by
  rw [Lib.extract_data, List.take_of_length_le (by simp)]
 unfold digL
 rw [hl, hx]
theorem end_any (st : List Nat) (r : ByteArray) (n : Nat) (w : World) (hst : St st) (hr : r.size = n % 64) (hn : n ≤ 1000000000) (hT : StepIn w) :
 Calls Tryz.prog 75 #[wagg st, .string r, .int .i64 n] w fun e w' => e = .returned (.string ⟨(endS st r.data.toList n).toArray⟩) ∧ Below w.heap.size w w' := by
 have HT := hide hT
 have hp := padL_last r.data.toList n (by simpa using hr)
 have hrl : r.data.toList.length = r.size := by simp
 have hpl := (padL_len r.data.toList n (by omega)).2
 obtain ⟨t, htt⟩ : ∃ t : ByteArray, t = r ++ ⟨(lastL n).toArray⟩ := ⟨_, rfl⟩
 have htl : t.data.toList = padL r.data.toList n := by rw [htt, ByteArray.data_append, hp]; simp
 have hts : t.size = (padL r.data.toList n).length := by rw [← htl]; simp
 have CB0 : ∀ w', StepIn w' → _ := fun w' h => blocks_any st t w' hst (by omega) h
 have EE : Hid (endS st r.data.toList n = bytesOf (mixes (t.size / 64) st t.data.toList)) := by
  show endS _ _ _ = _
  unfold endS
  rw [hts, htl]
 have hM := mixes_st hst (t.size / 64) t.data.toList
 obtain ⟨M, hMM⟩ : ∃ M, M = mixes (t.size / 64) st t.data.toList := ⟨_, rfl⟩
 rw [← hMM] at CB0 EE hM
 obtain ⟨R, hRR⟩ : ∃ R, R = t.extract (64 * (t.size / 64)) t.size := ⟨_, rfl⟩
 rw [← hRR] at CB0
 have CL0 := last_any n
 obtain ⟨q, hq⟩ : ∃ q : ByteArray, q = ⟨(lastL n).toArray⟩ := ⟨_, rfl⟩
 have hqs : q.size ≤ 200 := by
  have h1 : (r ++ q).size = r.size + q.size := ByteArray.size_append
  rw [hq, ← htt] at h1
  rw [hq]; omega
 rw [← hq] at CL0 htt
 have TT := hide htt.symm
 obtain ⟨m0, m1, m2, m3, m4, m5, m6, m7, hm8, -⟩ := hst.open
 obtain ⟨p0, p1, p2, p3, p4, p5, p6, p7, hp8, -⟩ := hM.open
 have hwM : wagg st = .agg #[.int .u32 m0, .int .u32 m1, .int .u32 m2, .int .u32 m3, .int .u32 m4, .int .u32 m5, .int .u32 m6, .int .u32 m7] := by rw [hm8]; rfl
 have hwP : wagg M = .agg #[.int .u32 p0, .int .u32 p1, .int .u32 p2, .int .u32 p3, .int .u32 p4, .int .u32 p5, .int .u32 p6, .int .u32 p7] := by rw [hp8]; rfl
 rw [hwM, hwP] at CB0
 rw [hwM]
 have HM := hide hM
 have HP := hide hp8
 have CB : Hid (∀ w1, StepIn w1 → VAt w1 w.heap.size st → Below w.heap.size w w1 → Calls Tryz.prog 74 #[.agg #[.int .u32 m0, .int .u32 m1, .int .u32 m2, .int .u32 m3, .int .u32 m4, .int .u32 m5, .int .u32 m6, .int .u32 m7], .string t] w1 fun e w2 => e = .returned (.tuple #[.agg #[.int .u32 p0, .int .u32 p1, .int .u32 p2, .int .u32 p3, .int .u32 p4, .int .u32 p5, .int .u32 p6, .int .u32 p7], .string R]) ∧ St8 w2 w.heap.size m0 m1 m2 m3 m4 m5 m6 m7 ∧ Hid (VAt w2 w.heap.size st) ∧ Hid (Below w.heap.size w w2)) := by
  intro w1 h1 h2 h3
  refine (CB0 w1 h1).mono ?_
  rintro e w2 ⟨rfl, hb⟩
  have h4 := h2.below hb h2.1.1
  have h5 := h4
  rw [hm8] at h5
  exact ⟨rfl, st8_of h5, h4, h3.trans (hb.mono h3.size)⟩
 have CL : Hid (∀ w1, StepIn w1 → VAt w1 w.heap.size st → Below w.heap.size w w1 → Calls Tryz.prog 106 #[.int .i64 n] w1 fun e w2 => e = .returned (.string q) ∧ St8 w2 w.heap.size m0 m1 m2 m3 m4 m5 m6 m7 ∧ Hid (VAt w2 w.heap.size st) ∧ Hid (Below w.heap.size w w2) ∧ Hid (StepIn w2)) := by
  intro w1 h1 h2 h3
  refine (CL0 w1 hn).mono ?_
  rintro e w2 ⟨rfl, hb⟩
  have h4 := h2.below hb h2.1.1
  have h5 := h4
  rw [hm8] at h5
  exact ⟨rfl, st8_of h5, h4, h3.trans (hb.mono h3.size), h1.on hb⟩
 have HS := hide hm8
 have hl8 := hst.1
 clear hT hst hp hpl hrl CB0 CL0 hM hMM hRR hq hwM hwP hm8 hp8 htl hts htt
 go_enter Tryz.func75, Tryz.ntmps75
 go_wp2
 obtain ⟨W1, hW1⟩ : ∃ W1, W1 = w.alloc (.cells #[.int .u32 m0, .int .u32 m1, .int .u32 m2, .int .u32 m3, .int .u32 m4, .int .u32 m5, .int .u32 m6, .int .u32 m7] 133) := ⟨_, rfl⟩
 have hB1 : Below w.heap.size w W1 := by rw [hW1]; exact (Below.refl _ _).alloc (Nat.le_refl _) _
 have hV1 : VAt W1 w.heap.size st := by rw [hW1]; exact v_new w st _ _ (by rw [HS.out]; rfl)
 rw [← hW1]
 clear hW1
 have hV1' := hV1
 rw [HS.out] at hV1'
 obtain ⟨⟨s0, s1, s2, s3, s4, s5, s6, s7⟩, -⟩ := st8_of hV1'
 have CL1 := hide (CL.out W1.drew (HT.out.on hB1.drew) hV1 hB1.drew)
 clear CL hV1 hV1' hB1
 go_region_with (first
  | (go_at_call 106; refine CL1.out.mono ?_; rintro en w2 ⟨rfl, ⟨⟨a0, a1, a2, a3, a4, a5, a6, a7⟩, -⟩, HV2, HB2, HT2⟩)
  | (go_at_call 74; rw [TT.out]; refine (CB.out _ HT2.out HV2.out HB2.out).mono ?_; rintro en w3 ⟨rfl, ⟨⟨c0, c1, c2, c3, c4, c5, c6, c7⟩, ⟨f0, f1, f2, f3, f4, f5, f6, f7⟩⟩, HV3, HB3⟩))
 all_goals
  have hV4 := store8 (p0 := p0) (p1 := p1) (p2 := p2) (p3 := p3) (p4 := p4) (p5 := p5) (p6 := p6) (p7 := p7) HV3.out hl8
  have hB4 := below8 (p0 := p0) (p1 := p1) (p2 := p2) (p3 := p3) (p4 := p4) (p5 := p5) (p6 := p6) (p7 := p7) HB3.out (Nat.le_refl _)
  rw [← HP.out] at hV4
  have HV4 := hide hV4
  have HB4 := hide hB4
  clear hV4 hB4
  generalize (((((((w3.setCell ⟨w.heap.size, 0, none⟩ (.int .u32 p0)).setCell ⟨w.heap.size, 1, none⟩ (.int .u32 p1)).setCell ⟨w.heap.size, 2, none⟩ (.int .u32 p2)).setCell ⟨w.heap.size, 3, none⟩ (.int .u32 p3)).setCell ⟨w.heap.size, 4, none⟩ (.int .u32 p4)).setCell ⟨w.heap.size, 5, none⟩ (.int .u32 p5)).setCell ⟨w.heap.size, 6, none⟩ (.int .u32 p6)).setCell ⟨w.heap.size, 7, none⟩ (.int .u32 p7) = w4 at HV4 HB4 ⊢
  clear HV3 HB3 HV2 HB2 HT2 CB CL1 a0 a1 a2 a3 a4 a5 a6 a7 c0 c1 c2 c3 c4 c5 c6 c7 f0 f1 f2 f3 f4 f5 f6 f7 s0 s1 s2 s3 s4 s5 s6 s7 TT
  have hM8 := HM.out.1
  go_wp2_with (refine wpList_load_words rfl _ _ rfl w.heap.size rfl M _ HV4.out.1 Tryz.underlying133 rfl (by rw [hM8]; exact info8) ?_)
  refine (asBytes_anyD M _ HM.out).mono ?_
  rintro en w5 ⟨rfl, hb5⟩
  have HB5 : Hid (Below w.heap.size w w5) := HB4.out.trans (hb5.mono HB4.out.size)
  obtain ⟨D, hD⟩ : ∃ D, bytesOf M = D := ⟨_, rfl⟩
  rw [hD] at EE
  rw [hD]
  clear hD hb5 HB4 HV4
  go_wp2
  go_ret
  exact ⟨by rw [EE.out]; rfl, HB5.out⟩
theorem digL_endS (t : ByteArray) : digL t.data.toList = endS (mixes (t.size / 64) first t.data.toList) (t.extract (64 * (t.size / 64)) t.size).data.toList t.size := by
 rw [digL_of, ← endS_words, words_bytesOf (mixes_st first_st _ _)]
theorem implDig_any (t : ByteArray) (w : World) (ht : t.size ≤ 1048576) (hT : StepIn w) :
 Calls Tryz.prog 47 #[.string t] w fun e w' => e = .returned (.string ⟨(digL t.data.toList).toArray⟩) ∧ Below w.heap.size w w' := by
 have HT := hide hT
 have hM := mixes_st first_st (t.size / 64) t.data.toList
 have hRs : (t.extract (64 * (t.size / 64)) t.size).size = t.size % 64 := by simp; omega
 have CB := hide (fun w' h => blocks_any first t w' first_st (by omega) h)
 have EE := hide (digL_endS t)
 obtain ⟨M, hMM⟩ : ∃ M, M = mixes (t.size / 64) first t.data.toList := ⟨_, rfl⟩
 obtain ⟨R, hRR⟩ : ∃ R, R = t.extract (64 * (t.size / 64)) t.size := ⟨_, rfl⟩
 rw [← hMM, ← hRR] at CB EE
 rw [← hMM] at hM
 rw [← hRR] at hRs
 have CE := hide (fun w' h => end_any M R t.size w' hM hRs (by omega) h)
 have HM := hide hM
 have hM8 := hM.1
 obtain ⟨D, hD⟩ : ∃ D, endS M R.data.toList t.size = D := ⟨_, rfl⟩
 rw [hD] at CE EE
 clear hT hM hMM hRR hD
 obtain ⟨F, hF⟩ : ∃ F, F = first := ⟨_, rfl⟩
 have CF := hide firstState_any
 rw [← hF] at CF CB
 clear hF
 go_enter Tryz.func47, Tryz.ntmps47
 go_wp2_with fail
 refine (CF.out _).mono ?_
 rintro en w1 ⟨rfl, hb1⟩
 have HT1 := hide (HT.out.on hb1)
 have hs1 := hb1.size
 go_wp2_with fail
 refine (CB.out _ HT1.out).mono ?_
 rintro en w2 ⟨rfl, hb2⟩
 have HT2 := hide (HT1.out.on hb2)
 have hs2 := hb2.size
 have HB2 : Hid (Below w.heap.size w w2) := hb1.trans (hb2.mono hs1)
 clear HT HT1 hb1 hb2 CF CB
 have hz8 : (List.replicate 8 0 : List Nat).length = 8 := rfl
 go_wp2_with (first
  | (refine wpList_store_words rfl _ _ _ rfl w2.heap.size M (List.replicate 8 0) rfl rfl (v_new w2 (List.replicate 8 0) _ _ rfl) (by rw [hM8, hz8]) (by rw [hM8]; exact info8) ?_
     intro w3 hw3
     have HV3 : Hid (VAt w3 w2.heap.size M ∧ Below w2.heap.size w2 w3) := by
      rw [hw3]
      exact ⟨(v_new w2 (List.replicate 8 0) _ _ rfl).store M (by rw [hM8, hz8]), below_cellsD (Nat.le_refl _) _ _ _ ((Below.refl _ _).alloc (Nat.le_refl _) _)⟩
     clear hw3)
  | refine wpList_load_words rfl _ _ rfl w2.heap.size rfl M _ HV3.out.1.1 Tryz.underlying133 rfl (by rw [hM8]; exact info8) ?_)
 refine (CE.out _ (HT2.out.on HV3.out.2)).mono ?_
 rintro en w4 ⟨rfl, hb4⟩
 have HB4 : Hid (Below w.heap.size w w4) := by
  have h3 := HB2.out.trans (HV3.out.2.mono HB2.out.size)
  exact h3.trans (hb4.mono h3.size)
 clear CE HV3 HT2 HB2 hb4
 go_wp2
 go_ret
 exact ⟨by rw [EE.out]; rfl, HB4.out⟩
end Go.Proofs.YtcjgjkejhkhknabGreatDoor
