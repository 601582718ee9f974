/-
  HashOk; Boxes; More; More2; ImplM
-/
import Derived.Test.YtcjgjkejhkhknabGreatDoorPk6
import Derived.Test.YtcjgjkejhkhknabGreatDoorPk0
import Derived.Test.YtcjgjkejhkhknabGreatDoorPk40
import Derived.Test.YtcjgjkejhkhknabGreatDoorPk42
import Derived.Test.YtcjgjkejhkhknabGreatDoorPk41
import Derived.Test.YtcjgjkejhkhknabGreatDoorPk43
set_option maxHeartbeats 1000000
set_option maxRecDepth 100000
namespace Go.Proofs.YtcjgjkejhkhknabGreatDoor
open Go.RowKit
open Dig
theorem three {w : World} {g : Nat} {a b c d e f : Value} (h0 : w.cell? ⟨g, 0, none⟩ = some d) (h1 : w.cell? ⟨g, 1, none⟩ = some e) (h2 : w.cell? ⟨g, 2, none⟩ = some f) :
 (((w.setCell ⟨g, 0, none⟩ a).setCell ⟨g, 1, none⟩ b).setCell ⟨g, 2, none⟩ c).cell? ⟨g, 0, none⟩ = some a ∧
 (((w.setCell ⟨g, 0, none⟩ a).setCell ⟨g, 1, none⟩ b).setCell ⟨g, 2, none⟩ c).cell? ⟨g, 1, none⟩ = some b ∧
 (((w.setCell ⟨g, 0, none⟩ a).setCell ⟨g, 1, none⟩ b).setCell ⟨g, 2, none⟩ c).cell? ⟨g, 2, none⟩ = some c := by
 have n01 : (⟨g, 0, none⟩ : Addr) ≠ ⟨g, 1, none⟩ := by simp
 have n02 : (⟨g, 0, none⟩ : Addr) ≠ ⟨g, 2, none⟩ := by simp
 have n12 : (⟨g, 1, none⟩ : Addr) ≠ ⟨g, 2, none⟩ := by simp
 have k0 := World.cell?_setCell_same w ⟨g, 0, none⟩ a h0
 have k1 : (w.setCell ⟨g, 0, none⟩ a).cell? ⟨g, 1, none⟩ = some e := by rw [World.cell?_setCell_other _ _ _ _ n01]; exact h1
 have k2 : ((w.setCell ⟨g, 0, none⟩ a).setCell ⟨g, 1, none⟩ b).cell? ⟨g, 2, none⟩ = some f := by rw [World.cell?_setCell_other _ _ _ _ n12, World.cell?_setCell_other _ _ _ _ n02]; exact h2
 refine ⟨?_, ?_, World.cell?_setCell_same _ _ _ k2⟩
 ·rw [World.cell?_setCell_other _ _ _ _ n02.symm, World.cell?_setCell_other _ _ _ _ n01.symm]; exact k0
 ·rw [World.cell?_setCell_other _ _ _ _ n12.symm]; exact World.cell?_setCell_same _ _ _ k1
theorem cut64 (u : ByteArray) (k : Nat) (h : 64 * k + 64 ≤ u.size) : (u.extract (64 * k) (64 * k + 64)).size = 64 ∧ (u.extract (64 * k) (64 * k + 64)).data.toList = (u.data.toList.drop (64 * k)).take 64 := by
 constructor
 ·simp; omega
 ·rw [Lib.extract_data]; congr 1; omega
theorem head_cut (t : ByteArray) (k : Nat) (h : 64 * k + 64 ≤ t.size) : ((t.extract (64 * k) t.size).extract 0 64) = t.extract (64 * k) (64 * k + 64) := by
 rw [ByteArray.extract_extract]
 congr 1 <;> omega
theorem tail_cut (t : ByteArray) (k : Nat) (h : 64 * k + 64 ≤ t.size) : ((t.extract (64 * k) t.size).extract 64 (t.size - 64 * k)) = t.extract (64 * (k + 1)) t.size := by
 rw [ByteArray.extract_extract]
 congr 1 <;> omega
def lenV : Value → Nat | .string s => s.size | _ => 0
def LiesM (w0 w : World) (M : List Nat) : Prop := VAt w w0.heap.size M ∧ VAt w (w0.heap.size + 1) (List.replicate 8 0) ∧ StepIn w ∧ Below w0.heap.size w0 w
theorem LiesM.drew {w0 w : World} {M : List Nat} (h : LiesM w0 w M) : LiesM w0 w.drew M :=
 ⟨h.1, h.2.1, h.2.2.1.on (Below.refl _ _).drew, h.2.2.2.drew⟩
theorem LiesM.store {w0 w : World} {M : List Nat} (h : LiesM w0 w M) (h0 : StepIn w0) (l : List Nat) (hl : l.length = M.length) : LiesM w0 (w.setCells w0.heap.size 0 (wcells l)) l :=
 have hb := below_cellsD (Nat.le_refl w0.heap.size) (wcells l) 0 w h.2.2.2
 ⟨h.1.store l hl, h.2.1.apart (by omega) _ _, h0.on hb, hb⟩
theorem blocks_any (st : List Nat) (t : ByteArray) (w : World) (hst : St st) (ht : t.size ≤ 4000000) (hT : StepIn w) :
 Calls Tryz.prog 74 #[wagg st, .string t] w fun e w' =>
  e = .returned (.tuple #[wagg (mixes (t.size / 64) st t.data.toList), .string (t.extract (64 * (t.size / 64)) t.size)]) ∧ Below w.heap.size w w' := by
 have HS := hide hst
 have HT := hide hT
 obtain ⟨a, b, c, d, e, f, g, i, hs8, -⟩ := hst.open
 have hw8 : wagg st = .agg #[.int .u32 a, .int .u32 b, .int .u32 c, .int .u32 d, .int .u32 e, .int .u32 f, .int .u32 g, .int .u32 i] := by rw [hs8]; rfl
 rw [hw8]
 have ES := hide hs8
 clear hst hT hw8 hs8
 go_enter Tryz.func74, Tryz.ntmps74
 go_wp2
 go_loopw [1] (fun tv wr => ∃ (k : Nat) (u : ByteArray), 64 * k ≤ t.size ∧ tv = .string u ∧ Hid (u = t.extract (64 * k) t.size) ∧ u.size + 64 * k = t.size ∧ Hid (LiesM w wr (mixes k st t.data.toList))) (fun tv _ => lenV tv)
 case atStart =>
  refine ⟨0, t, by omega, rfl, ?_, by omega, ?_⟩
  ·show t = t.extract (64 * 0) t.size
   simp
  ·refine ⟨(v_new w st _ _ (by rw [ES.out]; rfl)).alloc _, ?_, HT.out.on (((Below.refl _ _).alloc (Nat.le_refl _) _).alloc (by simp) _), ((Below.refl _ _).alloc (Nat.le_refl _) _).alloc (by simp) _⟩
   have := v_new (w.alloc (.cells #[.int .u32 a, .int .u32 b, .int .u32 c, .int .u32 d, .int .u32 e, .int .u32 f, .int .u32 g, .int .u32 i] 133)) (List.replicate 8 0) #[.int .u32 0, .int .u32 0, .int .u32 0, .int .u32 0, .int .u32 0, .int .u32 0, .int .u32 0, .int .u32 0] 133 rfl
   simpa using this
 case round =>
  obtain ⟨k, u, hk, rfl, EU, hu, HLi⟩ := hrel
  have hM := hide (mixes_st HS.out k t.data.toList)
  by_cases hge : (64 : Int) ≤ u.size
  ·obtain ⟨v, hv⟩ : ∃ v, v = u.extract 0 64 := ⟨_, rfl⟩
   obtain ⟨r, hr⟩ : ∃ r, r = u.extract 64 u.size := ⟨_, rfl⟩
   have hsl : ∀ W, (Instr.slice 9 (.string u) none (some (.int .i64 64)) none).run Tryz.prog W = .ok (.string v) W := by
    intro W
    rw [run_slice_string_h W 9 u Tryz.underlying9 .i64 _ (by omega) (by omega), hv]
    rfl
   have hsr : ∀ W, (Instr.slice 9 (.string u) (some (.int .i64 64)) none none).run Tryz.prog W = .ok (.string r) W := by
    intro W
    rw [run_slice_string_l W 9 u Tryz.underlying9 .i64 _ (by omega) (by omega), hr]
    rfl
   have hv64 : v.size = 64 := by rw [hv]; simp; omega
   have hrs : r.size + 64 = u.size := by rw [hr]; simp; omega
   have ER : Hid (r = t.extract (64 * (k + 1)) t.size) := by
    show r = _
    rw [hr, ← tail_cut t k (by omega), ← EU.out]
    congr 1
    omega
   have EV : v.data.toList = (t.data.toList.drop (64 * k)).take 64 := by
    rw [hv, EU.out, head_cut t k (by omega)]
    exact (cut64 t k (by omega)).2
   have F : Hid (mixes (k + 1) st t.data.toList = mix (mixes k st t.data.toList) v.data.toList) := by
    show _ = _
    rw [EV]; rfl
   obtain ⟨M, hMM⟩ : ∃ M, M = mixes k st t.data.toList := ⟨_, rfl⟩
   rw [← hMM] at HLi hM F
   have hM2 := hide (mix_st hM.out v.data.toList)
   have CB := hide (fun w' => block_any M v w' hM.out hv64)
   obtain ⟨M2, hMM2⟩ : ∃ M2, M2 = mix M v.data.toList := ⟨_, rfl⟩
   rw [← hMM2] at F hM2 CB
   have hl8 := hM.out.1
   have hl82 := hM2.out.1
   clear hMM hMM2 EV hv hr EU
   obtain ⟨m0, m1, m2, m3, m4, m5, m6, m7, hm8, -⟩ := hM.out.open
   have s0 := words_at HLi.out.1.1 0 m0 (by rw [hm8]; rfl)
   have s1 := words_at HLi.out.1.1 1 m1 (by rw [hm8]; rfl)
   have s2 := words_at HLi.out.1.1 2 m2 (by rw [hm8]; rfl)
   have s3 := words_at HLi.out.1.1 3 m3 (by rw [hm8]; rfl)
   have s4 := words_at HLi.out.1.1 4 m4 (by rw [hm8]; rfl)
   have s5 := words_at HLi.out.1.1 5 m5 (by rw [hm8]; rfl)
   have s6 := words_at HLi.out.1.1 6 m6 (by rw [hm8]; rfl)
   have s7 := words_at HLi.out.1.1 7 m7 (by rw [hm8]; rfl)
   have hwM : wagg M = .agg #[.int .u32 m0, .int .u32 m1, .int .u32 m2, .int .u32 m3, .int .u32 m4, .int .u32 m5, .int .u32 m6, .int .u32 m7] := by rw [hm8]; rfl
   rw [hwM] at CB
   obtain ⟨p0, p1, p2, p3, p4, p5, p6, p7, hp8, -⟩ := hM2.out.open
   have hwP : wagg M2 = .agg #[.int .u32 p0, .int .u32 p1, .int .u32 p2, .int .u32 p3, .int .u32 p4, .int .u32 p5, .int .u32 p6, .int .u32 p7] := by rw [hp8]; rfl
   rw [hwP] at CB
   have HLd := hide HLi.out.drew
   have CB2 : Hid (Calls Tryz.prog 105 #[.agg #[.int .u32 m0, .int .u32 m1, .int .u32 m2, .int .u32 m3, .int .u32 m4, .int .u32 m5, .int .u32 m6, .int .u32 m7], .string v] wr.drew fun e w3 => e = .returned (.agg #[.int .u32 p0, .int .u32 p1, .int .u32 p2, .int .u32 p3, .int .u32 p4, .int .u32 p5, .int .u32 p6, .int .u32 p7]) ∧
    ((w3.cell? ⟨w.heap.size, 0, none⟩ = some (.int .u32 m0) ∧ w3.cell? ⟨w.heap.size, 1, none⟩ = some (.int .u32 m1) ∧ w3.cell? ⟨w.heap.size, 2, none⟩ = some (.int .u32 m2) ∧ w3.cell? ⟨w.heap.size, 3, none⟩ = some (.int .u32 m3) ∧ w3.cell? ⟨w.heap.size, 4, none⟩ = some (.int .u32 m4) ∧ w3.cell? ⟨w.heap.size, 5, none⟩ = some (.int .u32 m5) ∧ w3.cell? ⟨w.heap.size, 6, none⟩ = some (.int .u32 m6) ∧ w3.cell? ⟨w.heap.size, 7, none⟩ = some (.int .u32 m7)) ∧
    (w3.frozen? ⟨w.heap.size, 0, none⟩ = false ∧ w3.frozen? ⟨w.heap.size, 1, none⟩ = false ∧ w3.frozen? ⟨w.heap.size, 2, none⟩ = false ∧ w3.frozen? ⟨w.heap.size, 3, none⟩ = false ∧ w3.frozen? ⟨w.heap.size, 4, none⟩ = false ∧ w3.frozen? ⟨w.heap.size, 5, none⟩ = false ∧ w3.frozen? ⟨w.heap.size, 6, none⟩ = false ∧ w3.frozen? ⟨w.heap.size, 7, none⟩ = false) ∧ Hid (LiesM w w3 M))) := by
    refine (CB.out _ HLd.out.2.2.1).mono ?_
    rintro en w3 ⟨rfl, hb3⟩
    have h3 : LiesM w w3 M := ⟨HLd.out.1.below hb3 HLd.out.1.1.1, HLd.out.2.1.below hb3 HLd.out.2.1.1.1, HLd.out.2.2.1.on hb3, HLd.out.2.2.2.trans (hb3.mono HLd.out.2.2.2.size)⟩
    have q := fun j x hx => words_at h3.1.1 j x hx
    exact ⟨rfl, ⟨q 0 m0 (by rw [hm8]; rfl), q 1 m1 (by rw [hm8]; rfl), q 2 m2 (by rw [hm8]; rfl), q 3 m3 (by rw [hm8]; rfl), q 4 m4 (by rw [hm8]; rfl), q 5 m5 (by rw [hm8]; rfl), q 6 m6 (by rw [hm8]; rfl), q 7 m7 (by rw [hm8]; rfl)⟩, ⟨h3.1.2 0, h3.1.2 1, h3.1.2 2, h3.1.2 3, h3.1.2 4, h3.1.2 5, h3.1.2 6, h3.1.2 7⟩, h3⟩
   have HP := hide hp8
   clear hwM hwP hm8 hp8 HLi HLd CB
   go_wp2
   go_region_with (
    (go_at_call 105; refine CB2.out.mono ?_; rintro en w3 ⟨rfl, ⟨r0, r1, r2, r3, r4, r5, r6, r7⟩, ⟨f0, f1, f2, f3, f4, f5, f6, f7⟩, HL3⟩))
   all_goals
    have h4 := HL3.out.store HT.out M2 (by rw [hl8, hl82])
    rw [HP.out] at h4
    have HL4 : Hid (LiesM w ((((((((w3.setCell ⟨w.heap.size, 0, none⟩ (.int .u32 p0)).setCell ⟨w.heap.size, 1, none⟩ (.int .u32 p1)).setCell ⟨w.heap.size, 2, none⟩ (.int .u32 p2)).setCell ⟨w.heap.size, 3, none⟩ (.int .u32 p3)).setCell ⟨w.heap.size, 4, none⟩ (.int .u32 p4)).setCell ⟨w.heap.size, 5, none⟩ (.int .u32 p5)).setCell ⟨w.heap.size, 6, none⟩ (.int .u32 p6)).setCell ⟨w.heap.size, 7, none⟩ (.int .u32 p7)) [p0, p1, p2, p3, p4, p5, p6, p7]) := h4
    rw [← HP.out, ← F.out] at HL4
    generalize (((((((w3.setCell ⟨w.heap.size, 0, none⟩ (.int .u32 p0)).setCell ⟨w.heap.size, 1, none⟩ (.int .u32 p1)).setCell ⟨w.heap.size, 2, none⟩ (.int .u32 p2)).setCell ⟨w.heap.size, 3, none⟩ (.int .u32 p3)).setCell ⟨w.heap.size, 4, none⟩ (.int .u32 p4)).setCell ⟨w.heap.size, 5, none⟩ (.int .u32 p5)).setCell ⟨w.heap.size, 6, none⟩ (.int .u32 p6)).setCell ⟨w.heap.size, 7, none⟩ (.int .u32 p7) = w4 at HL4
    clear h4 HL3 CB2 r0 r1 r2 r3 r4 r5 r6 r7 f0 f1 f2 f3 f4 f5 f6 f7 s0 s1 s2 s3 s4 s5 s6 s7 F HP hsl
    go_wp2
    go_roundw
    case rel => exact ⟨k + 1, r, by omega, rfl, ER, by omega, HL4⟩
    case measure => simp [lenV]; omega
  ·have ek : k = t.size / 64 := by omega
   subst ek
   obtain ⟨M, hMM⟩ : ∃ M, M = mixes (t.size / 64) st t.data.toList := ⟨_, rfl⟩
   rw [← hMM] at HLi hM
   have EM := hide hMM
   have hl8 := hM.out.1
   clear hMM
   go_wp2_with (first
    | refine wpList_load_words rfl _ _ rfl w.heap.size rfl M _ HLi.out.1.1 Tryz.underlying133 rfl (by rw [hl8]; exact info8) ?_
    | (refine wpList_store_words rfl _ _ _ rfl (w.heap.size + 1) M (List.replicate 8 0) rfl rfl HLi.out.2.1 (by rw [hl8]; rfl) (by rw [hl8]; exact info8) ?_; intro w3 hw3))
   have hV3 : VAt (wr.setCells (w.heap.size + 1) 0 (wcells M)) (w.heap.size + 1) M := HLi.out.2.1.store _ (by rw [hl8]; rfl)
   exact bodyPost_ret (results_words2 rfl _ _ _ _ _ rfl hV3.1 Tryz.underlying133 rfl (by rw [hl8]; exact info8)) rfl ⟨by rw [← EM.out, ← EU.out]; rfl, below_cellsD (by omega) _ _ _ HLi.out.2.2.2⟩
end Go.Proofs.YtcjgjkejhkhknabGreatDoor
