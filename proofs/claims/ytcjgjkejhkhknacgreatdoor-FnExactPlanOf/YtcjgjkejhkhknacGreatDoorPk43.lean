/-
  HashOk; Boxes; More; More2; ImplM; BRow; End; ImplE
-/
import Derived.Test.YtcjgjkejhkhknacGreatDoorPk3
import Derived.Test.YtcjgjkejhkhknacGreatDoorPk0
import Derived.Test.YtcjgjkejhkhknacGreatDoorPk40
import Derived.Test.YtcjgjkejhkhknacGreatDoorPk41
import Derived.Test.YtcjgjkejhkhknacGreatDoorPk42
import Derived.ArgAppend
set_option maxHeartbeats 1000000
set_option maxRecDepth 100000
namespace Go.Proofs.YtcjgjkejhkhknacGreatDoor
open Go.RowKit
open Dig
theorem three {w : World} {g : Nat} {a b c d e f : Value} (h0 : w.cell? ⟨g, 0, none⟩ = some d) (h1 : w.cell? ⟨g, 1, none⟩ = some e) (h2 : w.cell? ⟨g, 2, none⟩ = some f) :
 (((w.setCell ⟨g, 0, none⟩ a).setCell ⟨g, 1, none⟩ b).setCell ⟨g, 2, none⟩ c).cell? ⟨g, 0, none⟩ = some a ∧
 (((w.setCell ⟨g, 0, none⟩ a).setCell ⟨g, 1, none⟩ b).setCell ⟨g, 2, none⟩ c).cell? ⟨g, 1, none⟩ = some b ∧
 (((w.setCell ⟨g, 0, none⟩ a).setCell ⟨g, 1, none⟩ b).setCell ⟨g, 2, none⟩ c).cell? ⟨g, 2, none⟩ = some c := by
 have n01 : (⟨g, 0, none⟩ : Addr) ≠ ⟨g, 1, none⟩ := by simp
 have n02 : (⟨g, 0, none⟩ : Addr) ≠ ⟨g, 2, none⟩ := by simp
 have n12 : (⟨g, 1, none⟩ : Addr) ≠ ⟨g, 2, none⟩ := by simp
 have k0 := World.cell?_setCell_same w ⟨g, 0, none⟩ a h0
 have k1 : (w.setCell ⟨g, 0, none⟩ a).cell? ⟨g, 1, none⟩ = some e := by rw [World.cell?_setCell_other _ _ _ _ n01]; exact h1
 have k2 : ((w.setCell ⟨g, 0, none⟩ a).setCell ⟨g, 1, none⟩ b).cell? ⟨g, 2, none⟩ = some f := by rw [World.cell?_setCell_other _ _ _ _ n12, World.cell?_setCell_other _ _ _ _ n02]; exact h2
 refine ⟨?_, ?_, World.cell?_setCell_same _ _ _ k2⟩
 ·rw [World.cell?_setCell_other _ _ _ _ n02.symm, World.cell?_setCell_other _ _ _ _ n01.symm]; exact k0
 ·rw [World.cell?_setCell_other _ _ _ _ n12.symm]; exact World.cell?_setCell_same _ _ _ k1
theorem kept3 {w w' : World} {a b c : Value} {t : TypeId} (h : Below (w.alloc (.cells #[a, b, c] t)).heap.size (w.alloc (.cells #[a, b, c] t)) w') :
 (w'.cell? ⟨w.heap.size, 0, none⟩ = some a ∧ w'.cell? ⟨w.heap.size, 1, none⟩ = some b ∧ w'.cell? ⟨w.heap.size, 2, none⟩ = some c) ∧ Below w.heap.size w w' ∧ w.heap.size + 1 ≤ w'.heap.size := by
 have hs := h.size
 have hl : w.heap.size < (w.alloc (.cells #[a, b, c] t)).heap.size := by simp
 have e : ∀ j, w'.cell? ⟨w.heap.size, j, none⟩ = (w.alloc (.cells #[a, b, c] t)).cell? ⟨w.heap.size, j, none⟩ := fun j => h.cell hl
 refine ⟨⟨by rw [e]; simp, by rw [e]; simp, by rw [e]; simp⟩, ((Below.refl _ _).alloc (Nat.le_refl _) _).trans (h.mono (by simp)), by simpa using hs⟩
theorem cut64 (u : ByteArray) (k : Nat) (h : 64 * k + 64 ≤ u.size) : (u.extract (64 * k) (64 * k + 64)).size = 64 ∧ (u.extract (64 * k) (64 * k + 64)).data.toList = (u.data.toList.drop (64 * k)).take 64 := by
 constructor
 ·simp; omega
 ·rw [Lib.extract_data]; congr 1; omega
theorem head_cut (t : ByteArray) (k : Nat) (h : 64 * k + 64 ≤ t.size) : ((t.extract (64 * k) t.size).extract 0 64) = t.extract (64 * k) (64 * k + 64) := by
 rw [ByteArray.extract_extract]
 congr 1 <;> omega
theorem tail_cut (t : ByteArray) (k : Nat) (h : 64 * k + 64 ≤ t.size) : ((t.extract (64 * k) t.size).extract 64 (t.size - 64 * k)) = t.extract (64 * (k + 1)) t.size := by
 rw [ByteArray.extract_extract]
 congr 1 <;> omega
def lenV : Value → Nat | .string s => s.size | _ => 0
def LiesM (w0 w : World) (M : List Nat) : Prop := VAt w w0.heap.size M ∧ VAt w (w0.heap.size + 1) (List.replicate 8 0) ∧ StepIn w ∧ Below w0.heap.size w0 w
theorem LiesM.drew {w0 w : World} {M : List Nat} (h : LiesM w0 w M) : LiesM w0 w.drew M :=
 ⟨h.1, h.2.1, h.2.2.1.on (Below.refl _ _).drew, h.2.2.2.drew⟩
theorem LiesM.store {w0 w : World} {M : List Nat} (h : LiesM w0 w M) (h0 : StepIn w0) (l : List Nat) (hl : l.length = M.length) : LiesM w0 (w.setCells w0.heap.size 0 (wcells l)) l :=
 have hb := below_cellsD (Nat.le_refl w0.heap.size) (wcells l) 0 w h.2.2.2
 ⟨h.1.store l hl, h.2.1.apart (by omega) _ _, h0.on hb, hb⟩
theorem blocks_any (st : List Nat) (t : ByteArray) (w : World) (hst : St st) (ht : t.size ≤ 4000000) (hT : StepIn w) :
 Calls Tryz.prog 171 #[wagg st, .string t] w fun e w' =>
  e = .returned (.tuple #[wagg (mixes (t.size / 64) st t.data.toList), .string (t.extract (64 * (t.size / 64)) t.size)]) ∧ Below w.heap.size w w' := by
 have HS := hide hst
 have HT := hide hT
 obtain ⟨a, b, c, d, e, f, g, i, hs8, -⟩ := hst.open
 have hw8 : wagg st = .agg #[.int .u32 a, .int .u32 b, .int .u32 c, .int .u32 d, .int .u32 e, .int .u32 f, .int .u32 g, .int .u32 i] := by rw [hs8]; rfl
 rw [hw8]
 have ES := hide hs8
 clear hst hT hw8 hs8
 go_enter Tryz.func171, Tryz.ntmps171
 go_wp2
 go_loopw [1] (fun tv wr => ∃ (k : Nat) (u : ByteArray), 64 * k ≤ t.size ∧ tv = .string u ∧ Hid (u = t.extract (64 * k) t.size) ∧ u.size + 64 * k = t.size ∧ Hid (LiesM w wr (mixes k st t.data.toList))) (fun tv _ => lenV tv)
 case atStart =>
  refine ⟨0, t, by omega, rfl, ?_, by omega, ?_⟩
  ·show t = t.extract (64 * 0) t.size
   simp
  ·refine ⟨(v_new w st _ _ (by rw [ES.out]; rfl)).alloc _, ?_, HT.out.on (((Below.refl _ _).alloc (Nat.le_refl _) _).alloc (by simp) _), ((Below.refl _ _).alloc (Nat.le_refl _) _).alloc (by simp) _⟩
   have := v_new (w.alloc (.cells #[.int .u32 a, .int .u32 b, .int .u32 c, .int .u32 d, .int .u32 e, .int .u32 f, .int .u32 g, .int .u32 i] 246)) (List.replicate 8 0) #[.int .u32 0, .int .u32 0, .int .u32 0, .int .u32 0, .int .u32 0, .int .u32 0, .int .u32 0, .int .u32 0] 246 rfl
   simpa using this
 case round =>
  obtain ⟨k, u, hk, rfl, EU, hu, HLi⟩ := hrel
  have hM := hide (mixes_st HS.out k t.data.toList)
  by_cases hge : (64 : Int) ≤ u.size
  ·obtain ⟨v, hv⟩ : ∃ v, v = u.extract 0 64 := ⟨_, rfl⟩
   obtain ⟨r, hr⟩ : ∃ r, r = u.extract 64 u.size := ⟨_, rfl⟩
   have hsl : ∀ W, (Instr.slice 9 (.string u) none (some (.int .i64 64)) none).run Tryz.prog W = .ok (.string v) W := by
    intro W
    rw [run_slice_string_h W 9 u Tryz.underlying9 .i64 _ (by omega) (by omega), hv]
    rfl
   have hsr : ∀ W, (Instr.slice 9 (.string u) (some (.int .i64 64)) none none).run Tryz.prog W = .ok (.string r) W := by
    intro W
    rw [run_slice_string_l W 9 u Tryz.underlying9 .i64 _ (by omega) (by omega), hr]
    rfl
   have hv64 : v.size = 64 := by rw [hv]; simp; omega
   have hrs : r.size + 64 = u.size := by rw [hr]; simp; omega
   have ER : Hid (r = t.extract (64 * (k + 1)) t.size) := by
    show r = _
    rw [hr, ← tail_cut t k (by omega), ← EU.out]
    congr 1
    omega
   have EV : v.data.toList = (t.data.toList.drop (64 * k)).take 64 := by
    rw [hv, EU.out, head_cut t k (by omega)]
    exact (cut64 t k (by omega)).2
   have F : Hid (mixes (k + 1) st t.data.toList = mix (mixes k st t.data.toList) v.data.toList) := by
    show _ = _
    rw [EV]; rfl
   obtain ⟨M, hMM⟩ : ∃ M, M = mixes k st t.data.toList := ⟨_, rfl⟩
   rw [← hMM] at HLi hM F
   have hM2 := hide (mix_st hM.out v.data.toList)
   have CB := hide (fun w' => block_any M v w' hM.out hv64)
   obtain ⟨M2, hMM2⟩ : ∃ M2, M2 = mix M v.data.toList := ⟨_, rfl⟩
   rw [← hMM2] at F hM2 CB
   have hl8 := hM.out.1
   have hl82 := hM2.out.1
   clear hMM hMM2 EV hv hr EU
   obtain ⟨m0, m1, m2, m3, m4, m5, m6, m7, hm8, -⟩ := hM.out.open
   have s0 := words_at HLi.out.1.1 0 m0 (by rw [hm8]; rfl)
   have s1 := words_at HLi.out.1.1 1 m1 (by rw [hm8]; rfl)
   have s2 := words_at HLi.out.1.1 2 m2 (by rw [hm8]; rfl)
   have s3 := words_at HLi.out.1.1 3 m3 (by rw [hm8]; rfl)
   have s4 := words_at HLi.out.1.1 4 m4 (by rw [hm8]; rfl)
   have s5 := words_at HLi.out.1.1 5 m5 (by rw [hm8]; rfl)
   have s6 := words_at HLi.out.1.1 6 m6 (by rw [hm8]; rfl)
   have s7 := words_at HLi.out.1.1 7 m7 (by rw [hm8]; rfl)
   have hwM : wagg M = .agg #[.int .u32 m0, .int .u32 m1, .int .u32 m2, .int .u32 m3, .int .u32 m4, .int .u32 m5, .int .u32 m6, .int .u32 m7] := by rw [hm8]; rfl
   rw [hwM] at CB
   obtain ⟨p0, p1, p2, p3, p4, p5, p6, p7, hp8, -⟩ := hM2.out.open
   have hwP : wagg M2 = .agg #[.int .u32 p0, .int .u32 p1, .int .u32 p2, .int .u32 p3, .int .u32 p4, .int .u32 p5, .int .u32 p6, .int .u32 p7] := by rw [hp8]; rfl
   rw [hwP] at CB
   have HLd := hide HLi.out.drew
   have CB2 : Hid (Calls Tryz.prog 194 #[.agg #[.int .u32 m0, .int .u32 m1, .int .u32 m2, .int .u32 m3, .int .u32 m4, .int .u32 m5, .int .u32 m6, .int .u32 m7], .string v] wr.drew fun e w3 => e = .returned (.agg #[.int .u32 p0, .int .u32 p1, .int .u32 p2, .int .u32 p3, .int .u32 p4, .int .u32 p5, .int .u32 p6, .int .u32 p7]) ∧
    ((w3.cell? ⟨w.heap.size, 0, none⟩ = some (.int .u32 m0) ∧ w3.cell? ⟨w.heap.size, 1, none⟩ = some (.int .u32 m1) ∧ w3.cell? ⟨w.heap.size, 2, none⟩ = some (.int .u32 m2) ∧ w3.cell? ⟨w.heap.size, 3, none⟩ = some (.int .u32 m3) ∧ w3.cell? ⟨w.heap.size, 4, none⟩ = some (.int .u32 m4) ∧ w3.cell? ⟨w.heap.size, 5, none⟩ = some (.int .u32 m5) ∧ w3.cell? ⟨w.heap.size, 6, none⟩ = some (.int .u32 m6) ∧ w3.cell? ⟨w.heap.size, 7, none⟩ = some (.int .u32 m7)) ∧
    (w3.frozen? ⟨w.heap.size, 0, none⟩ = false ∧ w3.frozen? ⟨w.heap.size, 1, none⟩ = false ∧ w3.frozen? ⟨w.heap.size, 2, none⟩ = false ∧ w3.frozen? ⟨w.heap.size, 3, none⟩ = false ∧ w3.frozen? ⟨w.heap.size, 4, none⟩ = false ∧ w3.frozen? ⟨w.heap.size, 5, none⟩ = false ∧ w3.frozen? ⟨w.heap.size, 6, none⟩ = false ∧ w3.frozen? ⟨w.heap.size, 7, none⟩ = false) ∧ Hid (LiesM w w3 M))) := by
    refine (CB.out _ HLd.out.2.2.1).mono ?_
    rintro en w3 ⟨rfl, hb3⟩
    have h3 : LiesM w w3 M := ⟨HLd.out.1.below hb3 HLd.out.1.1.1, HLd.out.2.1.below hb3 HLd.out.2.1.1.1, HLd.out.2.2.1.on hb3, HLd.out.2.2.2.trans (hb3.mono HLd.out.2.2.2.size)⟩
    have q := fun j x hx => words_at h3.1.1 j x hx
    exact ⟨rfl, ⟨q 0 m0 (by rw [hm8]; rfl), q 1 m1 (by rw [hm8]; rfl), q 2 m2 (by rw [hm8]; rfl), q 3 m3 (by rw [hm8]; rfl), q 4 m4 (by rw [hm8]; rfl), q 5 m5 (by rw [hm8]; rfl), q 6 m6 (by rw [hm8]; rfl), q 7 m7 (by rw [hm8]; rfl)⟩, ⟨h3.1.2 0, h3.1.2 1, h3.1.2 2, h3.1.2 3, h3.1.2 4, h3.1.2 5, h3.1.2 6, h3.1.2 7⟩, h3⟩
   have HP := hide hp8
   clear hwM hwP hm8 hp8 HLi HLd CB
   go_wp2
   go_region_with (
    (go_at_call 194; refine CB2.out.mono ?_; rintro en w3 ⟨rfl, ⟨r0, r1, r2, r3, r4, r5, r6, r7⟩, ⟨f0, f1, f2, f3, f4, f5, f6, f7⟩, HL3⟩))
   all_goals
    have h4 := HL3.out.store HT.out M2 (by rw [hl8, hl82])
    rw [HP.out] at h4
    have HL4 : Hid (LiesM w ((((((((w3.setCell ⟨w.heap.size, 0, none⟩ (.int .u32 p0)).setCell ⟨w.heap.size, 1, none⟩ (.int .u32 p1)).setCell ⟨w.heap.size, 2, none⟩ (.int .u32 p2)).setCell ⟨w.heap.size, 3, none⟩ (.int .u32 p3)).setCell ⟨w.heap.size, 4, none⟩ (.int .u32 p4)).setCell ⟨w.heap.size, 5, none⟩ (.int .u32 p5)).setCell ⟨w.heap.size, 6, none⟩ (.int .u32 p6)).setCell ⟨w.heap.size, 7, none⟩ (.int .u32 p7)) [p0, p1, p2, p3, p4, p5, p6, p7]) := h4
    rw [← HP.out, ← F.out] at HL4
    generalize (((((((w3.setCell ⟨w.heap.size, 0, none⟩ (.int .u32 p0)).setCell ⟨w.heap.size, 1, none⟩ (.int .u32 p1)).setCell ⟨w.heap.size, 2, none⟩ (.int .u32 p2)).setCell ⟨w.heap.size, 3, none⟩ (.int .u32 p3)).setCell ⟨w.heap.size, 4, none⟩ (.int .u32 p4)).setCell ⟨w.heap.size, 5, none⟩ (.int .u32 p5)).setCell ⟨w.heap.size, 6, none⟩ (.int .u32 p6)).setCell ⟨w.heap.size, 7, none⟩ (.int .u32 p7) = w4 at HL4
    clear h4 HL3 CB2 r0 r1 r2 r3 r4 r5 r6 r7 f0 f1 f2 f3 f4 f5 f6 f7 s0 s1 s2 s3 s4 s5 s6 s7 F HP hsl
    go_wp2
    go_roundw
    case rel => exact ⟨k + 1, r, by omega, rfl, ER, by omega, HL4⟩
    case measure => simp [lenV]; omega
  ·have ek : k = t.size / 64 := by omega
   subst ek
   obtain ⟨M, hMM⟩ : ∃ M, M = mixes (t.size / 64) st t.data.toList := ⟨_, rfl⟩
   rw [← hMM] at HLi hM
   have EM := hide hMM
   have hl8 := hM.out.1
   clear hMM
   go_wp2_with (first
    | refine wpList_load_words rfl _ _ rfl w.heap.size rfl M _ HLi.out.1.1 Tryz.underlying246 rfl (by rw [hl8]; exact info8) ?_
    | (refine wpList_store_words rfl _ _ _ rfl (w.heap.size + 1) M (List.replicate 8 0) rfl rfl HLi.out.2.1 (by rw [hl8]; rfl) (by rw [hl8]; exact info8) ?_; intro w3 hw3))
   have hV3 : VAt (wr.setCells (w.heap.size + 1) 0 (wcells M)) (w.heap.size + 1) M := HLi.out.2.1.store _ (by rw [hl8]; rfl)
   exact bodyPost_ret (results_words2 rfl _ _ _ _ _ rfl hV3.1 Tryz.underlying246 rfl (by rw [hl8]; exact info8)) rfl ⟨by rw [← EM.out, ← EU.out]; rfl, below_cellsD (by omega) _ _ _ HLi.out.2.2.2⟩
def lbN : Nat → Nat → List UInt8
 | 0, _ => []
 | m + 1, b => lbN m b ++ [UInt8.ofNat (b / 256 ^ (7 - m) % 256)]
theorem lbN_len (m b : Nat) : (lbN m b).length = m := by
 induction m with
 | zero => rfl
 | succ m ih => simp [lbN, ih]
def padN (r : List UInt8) (k : Nat) : List UInt8 := r ++ [128] ++ List.replicate k 0
theorem padN_len (r : List UInt8) (k : Nat) : (padN r k).length = r.length + 1 + k := by simp [padN]; omega
def padL (r : List UInt8) (n : Nat) : List UInt8 := padN r ((119 - r.length) % 64) ++ lbN 8 (8 * n)
theorem padL_len (r : List UInt8) (n : Nat) (hr : r.length < 64) : (padL r n).length % 64 = 0 ∧ (padL r n).length ≤ 128 := by
 unfold padL
 rw [List.length_append, padN_len, lbN_len]
 omega
def endL (s r : List UInt8) (n : Nat) : List UInt8 := bytesOf (mixes ((padL r n).length / 64) (words s) (padL r n))
def lenOf : Value → Nat
 | .slice _ n _ => n
 | _ => 0
theorem lbN_four (b : Nat) : lbN 8 b = four4 (b / 4294967296) ++ four4 (b % 4294967296) := by
 have e : ∀ x y : Nat, x % 256 = y % 256 → UInt8.ofNat x = UInt8.ofNat y := by
  intro x y h
  apply UInt8.toNat_inj.1
  rw [UInt8.toNat_ofNat', UInt8.toNat_ofNat']
  exact h
 simp only [lbN, four4, List.nil_append, List.cons_append]
 simp only [List.cons.injEq, and_true]
 refine ⟨?_, ?_, ?_, ?_, ?_, ?_, ?_, ?_⟩
 all_goals first | exact e _ _ (by omega) | trivial
def lastL (n : Nat) : List UInt8 := [128] ++ List.replicate ((119 - n % 64) % 64) 0 ++ lbN 8 (8 * n)
theorem padL_last (r : List UInt8) (n : Nat) (h : r.length = n % 64) : padL r n = r ++ lastL n := by
 unfold padL padN lastL
 rw [h]
 simp [List.append_assoc]
theorem own_slice {w : World} {base : Nat} {v : Value} {l : List UInt8} (h : w.ownsRow base 5 1 v l.length (bcells l)) (h0 : 0 < l.length) : ∃ g cap, v = .slice (some ⟨g, 0, none⟩) l.length cap := by
 rcases h.2 with ⟨-, h0'⟩ | ⟨g, cap, cur, rfl, -⟩
 ·omega
 ·exact ⟨g, cap, rfl⟩
theorem appendWord_int (v : Value) (l : List UInt8) (z : Int) (x base : Nat) (hz : z = x) (w : World) (hx : x < 4294967296) (hl : l.length ≤ 1000000) (hown : w.ownsRow base 5 1 v l.length (bcells l)) (hB : base ≤ w.heap.size) :
 Calls Tryz.prog 210 #[v, .int .u32 z] w fun e w' => ∃ v' : Value, e = .returned v' ∧ w'.ownsRow base 5 1 v' (l ++ four4 x).length (bcells (l ++ four4 x)) ∧ Below base w w' := by
 subst hz
 exact appendWord_any v l x base w hx hl hown hB
theorem pad_snoc (k : Nat) : ([128] ++ List.replicate k 0 : List UInt8) ++ [0] = [128] ++ List.replicate (k + 1) 0 := by simp [List.replicate_succ']
theorem last_any (n : Nat) (w : World) (hn : n ≤ 1000000000) :
 Calls Tryz.prog 195 #[.int .i64 n] w fun e w' => e = .returned (.string ⟨(lastL n).toArray⟩) ∧ Below w.heap.size w w' := by
 obtain ⟨i0, hi, hz0, hz1, hz2⟩ := info_parts infoByte
 go_enter Tryz.func195, Tryz.ntmps195
 go_wp2
 go_loopw [3] (fun out wr => ∃ (k : Nat) (l : List UInt8), k ≤ (119 - n % 64) % 64 ∧ Hid (l = [128] ++ List.replicate k 0) ∧ l.length = k + 1 ∧ Hid (wr.ownsRow w.heap.size 5 1 out l.length (bcells l)) ∧ Below w.heap.size w wr) (fun out _ => 64 - lenOf out)
 case atStart =>
  refine ⟨0, [128], by omega, rfl, rfl, ?_, (Below.refl _ _).alloc (Nat.le_refl _) _⟩
  exact ⟨rfl, .inr ⟨w.heap.size, 1, #[.int .u8 128], rfl, Nat.le_refl _, heap_alloc_new w _, Nat.le_refl _, by unfold maxLen; omega, rfl, rfl⟩⟩
 case round =>
  obtain ⟨k, l, hk, EL, hl, HO, hbel⟩ := hrel
  have hsz := hbel.size
  obtain ⟨gg, cap, rfl⟩ := own_slice HO.out (by omega)
  by_cases h56 : k = (119 - n % 64) % 64
  ·have t1 : ((n : Int) + ((k + 1 : Nat) : Int)) % 64 = 56 := by omega
   obtain ⟨S, hS⟩ : ∃ S, S = 8 * n := ⟨_, rfl⟩
   have hS9 : S ≤ 8000000000 := by omega
   have fS : (8 : Int) * (n : Int) = (S : Int) := by omega
   obtain ⟨hi', hH⟩ : ∃ x, x = S / 4294967296 := ⟨_, rfl⟩
   obtain ⟨lo, hL⟩ : ∃ x, x = S % 4294967296 := ⟨_, rfl⟩
   have fH : (S : Int) / 4294967296 = (hi' : Int) := by omega
   have fL : (S : Int) % 4294967296 = (lo : Int) := by omega
   have EF : Hid (lastL n = l ++ four4 hi' ++ four4 lo) := by
    show _ = _
    unfold lastL
    rw [EL.out, ← h56, ← hS, lbN_four S, hH, hL, List.append_assoc, List.append_assoc, List.append_assoc]
   have hlo : lo < 4294967296 := by omega
   have hhi : hi' < 4294967296 := by omega
   have t2 : ((n : Int) + (l.length : Int)) % 64 = 56 := by rw [hl]; exact t1
   have hl9 : l.length ≤ 1000 := by omega
   have HO1 : Hid (wr.ownsRow w.heap.size 5 1 (.slice (some ⟨gg, 0, none⟩) (k + 1) cap) l.length (bcells l)) := by
    show World.ownsRow _ _ _ _ _ _ _
    have := HO.out
    rw [hl] at this ⊢
    exact this
   clear hS hH hL h56 EL t2 hk HO
   go_wp2_with fail
   refine (appendWord_int _ l _ hi' w.heap.size rfl _ hhi (by omega) HO1.out hsz).mono ?_
   rintro e w1 ⟨v1, rfl, hown1, hb1⟩
   have HO3 := hide hown1
   have hb1' := hide hb1
   have hsz1 : w.heap.size ≤ w1.heap.size := by have := hb1.size; omega
   have hl1 : (l ++ four4 hi').length ≤ 1000000 := by simp [four4]; omega
   clear hown1 hb1 HO1
   go_wp2_with fail
   refine (appendWord_int _ (l ++ four4 hi') _ lo w.heap.size rfl _ hlo hl1 HO3.out hsz1).mono ?_
   rintro e w2 ⟨v2, rfl, hown2, hb2⟩
   have hcv := conv_own w2 _ _ hown2
   rw [← EF.out] at hcv
   have HB : Hid (Below w.heap.size w w2) := (hbel.trans hb1'.out).trans hb2
   obtain ⟨r, hr⟩ : ∃ r, lastL n = r := ⟨_, rfl⟩
   rw [hr] at hcv
   have HR := hide hr
   clear hr hown2 hb2 HO3 EF
   go_wp2
   go_ret
   exact ⟨by rw [HR.out]; rfl, HB.out⟩
  ·have t1 : ¬ ((n : Int) + (l.length : Int)) % 64 = 56 := by omega
   have F : Hid (l ++ [0] = [128] ++ List.replicate (k + 1) 0) := by show _ = _; rw [EL.out, pad_snoc]
   clear EL
   go_wp2_with (at_builtin; refine wpList_append_own _ rfl _ _ 107 rfl w.heap.size 5 i0 (.int .u8 0) 1 1 Tryz.underlying107 hi hz0 hz1 hz2 rfl (by decide) _ _ _ rfl (by exact HO.out.alloc _) ⟨wr.heap.size, 0, none⟩ 1 1 [Value.int .u8 _] rfl rfl (by exact one_cell _ _ _) (one_u8 _) (by unfold maxLen; omega) (by omega) (by simp; omega) ?_)
   intro v' w2 hown2 hgrow _
   have hb2 : Below w.heap.size w w2 := own_grown hbel hsz HO.out (by rw [hl]; exact hgrow)
   rw [bcells_snoc l 0 0 rfl] at hown2
   have HO2 : Hid (w2.ownsRow w.heap.size 5 1 v' (l ++ [0]).length (bcells (l ++ [0]))) := by
    show World.ownsRow _ _ _ _ _ _ _
    rw [List.length_append, hl]; exact hown2
   have hl2 : (l ++ [0]).length = k + 1 + 1 := by simp [hl]
   have hm : lenOf v' = k + 1 + 1 := by
    obtain ⟨g2, c2, hv2⟩ := own_slice HO2.out (by omega)
    rw [hv2, hl2]; rfl
   clear hown2 hgrow HO hbel
   go_wp2
   go_roundw
   case rel => exact ⟨k + 1, l ++ [0], by omega, F, hl2, HO2, hb2⟩
   case measure => simp [lenOf] at hm ⊢; omega
def endS (st : List Nat) (r : List UInt8) (n : Nat) : List UInt8 := bytesOf (mixes ((padL r n).length / 64) st (padL r n))
theorem endS_words (s r : List UInt8) (n : Nat) : endS (words s) r n = endL s r n := rfl
def St8 (w : World) (g m0 m1 m2 m3 m4 m5 m6 m7 : Nat) : Prop := (w.cell? ⟨g, 0, none⟩ = some (.int .u32 m0) ∧ w.cell? ⟨g, 1, none⟩ = some (.int .u32 m1) ∧ w.cell? ⟨g, 2, none⟩ = some (.int .u32 m2) ∧ w.cell? ⟨g, 3, none⟩ = some (.int .u32 m3) ∧ w.cell? ⟨g, 4, none⟩ = some (.int .u32 m4) ∧ w.cell? ⟨g, 5, none⟩ = some (.int .u32 m5) ∧ w.cell? ⟨g, 6, none⟩ = some (.int .u32 m6) ∧ w.cell? ⟨g, 7, none⟩ = some (.int .u32 m7)) ∧
 (w.frozen? ⟨g, 0, none⟩ = false ∧ w.frozen? ⟨g, 1, none⟩ = false ∧ w.frozen? ⟨g, 2, none⟩ = false ∧ w.frozen? ⟨g, 3, none⟩ = false ∧ w.frozen? ⟨g, 4, none⟩ = false ∧ w.frozen? ⟨g, 5, none⟩ = false ∧ w.frozen? ⟨g, 6, none⟩ = false ∧ w.frozen? ⟨g, 7, none⟩ = false)
theorem st8_of {w : World} {g m0 m1 m2 m3 m4 m5 m6 m7 : Nat} (h : VAt w g [m0, m1, m2, m3, m4, m5, m6, m7]) : St8 w g m0 m1 m2 m3 m4 m5 m6 m7 :=
 ⟨⟨words_at h.1 0 m0 rfl, words_at h.1 1 m1 rfl, words_at h.1 2 m2 rfl, words_at h.1 3 m3 rfl, words_at h.1 4 m4 rfl, words_at h.1 5 m5 rfl, words_at h.1 6 m6 rfl, words_at h.1 7 m7 rfl⟩, h.2 0, h.2 1, h.2 2, h.2 3, h.2 4, h.2 5, h.2 6, h.2 7⟩
theorem store8 {w : World} {g p0 p1 p2 p3 p4 p5 p6 p7 : Nat} {l : List Nat} (h : VAt w g l) (hl : l.length = 8) : VAt ((((((((w.setCell ⟨g, 0, none⟩ (.int .u32 p0)).setCell ⟨g, 1, none⟩ (.int .u32 p1)).setCell ⟨g, 2, none⟩ (.int .u32 p2)).setCell ⟨g, 3, none⟩ (.int .u32 p3)).setCell ⟨g, 4, none⟩ (.int .u32 p4)).setCell ⟨g, 5, none⟩ (.int .u32 p5)).setCell ⟨g, 6, none⟩ (.int .u32 p6)).setCell ⟨g, 7, none⟩ (.int .u32 p7)) g [p0, p1, p2, p3, p4, p5, p6, p7] :=
 h.store [p0, p1, p2, p3, p4, p5, p6, p7] (by rw [hl]; rfl)
theorem below8 {B : Nat} {a w : World} {g p0 p1 p2 p3 p4 p5 p6 p7 : Nat} (h : Below B a w) (hg : B ≤ g) : Below B a ((((((((w.setCell ⟨g, 0, none⟩ (.int .u32 p0)).setCell ⟨g, 1, none⟩ (.int .u32 p1)).setCell ⟨g, 2, none⟩ (.int .u32 p2)).setCell ⟨g, 3, none⟩ (.int .u32 p3)).setCell ⟨g, 4, none⟩ (.int .u32 p4)).setCell ⟨g, 5, none⟩ (.int .u32 p5)).setCell ⟨g, 6, none⟩ (.int .u32 p6)).setCell ⟨g, 7, none⟩ (.int .u32 p7)) :=
 below_cellsD hg (wcells [p0, p1, p2, p3, p4, p5, p6, p7]) 0 w h
end Go.Proofs.YtcjgjkejhkhknacGreatDoor
