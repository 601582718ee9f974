/-
  ImplR; ImplB
-/
import Derived.Test.YtcjgjkejhkhknabGreatDoorPk42
import Derived.Lib.LaidTab
import Derived.Lib.AppendIntMem
set_option maxHeartbeats 1000000
set_option maxRecDepth 100000
namespace Go.Proofs.YtcjgjkejhkhknabGreatDoor
open Go.RowKit
open Dig
theorem info64 : (Tryz.prog.info? 202).map (·.size) = some 64 := by kernel_rfl
def fillN (k : Nat) (b : List UInt8) : List Nat := if k ≤ 16 then wordsN k b else sched (k - 16) (wordsN 16 b)
theorem fillN_len (k : Nat) (b : List UInt8) : (fillN k b).length = k := by
 unfold fillN
 split
 ·exact wordsN_len k b
 ·rw [sched_len, wordsN_len]; omega
theorem fillN_lt (k : Nat) (b : List UInt8) : ∀ x ∈ fillN k b, x < 4294967296 := by
 unfold fillN
 split
 ·exact wordsN_lt k b
 ·exact sched_lt _ _ (wordsN_lt 16 b)
theorem fillN_low (k : Nat) (b : List UInt8) (hk : k < 16) : fillN (k + 1) b = fillN k b ++ [word (b.drop (4 * k))] := by
 unfold fillN
 rw [if_pos (by omega), if_pos (by omega)]
 rfl
theorem fillN_high (k : Nat) (b : List UInt8) (hk : 16 ≤ k) : fillN (k + 1) b = fillN k b ++ [next (fillN k b)] := by
 unfold fillN
 rw [if_neg (by omega)]
 have e : k + 1 - 16 = (k - 16) + 1 := by omega
 rw [e]
 show sched (k - 16) _ ++ [next (sched (k - 16) _)] = _
 by_cases h : k ≤ 16
 ·have : k = 16 := by omega
  subst this
  rfl
 ·rw [if_neg h]
theorem fillN_all (b : List UInt8) (hb : b.length = 64) : fillN 64 b = sched 48 (words b) := by
 unfold fillN words
 rw [if_neg (by omega), hb]
def arrN (k : Nat) (b : List UInt8) : List Nat := fillN k b ++ List.replicate (64 - k) 0
theorem arrN_len (k : Nat) (b : List UInt8) (hk : k ≤ 64) : (arrN k b).length = 64 := fill_len _ 64 k (fillN_len k b) hk
theorem arrN_set (k x : Nat) (b : List UInt8) (hk : k < 64) (hx : fillN (k + 1) b = fillN k b ++ [x]) : (arrN k b).set k x = arrN (k + 1) b := by
 unfold arrN
 rw [fill_set _ 64 k x (fillN_len k b) hk, hx]
theorem arrN_at (k j : Nat) (b : List UInt8) (hj : j < k) : (arrN k b)[j]? = (fillN k b)[j]? := by
 unfold arrN
 rw [List.getElem?_append_left (by rw [fillN_len]; exact hj)]
theorem spread_any (b : ByteArray) (w : World) (hb : b.size = 64) :
 Calls Tryz.prog 137 #[.string b] w fun e w' => e = .returned (wagg (sched 48 (words b.data.toList))) ∧ Below w.heap.size w w' := by
 have EW := hide (fillN_all b.data.toList (by simpa using hb))
 go_enter Tryz.func137, Tryz.ntmps137
 go_wp2
 go_loopw [5] (fun iv wr => ∃ k : Nat, k ≤ 64 ∧ iv = .int .i64 k ∧ Hid (VAt wr (w.heap.size + 1) (arrN k b.data.toList)) ∧ Hid (VAt wr w.heap.size (List.replicate 64 0)) ∧ Below w.heap.size w wr) (fun iv _ => 64 - (intOf iv).toNat)
 case atStart =>
  refine ⟨0, by omega, rfl, ?_, ?_, ((Below.refl _ _).alloc (Nat.le_refl _) _).alloc (by simp) _⟩
  ·have := v_new (w.alloc (.cells (List.replicate 64 (Value.int .u32 0)).toArray 202)) (List.replicate 64 0) (List.replicate 64 (Value.int .u32 0)).toArray 202 rfl
   have e : (w.alloc (.cells (List.replicate 64 (Value.int .u32 0)).toArray 202)).heap.size = w.heap.size + 1 := by simp
   rw [e] at this
   exact this
  ·exact (v_new w (List.replicate 64 0) (List.replicate 64 (Value.int .u32 0)).toArray _ rfl).alloc _
 case round =>
  obtain ⟨k, hk, rfl, HV, HZ, hbel⟩ := hrel
  have hsz := hbel.size
  by_cases hlt : (k : Int) < 64
  ·have hlen := arrN_len k b.data.toList (by omega)
   by_cases h16 : (k : Int) < 16
   ·have F := hide (arrN_set k _ b.data.toList (by omega) (fillN_low k b.data.toList (by omega)))
    go_wp2_with fail
    refine (wordAt_int b _ (4 * k) (by omega) _ (by unfold maxLen; omega) (by omega)).mono ?_
    rintro e w1 ⟨rfl, hb1⟩
    have hbb : Below w.heap.size w w1 := hbel.trans (hb1.mono hsz)
    have HV1 := hide (HV.out.below hb1 HV.out.1.1)
    have HZ1 := hide (HZ.out.below hb1 HZ.out.1.1)
    obtain ⟨xo, kc⟩ : ∃ xo, w1.cell? ⟨w.heap.size + 1, k, none⟩ = some xo := ⟨_, HV1.out.1.2 k (by omega)⟩
    have kf := HV1.out.2 k
    have HV2 := hide (HV1.out.set k (word (b.data.toList.drop (4 * k))))
    rw [F.out] at HV2
    generalize word (b.data.toList.drop (4 * k)) = x at HV2
    have HZ2 := hide (HZ1.out.other (r := w.heap.size + 1) (i := k) (u := .int .u32 x) (by omega))
    have hb2 := hbb.setCell (p := ⟨w.heap.size + 1, k, none⟩) (by show w.heap.size ≤ w.heap.size + 1; omega) (.int .u32 x)
    clear HV HZ hbel hb1 HV1 HZ1 F hbb
    go_wp2
    go_roundw
    case rel => exact ⟨k + 1, by omega, by go_num, HV2, HZ2, hb2⟩
    case measure => simp [intOf]; omega
   ·obtain ⟨a2, a7, a15, a16, x2, x7, x15, x16, s2, s15, y1, y2, y3, la2, la7, la15, la16, t2, t7, t15, t16, g2, g7, g15, g16, b2, b15, e2, e15, z1, z2, z3, en⟩ := next_open (fillN k b.data.toList) k (fillN_len k _) (by omega) (fillN_lt k _)
    have F := arrN_set k _ b.data.toList (by omega) (fillN_high k b.data.toList (by omega))
    rw [en] at F
    rw [← arrN_at k _ _ la2] at g2
    rw [← arrN_at k _ _ la7] at g7
    rw [← arrN_at k _ _ la15] at g15
    rw [← arrN_at k _ _ la16] at g16
    have k2 := words_at HV.out.1 a2 x2 g2
    have k7 := words_at HV.out.1 a7 x7 g7
    have k15 := words_at HV.out.1 a15 x15 g15
    have k16 := words_at HV.out.1 a16 x16 g16
    obtain ⟨xo, kc⟩ : ∃ xo, wr.cell? ⟨w.heap.size + 1, k, none⟩ = some xo := ⟨_, HV.out.1.2 k (by omega)⟩
    have kf := HV.out.2 k
    have HV2 := hide (HV.out.set k y3)
    rw [F] at HV2
    have HZ2 := hide (HZ.out.other (r := w.heap.size + 1) (i := k) (u := .int .u32 y3) (by omega))
    have hb2 := hbel.setCell (p := ⟨w.heap.size + 1, k, none⟩) (by show w.heap.size ≤ w.heap.size + 1; omega) (.int .u32 y3)
    have o : ∀ (j x : Nat), j < k → wr.cell? ⟨w.heap.size + 1, j, none⟩ = some (.int .u32 x) → ((wr.setCell ⟨w.heap.size + 1, k, none⟩ (.int .u32 y3)).drew).cell? ⟨w.heap.size + 1, j, none⟩ = some (.int .u32 x) := by
     intro j x hj hc
     show (wr.setCell ⟨w.heap.size + 1, k, none⟩ (.int .u32 y3)).cell? ⟨w.heap.size + 1, j, none⟩ = _
     rw [World.cell?_setCell_other _ _ _ _ (fun e => by injection e with _ e; omega)]
     exact hc
    have HKp := hide (And.intro (o a2 x2 la2 k2) (And.intro (o a7 x7 la7 k7) (And.intro (o a15 x15 la15 k15) (o a16 x16 la16 k16))))
    have E2 := hide e2
    have E15 := hide e15
    clear o
    have w2 : IntKind.i64.wrap ((k : Int) - 2) = (a2 : Int) := by rw [IntKind.wrap_i64]; omega
    have w7 : IntKind.i64.wrap ((k : Int) - 7) = (a7 : Int) := by rw [IntKind.wrap_i64]; omega
    have w15 : IntKind.i64.wrap ((k : Int) - 15) = (a15 : Int) := by rw [IntKind.wrap_i64]; omega
    have w16 : IntKind.i64.wrap ((k : Int) - 16) = (a16 : Int) := by rw [IntKind.wrap_i64]; omega
    have p2 : (0 : Int) ≤ a2 := by omega
    have p7 : (0 : Int) ≤ a7 := by omega
    have p15 : (0 : Int) ≤ a15 := by omega
    have p16 : (0 : Int) ≤ a16 := by omega
    have q2 : (a2 : Int) < 64 := by omega
    have q7 : (a7 : Int) < 64 := by omega
    have q15 : (a15 : Int) < 64 := by omega
    have q16 : (a16 : Int) < 64 := by omega
    have pk : (0 : Int) ≤ k := by omega
    clear F en e2 e15 g2 g7 g15 g16 t2 t7 t15 t16 HV HZ hbel EW
    go_wp2
    go_region_held3 (fun w' => w'.cell? ⟨w.heap.size + 1, a2, none⟩ = some (.int .u32 x2) ∧ w'.cell? ⟨w.heap.size + 1, a7, none⟩ = some (.int .u32 x7) ∧ w'.cell? ⟨w.heap.size + 1, a15, none⟩ = some (.int .u32 x15) ∧ w'.cell? ⟨w.heap.size + 1, a16, none⟩ = some (.int .u32 x16)) (first | (with_reducible exact HKp.out) | go_keep) (first
     | (go_at_call 138; with_reducible refine Calls.mono (mixed_w2 x2 _ b2) ?_; rintro e w' ⟨rfl, rfl⟩; rw [E2.out])
     | (go_at_call 138; with_reducible refine Calls.mono (mixed_w15 x15 _ b15) ?_; rintro e w' ⟨rfl, rfl⟩; rw [E15.out]))
    have HV3 : Hid (VAt (wr.setCell ⟨w.heap.size + 1, k, none⟩ (.int .u32 y3)).drew (w.heap.size + 1) (arrN (k + 1) b.data.toList)) := HV2
    have HZ3 : Hid (VAt (wr.setCell ⟨w.heap.size + 1, k, none⟩ (.int .u32 y3)).drew w.heap.size (List.replicate 64 0)) := HZ2
    have HB3 := hide hb2.drew
    generalize (wr.setCell ⟨w.heap.size + 1, k, none⟩ (.int .u32 y3)).drew = w3 at HV3 HZ3 HB3
    clear HV2 HZ2 hb2 HKp k2 k7 k15 k16 kc kf z1 z2 z3 w2 w7 w15 w16 E2 E15
    go_wp2
    go_roundw
    case rel => exact ⟨k + 1, by omega, by go_num, HV3, HZ3, HB3.out⟩
    case measure => simp [intOf]; omega
  ·have e64 : k = 64 := by omega
   subst e64
   have hw64 : (sched 48 (words b.data.toList)).length = 64 := by rw [← EW.out, fillN_len]
   have HV8 : Hid (VAt wr (w.heap.size + 1) (sched 48 (words b.data.toList))) := by
    have := HV.out
    unfold arrN at this
    rw [EW.out] at this
    show VAt _ _ _
    simpa using this
   obtain ⟨L, hL⟩ : ∃ L, sched 48 (words b.data.toList) = L := ⟨_, rfl⟩
   rw [hL] at HV8 hw64
   have EL := hide hL
   clear hL EW
   have hr : (List.replicate 64 0 : List Nat).length = 64 := List.length_replicate
   clear HV
   go_wp2_with (first
    | refine wpList_load_words rfl _ _ rfl (w.heap.size + 1) rfl L _ HV8.out.1 Tryz.underlying202 rfl (by rw [hw64]; exact info64) ?_
    | (refine wpList_store_words rfl _ _ _ rfl w.heap.size L (List.replicate 64 0) rfl rfl HZ.out (by rw [hw64, hr]) (by rw [hw64]; exact info64) ?_; intro w2 hw2))
   have hV2 : VAt (wr.setCells w.heap.size 0 (wcells L)) w.heap.size L := HZ.out.store L (by rw [hw64, hr])
   exact bodyPost_ret (results_words rfl _ _ _ _ _ rfl hV2.1 Tryz.underlying202 rfl (by rw [hw64]; exact info64)) rfl ⟨by rw [EL.out], below_cellsD (Nat.le_refl _) _ _ _ hbel⟩
def StepIn (w : World) : Prop := Lib.TabIs Tryz.prog w "loop.example/g00195/impl.stepWords" .u32 (ks.map Int.ofNat)
theorem StepIn.on {w w' : World} (h : StepIn w) (hb : Below w.heap.size w w') : StepIn w' := Lib.tabBelow_of_tabIs h w' hb
theorem ks_len : ks.length = 64 := rfl
theorem StepIn.cell {w : World} (h : StepIn w) (i : Nat) (hi : i < 64) : w.cell? ⟨0, i, none⟩ = some (.int .u32 (ks.getD i 0 : Nat)) := by
 have hi2 : i < ks.length := by rw [ks_len]; exact hi
 have := Lib.TabIs.cell h (g := 0) (by kernel_rfl) i (by simpa using hi2)
 rw [this]
 simp [List.getD, hi2]
def Lies (w0 w : World) (gw : Nat) (st L : List Nat) : Prop := VAt w w0.heap.size st ∧ VAt w (w0.heap.size + 1) (List.replicate 8 0) ∧ WordsAt w gw L ∧ StepIn w ∧ Below w0.heap.size w0 w
theorem Lies.drewN {w0 w : World} {gw : Nat} {st L : List Nat} (h : Lies w0 w gw st L) (k : Nat) : Lies w0 (w.drewN k) gw st L :=
 ⟨h.1, h.2.1, h.2.2.1, h.2.2.2.1.on (below_drewN (Below.refl _ _) k), below_drewN h.2.2.2.2 k⟩
theorem block_any (st : List Nat) (b : ByteArray) (w : World) (hst : St st) (hb : b.size = 64) (ht : StepIn w) :
 Calls Tryz.prog 105 #[wagg st, .string b] w fun e w' => e = .returned (wagg (mix st b.data.toList)) ∧ Below w.heap.size w w' := by
 have HS := hide hst
 have HT := hide ht
 have EM : Hid (mix st b.data.toList = joined st (steps 64 st ks (sched 48 (words b.data.toList)))) := rfl
 have hL64 : (sched 48 (words b.data.toList)).length = 64 := by rw [sched_len, words_len]; have : b.data.toList.length = 64 := by simpa using hb
                                                                omega
 have HC := hide (spread_any b)
 obtain ⟨L, hL⟩ : ∃ L, sched 48 (words b.data.toList) = L := ⟨_, rfl⟩
 rw [hL] at EM hL64 HC
 obtain ⟨a, b', c, d, e, f, g, i, hs8, ha, hb', hc, hd, he, hf, hg, hi⟩ := hst.open
 have hw8 : wagg st = .agg #[.int .u32 a, .int .u32 b', .int .u32 c, .int .u32 d, .int .u32 e, .int .u32 f, .int .u32 g, .int .u32 i] := by rw [hs8]; rfl
 rw [hw8]
 have ES := hide hs8
 clear hL hst ht hw8 hs8
 go_enter Tryz.func105, Tryz.ntmps105
 go_wp2_with fail
 refine (HC.out _ hb).mono ?_
 rintro en w1 ⟨rfl, hb1⟩
 obtain ⟨W2, hW2⟩ : ∃ W2, W2 = (w.alloc (.cells #[.int .u32 a, .int .u32 b', .int .u32 c, .int .u32 d, .int .u32 e, .int .u32 f, .int .u32 g, .int .u32 i] 133)).alloc (.cells #[.int .u32 0, .int .u32 0, .int .u32 0, .int .u32 0, .int .u32 0, .int .u32 0, .int .u32 0, .int .u32 0] 133) := ⟨_, rfl⟩
 have hBW : Below w.heap.size w W2 := by rw [hW2]; exact ((Below.refl _ _).alloc (Nat.le_refl _) _).alloc (by simp) _
 have hsW : W2.heap.size = w.heap.size + 2 := by rw [hW2]; simp
 have hVs : VAt W2 w.heap.size st := by rw [hW2]; exact (v_new w st _ _ (by rw [ES.out]; rfl)).alloc _
 have hVr : VAt W2 (w.heap.size + 1) (List.replicate 8 0) := by
  have := v_new (w.alloc (.cells #[.int .u32 a, .int .u32 b', .int .u32 c, .int .u32 d, .int .u32 e, .int .u32 f, .int .u32 g, .int .u32 i] 133)) (List.replicate 8 0) #[.int .u32 0, .int .u32 0, .int .u32 0, .int .u32 0, .int .u32 0, .int .u32 0, .int .u32 0, .int .u32 0] 133 rfl
  rw [hW2]
  simpa using this
 rw [← hW2] at hb1
 clear hW2
 have hs1 := hb1.size
 have HVs := hide (hVs.below hb1 (by omega))
 have HVr := hide (hVr.below hb1 (by omega))
 have HB1 : Hid (Below w.heap.size w w1) := hBW.trans (hb1.mono (by omega))
 have HT1 := hide (HT.out.on HB1.out)
 have hw1 : w.heap.size + 2 ≤ w1.heap.size := by omega
 clear hb1 hBW hVs hVr hsW hs1 HT HC
 have hr64 : (List.replicate 64 0 : List Nat).length = 64 := List.length_replicate
 go_wp2_with (refine wpList_store_words rfl _ _ _ rfl w1.heap.size L (List.replicate 64 0) rfl rfl (v_new w1 (List.replicate 64 0) _ _ rfl) (by rw [hL64, hr64]) (by rw [hL64]; exact info64) ?_
              intro w2 hw2
              have HV2 : Hid (Lies w w2 w1.heap.size st L) := by
               rw [hw2]
               have h0 := v_new w1 (List.replicate 64 0) (List.replicate 64 (Value.int .u32 0)).toArray 202 rfl
               have hbz : Below w1.heap.size w1 ((w1.alloc (.cells (List.replicate 64 (Value.int .u32 0)).toArray 202)).setCells w1.heap.size 0 (wcells L)) := below_cellsD (Nat.le_refl _) _ _ _ ((Below.refl _ _).alloc (Nat.le_refl _) _)
               exact ⟨(HVs.out.alloc _).apart (by omega) _ _, (HVr.out.alloc _).apart (by omega) _ _, (h0.store L (by rw [hL64, hr64])).1, HT1.out.on hbz, HB1.out.trans (hbz.mono (by omega))⟩
              clear hw2)
 obtain ⟨gw, hgw⟩ : ∃ gw, gw = w1.heap.size := ⟨_, rfl⟩
 rw [← hgw] at HV2 ⊢
 have hst8 := HS.out
 have s0 := words_at HV2.out.1.1 0 a (by rw [ES.out]; rfl)
 have s1 := words_at HV2.out.1.1 1 b' (by rw [ES.out]; rfl)
 have s2 := words_at HV2.out.1.1 2 c (by rw [ES.out]; rfl)
 have s3 := words_at HV2.out.1.1 3 d (by rw [ES.out]; rfl)
 have s4 := words_at HV2.out.1.1 4 e (by rw [ES.out]; rfl)
 have s5 := words_at HV2.out.1.1 5 f (by rw [ES.out]; rfl)
 have s6 := words_at HV2.out.1.1 6 g (by rw [ES.out]; rfl)
 have s7 := words_at HV2.out.1.1 7 i (by rw [ES.out]; rfl)
 have ELs := hide hL64
 clear HVs HVr HB1 HT1 hst8 hgw hw1 hL64 hr64
 go_quiet (fail)
 go_wp2
 clear s0 s1 s2 s3 s4 s5 s6 s7
 go_loopw [6, 7, 8, 9, 10, 11, 12, 13, 35] (fun va vb vc vd ve vf vg vh iv wr => ∃ n a1 b1 c1 d1 e1 f1 g1 h1 : Nat, n ≤ 64 ∧ iv = .int .i64 n ∧ va = .int .u32 a1 ∧ vb = .int .u32 b1 ∧ vc = .int .u32 c1 ∧ vd = .int .u32 d1 ∧ ve = .int .u32 e1 ∧ vf = .int .u32 f1 ∧ vg = .int .u32 g1 ∧ vh = .int .u32 h1 ∧
  Hid (steps n st ks L = [a1, b1, c1, d1, e1, f1, g1, h1]) ∧ Hid (Lies w wr gw st L)) (fun _ _ _ _ _ _ _ _ iv _ => 64 - (intOf iv).toNat)
 case atStart => exact ⟨0, a, b', c, d, e, f, g, i, by omega, rfl, rfl, rfl, rfl, rfl, rfl, rfl, rfl, rfl, ES, HV2.out.drewN _⟩
 case round =>
  obtain ⟨n, a1, b1, c1, d1, e1, f1, g1, h1, hn, rfl, rfl, rfl, rfl, rfl, rfl, rfl, rfl, rfl, EQ, HLi⟩ := hrel
  have hSV := steps_st HS.out n ks L
  rw [EQ.out] at hSV
  have ha1 := hSV.2 a1 (by simp)
  have hb1 := hSV.2 b1 (by simp)
  have hc1 := hSV.2 c1 (by simp)
  have hd1 := hSV.2 d1 (by simp)
  have he1 := hSV.2 e1 (by simp)
  have hf1 := hSV.2 f1 (by simp)
  have hg1 := hSV.2 g1 (by simp)
  have hh1 := hSV.2 h1 (by simp)
  clear hSV
  by_cases hlt : (n : Int) < 64
  ·have kK := HLi.out.2.2.2.1.cell n (by omega)
   have kW := words_at HLi.out.2.2.1 n _ (getD_some L n (by rw [ELs.out]; omega))
   have EN : Hid (steps (n + 1) st ks L = Dig.step [a1, b1, c1, d1, e1, f1, g1, h1] (ks.getD n 0) (L.getD n 0)) := by
    show Dig.step (steps n st ks L) _ _ = _
    rw [EQ.out]
   generalize ks.getD n 0 = kt at EN kK
   generalize L.getD n 0 = wt at EN kW
   obtain ⟨r, er⟩ : ∃ r, ch e1 f1 g1 = r := ⟨_, rfl⟩
   obtain ⟨m, em⟩ : ∃ m, maj a1 b1 c1 = m := ⟨_, rfl⟩
   obtain ⟨sE, eE⟩ : ∃ x, sig e1 64 2048 33554432 false = x := ⟨_, rfl⟩
   obtain ⟨sA, eA⟩ : ∃ x, sig a1 4 8192 4194304 false = x := ⟨_, rfl⟩
   obtain ⟨y1, y2, y3, y4, z1, z2, z3, z4, e1', hy⟩ := t1_open e1 f1 g1 h1 kt wt sE r eE er
   obtain ⟨z5, hy2⟩ := t2_open a1 b1 c1 sA m eA em
   have ET : Hid (Dig.step [a1, b1, c1, d1, e1, f1, g1, h1] kt wt = [(y4 + t2 a1 b1 c1) % 4294967296, a1, b1, c1, (d1 + y4) % 4294967296, e1, f1, g1]) := by
    show Dig.step _ _ _ = _
    rw [← e1']; rfl
   generalize t2 a1 b1 c1 = y5 at *
   have CE := hide (mixed_e e1 · he1)
   have CA := hide (mixed_a a1 · ha1)
   have CC := hide (chosen_any e1 f1 g1 · he1 hf1 hg1)
   have CM := hide (mostOf_any a1 b1 c1 · ha1 hb1 hc1)
   rw [eE] at CE
   rw [eA] at CA
   rw [er] at CC
   rw [em] at CM
   obtain ⟨D, hD⟩ : ∃ D : Nat, D = (d1 + y4) % 4294967296 := ⟨_, rfl⟩
   obtain ⟨A, hA⟩ : ∃ A : Nat, A = (y4 + y5) % 4294967296 := ⟨_, rfl⟩
   have iD : ((d1 : Int) + (y4 : Int)) % 4294967296 = D := by omega
   have iA : ((y4 : Int) + (y5 : Int)) % 4294967296 = A := by omega
   rw [← hD, ← hA] at ET
   rw [ET.out] at EN
   have n0 : (0 : Int) ≤ n := by omega
   have HLd := hide (fun k => HLi.out.drewN k)
   clear eE eA e1' er em hD hA EQ ET HLi ha1 hb1 hc1 hd1 he1 hf1 hg1 hh1
   go_wp2
   go_region_held3 (fun w' => w'.cell? ⟨0, n, none⟩ = some (.int .u32 kt) ∧ w'.cell? ⟨gw, n, none⟩ = some (.int .u32 wt)) (go_keep) (first
    | (go_at_call 138; with_reducible refine Calls.mono (CE.out _) ?_; rintro en w' ⟨rfl, rfl⟩)
    | (go_at_call 140; with_reducible refine Calls.mono (CC.out _) ?_; rintro en w' ⟨rfl, rfl⟩))
   clear z1 z2 z3 z4 kK kW CE CC
   go_wp2_with fail
   with_reducible refine Calls.mono (CA.out _) ?_
   rintro en w' ⟨rfl, rfl⟩
   go_wp2_with fail
   with_reducible refine Calls.mono (CM.out _) ?_
   rintro en w' ⟨rfl, rfl⟩
   clear CA CM
   go_wp2
   go_roundw
   case rel => exact ⟨n + 1, A, a1, b1, c1, D, e1, f1, g1, by omega, by go_num, by first | rfl | exact congrArg _ iA, rfl, rfl, rfl, by first | rfl | exact congrArg _ iD, rfl, rfl, rfl, EN, HLd.out 1⟩
   case measure => simp [intOf]; omega
  ·have e64 : n = 64 := by omega
   subst e64
   have s0 := words_at HLi.out.1.1 0 a (by rw [ES.out]; rfl)
   have s1 := words_at HLi.out.1.1 1 b' (by rw [ES.out]; rfl)
   have s2 := words_at HLi.out.1.1 2 c (by rw [ES.out]; rfl)
   have s3 := words_at HLi.out.1.1 3 d (by rw [ES.out]; rfl)
   have s4 := words_at HLi.out.1.1 4 e (by rw [ES.out]; rfl)
   have s5 := words_at HLi.out.1.1 5 f (by rw [ES.out]; rfl)
   have s6 := words_at HLi.out.1.1 6 g (by rw [ES.out]; rfl)
   have s7 := words_at HLi.out.1.1 7 i (by rw [ES.out]; rfl)
   obtain ⟨x0, j0⟩ : ∃ x : Nat, x = (a + a1) % 4294967296 := ⟨_, rfl⟩
   obtain ⟨x1, j1⟩ : ∃ x : Nat, x = (b' + b1) % 4294967296 := ⟨_, rfl⟩
   obtain ⟨x2, j2⟩ : ∃ x : Nat, x = (c + c1) % 4294967296 := ⟨_, rfl⟩
   obtain ⟨x3, j3⟩ : ∃ x : Nat, x = (d + d1) % 4294967296 := ⟨_, rfl⟩
   obtain ⟨x4, j4⟩ : ∃ x : Nat, x = (e + e1) % 4294967296 := ⟨_, rfl⟩
   obtain ⟨x5, j5⟩ : ∃ x : Nat, x = (f + f1) % 4294967296 := ⟨_, rfl⟩
   obtain ⟨x6, j6⟩ : ∃ x : Nat, x = (g + g1) % 4294967296 := ⟨_, rfl⟩
   obtain ⟨x7, j7⟩ : ∃ x : Nat, x = (i + h1) % 4294967296 := ⟨_, rfl⟩
   have EJ : Hid (mix st b.data.toList = [x0, x1, x2, x3, x4, x5, x6, x7]) := by
    show mix _ _ = _
    rw [EM.out, EQ.out, ES.out, j0, j1, j2, j3, j4, j5, j6, j7]
    rfl
   have i0 : ((a : Int) + a1) % 4294967296 = x0 := by omega
   have i1 : ((b' : Int) + b1) % 4294967296 = x1 := by omega
   have i2 : ((c : Int) + c1) % 4294967296 = x2 := by omega
   have i3 : ((d : Int) + d1) % 4294967296 = x3 := by omega
   have i4 : ((e : Int) + e1) % 4294967296 = x4 := by omega
   have i5 : ((f : Int) + f1) % 4294967296 = x5 := by omega
   have i6 : ((g : Int) + g1) % 4294967296 = x6 := by omega
   have i7 : ((i : Int) + h1) % 4294967296 = x7 := by omega
   clear j0 j1 j2 j3 j4 j5 j6 j7 EQ EM
   go_wp2_with (refine wpList_store_words rfl _ _ _ rfl (w.heap.size + 1) [x0, x1, x2, x3, x4, x5, x6, x7] (List.replicate 8 0) rfl rfl HLi.out.2.1 rfl info8 ?_; intro w3 hw3)
   have hV3 : VAt (wr.setCells (w.heap.size + 1) 0 (wcells [x0, x1, x2, x3, x4, x5, x6, x7])) (w.heap.size + 1) [x0, x1, x2, x3, x4, x5, x6, x7] := HLi.out.2.1.store _ rfl
   exact bodyPost_ret (results_words rfl _ _ _ _ _ rfl hV3.1 Tryz.underlying133 rfl info8) rfl ⟨by rw [EJ.out], below_cellsD (by omega) _ _ _ HLi.out.2.2.2.2⟩
end Go.Proofs.YtcjgjkejhkhknabGreatDoor
