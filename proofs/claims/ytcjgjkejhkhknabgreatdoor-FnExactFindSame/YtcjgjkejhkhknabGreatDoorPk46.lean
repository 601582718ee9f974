/-
  ImplB; HashOk; Boxes; More; More2; ImplM
-/
import Derived.Test.YtcjgjkejhkhknabGreatDoorPk45
import Derived.Lib.LaidTab
import Derived.Lib.AppendIntMem
import Derived.Test.YtcjgjkejhkhknabGreatDoorPk4
import Derived.Test.YtcjgjkejhkhknabGreatDoorPk0
import Derived.Test.YtcjgjkejhkhknabGreatDoorPk43
import Derived.Test.YtcjgjkejhkhknabGreatDoorPk44
/-
  The walk of impl's round of a block.
-/
namespace Go.Proofs.YtcjgjkejhkhknabGreatDoor
open Go.RowKit
open Dig

def StepIn (w : World) : Prop := Lib.TabIs Tryz.prog w "loop.example/g00195/impl.stepWords" .u32 (ks.map Int.ofNat)
theorem StepIn.on {w w' : World} (h : StepIn w) (hb : Below w.heap.size w w') : StepIn w' := Lib.tabBelow_of_tabIs h w' hb
theorem ks_len : ks.length = 64 := rfl
theorem StepIn.cell {w : World} (h : StepIn w) (i : Nat) (hi : i < 64) : w.cell? ⟨0, i, none⟩ = some (.int .u32 (ks.getD i 0 : Nat)) := by
  have hi2 : i < ks.length := by rw [ks_len]; exact hi
  have := Lib.TabIs.cell h (g := 0) (by kernel_rfl) i (by simpa using hi2)
  rw [this]
  simp [List.getD, hi2]

/-- What the round lies in: the state, the result's cells, the words, the table. -/
def Lies (w0 w : World) (gw : Nat) (st L : List Nat) : Prop := VAt w w0.heap.size st ∧ VAt w (w0.heap.size + 1) (List.replicate 8 0) ∧ WordsAt w gw L ∧ StepIn w ∧ Below w0.heap.size w0 w
theorem Lies.drewN {w0 w : World} {gw : Nat} {st L : List Nat} (h : Lies w0 w gw st L) (k : Nat) : Lies w0 (w.drewN k) gw st L :=
  ⟨h.1, h.2.1, h.2.2.1, h.2.2.2.1.on (below_drewN (Below.refl _ _) k), below_drewN h.2.2.2.2 k⟩

set_option maxHeartbeats 1000000 in
set_option maxRecDepth 100000 in
theorem block_any (st : List Nat) (b : ByteArray) (w : World) (hst : St st) (hb : b.size = 64) (ht : StepIn w) :
    Calls Tryz.prog 105 #[wagg st, .string b] w fun e w' => e = .returned (wagg (mix st b.data.toList)) ∧ Below w.heap.size w w' := by
  have HS := hide hst
  have HT := hide ht
  have EM : Hid (mix st b.data.toList = joined st (steps 64 st ks (sched 48 (words b.data.toList)))) := rfl
  have hL64 : (sched 48 (words b.data.toList)).length = 64 := by rw [sched_len, words_len]; have : b.data.toList.length = 64 := by simpa using hb
                                                                 omega
  have HC := hide (spread_any b)
  obtain ⟨L, hL⟩ : ∃ L, sched 48 (words b.data.toList) = L := ⟨_, rfl⟩
  rw [hL] at EM hL64 HC
  obtain ⟨a, b', c, d, e, f, g, i, hs8, ha, hb', hc, hd, he, hf, hg, hi⟩ := hst.open
  have hw8 : wagg st = .agg #[.int .u32 a, .int .u32 b', .int .u32 c, .int .u32 d, .int .u32 e, .int .u32 f, .int .u32 g, .int .u32 i] := by rw [hs8]; rfl
  rw [hw8]
  have ES := hide hs8
  clear hL hst ht hw8 hs8
  go_enter Tryz.func105, Tryz.ntmps105
  go_wp2_with fail
  refine (HC.out _ hb).mono ?_
  rintro en w1 ⟨rfl, hb1⟩
  obtain ⟨W2, hW2⟩ : ∃ W2, W2 = (w.alloc (.cells #[.int .u32 a, .int .u32 b', .int .u32 c, .int .u32 d, .int .u32 e, .int .u32 f, .int .u32 g, .int .u32 i] 133)).alloc (.cells #[.int .u32 0, .int .u32 0, .int .u32 0, .int .u32 0, .int .u32 0, .int .u32 0, .int .u32 0, .int .u32 0] 133) := ⟨_, rfl⟩
  have hBW : Below w.heap.size w W2 := by rw [hW2]; exact ((Below.refl _ _).alloc (Nat.le_refl _) _).alloc (by simp) _
  have hsW : W2.heap.size = w.heap.size + 2 := by rw [hW2]; simp
  have hVs : VAt W2 w.heap.size st := by rw [hW2]; exact (v_new w st _ _ (by rw [ES.out]; rfl)).alloc _
  have hVr : VAt W2 (w.heap.size + 1) (List.replicate 8 0) := by
    have := v_new (w.alloc (.cells #[.int .u32 a, .int .u32 b', .int .u32 c, .int .u32 d, .int .u32 e, .int .u32 f, .int .u32 g, .int .u32 i] 133)) (List.replicate 8 0) #[.int .u32 0, .int .u32 0, .int .u32 0, .int .u32 0, .int .u32 0, .int .u32 0, .int .u32 0, .int .u32 0] 133 rfl
    rw [hW2]
    simpa using this
  rw [← hW2] at hb1
  clear hW2
  have hs1 := hb1.size
  have HVs := hide (hVs.below hb1 (by omega))
  have HVr := hide (hVr.below hb1 (by omega))
  have HB1 : Hid (Below w.heap.size w w1) := hBW.trans (hb1.mono (by omega))
  have HT1 := hide (HT.out.on HB1.out)
  have hw1 : w.heap.size + 2 ≤ w1.heap.size := by omega
  clear hb1 hBW hVs hVr hsW hs1 HT HC
  have hr64 : (List.replicate 64 0 : List Nat).length = 64 := List.length_replicate
  go_wp2_with (refine wpList_store_words rfl _ _ _ rfl w1.heap.size L (List.replicate 64 0) rfl rfl (v_new w1 (List.replicate 64 0) _ _ rfl) (by rw [hL64, hr64]) (by rw [hL64]; exact info64) ?_
               intro w2 hw2
               have HV2 : Hid (Lies w w2 w1.heap.size st L) := by
                 rw [hw2]
                 have h0 := v_new w1 (List.replicate 64 0) (List.replicate 64 (Value.int .u32 0)).toArray 202 rfl
                 have hbz : Below w1.heap.size w1 ((w1.alloc (.cells (List.replicate 64 (Value.int .u32 0)).toArray 202)).setCells w1.heap.size 0 (wcells L)) := below_cellsD (Nat.le_refl _) _ _ _ ((Below.refl _ _).alloc (Nat.le_refl _) _)
                 exact ⟨(HVs.out.alloc _).apart (by omega) _ _, (HVr.out.alloc _).apart (by omega) _ _, (h0.store L (by rw [hL64, hr64])).1, HT1.out.on hbz, HB1.out.trans (hbz.mono (by omega))⟩
               clear hw2)
  obtain ⟨gw, hgw⟩ : ∃ gw, gw = w1.heap.size := ⟨_, rfl⟩
  rw [← hgw] at HV2 ⊢
  have hst8 := HS.out
  have s0 := words_at HV2.out.1.1 0 a (by rw [ES.out]; rfl)
  have s1 := words_at HV2.out.1.1 1 b' (by rw [ES.out]; rfl)
  have s2 := words_at HV2.out.1.1 2 c (by rw [ES.out]; rfl)
  have s3 := words_at HV2.out.1.1 3 d (by rw [ES.out]; rfl)
  have s4 := words_at HV2.out.1.1 4 e (by rw [ES.out]; rfl)
  have s5 := words_at HV2.out.1.1 5 f (by rw [ES.out]; rfl)
  have s6 := words_at HV2.out.1.1 6 g (by rw [ES.out]; rfl)
  have s7 := words_at HV2.out.1.1 7 i (by rw [ES.out]; rfl)
  have ELs := hide hL64
  clear HVs HVr HB1 HT1 hst8 hgw hw1 hL64 hr64
  go_quiet (fail)
  go_wp2
  clear s0 s1 s2 s3 s4 s5 s6 s7
  go_loopw [6, 7, 8, 9, 10, 11, 12, 13, 35] (fun va vb vc vd ve vf vg vh iv wr => ∃ n a1 b1 c1 d1 e1 f1 g1 h1 : Nat, n ≤ 64 ∧ iv = .int .i64 n ∧ va = .int .u32 a1 ∧ vb = .int .u32 b1 ∧ vc = .int .u32 c1 ∧ vd = .int .u32 d1 ∧ ve = .int .u32 e1 ∧ vf = .int .u32 f1 ∧ vg = .int .u32 g1 ∧ vh = .int .u32 h1 ∧
    Hid (steps n st ks L = [a1, b1, c1, d1, e1, f1, g1, h1]) ∧ Hid (Lies w wr gw st L)) (fun _ _ _ _ _ _ _ _ iv _ => 64 - (intOf iv).toNat)
  case atStart => exact ⟨0, a, b', c, d, e, f, g, i, by omega, rfl, rfl, rfl, rfl, rfl, rfl, rfl, rfl, rfl, ES, HV2.out.drewN _⟩
  case round =>
    obtain ⟨n, a1, b1, c1, d1, e1, f1, g1, h1, hn, rfl, rfl, rfl, rfl, rfl, rfl, rfl, rfl, rfl, EQ, HLi⟩ := hrel
    have hSV := steps_st HS.out n ks L
    rw [EQ.out] at hSV
    have ha1 := hSV.2 a1 (by simp)
    have hb1 := hSV.2 b1 (by simp)
    have hc1 := hSV.2 c1 (by simp)
    have hd1 := hSV.2 d1 (by simp)
    have he1 := hSV.2 e1 (by simp)
    have hf1 := hSV.2 f1 (by simp)
    have hg1 := hSV.2 g1 (by simp)
    have hh1 := hSV.2 h1 (by simp)
    clear hSV
    by_cases hlt : (n : Int) < 64
    · have kK := HLi.out.2.2.2.1.cell n (by omega)
      have kW := words_at HLi.out.2.2.1 n _ (getD_some L n (by rw [ELs.out]; omega))
      have EN : Hid (steps (n + 1) st ks L = Dig.step [a1, b1, c1, d1, e1, f1, g1, h1] (ks.getD n 0) (L.getD n 0)) := by
        show Dig.step (steps n st ks L) _ _ = _
        rw [EQ.out]
      generalize ks.getD n 0 = kt at EN kK
      generalize L.getD n 0 = wt at EN kW
      obtain ⟨r, er⟩ : ∃ r, ch e1 f1 g1 = r := ⟨_, rfl⟩
      obtain ⟨m, em⟩ : ∃ m, maj a1 b1 c1 = m := ⟨_, rfl⟩
      obtain ⟨sE, eE⟩ : ∃ x, sig e1 64 2048 33554432 false = x := ⟨_, rfl⟩
      obtain ⟨sA, eA⟩ : ∃ x, sig a1 4 8192 4194304 false = x := ⟨_, rfl⟩
      obtain ⟨y1, y2, y3, y4, z1, z2, z3, z4, e1', hy⟩ := t1_open e1 f1 g1 h1 kt wt sE r eE er
      obtain ⟨z5, hy2⟩ := t2_open a1 b1 c1 sA m eA em
      have ET : Hid (Dig.step [a1, b1, c1, d1, e1, f1, g1, h1] kt wt = [(y4 + t2 a1 b1 c1) % 4294967296, a1, b1, c1, (d1 + y4) % 4294967296, e1, f1, g1]) := by
        show Dig.step _ _ _ = _
        rw [← e1']; rfl
      generalize t2 a1 b1 c1 = y5 at *
      have CE := hide (mixed_e e1 · he1)
      have CA := hide (mixed_a a1 · ha1)
      have CC := hide (chosen_any e1 f1 g1 · he1 hf1 hg1)
      have CM := hide (mostOf_any a1 b1 c1 · ha1 hb1 hc1)
      rw [eE] at CE
      rw [eA] at CA
      rw [er] at CC
      rw [em] at CM
      obtain ⟨D, hD⟩ : ∃ D : Nat, D = (d1 + y4) % 4294967296 := ⟨_, rfl⟩
      obtain ⟨A, hA⟩ : ∃ A : Nat, A = (y4 + y5) % 4294967296 := ⟨_, rfl⟩
      have iD : ((d1 : Int) + (y4 : Int)) % 4294967296 = D := by omega
      have iA : ((y4 : Int) + (y5 : Int)) % 4294967296 = A := by omega
      rw [← hD, ← hA] at ET
      rw [ET.out] at EN
      have n0 : (0 : Int) ≤ n := by omega
      have HLd := hide (fun k => HLi.out.drewN k)
      clear eE eA e1' er em hD hA EQ ET HLi ha1 hb1 hc1 hd1 he1 hf1 hg1 hh1
      go_wp2
      go_region_held3 (fun w' => w'.cell? ⟨0, n, none⟩ = some (.int .u32 kt) ∧ w'.cell? ⟨gw, n, none⟩ = some (.int .u32 wt)) (go_keep) (first
        | (go_at_call 138; with_reducible refine Calls.mono (CE.out _) ?_; rintro en w' ⟨rfl, rfl⟩)
        | (go_at_call 140; with_reducible refine Calls.mono (CC.out _) ?_; rintro en w' ⟨rfl, rfl⟩))
      clear z1 z2 z3 z4 kK kW CE CC
      go_wp2_with fail
      with_reducible refine Calls.mono (CA.out _) ?_
      rintro en w' ⟨rfl, rfl⟩
      go_wp2_with fail
      with_reducible refine Calls.mono (CM.out _) ?_
      rintro en w' ⟨rfl, rfl⟩
      clear CA CM
      go_wp2
      go_roundw
      case rel => exact ⟨n + 1, A, a1, b1, c1, D, e1, f1, g1, by omega, by go_num, by first | rfl | exact congrArg _ iA, rfl, rfl, rfl, by first | rfl | exact congrArg _ iD, rfl, rfl, rfl, EN, HLd.out 1⟩
      case measure => simp [intOf]; omega
    · have e64 : n = 64 := by omega
      subst e64
      have s0 := words_at HLi.out.1.1 0 a (by rw [ES.out]; rfl)
      have s1 := words_at HLi.out.1.1 1 b' (by rw [ES.out]; rfl)
      have s2 := words_at HLi.out.1.1 2 c (by rw [ES.out]; rfl)
      have s3 := words_at HLi.out.1.1 3 d (by rw [ES.out]; rfl)
      have s4 := words_at HLi.out.1.1 4 e (by rw [ES.out]; rfl)
      have s5 := words_at HLi.out.1.1 5 f (by rw [ES.out]; rfl)
      have s6 := words_at HLi.out.1.1 6 g (by rw [ES.out]; rfl)
      have s7 := words_at HLi.out.1.1 7 i (by rw [ES.out]; rfl)
      obtain ⟨x0, j0⟩ : ∃ x : Nat, x = (a + a1) % 4294967296 := ⟨_, rfl⟩
      obtain ⟨x1, j1⟩ : ∃ x : Nat, x = (b' + b1) % 4294967296 := ⟨_, rfl⟩
      obtain ⟨x2, j2⟩ : ∃ x : Nat, x = (c + c1) % 4294967296 := ⟨_, rfl⟩
      obtain ⟨x3, j3⟩ : ∃ x : Nat, x = (d + d1) % 4294967296 := ⟨_, rfl⟩
      obtain ⟨x4, j4⟩ : ∃ x : Nat, x = (e + e1) % 4294967296 := ⟨_, rfl⟩
      obtain ⟨x5, j5⟩ : ∃ x : Nat, x = (f + f1) % 4294967296 := ⟨_, rfl⟩
      obtain ⟨x6, j6⟩ : ∃ x : Nat, x = (g + g1) % 4294967296 := ⟨_, rfl⟩
      obtain ⟨x7, j7⟩ : ∃ x : Nat, x = (i + h1) % 4294967296 := ⟨_, rfl⟩
      have EJ : Hid (mix st b.data.toList = [x0, x1, x2, x3, x4, x5, x6, x7]) := by
        show mix _ _ = _
        rw [EM.out, EQ.out, ES.out, j0, j1, j2, j3, j4, j5, j6, j7]
        rfl
      have i0 : ((a : Int) + a1) % 4294967296 = x0 := by omega
      have i1 : ((b' : Int) + b1) % 4294967296 = x1 := by omega
      have i2 : ((c : Int) + c1) % 4294967296 = x2 := by omega
      have i3 : ((d : Int) + d1) % 4294967296 = x3 := by omega
      have i4 : ((e : Int) + e1) % 4294967296 = x4 := by omega
      have i5 : ((f : Int) + f1) % 4294967296 = x5 := by omega
      have i6 : ((g : Int) + g1) % 4294967296 = x6 := by omega
      have i7 : ((i : Int) + h1) % 4294967296 = x7 := by omega
      clear j0 j1 j2 j3 j4 j5 j6 j7 EQ EM
      go_wp2_with (refine wpList_store_words rfl _ _ _ rfl (w.heap.size + 1) [x0, x1, x2, x3, x4, x5, x6, x7] (List.replicate 8 0) rfl rfl HLi.out.2.1 rfl info8 ?_; intro w3 hw3)
      have hV3 : VAt (wr.setCells (w.heap.size + 1) 0 (wcells [x0, x1, x2, x3, x4, x5, x6, x7])) (w.heap.size + 1) [x0, x1, x2, x3, x4, x5, x6, x7] := HLi.out.2.1.store _ rfl
      exact bodyPost_ret (results_words rfl _ _ _ _ _ rfl hV3.1 Tryz.underlying133 rfl info8) rfl ⟨by rw [EJ.out], below_cellsD (by omega) _ _ _ HLi.out.2.2.2.2⟩
end Go.Proofs.YtcjgjkejhkhknabGreatDoor

/-
  The walk of the specification's HasherOk.
-/
namespace Go.Proofs.YtcjgjkejhkhknabGreatDoor
open Go.RowKit
open Dig

/-- A hasher that is right. -/
def HRight (s r : ByteArray) (c : Int) : Prop := s.size = 32 ∧ r.size < 64 ∧ 0 ≤ c ∧ c ≤ 1000000000 ∧ c % 64 = r.size
abbrev decH (s r : ByteArray) (c : Int) : Decidable (HRight s r c) := by unfold HRight; exact inferInstance

theorem in_bD (x lo hi : Int) (b : Bool) (w : World) (h : (lo ≤ x ∧ x ≤ hi ∧ b = true) ∨ ((x < lo ∨ lo ≤ x ∧ ¬ x ≤ hi) ∧ b = false)) :
    Calls Tryz.prog 63 #[.int .i64 x, .int .i64 lo, .int .i64 hi] w fun e w' => e = .returned (.bool b) ∧ w' = w := by
  rcases h with ⟨h1, h2, rfl⟩ | ⟨h1 | ⟨h1, h2⟩, rfl⟩
  all_goals
    go_enter Tryz.func63, Tryz.ntmps63
    go_wp2
    go_ret
    exact ⟨rfl, rfl⟩
theorem in_anyD (x lo hi : Int) (w : World) :
    Calls Tryz.prog 63 #[.int .i64 x, .int .i64 lo, .int .i64 hi] w fun e w' => e = .returned (.bool (decide (lo ≤ x ∧ x ≤ hi))) ∧ w' = w := by
  apply in_bD
  by_cases h : lo ≤ x ∧ x ≤ hi
  · exact .inl ⟨h.1, h.2, dcY h⟩
  · exact .inr ⟨by omega, dcN h⟩

end Go.Proofs.YtcjgjkejhkhknabGreatDoor

/-
  A hasher's cells.
-/
namespace Go.Proofs.YtcjgjkejhkhknabGreatDoor
open Go.RowKit
open Dig

/-- What a call that takes a hasher and gives one has laid ahead of its first call: the hasher, and the result's cell. -/
theorem boxed {w w1 : World} {a b c d e f : Value} {t1 t2 : TypeId} (hb : Below (w.heap.size + 1 + 1) ((w.alloc (.cells #[a, b, c] t1)).alloc (.cells #[d, e, f] t2)) w1) :
    (w1.cell? ⟨w.heap.size, 0, none⟩ = some a ∧ w1.cell? ⟨w.heap.size, 1, none⟩ = some b ∧ w1.cell? ⟨w.heap.size, 2, none⟩ = some c) ∧
    (w1.cell? ⟨w.heap.size + 1, 0, none⟩ = some d ∧ w1.cell? ⟨w.heap.size + 1, 1, none⟩ = some e ∧ w1.cell? ⟨w.heap.size + 1, 2, none⟩ = some f) ∧
    (∀ j, w1.frozen? ⟨w.heap.size + 1, j, none⟩ = false) ∧ w.heap.size + 2 ≤ w1.heap.size ∧ Below w.heap.size w w1 := by
  have hs := hb.size
  have h0 : ∀ j, w1.cell? ⟨w.heap.size, j, none⟩ = ((w.alloc (.cells #[a, b, c] t1)).alloc (.cells #[d, e, f] t2)).cell? ⟨w.heap.size, j, none⟩ := fun j => hb.cell (show w.heap.size < _ by omega)
  have h1 : ∀ j, w1.cell? ⟨w.heap.size + 1, j, none⟩ = ((w.alloc (.cells #[a, b, c] t1)).alloc (.cells #[d, e, f] t2)).cell? ⟨w.heap.size + 1, j, none⟩ := fun j => hb.cell (show w.heap.size + 1 < _ by omega)
  have h2 : ∀ j, w1.frozen? ⟨w.heap.size + 1, j, none⟩ = ((w.alloc (.cells #[a, b, c] t1)).alloc (.cells #[d, e, f] t2)).frozen? ⟨w.heap.size + 1, j, none⟩ := fun j => hb.frozen (show w.heap.size + 1 < _ by omega)
  refine ⟨⟨by rw [h0]; simp, by rw [h0]; simp, by rw [h0]; simp⟩, ⟨by rw [h1]; simp, by rw [h1]; simp, by rw [h1]; simp⟩, fun j => by rw [h2]; simp, by simp at hs; omega, ?_⟩
  exact (((Below.refl _ _).alloc (Nat.le_refl _) _).alloc (by simp) _).trans (hb.mono (by omega))

/-- Three cells written one behind the other. -/
theorem three {w : World} {g : Nat} {a b c d e f : Value} (h0 : w.cell? ⟨g, 0, none⟩ = some d) (h1 : w.cell? ⟨g, 1, none⟩ = some e) (h2 : w.cell? ⟨g, 2, none⟩ = some f) :
    (((w.setCell ⟨g, 0, none⟩ a).setCell ⟨g, 1, none⟩ b).setCell ⟨g, 2, none⟩ c).cell? ⟨g, 0, none⟩ = some a ∧
    (((w.setCell ⟨g, 0, none⟩ a).setCell ⟨g, 1, none⟩ b).setCell ⟨g, 2, none⟩ c).cell? ⟨g, 1, none⟩ = some b ∧
    (((w.setCell ⟨g, 0, none⟩ a).setCell ⟨g, 1, none⟩ b).setCell ⟨g, 2, none⟩ c).cell? ⟨g, 2, none⟩ = some c := by
  have n01 : (⟨g, 0, none⟩ : Addr) ≠ ⟨g, 1, none⟩ := by simp
  have n02 : (⟨g, 0, none⟩ : Addr) ≠ ⟨g, 2, none⟩ := by simp
  have n12 : (⟨g, 1, none⟩ : Addr) ≠ ⟨g, 2, none⟩ := by simp
  have k0 := World.cell?_setCell_same w ⟨g, 0, none⟩ a h0
  have k1 : (w.setCell ⟨g, 0, none⟩ a).cell? ⟨g, 1, none⟩ = some e := by rw [World.cell?_setCell_other _ _ _ _ n01]; exact h1
  have k2 : ((w.setCell ⟨g, 0, none⟩ a).setCell ⟨g, 1, none⟩ b).cell? ⟨g, 2, none⟩ = some f := by rw [World.cell?_setCell_other _ _ _ _ n12, World.cell?_setCell_other _ _ _ _ n02]; exact h2
  refine ⟨?_, ?_, World.cell?_setCell_same _ _ _ k2⟩
  · rw [World.cell?_setCell_other _ _ _ _ n02.symm, World.cell?_setCell_other _ _ _ _ n01.symm]; exact k0
  · rw [World.cell?_setCell_other _ _ _ _ n12.symm]; exact World.cell?_setCell_same _ _ _ k1
/-- Three cells that were laid last, over calls that lay new blocks alone. -/
theorem kept3 {w w' : World} {a b c : Value} {t : TypeId} (h : Below (w.alloc (.cells #[a, b, c] t)).heap.size (w.alloc (.cells #[a, b, c] t)) w') :
    (w'.cell? ⟨w.heap.size, 0, none⟩ = some a ∧ w'.cell? ⟨w.heap.size, 1, none⟩ = some b ∧ w'.cell? ⟨w.heap.size, 2, none⟩ = some c) ∧ Below w.heap.size w w' ∧ w.heap.size + 1 ≤ w'.heap.size := by
  have hs := h.size
  have hl : w.heap.size < (w.alloc (.cells #[a, b, c] t)).heap.size := by simp
  have e : ∀ j, w'.cell? ⟨w.heap.size, j, none⟩ = (w.alloc (.cells #[a, b, c] t)).cell? ⟨w.heap.size, j, none⟩ := fun j => h.cell hl
  refine ⟨⟨by rw [e]; simp, by rw [e]; simp, by rw [e]; simp⟩, ((Below.refl _ _).alloc (Nat.le_refl _) _).trans (h.mono (by simp)), by simpa using hs⟩
end Go.Proofs.YtcjgjkejhkhknabGreatDoor

/-
  The walk of the specification's HashMore.
-/
namespace Go.Proofs.YtcjgjkejhkhknabGreatDoor
open Go.RowKit
open Dig

end Go.Proofs.YtcjgjkejhkhknabGreatDoor

/-
  The walk of the specification's HashMore where it takes the text.
-/
namespace Go.Proofs.YtcjgjkejhkhknabGreatDoor
open Go.RowKit
open Dig

theorem mixes_step (k : Nat) (st : List Nat) (l : List UInt8) : mixes (k + 1) st l = mix (mixes k st l) ((l.drop (64 * k)).take 64) := rfl
theorem cut64 (u : ByteArray) (k : Nat) (h : 64 * k + 64 ≤ u.size) : (u.extract (64 * k) (64 * k + 64)).size = 64 ∧ (u.extract (64 * k) (64 * k + 64)).data.toList = (u.data.toList.drop (64 * k)).take 64 := by
  constructor
  · simp; omega
  · rw [Lib.extract_data]; congr 1; omega

end Go.Proofs.YtcjgjkejhkhknabGreatDoor

/-
  The walk of impl's blocks of a text.
-/
namespace Go.Proofs.YtcjgjkejhkhknabGreatDoor
open Go.RowKit
open Dig

/-- A whole array is loaded, at a step of a region that draws. -/
theorem step_load_words (w : World) {ops : Array Oper} {o : Oper} {a : Act} {K : Act → World → Prop} {Q : Exit → Act → World → Prop} {E : Prop} (hgd : o.guard = none) (ty : TypeId) (x : Operand) (ho : o.op = .load ty x)
    (g : Nat) (hx : a.eval x = .pointer (some ⟨g, 0, none⟩)) (l : List Nat) (d : TypeDesc) (hc : WordsAt w g l)
    (hu : Tryz.prog.underlying ty = some d) (hd : d.isRow = true) (hi : (Tryz.prog.info? ty).map (·.size) = some l.length)
    (h : K (a.put o.dst (wagg l)) w) : if Region.wanted o (yielded ops a.tmps) = true then Oper.wp Tryz.prog o a w K Q else E := by
  rw [if_pos (by simp [Region.wanted, hgd])]
  exact wp_load_mid ty x ho g 0 hx (wcells l) d (words_range hc) hu hd (by rw [wcells_len]; exact hi) h
/-- A whole array is stored, at a step of a region that draws. -/
theorem step_store_words (w : World) {ops : Array Oper} {o : Oper} {a : Act} {K : Act → World → Prop} {Q : Exit → Act → World → Prop} {E : Prop} (hgd : o.guard = none) (ty : TypeId) (x y : Operand) (ho : o.op = .store ty x y)
    (g : Nat) (l old : List Nat) (hx : a.eval x = .pointer (some ⟨g, 0, none⟩)) (hy : a.eval y = wagg l)
    (hc : VAt w g old) (hl : l.length = old.length) (hi : (Tryz.prog.info? ty).map (·.size) = some l.length)
    (h : ∀ w', w' = w.setCells g 0 (wcells l) → K (a.put o.dst undef) w') : if Region.wanted o (yielded ops a.tmps) = true then Oper.wp Tryz.prog o a w K Q else E := by
  rw [if_pos (by simp [Region.wanted, hgd])]
  exact wp_store_mid ty x y ho g 0 (wcells l).toArray hx hy (by rw [wcells_size, hl]; exact v_there hc) (by rw [wcells_size]; exact hi) (wcells_all l) (by have := h _ rfl; simpa using this)

theorem head_cut (t : ByteArray) (k : Nat) (h : 64 * k + 64 ≤ t.size) : ((t.extract (64 * k) t.size).extract 0 64) = t.extract (64 * k) (64 * k + 64) := by
  rw [ByteArray.extract_extract]
  congr 1 <;> omega
theorem tail_cut (t : ByteArray) (k : Nat) (h : 64 * k + 64 ≤ t.size) : ((t.extract (64 * k) t.size).extract 64 (t.size - 64 * k)) = t.extract (64 * (k + 1)) t.size := by
  rw [ByteArray.extract_extract]
  congr 1 <;> omega

def lenV : Value → Nat | .string s => s.size | _ => 0
/-- What the blocks of a text lie in. -/
def LiesM (w0 w : World) (M : List Nat) : Prop := VAt w w0.heap.size M ∧ VAt w (w0.heap.size + 1) (List.replicate 8 0) ∧ StepIn w ∧ Below w0.heap.size w0 w

theorem LiesM.drew {w0 w : World} {M : List Nat} (h : LiesM w0 w M) : LiesM w0 w.drew M :=
  ⟨h.1, h.2.1, h.2.2.1.on (Below.refl _ _).drew, h.2.2.2.drew⟩

theorem LiesM.store {w0 w : World} {M : List Nat} (h : LiesM w0 w M) (h0 : StepIn w0) (l : List Nat) (hl : l.length = M.length) : LiesM w0 (w.setCells w0.heap.size 0 (wcells l)) l :=
  have hb := below_cellsD (Nat.le_refl w0.heap.size) (wcells l) 0 w h.2.2.2
  ⟨h.1.store l hl, h.2.1.apart (by omega) _ _, h0.on hb, hb⟩

set_option maxHeartbeats 1000000 in
set_option maxRecDepth 100000 in
theorem blocks_any (st : List Nat) (t : ByteArray) (w : World) (hst : St st) (ht : t.size ≤ 4000000) (hT : StepIn w) :
    Calls Tryz.prog 74 #[wagg st, .string t] w fun e w' =>
      e = .returned (.tuple #[wagg (mixes (t.size / 64) st t.data.toList), .string (t.extract (64 * (t.size / 64)) t.size)]) ∧ Below w.heap.size w w' := by
  have HS := hide hst
  have HT := hide hT
  obtain ⟨a, b, c, d, e, f, g, i, hs8, -⟩ := hst.open
  have hw8 : wagg st = .agg #[.int .u32 a, .int .u32 b, .int .u32 c, .int .u32 d, .int .u32 e, .int .u32 f, .int .u32 g, .int .u32 i] := by rw [hs8]; rfl
  rw [hw8]
  have ES := hide hs8
  clear hst hT hw8 hs8
  go_enter Tryz.func74, Tryz.ntmps74
  go_wp2
  go_loopw [1] (fun tv wr => ∃ (k : Nat) (u : ByteArray), 64 * k ≤ t.size ∧ tv = .string u ∧ Hid (u = t.extract (64 * k) t.size) ∧ u.size + 64 * k = t.size ∧ Hid (LiesM w wr (mixes k st t.data.toList))) (fun tv _ => lenV tv)
  case atStart =>
    refine ⟨0, t, by omega, rfl, ?_, by omega, ?_⟩
    · show t = t.extract (64 * 0) t.size
      simp
    · refine ⟨(v_new w st _ _ (by rw [ES.out]; rfl)).alloc _, ?_, HT.out.on (((Below.refl _ _).alloc (Nat.le_refl _) _).alloc (by simp) _), ((Below.refl _ _).alloc (Nat.le_refl _) _).alloc (by simp) _⟩
      have := v_new (w.alloc (.cells #[.int .u32 a, .int .u32 b, .int .u32 c, .int .u32 d, .int .u32 e, .int .u32 f, .int .u32 g, .int .u32 i] 133)) (List.replicate 8 0) #[.int .u32 0, .int .u32 0, .int .u32 0, .int .u32 0, .int .u32 0, .int .u32 0, .int .u32 0, .int .u32 0] 133 rfl
      simpa using this
  case round =>
    obtain ⟨k, u, hk, rfl, EU, hu, HLi⟩ := hrel
    have hM := hide (mixes_st HS.out k t.data.toList)
    by_cases hge : (64 : Int) ≤ u.size
    · obtain ⟨v, hv⟩ : ∃ v, v = u.extract 0 64 := ⟨_, rfl⟩
      obtain ⟨r, hr⟩ : ∃ r, r = u.extract 64 u.size := ⟨_, rfl⟩
      have hsl : ∀ W, (Instr.slice 9 (.string u) none (some (.int .i64 64)) none).run Tryz.prog W = .ok (.string v) W := by
        intro W
        rw [run_slice_string_h W 9 u Tryz.underlying9 .i64 _ (by omega) (by omega), hv]
        rfl
      have hsr : ∀ W, (Instr.slice 9 (.string u) (some (.int .i64 64)) none none).run Tryz.prog W = .ok (.string r) W := by
        intro W
        rw [run_slice_string_l W 9 u Tryz.underlying9 .i64 _ (by omega) (by omega), hr]
        rfl
      have hv64 : v.size = 64 := by rw [hv]; simp; omega
      have hrs : r.size + 64 = u.size := by rw [hr]; simp; omega
      have ER : Hid (r = t.extract (64 * (k + 1)) t.size) := by
        show r = _
        rw [hr, ← tail_cut t k (by omega), ← EU.out]
        congr 1
        omega
      have EV : v.data.toList = (t.data.toList.drop (64 * k)).take 64 := by
        rw [hv, EU.out, head_cut t k (by omega)]
        exact (cut64 t k (by omega)).2
      have F : Hid (mixes (k + 1) st t.data.toList = mix (mixes k st t.data.toList) v.data.toList) := by
        show _ = _
        rw [EV]; rfl
      obtain ⟨M, hMM⟩ : ∃ M, M = mixes k st t.data.toList := ⟨_, rfl⟩
      rw [← hMM] at HLi hM F
      have hM2 := hide (mix_st hM.out v.data.toList)
      have CB := hide (fun w' => block_any M v w' hM.out hv64)
      obtain ⟨M2, hMM2⟩ : ∃ M2, M2 = mix M v.data.toList := ⟨_, rfl⟩
      rw [← hMM2] at F hM2 CB
      have hl8 := hM.out.1
      have hl82 := hM2.out.1
      clear hMM hMM2 EV hv hr EU
      obtain ⟨m0, m1, m2, m3, m4, m5, m6, m7, hm8, -⟩ := hM.out.open
      have s0 := words_at HLi.out.1.1 0 m0 (by rw [hm8]; rfl)
      have s1 := words_at HLi.out.1.1 1 m1 (by rw [hm8]; rfl)
      have s2 := words_at HLi.out.1.1 2 m2 (by rw [hm8]; rfl)
      have s3 := words_at HLi.out.1.1 3 m3 (by rw [hm8]; rfl)
      have s4 := words_at HLi.out.1.1 4 m4 (by rw [hm8]; rfl)
      have s5 := words_at HLi.out.1.1 5 m5 (by rw [hm8]; rfl)
      have s6 := words_at HLi.out.1.1 6 m6 (by rw [hm8]; rfl)
      have s7 := words_at HLi.out.1.1 7 m7 (by rw [hm8]; rfl)
      have hwM : wagg M = .agg #[.int .u32 m0, .int .u32 m1, .int .u32 m2, .int .u32 m3, .int .u32 m4, .int .u32 m5, .int .u32 m6, .int .u32 m7] := by rw [hm8]; rfl
      rw [hwM] at CB
      obtain ⟨p0, p1, p2, p3, p4, p5, p6, p7, hp8, -⟩ := hM2.out.open
      have hwP : wagg M2 = .agg #[.int .u32 p0, .int .u32 p1, .int .u32 p2, .int .u32 p3, .int .u32 p4, .int .u32 p5, .int .u32 p6, .int .u32 p7] := by rw [hp8]; rfl
      rw [hwP] at CB
      have HLd := hide HLi.out.drew
      have CB2 : Hid (Calls Tryz.prog 105 #[.agg #[.int .u32 m0, .int .u32 m1, .int .u32 m2, .int .u32 m3, .int .u32 m4, .int .u32 m5, .int .u32 m6, .int .u32 m7], .string v] wr.drew fun e w3 => e = .returned (.agg #[.int .u32 p0, .int .u32 p1, .int .u32 p2, .int .u32 p3, .int .u32 p4, .int .u32 p5, .int .u32 p6, .int .u32 p7]) ∧
          ((w3.cell? ⟨w.heap.size, 0, none⟩ = some (.int .u32 m0) ∧ w3.cell? ⟨w.heap.size, 1, none⟩ = some (.int .u32 m1) ∧ w3.cell? ⟨w.heap.size, 2, none⟩ = some (.int .u32 m2) ∧ w3.cell? ⟨w.heap.size, 3, none⟩ = some (.int .u32 m3) ∧ w3.cell? ⟨w.heap.size, 4, none⟩ = some (.int .u32 m4) ∧ w3.cell? ⟨w.heap.size, 5, none⟩ = some (.int .u32 m5) ∧ w3.cell? ⟨w.heap.size, 6, none⟩ = some (.int .u32 m6) ∧ w3.cell? ⟨w.heap.size, 7, none⟩ = some (.int .u32 m7)) ∧
          (w3.frozen? ⟨w.heap.size, 0, none⟩ = false ∧ w3.frozen? ⟨w.heap.size, 1, none⟩ = false ∧ w3.frozen? ⟨w.heap.size, 2, none⟩ = false ∧ w3.frozen? ⟨w.heap.size, 3, none⟩ = false ∧ w3.frozen? ⟨w.heap.size, 4, none⟩ = false ∧ w3.frozen? ⟨w.heap.size, 5, none⟩ = false ∧ w3.frozen? ⟨w.heap.size, 6, none⟩ = false ∧ w3.frozen? ⟨w.heap.size, 7, none⟩ = false) ∧ Hid (LiesM w w3 M))) := by
        refine (CB.out _ HLd.out.2.2.1).mono ?_
        rintro en w3 ⟨rfl, hb3⟩
        have h3 : LiesM w w3 M := ⟨HLd.out.1.below hb3 HLd.out.1.1.1, HLd.out.2.1.below hb3 HLd.out.2.1.1.1, HLd.out.2.2.1.on hb3, HLd.out.2.2.2.trans (hb3.mono HLd.out.2.2.2.size)⟩
        have q := fun j x hx => words_at h3.1.1 j x hx
        exact ⟨rfl, ⟨q 0 m0 (by rw [hm8]; rfl), q 1 m1 (by rw [hm8]; rfl), q 2 m2 (by rw [hm8]; rfl), q 3 m3 (by rw [hm8]; rfl), q 4 m4 (by rw [hm8]; rfl), q 5 m5 (by rw [hm8]; rfl), q 6 m6 (by rw [hm8]; rfl), q 7 m7 (by rw [hm8]; rfl)⟩, ⟨h3.1.2 0, h3.1.2 1, h3.1.2 2, h3.1.2 3, h3.1.2 4, h3.1.2 5, h3.1.2 6, h3.1.2 7⟩, h3⟩
      have HP := hide hp8
      clear hwM hwP hm8 hp8 HLi HLd CB
      go_wp2
      go_region_with (
        (go_at_call 105; refine CB2.out.mono ?_; rintro en w3 ⟨rfl, ⟨r0, r1, r2, r3, r4, r5, r6, r7⟩, ⟨f0, f1, f2, f3, f4, f5, f6, f7⟩, HL3⟩))
      all_goals
        have h4 := HL3.out.store HT.out M2 (by rw [hl8, hl82])
        rw [HP.out] at h4
        have HL4 : Hid (LiesM w ((((((((w3.setCell ⟨w.heap.size, 0, none⟩ (.int .u32 p0)).setCell ⟨w.heap.size, 1, none⟩ (.int .u32 p1)).setCell ⟨w.heap.size, 2, none⟩ (.int .u32 p2)).setCell ⟨w.heap.size, 3, none⟩ (.int .u32 p3)).setCell ⟨w.heap.size, 4, none⟩ (.int .u32 p4)).setCell ⟨w.heap.size, 5, none⟩ (.int .u32 p5)).setCell ⟨w.heap.size, 6, none⟩ (.int .u32 p6)).setCell ⟨w.heap.size, 7, none⟩ (.int .u32 p7)) [p0, p1, p2, p3, p4, p5, p6, p7]) := h4
        rw [← HP.out, ← F.out] at HL4
        generalize (((((((w3.setCell ⟨w.heap.size, 0, none⟩ (.int .u32 p0)).setCell ⟨w.heap.size, 1, none⟩ (.int .u32 p1)).setCell ⟨w.heap.size, 2, none⟩ (.int .u32 p2)).setCell ⟨w.heap.size, 3, none⟩ (.int .u32 p3)).setCell ⟨w.heap.size, 4, none⟩ (.int .u32 p4)).setCell ⟨w.heap.size, 5, none⟩ (.int .u32 p5)).setCell ⟨w.heap.size, 6, none⟩ (.int .u32 p6)).setCell ⟨w.heap.size, 7, none⟩ (.int .u32 p7) = w4 at HL4
        clear h4 HL3 CB2 r0 r1 r2 r3 r4 r5 r6 r7 f0 f1 f2 f3 f4 f5 f6 f7 s0 s1 s2 s3 s4 s5 s6 s7 F HP hsl
        go_wp2
        go_roundw
        case rel => exact ⟨k + 1, r, by omega, rfl, ER, by omega, HL4⟩
        case measure => simp [lenV]; omega
    · have ek : k = t.size / 64 := by omega
      subst ek
      obtain ⟨M, hMM⟩ : ∃ M, M = mixes (t.size / 64) st t.data.toList := ⟨_, rfl⟩
      rw [← hMM] at HLi hM
      have EM := hide hMM
      have hl8 := hM.out.1
      clear hMM
      go_wp2_with (first
        | refine wpList_load_words rfl _ _ rfl w.heap.size rfl M _ HLi.out.1.1 Tryz.underlying133 rfl (by rw [hl8]; exact info8) ?_
        | (refine wpList_store_words rfl _ _ _ rfl (w.heap.size + 1) M (List.replicate 8 0) rfl rfl HLi.out.2.1 (by rw [hl8]; rfl) (by rw [hl8]; exact info8) ?_; intro w3 hw3))
      have hV3 : VAt (wr.setCells (w.heap.size + 1) 0 (wcells M)) (w.heap.size + 1) M := HLi.out.2.1.store _ (by rw [hl8]; rfl)
      exact bodyPost_ret (results_words2 rfl _ _ _ _ _ rfl hV3.1 Tryz.underlying133 rfl (by rw [hl8]; exact info8)) rfl ⟨by rw [← EM.out, ← EU.out]; rfl, below_cellsD (by omega) _ _ _ HLi.out.2.2.2⟩
end Go.Proofs.YtcjgjkejhkhknabGreatDoor
