/-
  spec.StoreOk.
-/
import Derived.Test.YtcnaahajaaifjacGreatPk12
import Derived.Test.YtcnaahajaaifjacGreatSSweep
import Derived.Deep.QuietTactic
import Derived.BigQuiet
import Derived.Test.YtcnaahajaaifjacGreatPk14
namespace Go.Proofs.YtcnaahajaaifjacGreat
open Go.RowKit
open Words

theorem stoB_few {s : Sto} (h : 3 < s.vols.length) : stoB s = false := by
  rw [stoB, decide_eq_false (by omega)]
  rfl
theorem stoB_ar {s : Sto} (h : arB s.kns = false) : stoB s = false := by
  rw [stoB, h, Bool.and_false]
  rfl
theorem stoB_nx {s : Sto} (h : ¬ (1 ≤ s.next ∧ s.next ≤ 1000000000)) : stoB s = false := by
  cases e : stoB s with
  | false => rfl
  | true => exact absurd ((stoB_iff s).1 e).nx h
theorem stoB_vol {s : Sto} {i : Nat} {v : Int × Int} (hi : s.vols[i]? = some v) (hv : volB s i v = false) : stoB s = false := by
  rw [stoB, volsK_bad hi hv, Bool.false_and, Bool.and_false]
theorem stoB_end {s : Sto} (h1 : s.vols.length ≤ 3) (h2 : arB s.kns = true) (h3 : 1 ≤ s.next ∧ s.next ≤ 1000000000) (h4 : volsK s s.vols.length = true) : stoB s = decide ((sweepL s.kns (rootsV s.vols)).length = s.kns.length) := by
  rw [stoB, decide_eq_true h1, h2, decide_eq_true h3.1, decide_eq_true h3.2, h4]
  rfl
theorem volB_no {s : Sto} {i : Nat} {v : Int × Int} (h : ¬ ((1 ≤ v.1 ∧ v.1 ≤ 9) ∧ ascB s i v.1 = true ∧ rootB s.kns v.2 = true ∧ lessB s v.2 16 = true)) : volB s i v = false := by
  cases e : volB s i v with
  | false => rfl
  | true =>
    rw [volB] at e
    simp only [Bool.and_eq_true, decide_eq_true_eq] at e
    exact absurd ⟨e.1.1, e.1.2, e.2.1, e.2.2⟩ h
theorem volB_yes {s : Sto} {i : Nat} {v : Int × Int} (h1 : 1 ≤ v.1 ∧ v.1 ≤ 9) (h2 : ascB s i v.1 = true) (h3 : rootB s.kns v.2 = true) (h4 : lessB s v.2 16 = true) : volB s i v = true := by
  rw [volB, decide_eq_true h1.1, decide_eq_true h1.2, h2, h3, h4]
  rfl
theorem lessB_succ {s : Sto} {r : Int} {k : Nat} : lessB s r (k + 1) = (lessB s r k && decide (getP s.kns r k < s.next)) := by
  rw [lessB, lessB, List.range_succ, List.all_append]
  simp
theorem lessB_bad {s : Sto} {r : Int} {k : Nat} (hk : k < 16) (h : ¬ getP s.kns r k < s.next) : ¬ lessB s r 16 = true := fun e => h (lessB_iff.1 e k (by omega))

set_option maxHeartbeats 2000000 in
set_option maxRecDepth 100000 in
theorem sstOk (va : Option Addr) (vl vc : Nat) (ad : Option Addr) (len cap : Nat) (nx : Int) (vs : List (Int × Int)) (rs : List Kw) (w : World) (hvl : vl ≤ 1048578) (hl : len ≤ 1048578) (hll : ∀ r ∈ rs, r.2.2.length ≤ 1048576) (h : VlRow w va vl vs) (hk : KnRd w ad len rs) :
    Calls Tryz.prog 33 #[.agg (SBox va vl vc ad len cap nx)] w fun e w' => e = .returned (.bool (stoB ⟨vs, rs.map ktell, nx⟩)) ∧ Below w.heap.size w w' := by
  obtain ⟨S, hS⟩ : ∃ S : Sto, S = ⟨vs, rs.map ktell, nx⟩ := ⟨_, rfl⟩
  have SV : Hid (S.vols = vs) := by show _ = _; rw [hS]
  have SK : Hid (S.kns = rs.map ktell) := by show _ = _; rw [hS]
  have SN : Hid (S.next = nx) := by show _ = _; rw [hS]
  rw [← hS]
  have HL := hide hll
  have HVL := hide h.1
  have B0 : Hid (Below w.heap.size w (w.alloc (.cells #[.slice va vl vc, .slice ad len cap, .int .i64 nx] 36))) := (Below.refl _ _).alloc (Nat.le_refl _) _
  have T0 := hide ((Tk.start w).cell #[.slice va vl vc, .slice ad len cap, .int .i64 nx] 36)
  have HV := hide h
  have HK := hide hk
  clear h hk hll hS
  unfold SBox
  by_cases a1 : (3 : Int) < vl
  · have E : Hid (stoB S = false) := stoB_few (by rw [SV.out, HVL.out]; omega)
    go_enter Tryz.func33, Tryz.ntmps33
    go_wp2
    go_ret
    exact ⟨by rw [E.out]; rfl, B0.out⟩
  · go_enter Tryz.func33, Tryz.ntmps33
    go_wp2_with fail
    refine (sarOk ad len cap rs _ hl (HK.out.below B0.out)).mono ?_
    rintro e w1 ⟨rfl, b1⟩
    have T1 := hide (T0.out.below b1)
    clear b1 T0 B0
    have x0 : w1.cell? ⟨w.heap.size, 0, none⟩ = some (.slice va vl vc) := T1.out.at 0 0 rfl rfl
    have x1 : w1.cell? ⟨w.heap.size, 1, none⟩ = some (.slice ad len cap) := T1.out.at 0 1 rfl rfl
    have x2 : w1.cell? ⟨w.heap.size, 2, none⟩ = some (.int .i64 nx) := T1.out.at 0 2 rfl rfl
    cases hab : arB (rs.map ktell) with
    | false =>
      have E : Hid (stoB S = false) := stoB_ar (by rw [SK.out]; exact hab)
      clear hab
      go_wp2
      go_ret
      exact ⟨by rw [E.out]; rfl, T1.out.1⟩
    | true =>
      have HAB := hide hab
      clear hab
      by_cases a3 : 1 ≤ nx ∧ nx ≤ 1000000000
      · go_wp2_with fail
        refine (sin_b nx 1 1000000000 true _ (.inl ⟨a3.1, a3.2, rfl⟩)).mono ?_
        rintro e w1' ⟨rfl, rfl⟩
        have A3 := hide a3
        have XB := hide (show w.heap.size < w1'.heap.size from by have := T1.out.hi 0 rfl; omega)
        obtain ⟨z, hz⟩ : ∃ z, w.heap.size = z := ⟨_, rfl⟩
        rw [hz] at x0 x1 x2 T1 XB ⊢
        have HZW := hide hz
        clear a3 hz
        go_wp2
        go_loopw [3] (fun iv W => ∃ k : Nat, k ≤ vl ∧ iv = .int .i64 k ∧ Hid (volsK S k = true) ∧ Hid (Below w1'.heap.size w1' W)) (fun iv _ => vl - (intOf iv).toNat)
        case atStart => exact ⟨0, Nat.zero_le _, rfl, (rfl : volsK S 0 = true), Below.refl _ _⟩
        case round =>
          obtain ⟨k, hk, rfl, HVK, HW⟩ := hrel
          have y0 := (HW.out.cell (show z < w1'.heap.size from XB.out)).trans x0
          have y1 := (HW.out.cell (show z < w1'.heap.size from XB.out)).trans x1
          have y2 := (HW.out.cell (show z < w1'.heap.size from XB.out)).trans x2
          by_cases hlt : (k : Int) < vl
          · have hv := List.getElem?_eq_getElem (show k < vs.length by have := HVL.out; omega)
            generalize vs[k]'(by have := HVL.out; omega) = v at hv
            obtain ⟨b, off, e, hb, c0, c1⟩ := (((HV.out.below T1.out.1).below HW.out)).at hv
            subst e
            have HVI := hide hv
            have k0 : (0 : Int) ≤ k := by omega
            clear hv
            have hsz := HW.out.size
            have hz1 := XB.out
            have BV : Hid (Below wr.heap.size wr (wr.alloc (.cells #[.int .i64 v.1, .int .i64 v.2] 69))) := (Below.refl _ _).alloc (Nat.le_refl _) _
            have GV := hide (heap_alloc_new wr (.cells #[.int .i64 v.1, .int .i64 v.2] 69))
            have VB := hide ((HV.out.below T1.out.1).below HW.out)
            have KB := hide ((HK.out.below T1.out.1).below HW.out)
            have BE : Hid (∀ W, Below wr.heap.size wr W → Below w.heap.size w W) := fun W H => T1.out.1.trans ((HW.out.trans (H.mono hsz)).mono T1.out.1.size)
            have KK : Hid (∀ W, Below wr.heap.size wr W → W.cell? ⟨z, 0, none⟩ = some (.slice (some ⟨b, off, none⟩) vl vc) ∧ W.cell? ⟨z, 1, none⟩ = some (.slice ad len cap) ∧ W.cell? ⟨z, 2, none⟩ = some (.int .i64 nx)) := fun W H => ⟨(H.cell (show z < wr.heap.size by omega)).trans y0, (H.cell (show z < wr.heap.size by omega)).trans y1, (H.cell (show z < wr.heap.size by omega)).trans y2⟩
            go_upto_region 7 with fail
            generalize wr.alloc (.cells #[.int .i64 v.1, .int .i64 v.2] 69) = wv at BV GV ⊢
            obtain ⟨g, hg⟩ : ∃ g, wr.heap.size = g := ⟨_, rfl⟩
            rw [hg] at GV ⊢
            have HG := hide hg
            have k1 := KK.out _ BV.out
            have q0 : wv.cell? ⟨z, 0, none⟩ = some (.slice (some ⟨b, off, none⟩) vl vc) := k1.1
            have q1 : wv.cell? ⟨z, 1, none⟩ = some (.slice ad len cap) := k1.2.1
            have q2 : wv.cell? ⟨z, 2, none⟩ = some (.int .i64 nx) := k1.2.2
            have g0 : wv.cell? ⟨g, 0, none⟩ = some (.int .i64 v.1) := cell_of_row _ _ 0 _ _ _ GV.out
            have g1 : wv.cell? ⟨g, 1, none⟩ = some (.int .i64 v.2) := cell_of_row _ _ 1 _ _ _ GV.out
            have bvd : Hid (Below wr.heap.size wr wv.drew) := BV.out.drew
            clear hg y0 y1 y2 c0 c1 k1
            by_cases a4 : 1 ≤ v.1 ∧ v.1 ≤ 9
            · have A4 := hide a4
              have CI : Hid (∀ W, Calls Tryz.prog 55 #[.int .i64 v.1, .int .i64 1, .int .i64 9] W fun e w' => e = .returned (.bool true) ∧ w' = W) := fun W => sin_b v.1 1 9 true W (.inl ⟨a4.1, a4.2, rfl⟩)
              have CT := hide (sroot ad len cap rs v.2 wv.drew hl (KB.out.below bvd.out))
              clear a4
              by_cases hk0 : k = 0
              · subst hk0
                have AS : Hid (ascB S 0 v.1 = true) := (rfl : _ = _)
                refine wp_region_ops (fun w' => w'.cell? ⟨z, 0, none⟩ = some (.slice (some ⟨b, off, none⟩) vl vc) ∧ w'.cell? ⟨z, 1, none⟩ = some (.slice ad len cap) ∧ w'.cell? ⟨g, 0, none⟩ = some (.int .i64 v.1) ∧ w'.cell? ⟨g, 1, none⟩ = some (.int .i64 v.2)) (by kernel_rfl) ⟨q0, q1, g0, g1⟩ (fun hHeld => ?_)
                simp only [List.length_cons, List.length_nil, Nat.reduceAdd]
                refine takeL 0 (v := ?_) rfl (by kernel_rfl) (by kernel_rfl) (by kernel_rfl) (fun _ _ _ h => h) (by rfl) (by assumption) ?_ ?_
                rotate_left 1
                · (intro w hSw; (try dsimp only at hSw); go_simp; all_goals with_reducible rfl)
                simp only [Act.put, List.setIfInBounds_toArray, List.set_cons_zero, List.set_cons_succ]
                refine takeL 1 (v := ?_) rfl (by kernel_rfl) (by kernel_rfl) (by kernel_rfl) (fun _ _ _ h => h) (by rfl) (by assumption) ?_ ?_
                rotate_left 1
                · (intro w hSw; (try dsimp only at hSw); go_simp; all_goals with_reducible rfl)
                simp only [Act.put, List.setIfInBounds_toArray, List.set_cons_zero, List.set_cons_succ]
                refine oneL 2 rfl (by kernel_rfl) (fun K hK => ?_)
                go_simp
                refine (CI.out _).mono ?_
                rintro en _ ⟨rfl, rfl⟩
                refine hK.out _ _ (by assumption) (fun hHeld2 => ?_)
                clear hK K hHeld
                have hHeld := hHeld2
                clear hHeld2
                (try simp only [Act.put, List.setIfInBounds_toArray, List.set_cons_zero, List.set_cons_succ])
                refine takeL 3 (v := ?_) rfl (by kernel_rfl) (by kernel_rfl) (by kernel_rfl) (fun _ _ _ h => h) (by rfl) (by assumption) ?_ ?_
                rotate_left 1
                · (intro w hSw; (try dsimp only at hSw); go_simp; all_goals with_reducible rfl)
                simp only [Act.put, List.setIfInBounds_toArray, List.set_cons_zero, List.set_cons_succ]
                refine takeL 4 (v := ?_) rfl (by kernel_rfl) (by kernel_rfl) (by kernel_rfl) (fun _ _ _ h => h) (by rfl) (by assumption) ?_ ?_
                rotate_left 1
                · (intro w hSw; (try dsimp only at hSw); go_simp; all_goals with_reducible rfl)
                simp only [Act.put, List.setIfInBounds_toArray, List.set_cons_zero, List.set_cons_succ]
                refine takeL 5 (v := ?_) rfl (by kernel_rfl) (by kernel_rfl) (by kernel_rfl) (fun _ _ _ h => h) (by rfl) (by assumption) ?_ ?_
                rotate_left 1
                · (intro w hSw; (try dsimp only at hSw); go_simp; all_goals with_reducible rfl)
                simp only [Act.put, List.setIfInBounds_toArray, List.set_cons_zero, List.set_cons_succ]
                refine takeL 6 (v := ?_) rfl (by kernel_rfl) (by kernel_rfl) (by kernel_rfl) (fun _ _ _ h => h) (by rfl) (by assumption) ?_ ?_
                rotate_left 1
                · (intro w hSw; (try dsimp only at hSw); go_simp; all_goals with_reducible rfl)
                simp only [Act.put, List.setIfInBounds_toArray, List.set_cons_zero, List.set_cons_succ]
                refine takeL 7 (v := ?_) rfl (by kernel_rfl) (by kernel_rfl) (by kernel_rfl) (fun _ _ _ h => h) (by rfl) (by assumption) ?_ ?_
                rotate_left 1
                · (intro w hSw; (try dsimp only at hSw); go_simp; all_goals with_reducible rfl)
                simp only [Act.put, List.setIfInBounds_toArray, List.set_cons_zero, List.set_cons_succ]
                refine skipL 8 rfl (by kernel_rfl) (by kernel_rfl) (by kernel_rfl) (fun _ _ _ h => h) (by rfl) (by assumption) ?_
                simp only [Act.put, List.setIfInBounds_toArray, List.set_cons_zero, List.set_cons_succ]
                refine skipL 9 rfl (by kernel_rfl) (by kernel_rfl) (by kernel_rfl) (fun _ _ _ h => h) (by rfl) (by assumption) ?_
                simp only [Act.put, List.setIfInBounds_toArray, List.set_cons_zero, List.set_cons_succ]
                refine skipL 10 rfl (by kernel_rfl) (by kernel_rfl) (by kernel_rfl) (fun _ _ _ h => h) (by rfl) (by assumption) ?_
                simp only [Act.put, List.setIfInBounds_toArray, List.set_cons_zero, List.set_cons_succ]
                refine skipL 11 rfl (by kernel_rfl) (by kernel_rfl) (by kernel_rfl) (fun _ _ _ h => h) (by rfl) (by assumption) ?_
                simp only [Act.put, List.setIfInBounds_toArray, List.set_cons_zero, List.set_cons_succ]
                refine skipL 12 rfl (by kernel_rfl) (by kernel_rfl) (by kernel_rfl) (fun _ _ _ h => h) (by rfl) (by assumption) ?_
                simp only [Act.put, List.setIfInBounds_toArray, List.set_cons_zero, List.set_cons_succ]
                refine skipL 13 rfl (by kernel_rfl) (by kernel_rfl) (by kernel_rfl) (fun _ _ _ h => h) (by rfl) (by assumption) ?_
                simp only [Act.put, List.setIfInBounds_toArray, List.set_cons_zero, List.set_cons_succ]
                refine skipL 14 rfl (by kernel_rfl) (by kernel_rfl) (by kernel_rfl) (fun _ _ _ h => h) (by rfl) (by assumption) ?_
                simp only [Act.put, List.setIfInBounds_toArray, List.set_cons_zero, List.set_cons_succ]
                refine skipL 15 rfl (by kernel_rfl) (by kernel_rfl) (by kernel_rfl) (fun _ _ _ h => h) (by rfl) (by assumption) ?_
                simp only [Act.put, List.setIfInBounds_toArray, List.set_cons_zero, List.set_cons_succ]
                refine skipL 16 rfl (by kernel_rfl) (by kernel_rfl) (by kernel_rfl) (fun _ _ _ h => h) (by rfl) (by assumption) ?_
                simp only [Act.put, List.setIfInBounds_toArray, List.set_cons_zero, List.set_cons_succ]
                refine skipL 17 rfl (by kernel_rfl) (by kernel_rfl) (by kernel_rfl) (fun _ _ _ h => h) (by rfl) (by assumption) ?_
                simp only [Act.put, List.setIfInBounds_toArray, List.set_cons_zero, List.set_cons_succ]
                refine takeL 18 (v := ?_) rfl (by kernel_rfl) (by kernel_rfl) (by kernel_rfl) (fun _ _ _ h => h) (by rfl) (by assumption) ?_ ?_
                rotate_left 1
                · (intro w hSw; (try dsimp only at hSw); go_simp; all_goals with_reducible rfl)
                simp only [Act.put, List.setIfInBounds_toArray, List.set_cons_zero, List.set_cons_succ]
                refine takeL 19 (v := ?_) rfl (by kernel_rfl) (by kernel_rfl) (by kernel_rfl) (fun _ _ _ h => h) (by rfl) (by assumption) ?_ ?_
                rotate_left 1
                · (intro w hSw; (try dsimp only at hSw); go_simp; all_goals with_reducible rfl)
                simp only [Act.put, List.setIfInBounds_toArray, List.set_cons_zero, List.set_cons_succ]
                refine takeL 20 (v := ?_) rfl (by kernel_rfl) (by kernel_rfl) (by kernel_rfl) (fun _ _ _ h => h) (by rfl) (by assumption) ?_ ?_
                rotate_left 1
                · (intro w hSw; (try dsimp only at hSw); go_simp; all_goals with_reducible rfl)
                simp only [Act.put, List.setIfInBounds_toArray, List.set_cons_zero, List.set_cons_succ]
                refine takeL 21 (v := ?_) rfl (by kernel_rfl) (by kernel_rfl) (by kernel_rfl) (fun _ _ _ h => h) (by rfl) (by assumption) ?_ ?_
                rotate_left 1
                · (intro w hSw; (try dsimp only at hSw); go_simp; all_goals with_reducible rfl)
                simp only [Act.put, List.setIfInBounds_toArray, List.set_cons_zero, List.set_cons_succ]
                refine takeL 22 (v := ?_) rfl (by kernel_rfl) (by kernel_rfl) (by kernel_rfl) (fun _ _ _ h => h) (by rfl) (by assumption) ?_ ?_
                rotate_left 1
                · (intro w hSw; (try dsimp only at hSw); go_simp; all_goals with_reducible rfl)
                simp only [Act.put, List.setIfInBounds_toArray, List.set_cons_zero, List.set_cons_succ]
                refine takeL 23 (v := ?_) rfl (by kernel_rfl) (by kernel_rfl) (by kernel_rfl) (fun _ _ _ h => h) (by rfl) (by assumption) ?_ ?_
                rotate_left 1
                · (intro w hSw; (try dsimp only at hSw); go_simp; all_goals with_reducible rfl)
                simp only [Act.put, List.setIfInBounds_toArray, List.set_cons_zero, List.set_cons_succ]
                refine takeL 24 (v := ?_) rfl (by kernel_rfl) (by kernel_rfl) (by kernel_rfl) (fun _ _ _ h => h) (by rfl) (by assumption) ?_ ?_
                rotate_left 1
                · (intro w hSw; (try dsimp only at hSw); go_simp; all_goals with_reducible rfl)
                simp only [Act.put, List.setIfInBounds_toArray, List.set_cons_zero, List.set_cons_succ]
                refine oneL 25 rfl (by kernel_rfl) (fun K hK => ?_)
                go_simp
                refine CT.out.mono ?_
                rintro en x1 ⟨rfl, b1⟩
                have NB := hide b1
                refine hK.out _ _ (by exact ⟨(b1.cell (World.block_lt_of_cell? wv _ q0)).trans q0, (b1.cell (World.block_lt_of_cell? wv _ q1)).trans q1, (b1.cell (World.block_lt_of_cell? wv _ g0)).trans g0, (b1.cell (World.block_lt_of_cell? wv _ g1)).trans g1⟩) (fun hHeld2 => ?_)
                clear hK K hHeld
                have hHeld := hHeld2
                clear hHeld2
                (try simp only [Act.put, List.setIfInBounds_toArray, List.set_cons_zero, List.set_cons_succ])
                refine takeL 26 (v := ?_) rfl (by kernel_rfl) (by kernel_rfl) (by kernel_rfl) (fun _ _ _ h => h) (by rfl) (by assumption) ?_ ?_
                rotate_left 1
                · (intro w hSw; (try dsimp only at hSw); go_simp; all_goals with_reducible rfl)
                simp only [Act.put, List.setIfInBounds_toArray, List.set_cons_zero, List.set_cons_succ]
                refine takeL 27 (v := ?_) rfl (by kernel_rfl) (by kernel_rfl) (by kernel_rfl) (fun _ _ _ h => h) (by rfl) (by assumption) ?_ ?_
                rotate_left 1
                · (intro w hSw; (try dsimp only at hSw); go_simp; all_goals with_reducible rfl)
                simp only [Act.put, List.setIfInBounds_toArray, List.set_cons_zero, List.set_cons_succ]
                refine doneL (by kernel_rfl) ?_
                clear hHeld
                have BX1 : Hid (Below wr.heap.size wr x1) := bvd.out.trans (b1.mono bvd.out.size)
                clear b1 CI CT
                cases hrb : rootB (rs.map ktell) v.2 with
                | false =>
                  have E : Hid (stoB S = false) := stoB_vol (by rw [SV.out]; exact HVI.out) (volB_no (fun hh => by have := hh.2.2.1; rw [SK.out, hrb] at this; cases this))
                  clear hrb
                  go_wp2
                  go_ret
                  exact ⟨by rw [E.out]; rfl, BE.out _ BX1.out⟩
                | true =>
                  have HRB := hide hrb
                  clear hrb
                  have GX : Hid (x1.heap[g]? = some (.cells #[.int .i64 v.1, .int .i64 v.2] 69 (0, 0))) := (NB.out.block g (Array.getElem?_eq_some_iff.1 GV.out).1).trans GV.out
                  have BEX : Hid (∀ W, Below x1.heap.size x1 W → Below w.heap.size w W) := fun W H => BE.out _ (BX1.out.trans (H.mono BX1.out.size))
                  have BWX : Hid (∀ W, Below x1.heap.size x1 W → Below w1'.heap.size w1' W) := fun W H => HW.out.trans ((BX1.out.trans (H.mono BX1.out.size)).mono hsz)
                  have KX1 := hide (KK.out _ BX1.out)
                  have KBX := hide (KB.out.below BX1.out)
                  have HZX : Hid (z < x1.heap.size) := by have := BX1.out.size; show _ < _; omega
                  have HGX : Hid (g < x1.heap.size) := (Array.getElem?_eq_some_iff.1 GX.out).1
                  clear q0 q1 q2 g0 g1 NB BX1 GV KK KB VB BE BV bvd HW HG
                  go_wp2
                  go_loopw [5] (fun kv W => ∃ m : Nat, m ≤ 16 ∧ kv = .int .i64 m ∧ Hid (lessB S v.2 m = true) ∧ Hid (Below x1.heap.size x1 W)) (fun kv _ => 16 - (intOf kv).toNat)
                  case atStart => exact ⟨0, Nat.zero_le _, rfl, (rfl : lessB S v.2 0 = true), Below.refl _ _⟩
                  case round =>
                    obtain ⟨m, hm, rfl, HLM, HY⟩ := hrel
                    by_cases hm16 : (m : Int) < 16
                    · have n1 := (HY.out.cell (show z < x1.heap.size from HZX.out)).trans KX1.out.2.1
                      have n2 := (HY.out.cell (show z < x1.heap.size from HZX.out)).trans KX1.out.2.2
                      have n3 : wr.cell? ⟨g, 1, none⟩ = some (.int .i64 v.2) := cell_of_row _ _ 1 _ _ _ ((HY.out.block g HGX.out).trans GX.out)
                      have l1 := World.block_lt_of_cell? wr _ n1
                      have l2 := World.block_lt_of_cell? wr _ n2
                      have l3 := World.block_lt_of_cell? wr _ n3
                      have HYD : Hid (Below x1.heap.size x1 wr.drew) := HY.out.drew
                      have CG := hide (sget ad len cap rs v.2 m wr.drew hl (KBX.out.below HYD.out) HAB.out HRB.out (by omega))
                      obtain ⟨y, hy⟩ : ∃ y, getP (rs.map ktell) v.2 m = y := ⟨_, rfl⟩
                      rw [hy] at CG
                      have HYE := hide hy
                      clear hy
                      go_wp2
                      go_region_held3 (fun w' => w'.cell? ⟨z, 1, none⟩ = some (.slice ad len cap) ∧ w'.cell? ⟨z, 2, none⟩ = some (.int .i64 nx) ∧ w'.cell? ⟨g, 1, none⟩ = some (.int .i64 v.2)) (first | exact ⟨n1, n2, n3⟩ | exact KY.out) ((go_at_call 57; (with_reducible refine Calls.mono CG.out ?_); rintro en y1 ⟨rfl, b2⟩; have KY : Hid (y1.cell? ⟨z, 1, none⟩ = some (.slice ad len cap) ∧ y1.cell? ⟨z, 2, none⟩ = some (.int .i64 nx) ∧ y1.cell? ⟨g, 1, none⟩ = some (.int .i64 v.2)) := ⟨(b2.cell l1).trans n1, (b2.cell l2).trans n2, (b2.cell l3).trans n3⟩))
                      all_goals
                        have HY1 : Hid (Below x1.heap.size x1 y1) := HYD.out.trans (b2.mono HYD.out.size)
                        clear CG KY b2 n1 n2 n3 l1 l2 l3
                        by_cases hge : nx ≤ y
                        · have E : Hid (stoB S = false) := stoB_vol (by rw [SV.out]; exact HVI.out) (volB_no (fun hh => lessB_bad (show m < 16 by omega) (by rw [SK.out, SN.out, HYE.out]; omega) hh.2.2.2))
                          go_wp2
                          go_ret
                          exact ⟨by rw [E.out]; rfl, BEX.out _ HY1.out⟩
                        · have HL2 : Hid (lessB S v.2 (m + 1) = true) := by
                            show _ = _
                            rw [lessB_succ, HLM.out, SK.out, SN.out, HYE.out]
                            simp
                            omega
                          go_wp2
                          go_roundw
                          case rel => first | exact ⟨m + 1, by omega, by go_num, HL2, HY1⟩ | exact ⟨m + 1, by omega, by go_num, HL2⟩
                          case measure => simp [intOf]; omega
                    · have HV2 : Hid (volsK S (0 + 1) = true) := by
                        have e : m = 16 := by omega
                        have hlm := HLM.out
                        rw [e] at hlm
                        show _ = _
                        rw [volsK_succ (v := v) (by rw [SV.out]; exact HVI.out), HVK.out, volB_yes A4.out AS.out (by rw [SK.out]; exact HRB.out) hlm]
                        rfl
                      have HW2 := hide (BWX.out _ HY.out)
                      go_wp2
                      go_roundw
                      case rel => first | exact ⟨0 + 1, by omega, by go_num, HV2, HW2⟩ | exact ⟨0 + 1, by omega, by go_num, HV2⟩
                      case measure => simp [intOf]; omega
              · obtain ⟨j, rfl⟩ : ∃ j, k = j + 1 := ⟨k - 1, by omega⟩
                have hu := List.getElem?_eq_getElem (show j < vs.length by have := HVL.out; omega)
                generalize vs[j]'(by have := HVL.out; omega) = u at hu
                obtain ⟨b', off', eb, -, p0, -⟩ := (VB.out.below BV.out).at hu
                injection eb with eb
                injection eb with eb1 eb2
                subst eb1
                subst eb2
                have HU : Hid (∀ id, ascB S (j + 1) id = decide (u.1 < id)) := fun id => by rw [ascB, SV.out, hu]
                have hw1 : IntKind.i64.wrap (((j + 1 : Nat) : Int) - 1) = (j : Int) := by rw [IntKind.wrap_i64]; omega
                have hw2 : IntKind.i64.wrap ((j : Int) + 1 - 1) = (j : Int) := by rw [IntKind.wrap_i64]; omega
                have hw3 : IntKind.i64.wrap (j : Int) = (j : Int) := by rw [IntKind.wrap_i64]; omega
                have j0 : (0 : Int) ≤ j := by omega
                have j1 : (j : Int) < vl := by omega
                have j2 : (0 : Int) < ((j + 1 : Nat) : Int) := by omega
                clear hu
                by_cases hcm : v.1 ≤ u.1
                · have E : Hid (stoB S = false) := stoB_vol (by rw [SV.out]; exact HVI.out) (volB_no (fun hh => by have := hh.2.1; rw [HU.out] at this; simp at this; omega))
                  go_quiet ((go_at_call 55; exact Calls.quiet_of_same (CI.out _)))
                  go_wp2
                  go_ret
                  exact ⟨by rw [E.out]; rfl, BE.out _ (below_drewN BV.out _)⟩
                · have AS : Hid (ascB S (j + 1) v.1 = true) := by show _ = _; rw [HU.out]; exact decide_eq_true (by omega)
                  refine wp_region_ops (fun w' => w'.cell? ⟨z, 0, none⟩ = some (.slice (some ⟨b, off, none⟩) vl vc) ∧ w'.cell? ⟨z, 1, none⟩ = some (.slice ad len cap) ∧ w'.cell? ⟨g, 0, none⟩ = some (.int .i64 v.1) ∧ w'.cell? ⟨g, 1, none⟩ = some (.int .i64 v.2) ∧ w'.cell? ⟨b, off + j * 2, none⟩ = some (.int .i64 u.1)) (by kernel_rfl) ⟨q0, q1, g0, g1, p0⟩ (fun hHeld => ?_)
                  simp only [List.length_cons, List.length_nil, Nat.reduceAdd]
                  refine takeL 0 (v := ?_) rfl (by kernel_rfl) (by kernel_rfl) (by kernel_rfl) (fun _ _ _ h => h) (by rfl) (by assumption) ?_ ?_
                  rotate_left 1
                  · (intro w hSw; (try dsimp only at hSw); go_simp; all_goals with_reducible rfl)
                  simp only [Act.put, List.setIfInBounds_toArray, List.set_cons_zero, List.set_cons_succ]
                  refine takeL 1 (v := ?_) rfl (by kernel_rfl) (by kernel_rfl) (by kernel_rfl) (fun _ _ _ h => h) (by rfl) (by assumption) ?_ ?_
                  rotate_left 1
                  · (intro w hSw; (try dsimp only at hSw); go_simp; all_goals with_reducible rfl)
                  simp only [Act.put, List.setIfInBounds_toArray, List.set_cons_zero, List.set_cons_succ]
                  refine oneL 2 rfl (by kernel_rfl) (fun K hK => ?_)
                  go_simp
                  refine (CI.out _).mono ?_
                  rintro en _ ⟨rfl, rfl⟩
                  refine hK.out _ _ (by assumption) (fun hHeld2 => ?_)
                  clear hK K hHeld
                  have hHeld := hHeld2
                  clear hHeld2
                  (try simp only [Act.put, List.setIfInBounds_toArray, List.set_cons_zero, List.set_cons_succ])
                  refine takeL 3 (v := ?_) rfl (by kernel_rfl) (by kernel_rfl) (by kernel_rfl) (fun _ _ _ h => h) (by rfl) (by assumption) ?_ ?_
                  rotate_left 1
                  · (intro w hSw; (try dsimp only at hSw); go_simp; all_goals with_reducible rfl)
                  simp only [Act.put, List.setIfInBounds_toArray, List.set_cons_zero, List.set_cons_succ]
                  refine takeL 4 (v := ?_) rfl (by kernel_rfl) (by kernel_rfl) (by kernel_rfl) (fun _ _ _ h => h) (by rfl) (by assumption) ?_ ?_
                  rotate_left 1
                  · (intro w hSw; (try dsimp only at hSw); go_simp; all_goals with_reducible rfl)
                  simp only [Act.put, List.setIfInBounds_toArray, List.set_cons_zero, List.set_cons_succ]
                  refine takeL 5 (v := ?_) rfl (by kernel_rfl) (by kernel_rfl) (by kernel_rfl) (fun _ _ _ h => h) (by rfl) (by assumption) ?_ ?_
                  rotate_left 1
                  · (intro w hSw; (try dsimp only at hSw); go_simp; all_goals with_reducible rfl)
                  simp only [Act.put, List.setIfInBounds_toArray, List.set_cons_zero, List.set_cons_succ]
                  refine takeL 6 (v := .bool true) rfl (by kernel_rfl) (by kernel_rfl) (by kernel_rfl) (fun _ _ _ h => h) (by rfl) (by assumption) ?hy ?_
                  case hy => (intro w hSw; (try dsimp only at hSw); go_simp; (try (simp; omega)))
                  simp only [Act.put, List.setIfInBounds_toArray, List.set_cons_zero, List.set_cons_succ]
                  refine takeL 7 (v := ?_) rfl (by kernel_rfl) (by kernel_rfl) (by kernel_rfl) (fun _ _ _ h => h) (by rfl) (by assumption) ?_ ?_
                  rotate_left 1
                  · (intro w hSw; (try dsimp only at hSw); go_simp; all_goals with_reducible rfl)
                  simp only [Act.put, List.setIfInBounds_toArray, List.set_cons_zero, List.set_cons_succ]
                  refine takeL 8 (v := ?_) rfl (by kernel_rfl) (by kernel_rfl) (by kernel_rfl) (fun _ _ _ h => h) (by rfl) (by assumption) ?_ ?_
                  rotate_left 1
                  · (intro w hSw; (try dsimp only at hSw); go_simp; all_goals with_reducible rfl)
                  simp only [Act.put, List.setIfInBounds_toArray, List.set_cons_zero, List.set_cons_succ]
                  refine takeL 9 (v := ?_) rfl (by kernel_rfl) (by kernel_rfl) (by kernel_rfl) (fun _ _ _ h => h) (by rfl) (by assumption) ?_ ?_
                  rotate_left 1
                  · (intro w hSw; (try dsimp only at hSw); go_simp; all_goals with_reducible rfl)
                  simp only [Act.put, List.setIfInBounds_toArray, List.set_cons_zero, List.set_cons_succ]
                  refine takeL 10 (v := ?_) rfl (by kernel_rfl) (by kernel_rfl) (by kernel_rfl) (fun _ _ _ h => h) (by rfl) (by assumption) ?_ ?_
                  rotate_left 1
                  · (intro w hSw; (try dsimp only at hSw); go_simp; all_goals with_reducible rfl)
                  simp only [Act.put, List.setIfInBounds_toArray, List.set_cons_zero, List.set_cons_succ]
                  refine takeL 11 (v := .int .i64 (j : Int)) rfl (by kernel_rfl) (by kernel_rfl) (by kernel_rfl) (fun _ _ _ h => h) (by rfl) (by assumption) ?hy ?_
                  case hy => (intro w hSw; (try dsimp only at hSw); go_simp; (try (simp; omega)))
                  simp only [Act.put, List.setIfInBounds_toArray, List.set_cons_zero, List.set_cons_succ]
                  refine takeL 12 (v := ?_) rfl (by kernel_rfl) (by kernel_rfl) (by kernel_rfl) (fun _ _ _ h => h) (by rfl) (by assumption) ?_ ?_
                  rotate_left 1
                  · (intro w hSw; (try dsimp only at hSw); go_simp; all_goals with_reducible rfl)
                  simp only [Act.put, List.setIfInBounds_toArray, List.set_cons_zero, List.set_cons_succ]
                  refine takeL 13 (v := ?_) rfl (by kernel_rfl) (by kernel_rfl) (by kernel_rfl) (fun _ _ _ h => h) (by rfl) (by assumption) ?_ ?_
                  rotate_left 1
                  · (intro w hSw; (try dsimp only at hSw); go_simp; all_goals with_reducible rfl)
                  simp only [Act.put, List.setIfInBounds_toArray, List.set_cons_zero, List.set_cons_succ]
                  refine takeL 14 (v := ?_) rfl (by kernel_rfl) (by kernel_rfl) (by kernel_rfl) (fun _ _ _ h => h) (by rfl) (by assumption) ?_ ?_
                  rotate_left 1
                  · (intro w hSw; (try dsimp only at hSw); go_simp; all_goals with_reducible rfl)
                  simp only [Act.put, List.setIfInBounds_toArray, List.set_cons_zero, List.set_cons_succ]
                  refine takeL 15 (v := ?_) rfl (by kernel_rfl) (by kernel_rfl) (by kernel_rfl) (fun _ _ _ h => h) (by rfl) (by assumption) ?_ ?_
                  rotate_left 1
                  · (intro w hSw; (try dsimp only at hSw); go_simp; all_goals with_reducible rfl)
                  simp only [Act.put, List.setIfInBounds_toArray, List.set_cons_zero, List.set_cons_succ]
                  refine takeL 16 (v := ?_) rfl (by kernel_rfl) (by kernel_rfl) (by kernel_rfl) (fun _ _ _ h => h) (by rfl) (by assumption) ?_ ?_
                  rotate_left 1
                  · (intro w hSw; (try dsimp only at hSw); go_simp; all_goals with_reducible rfl)
                  simp only [Act.put, List.setIfInBounds_toArray, List.set_cons_zero, List.set_cons_succ]
                  refine takeL 17 (v := .bool false) rfl (by kernel_rfl) (by kernel_rfl) (by kernel_rfl) (fun _ _ _ h => h) (by rfl) (by assumption) ?hy ?_
                  case hy => (intro w hSw; (try dsimp only at hSw); go_simp; (try (simp; omega)))
                  simp only [Act.put, List.setIfInBounds_toArray, List.set_cons_zero, List.set_cons_succ]
                  refine takeL 18 (v := ?_) rfl (by kernel_rfl) (by kernel_rfl) (by kernel_rfl) (fun _ _ _ h => h) (by rfl) (by assumption) ?_ ?_
                  rotate_left 1
                  · (intro w hSw; (try dsimp only at hSw); go_simp; all_goals with_reducible rfl)
                  simp only [Act.put, List.setIfInBounds_toArray, List.set_cons_zero, List.set_cons_succ]
                  refine takeL 19 (v := ?_) rfl (by kernel_rfl) (by kernel_rfl) (by kernel_rfl) (fun _ _ _ h => h) (by rfl) (by assumption) ?_ ?_
                  rotate_left 1
                  · (intro w hSw; (try dsimp only at hSw); go_simp; all_goals with_reducible rfl)
                  simp only [Act.put, List.setIfInBounds_toArray, List.set_cons_zero, List.set_cons_succ]
                  refine takeL 20 (v := ?_) rfl (by kernel_rfl) (by kernel_rfl) (by kernel_rfl) (fun _ _ _ h => h) (by rfl) (by assumption) ?_ ?_
                  rotate_left 1
                  · (intro w hSw; (try dsimp only at hSw); go_simp; all_goals with_reducible rfl)
                  simp only [Act.put, List.setIfInBounds_toArray, List.set_cons_zero, List.set_cons_succ]
                  refine takeL 21 (v := ?_) rfl (by kernel_rfl) (by kernel_rfl) (by kernel_rfl) (fun _ _ _ h => h) (by rfl) (by assumption) ?_ ?_
                  rotate_left 1
                  · (intro w hSw; (try dsimp only at hSw); go_simp; all_goals with_reducible rfl)
                  simp only [Act.put, List.setIfInBounds_toArray, List.set_cons_zero, List.set_cons_succ]
                  refine takeL 22 (v := ?_) rfl (by kernel_rfl) (by kernel_rfl) (by kernel_rfl) (fun _ _ _ h => h) (by rfl) (by assumption) ?_ ?_
                  rotate_left 1
                  · (intro w hSw; (try dsimp only at hSw); go_simp; all_goals with_reducible rfl)
                  simp only [Act.put, List.setIfInBounds_toArray, List.set_cons_zero, List.set_cons_succ]
                  refine takeL 23 (v := ?_) rfl (by kernel_rfl) (by kernel_rfl) (by kernel_rfl) (fun _ _ _ h => h) (by rfl) (by assumption) ?_ ?_
                  rotate_left 1
                  · (intro w hSw; (try dsimp only at hSw); go_simp; all_goals with_reducible rfl)
                  simp only [Act.put, List.setIfInBounds_toArray, List.set_cons_zero, List.set_cons_succ]
                  refine takeL 24 (v := ?_) rfl (by kernel_rfl) (by kernel_rfl) (by kernel_rfl) (fun _ _ _ h => h) (by rfl) (by assumption) ?_ ?_
                  rotate_left 1
                  · (intro w hSw; (try dsimp only at hSw); go_simp; all_goals with_reducible rfl)
                  simp only [Act.put, List.setIfInBounds_toArray, List.set_cons_zero, List.set_cons_succ]
                  refine oneL 25 rfl (by kernel_rfl) (fun K hK => ?_)
                  go_simp
                  refine CT.out.mono ?_
                  rintro en x1 ⟨rfl, b1⟩
                  have NB := hide b1
                  refine hK.out _ _ (by exact ⟨(b1.cell (World.block_lt_of_cell? wv _ q0)).trans q0, (b1.cell (World.block_lt_of_cell? wv _ q1)).trans q1, (b1.cell (World.block_lt_of_cell? wv _ g0)).trans g0, (b1.cell (World.block_lt_of_cell? wv _ g1)).trans g1, (b1.cell (World.block_lt_of_cell? wv _ p0)).trans p0⟩) (fun hHeld2 => ?_)
                  clear hK K hHeld
                  have hHeld := hHeld2
                  clear hHeld2
                  (try simp only [Act.put, List.setIfInBounds_toArray, List.set_cons_zero, List.set_cons_succ])
                  refine takeL 26 (v := ?_) rfl (by kernel_rfl) (by kernel_rfl) (by kernel_rfl) (fun _ _ _ h => h) (by rfl) (by assumption) ?_ ?_
                  rotate_left 1
                  · (intro w hSw; (try dsimp only at hSw); go_simp; all_goals with_reducible rfl)
                  simp only [Act.put, List.setIfInBounds_toArray, List.set_cons_zero, List.set_cons_succ]
                  refine takeL 27 (v := ?_) rfl (by kernel_rfl) (by kernel_rfl) (by kernel_rfl) (fun _ _ _ h => h) (by rfl) (by assumption) ?_ ?_
                  rotate_left 1
                  · (intro w hSw; (try dsimp only at hSw); go_simp; all_goals with_reducible rfl)
                  simp only [Act.put, List.setIfInBounds_toArray, List.set_cons_zero, List.set_cons_succ]
                  refine doneL (by kernel_rfl) ?_
                  clear hHeld p0
                  have BX1 : Hid (Below wr.heap.size wr x1) := bvd.out.trans (b1.mono bvd.out.size)
                  clear b1 CI CT
                  cases hrb : rootB (rs.map ktell) v.2 with
                  | false =>
                    have E : Hid (stoB S = false) := stoB_vol (by rw [SV.out]; exact HVI.out) (volB_no (fun hh => by have := hh.2.2.1; rw [SK.out, hrb] at this; cases this))
                    clear hrb
                    go_wp2
                    go_ret
                    exact ⟨by rw [E.out]; rfl, BE.out _ BX1.out⟩
                  | true =>
                    have HRB := hide hrb
                    clear hrb
                    have GX : Hid (x1.heap[g]? = some (.cells #[.int .i64 v.1, .int .i64 v.2] 69 (0, 0))) := (NB.out.block g (Array.getElem?_eq_some_iff.1 GV.out).1).trans GV.out
                    have BEX : Hid (∀ W, Below x1.heap.size x1 W → Below w.heap.size w W) := fun W H => BE.out _ (BX1.out.trans (H.mono BX1.out.size))
                    have BWX : Hid (∀ W, Below x1.heap.size x1 W → Below w1'.heap.size w1' W) := fun W H => HW.out.trans ((BX1.out.trans (H.mono BX1.out.size)).mono hsz)
                    have KX1 := hide (KK.out _ BX1.out)
                    have KBX := hide (KB.out.below BX1.out)
                    have HZX : Hid (z < x1.heap.size) := by have := BX1.out.size; show _ < _; omega
                    have HGX : Hid (g < x1.heap.size) := (Array.getElem?_eq_some_iff.1 GX.out).1
                    clear q0 q1 q2 g0 g1 NB BX1 GV KK KB VB BE BV bvd HW HG
                    go_wp2
                    go_loopw [5] (fun kv W => ∃ m : Nat, m ≤ 16 ∧ kv = .int .i64 m ∧ Hid (lessB S v.2 m = true) ∧ Hid (Below x1.heap.size x1 W)) (fun kv _ => 16 - (intOf kv).toNat)
                    case atStart => exact ⟨0, Nat.zero_le _, rfl, (rfl : lessB S v.2 0 = true), Below.refl _ _⟩
                    case round =>
                      obtain ⟨m, hm, rfl, HLM, HY⟩ := hrel
                      by_cases hm16 : (m : Int) < 16
                      · have n1 := (HY.out.cell (show z < x1.heap.size from HZX.out)).trans KX1.out.2.1
                        have n2 := (HY.out.cell (show z < x1.heap.size from HZX.out)).trans KX1.out.2.2
                        have n3 : wr.cell? ⟨g, 1, none⟩ = some (.int .i64 v.2) := cell_of_row _ _ 1 _ _ _ ((HY.out.block g HGX.out).trans GX.out)
                        have l1 := World.block_lt_of_cell? wr _ n1
                        have l2 := World.block_lt_of_cell? wr _ n2
                        have l3 := World.block_lt_of_cell? wr _ n3
                        have HYD : Hid (Below x1.heap.size x1 wr.drew) := HY.out.drew
                        have CG := hide (sget ad len cap rs v.2 m wr.drew hl (KBX.out.below HYD.out) HAB.out HRB.out (by omega))
                        obtain ⟨y, hy⟩ : ∃ y, getP (rs.map ktell) v.2 m = y := ⟨_, rfl⟩
                        rw [hy] at CG
                        have HYE := hide hy
                        clear hy
                        go_wp2
                        go_region_held3 (fun w' => w'.cell? ⟨z, 1, none⟩ = some (.slice ad len cap) ∧ w'.cell? ⟨z, 2, none⟩ = some (.int .i64 nx) ∧ w'.cell? ⟨g, 1, none⟩ = some (.int .i64 v.2)) (first | exact ⟨n1, n2, n3⟩ | exact KY.out) ((go_at_call 57; (with_reducible refine Calls.mono CG.out ?_); rintro en y1 ⟨rfl, b2⟩; have KY : Hid (y1.cell? ⟨z, 1, none⟩ = some (.slice ad len cap) ∧ y1.cell? ⟨z, 2, none⟩ = some (.int .i64 nx) ∧ y1.cell? ⟨g, 1, none⟩ = some (.int .i64 v.2)) := ⟨(b2.cell l1).trans n1, (b2.cell l2).trans n2, (b2.cell l3).trans n3⟩))
                        all_goals
                          have HY1 : Hid (Below x1.heap.size x1 y1) := HYD.out.trans (b2.mono HYD.out.size)
                          clear CG KY b2 n1 n2 n3 l1 l2 l3
                          by_cases hge : nx ≤ y
                          · have E : Hid (stoB S = false) := stoB_vol (by rw [SV.out]; exact HVI.out) (volB_no (fun hh => lessB_bad (show m < 16 by omega) (by rw [SK.out, SN.out, HYE.out]; omega) hh.2.2.2))
                            go_wp2
                            go_ret
                            exact ⟨by rw [E.out]; rfl, BEX.out _ HY1.out⟩
                          · have HL2 : Hid (lessB S v.2 (m + 1) = true) := by
                              show _ = _
                              rw [lessB_succ, HLM.out, SK.out, SN.out, HYE.out]
                              simp
                              omega
                            go_wp2
                            go_roundw
                            case rel => first | exact ⟨m + 1, by omega, by go_num, HL2, HY1⟩ | exact ⟨m + 1, by omega, by go_num, HL2⟩
                            case measure => simp [intOf]; omega
                      · have HV2 : Hid (volsK S ((j + 1) + 1) = true) := by
                          have e : m = 16 := by omega
                          have hlm := HLM.out
                          rw [e] at hlm
                          show _ = _
                          rw [volsK_succ (v := v) (by rw [SV.out]; exact HVI.out), HVK.out, volB_yes A4.out AS.out (by rw [SK.out]; exact HRB.out) hlm]
                          rfl
                        have HW2 := hide (BWX.out _ HY.out)
                        go_wp2
                        go_roundw
                        case rel => first | exact ⟨(j + 1) + 1, by omega, by go_num, HV2, HW2⟩ | exact ⟨(j + 1) + 1, by omega, by go_num, HV2⟩
                        case measure => simp [intOf]; omega
            · have E : Hid (stoB S = false) := stoB_vol (by rw [SV.out]; exact HVI.out) (volB_no (fun hh => a4 hh.1))
              have CI : Hid (∀ W, Calls Tryz.prog 55 #[.int .i64 v.1, .int .i64 1, .int .i64 9] W fun e w' => e = .returned (.bool false) ∧ w' = W) := fun W => sin_b v.1 1 9 false W (.inr ⟨by omega, rfl⟩)
              clear a4
              go_quiet ((go_at_call 55; exact Calls.quiet_of_same (CI.out _)))
              go_wp2
              go_ret
              exact ⟨by rw [E.out]; rfl, BE.out _ (below_drewN BV.out _)⟩
          · have hke : k = vl := by omega
            have HE : Hid (stoB S = decide ((sweepL (rs.map ktell) (rootsV vs)).length = len)) := by
              have h1 := HVK.out
              have h2 := HK.out.1
              rw [hke, ← HVL.out, ← SV.out] at h1
              have := stoB_end (s := S) (by rw [SV.out, HVL.out]; omega) (by rw [SK.out]; exact HAB.out) (by rw [SN.out]; exact A3.out) h1
              rw [SK.out, SV.out, List.length_map, h2] at this
              exact this
            have hsz := HW.out.size
            have hz1 := XB.out
            have KK : Hid (∀ W, Below wr.heap.size wr W → W.cell? ⟨z, 0, none⟩ = some (.slice va vl vc) ∧ W.cell? ⟨z, 1, none⟩ = some (.slice ad len cap) ∧ W.cell? ⟨z, 2, none⟩ = some (.int .i64 nx)) := fun W H => ⟨(H.cell (show z < wr.heap.size by omega)).trans y0, (H.cell (show z < wr.heap.size by omega)).trans y1, (H.cell (show z < wr.heap.size by omega)).trans y2⟩
            have VB := hide ((HV.out.below T1.out.1).below HW.out)
            have KB := hide ((HK.out.below T1.out.1).below HW.out)
            have CR : Hid (∀ W, Below wr.heap.size wr W → Calls Tryz.prog 59 #[.agg #[.slice va vl vc, .slice ad len cap, .int .i64 nx]] W fun e w' => ∃ ra rc, e = .returned (.slice ra vl rc) ∧ Hid ((ra = none → rc = 0) ∧ IRow w' ra vl (rootsV vs)) ∧ Hid (Below wr.heap.size wr w') ∧ Hid (Below W.heap.size W w')) := fun W H => by
              refine (sroots va vl vc ad len cap nx vs W hvl (VB.out.below H)).mono ?_
              rintro e w' ⟨v, rfl, ho, hb⟩
              have hn : (rootsV vs).length = vl := by rw [rootsV, List.length_map]; exact HVL.out
              obtain ⟨ra, rc, e, h1, h2⟩ := ISl.of (Sli.of ho) (by rw [hn]; unfold maxLen; omega) (Nat.le_refl _)
              rw [hn] at e h2
              subst e
              exact ⟨ra, rc, rfl, ⟨h1, h2⟩, H.trans (hb.mono H.size), hb⟩
            have CS : Hid (∀ W ra rc, Below wr.heap.size wr W → (ra = none → rc = 0) ∧ IRow W ra vl (rootsV vs) → Calls Tryz.prog 58 #[.agg #[.slice ad len cap], .slice ra vl rc] W fun e w' => ∃ ua un uc iv, e = .returned (.tuple #[.agg #[.slice ua un uc], iv]) ∧ Hid ((sweepL (rs.map ktell) (rootsV vs)).length = un) ∧ Hid (Below wr.heap.size wr w') ∧ Hid (Below W.heap.size W w')) := fun W ra rc H HR => by
              refine (ssweep ad len cap rs ra vl rc (rootsV vs) W hl (by omega) HL.out (KB.out.below H) HR.1 HR.2).mono ?_
              rintro e w' ⟨uv, iv, _, _, _, _, rfl, hu, -, -, -, -, -, -, hb⟩
              obtain ⟨ua, uc, rfl⟩ := hu.form
              exact ⟨ua, _, uc, iv, rfl, (rfl : _ = _), H.trans (hb.mono H.size), hb⟩
            have S1d : Hid (Below wr.heap.size wr wr.drew) := (Below.refl _ _).drew
            have S1e : Hid (Below wr.heap.size wr (wr.alloc (.cells #[.slice none 0 0] 34)).drew) := ((Below.refl _ _).alloc (Nat.le_refl _) _).drew
            have S1f : Hid (Below wr.heap.size wr (wr.drew.alloc (.cells #[.slice none 0 0] 34))) := ((Below.refl _ _).drew).alloc (Nat.le_refl _) _
            go_wp2
            go_region_held3 (fun w' => w'.cell? ⟨z, 0, none⟩ = some (.slice va vl vc) ∧ w'.cell? ⟨z, 1, none⟩ = some (.slice ad len cap) ∧ w'.cell? ⟨z, 2, none⟩ = some (.int .i64 nx)) (first | exact KK.out _ S1d.out | exact KK.out _ S1e.out | exact KK.out _ S1f.out | exact KK.out _ S2.out | exact KK.out _ (S2.out.alloc S2.out.size _) | exact KK.out _ S3.out | exact KK.out _ (S3.out.alloc S3.out.size _) | exact KK.out _ (S3.out.setCell S2.out.size _) | exact KK.out _ (S3.out.setCell (Nat.le_refl _) _)) (first
              | (go_at_call 59; (with_reducible refine Calls.mono (CR.out _ (by first | exact S1d.out | exact S1e.out | exact S1f.out)) ?_); rintro en x2 ⟨ra, rc, rfl, R2, S2, N2⟩)
              | (go_at_call 58; (with_reducible refine Calls.mono (CS.out _ ra rc (by first | exact S2.out | exact S2.out.alloc S2.out.size _) (by first | exact R2.out | exact ⟨R2.out.1, R2.out.2.below ((Below.refl _ _).alloc (Nat.le_refl _) _)⟩)) ?_); rintro en x3 ⟨ua, un, uc, iv, rfl, U3, S3, N3⟩; (try (have nc : Hid (x3.heap[x2.heap.size]? = some (.cells #[.slice none 0 0] 34 (0, 0))) := (N3.out.block _ (by simp)).trans (heap_alloc_new x2 _); have kc := cell_of_row _ _ 0 _ _ _ nc.out; have kf := frozen_of_row _ _ 0 _ _ nc.out)); (try (have nc : Hid (x3.heap[wr.heap.size]? = some (.cells #[.slice none 0 0] 34 (0, 0))) := (N3.out.block _ (by have := N2.out.size; simp at this; omega)).trans ((N2.out.block _ (by simp)).trans (heap_alloc_new wr _)); have kc := cell_of_row _ _ 0 _ _ _ nc.out; have kf := frozen_of_row _ _ 0 _ _ nc.out))))
            all_goals
              first
                | (have NX : Hid ((x3.setCell ⟨x2.heap.size, 0, none⟩ (.slice ua un uc)).cell? ⟨x2.heap.size, 0, none⟩ = some (.slice ua un uc)) := cell_of_row _ _ 0 _ _ _ (heap_setCell_same _ _ 0 _ _ _ nc.out); have NY : Hid (Below wr.heap.size wr (x3.setCell ⟨x2.heap.size, 0, none⟩ (.slice ua un uc))) := S3.out.setCell S2.out.size _; generalize x3.setCell ⟨x2.heap.size, 0, none⟩ (.slice ua un uc) = V at NX NY ⊢; generalize x2.heap.size = c at NX ⊢)
                | (have NX : Hid ((x3.setCell ⟨wr.heap.size, 0, none⟩ (.slice ua un uc)).cell? ⟨wr.heap.size, 0, none⟩ = some (.slice ua un uc)) := cell_of_row _ _ 0 _ _ _ (heap_setCell_same _ _ 0 _ _ _ nc.out); have NY : Hid (Below wr.heap.size wr (x3.setCell ⟨wr.heap.size, 0, none⟩ (.slice ua un uc))) := S3.out.setCell (Nat.le_refl _) _; generalize x3.setCell ⟨wr.heap.size, 0, none⟩ (.slice ua un uc) = V at NX NY ⊢; generalize wr.heap.size = c at NX ⊢)
                | (have NX : Hid ((x3.alloc (.cells #[.slice ua un uc] 34)).cell? ⟨x3.heap.size, 0, none⟩ = some (.slice ua un uc)) := cell_of_row _ _ 0 _ _ _ (heap_alloc_new x3 _); have NY : Hid (Below wr.heap.size wr (x3.alloc (.cells #[.slice ua un uc] 34))) := S3.out.alloc S3.out.size _; generalize x3.alloc (.cells #[.slice ua un uc] 34) = V at NX NY ⊢; generalize x3.heap.size = c at NX ⊢)
            all_goals
              have v1 := NX.out
              have v2 : V.cell? ⟨z, 1, none⟩ = some (.slice ad len cap) := (KK.out _ NY.out).2.1
              have BE : Hid (Below w.heap.size w V) := T1.out.1.trans ((HW.out.trans (NY.out.mono hsz)).mono T1.out.1.size)
              clear CR CS KK R2 S2 N2 S3 N3 S1d S1e S1f VB KB
              by_cases hq : ((un : Int) == (len : Int)) = true
              · have ET : Hid (stoB S = true) := by
                  show _ = _
                  rw [HE.out, U3.out]
                  have : (un : Int) = len := by simpa using hq
                  exact decide_eq_true (by omega)
                go_wp2
                go_ret
                exact ⟨by rw [ET.out]; rfl, BE.out⟩
              · have ET : Hid (stoB S = false) := by
                  show _ = _
                  rw [HE.out, U3.out]
                  have : ¬ (un : Int) = len := by simpa using hq
                  exact decide_eq_false (by omega)
                go_wp2
                go_ret
                exact ⟨by rw [ET.out]; rfl, BE.out⟩
      · have E : Hid (stoB S = false) := stoB_nx (by rw [SN.out]; exact a3)
        go_wp2_with fail
        refine (sin_b nx 1 1000000000 false _ (.inr ⟨by omega, rfl⟩)).mono ?_
        rintro e w1' ⟨rfl, rfl⟩
        clear a3
        go_wp2
        go_ret
        exact ⟨by rw [E.out]; rfl, T1.out.1⟩
end Go.Proofs.YtcnaahajaaifjacGreat
