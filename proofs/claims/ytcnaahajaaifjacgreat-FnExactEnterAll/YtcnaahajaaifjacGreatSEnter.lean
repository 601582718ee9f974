/-
  spec.Enter.
-/
import Derived.Test.YtcnaahajaaifjacGreatPk28
import Derived.Deep.RegionHeld3
import Derived.Deep.DeepCutAuto
import Derived.BigQuiet
namespace Go.Proofs.YtcnaahajaaifjacGreat
open Go.RowKit
open Words

set_option maxHeartbeats 4000000 in
set_option maxRecDepth 100000 in
theorem senter (v : Value) (s : Sto) (r : Rc) (w : World) (hin : StIn w v s) (hcap : VCap v) : Calls Tryz.prog 18 #[v, .agg #[.int .i64 r.kind, .int .i64 r.vol, .int .i64 r.arg, .int .i64 r.chunk]] w (EnOut2 w (enterS s r)) := by
  have HIN := hide hin
  obtain ⟨va, vl, vc, ad, len, cap, rs, rfl, hks, hvl, hl, hll, hvc, h, hk⟩ := hin
  have HCV : Hid (vl ≤ vc) := by
    obtain ⟨a, n, c, k, x, e, hh⟩ := hcap
    injection e with e
    injection e with e
    simp only [List.cons.injEq, and_true] at e
    obtain ⟨e, -⟩ := e
    injection e with e1 e2 e3
    show vl ≤ vc
    omega
  have HV := hide h
  have HVL := hide h.1
  have HK := hide hk
  have HKS := hide hks
  have HLL := hide hll
  have HVC := hide hvc
  obtain ⟨nx, hnx⟩ : ∃ nx, s.next = nx := ⟨_, rfl⟩
  have HNX := hide hnx
  obtain ⟨i0, hi, hz0, hz1, hz2⟩ := info_parts infoVl
  have I0 := hide hi
  have Y0 := hide hz0
  have Y1 := hide hz1
  have Y2 := hide hz2
  unfold SBox at HIN ⊢
  rw [hnx] at HIN ⊢
  clear hks hll hvc h hk hnx hi hz0 hz1 hz2 hcap
  obtain ⟨kind, vol, arg, chunk⟩ := r
  simp only
  have T0 := hide (Tk.three w #[.slice va vl vc, .slice ad len cap, .int .i64 nx] #[.int .i64 kind, .int .i64 vol, .int .i64 arg, .int .i64 chunk] #[.slice none 0 0, .slice none 0 0, .int .i64 0] 36 52 36)
  go_enter Tryz.func18, Tryz.ntmps18
  have E0 : Hid (EnvS w (((w.alloc (.cells #[.slice va vl vc, .slice ad len cap, .int .i64 nx] 36)).alloc (.cells #[.int .i64 kind, .int .i64 vol, .int .i64 arg, .int .i64 chunk] 52)).alloc (.cells #[.slice none 0 0, .slice none 0 0, .int .i64 0] 36)) w.heap.size (.slice va vl vc) (.slice ad len cap) (.int .i64 nx) ⟨kind, vol, arg, chunk⟩) := ⟨rfl, T0.out.1, T0.out.get 2 rfl, T0.out.get 1 rfl, T0.out.get 0 rfl⟩
  have SI : Hid (∀ W, Below w.heap.size w W → StIn W (.agg #[.slice va vl vc, .slice ad len cap, .int .i64 nx]) s) := fun W H => HIN.out.below H
  clear T0 HIN
  go_wp2_with fail
  generalize ((w.alloc (.cells #[.slice va vl vc, .slice ad len cap, .int .i64 nx] 36)).alloc (.cells #[.int .i64 kind, .int .i64 vol, .int .i64 arg, .int .i64 chunk] 52)).alloc (.cells #[.slice none 0 0, .slice none 0 0, .int .i64 0] 36) = w0 at E0 ⊢
  obtain ⟨z, hz⟩ : ∃ z, w.heap.size = z := ⟨_, rfl⟩
  have HZW := hide hz
  rw [hz] at E0 ⊢
  have EW := hide E0.out
  clear hz E0
  refine (sstoreOk _ s _ (SI.out _ EW.out.2.1)).mono ?_
  rintro e wa ⟨rfl, ba⟩
  have EX := hide (EW.out.on ba)
  clear ba EW
  by_cases hb : stoB s = true
  · rw [hb]
    obtain ⟨y0, y1, y2, y3⟩ := EX.out.rc
    simp only at y0 y1 y2 y3
    go_wp2_with fail
    refine (srecOk ⟨kind, vol, arg, chunk⟩ _).mono ?_
    rintro e wb ⟨rfl, bb⟩
    have EV := hide (EX.out.on bb)
    clear EX bb y0 y1 y2 y3
    have EX := hide EV.out
    clear EV
    by_cases hR : (Rc.mk kind vol arg chunk).Right
    · rw [dcY hR]
      have HEN : Hid (stoB s = true ∧ (Rc.mk kind vol arg chunk).Right) := ⟨hb, hR⟩
      have HRT := hide ((stoB_iff s).1 hb)
      obtain ⟨x0, x1, x2⟩ := EX.out.sc
      obtain ⟨y0, y1, y2, y3⟩ := EX.out.rc
      simp only at y0 y1 y2 y3
      clear hb
      by_cases k1 : kind = 1
      · subst k1
        have HE : Hid (∀ n : Int, (if arg = 0 then 1 else arg) = n → EnOut2 w (enterS s ⟨1, vol, arg, chunk⟩) (.returned (.tuple #[.agg #[.slice none 0 0, .slice none 0 0, .int .i64 n], .bool true])) (((wb.setCell ⟨z + 1 + 1, 0, none⟩ (.slice none 0 0)).setCell ⟨z + 1 + 1, 1, none⟩ (.slice none 0 0)).setCell ⟨z + 1 + 1, 2, none⟩ (.int .i64 n))) := fun n hn => by
          rw [enterS, if_pos HEN.out, if_pos rfl]
          simp only
          rw [hn]
          exact ⟨_, rfl, base_fin EX.out n, ⟨_, _, _, _, _, rfl, Nat.le_refl _⟩⟩
        obtain ⟨f0, f1, f2, f3, f4, f5⟩ := EX.out.rf
        have FR := hide (fun n : Int => sto_row3 (a := .slice none 0 0) (b := .slice none 0 0) (c := .int .i64 n) EX.out.2.2.2.2)
        by_cases a0 : arg = 0
        · subst a0
          have FIN := hide (HE.out 1 rfl)
          have FR1 := hide (FR.out 1)
          clear HE FR hR
          go_wp2
          exact bodyPost_ret (res_st2 (p := 4) (q := 5) rfl _ _ (z + 1 + 1) _ _ _ rfl FR1.out) rfl FIN.out
        · have FIN := hide (HE.out arg (if_neg a0))
          have FR1 := hide (FR.out arg)
          have a0b : (arg == 0) = false := by simpa using a0
          clear HE FR hR
          go_wp2
          exact bodyPost_ret (res_st2 (p := 4) (q := 5) rfl _ _ (z + 1 + 1) _ _ _ rfl FR1.out) rfl FIN.out
      · have k1b : (kind == 1) = false := by simpa using k1
        by_cases k2 : kind = 2
        · subst k2
          have HE : Hid (enterS s ⟨2, vol, arg, chunk⟩ = ((volE s ⟨2, vol, arg, chunk⟩).1, (volE s ⟨2, vol, arg, chunk⟩).2)) := by
            show _ = _
            rw [enterS, if_pos HEN.out, if_neg (show ¬ (2 : Int) = 1 by decide), if_pos rfl]
          have EN := hide (volE_next s ⟨2, vol, arg, chunk⟩)
          clear hR
          go_wp2_with fail
          refine (svol _ s ⟨2, vol, arg, chunk⟩ _ (SI.out _ EX.out.2.1)).mono ?_
          rintro e wn ⟨u, rfl, hu, hcp⟩
          generalize volE s ⟨2, vol, arg, chunk⟩ = p at HE EN hu ⊢
          obtain ⟨ea, el, ec, eb, em, ed, rfl, ee, fr, hen⟩ := EX.out.fin HE.out hu hcp
          obtain ⟨f0, f1, f2, f3, f4, f5⟩ := ee.rf
          have FR := hide fr
          have FIN := hide hen
          rw [EN.out, HNX.out] at FR FIN ⊢
          clear hu ee fr hen hcp x0 x1 x2
          go_wp2
          exact bodyPost_ret (res_st2 (p := 4) (q := 5) rfl _ _ (z + 1 + 1) _ _ _ rfl FR.out) rfl FIN.out
        · have k2b : (kind == 2) = false := by simpa using k2
          have CA := hide (satV va vl vc ad len cap nx s.vols vol wb (by omega) (HV.out.below EX.out.2.1))
          unfold SBox at CA
          go_wp2_with fail
          refine CA.out.mono ?_
          rintro e wc ⟨rfl, bc⟩
          have EV := hide (EX.out.on bc)
          clear EX bc CA x0 x1 x2 y0 y1 y2 y3
          have EX := hide EV.out
          clear EV
          obtain ⟨y0, y1, y2, y3⟩ := EX.out.rc
          simp only at y0 y1 y2 y3
          have HEQ : Hid (enterS s ⟨kind, vol, arg, chunk⟩ = match atV s.vols vol with
            | none => (s, false)
            | some k => if chunk = 1000000000 then (s, false) else if kind = 3 then (dropE s k, true) else (putE s k ((s.vols[k]?).getD (0, 0)) ⟨kind, vol, arg, chunk⟩, true)) := by
            show _ = _
            rw [enterS, if_pos HEN.out, if_neg k1, if_neg k2]
            rfl
          cases hat : atV s.vols vol with
          | none =>
            have HN : Hid (enterS s ⟨kind, vol, arg, chunk⟩ = (s, false)) := by show _ = _; rw [HEQ.out, hat]
            simp only [atI]
            clear hR HEQ
            obtain ⟨x0, x1, x2⟩ := EX.out.sc
            go_wp2_with fail
            refine (scopy_in (SI.out _ EX.out.2.1)).mono ?_
            rintro e wn ⟨u, rfl, hu, hcp⟩
            obtain ⟨ea, el, ec, eb, em, ed, rfl, ee, fr, hen⟩ := EX.out.fin HN.out hu hcp
            obtain ⟨f0, f1, f2, f3, f4, f5⟩ := ee.rf
            have FR := hide fr
            have FIN := hide hen
            rw [HNX.out] at FR FIN ⊢
            clear hu ee fr hen hcp x0 x1 x2
            go_wp2
            exact bodyPost_ret (res_st2 (p := 4) (q := 5) rfl _ _ (z + 1 + 1) _ _ _ rfl FR.out) rfl FIN.out
          | some k =>
            have HAT := hide hat
            obtain ⟨v, hv, hid⟩ := atV_some hat
            have hkl : k < vl := by have := (List.getElem?_eq_some_iff.1 hv).1; have := HVL.out; omega
            have HVK := hide hv
            have kn : ¬ ((k : Int) < 0) := by omega
            simp only [atI]
            by_cases hc : chunk = 1000000000
            · have HN : Hid (enterS s ⟨kind, vol, arg, chunk⟩ = (s, false)) := by show _ = _; rw [HEQ.out, hat]; simp only; rw [if_pos hc]
              have hcb : (chunk == 1000000000) = true := by simpa using hc
              clear hR HEQ hat hv hid
              obtain ⟨x0, x1, x2⟩ := EX.out.sc
              go_wp2_with fail
              refine (scopy_in (SI.out _ EX.out.2.1)).mono ?_
              rintro e wn ⟨u, rfl, hu, hcp⟩
              obtain ⟨ea, el, ec, eb, em, ed, rfl, ee, fr, hen⟩ := EX.out.fin HN.out hu hcp
              obtain ⟨f0, f1, f2, f3, f4, f5⟩ := ee.rf
              have FR := hide fr
              have FIN := hide hen
              rw [HNX.out] at FR FIN ⊢
              clear hu ee fr hen hcp x0 x1 x2
              go_wp2
              exact bodyPost_ret (res_st2 (p := 4) (q := 5) rfl _ _ (z + 1 + 1) _ _ _ rfl FR.out) rfl FIN.out
            · have HC := hide hc
              have hcb : (chunk == 1000000000) = false := by simpa using hc
              obtain ⟨vb, vo, hva, -⟩ := (HV.out.below EX.out.2.1).at hv
              subst hva
              obtain ⟨x0, x1, x2⟩ := EX.out.sc
              have HFT : Hid s.Fit := (SI.out _ EX.out.2.1).fit
              clear hat hv hid
              go_wp2_with fail
              refine (scopy_in (SI.out _ EX.out.2.1)).mono ?_
              rintro e wd ⟨u, rfl, hu, -⟩
              have EC0 := hide EX.out
              have HBD := hide hu.blw
              have EV := hide (EX.out.on hu.blw)
              have HCD : Hid (wc.heap.size ≤ wd.heap.size) := hu.blw.size
              have HEL : Hid (z + 1 + 1 < wc.heap.size) := EX.out.lt
              clear EX x0 x1 x2 y0 y1 y2 y3
              have EX := hide EV.out
              clear EV
              obtain ⟨vv, kv, lo1, hi1, lo2, hi2, rfl, hvl2, hkn, hk1, hk2, hk3, hk4, -, -⟩ := hu
              obtain ⟨ua, uc, rfl, hgg⟩ := hvl2.form
              obtain ⟨g, rfl, hg1, hg2⟩ := hgg (by have := HVL.out; omega)
              obtain ⟨ub, ud, rfl⟩ := hkn.form
              obtain ⟨um, hum⟩ : ∃ um, s.kns.length = um := ⟨_, rfl⟩
              rw [hum] at hkn ⊢
              rw [HVL.out] at hvl2 ⊢
              have HFL := hide hvl2.flt
              have HGL : Hid (g < wd.heap.size) := by show _ < _; omega
              have HGZ : Hid (wc.heap.size ≤ g) := by show _ ≤ _; omega
              have HKN := hide hkn
              have HK3 := hide hk3
              have HK4 := hide hk4
              have HUM := hide hum
              rw [HNX.out]
              clear hkn hk1 hk2 hk3 hk4 hgg hvl2 hg1 hg2 hum
              have BO : Hid (Below wd.heap.size wd (wd.alloc (.cells #[.slice (some ⟨g, 0, none⟩) vl uc, .slice ub um ud, .int .i64 nx] 36))) := (Below.refl _ _).alloc (Nat.le_refl _) _
              have RO := hide (heap_alloc_new wd (.cells #[.slice (some ⟨g, 0, none⟩) vl uc, .slice ub um ud, .int .i64 nx] 36))
              have ZO : Hid ((wd.alloc (.cells #[.slice (some ⟨g, 0, none⟩) vl uc, .slice ub um ud, .int .i64 nx] 36)).heap.size = wd.heap.size + 1) := by show _ = _; simp
              have EO := hide (EX.out.on BO.out)
              obtain ⟨x0, x1, x2⟩ := EO.out.sc
              obtain ⟨y0, y1, y2, y3⟩ := EO.out.rc
              simp only at y0 y1 y2 y3
              by_cases k3 : kind = 3
              · subst k3
                clear hR
                go_upto_region 16 with fail
                clear x0 x1 x2 y0 y1 y2 y3
                generalize wd.alloc (.cells #[.slice (some ⟨g, 0, none⟩) vl uc, .slice ub um ud, .int .i64 nx] 36) = wo at BO RO ZO EO ⊢
                obtain ⟨zb, hzb⟩ : ∃ zb, wd.heap.size = zb := ⟨_, rfl⟩
                rw [hzb] at RO ZO ⊢
                have HZB := hide hzb
                clear hzb
                have TT : Hid (∀ W : World, (Instr.slice 31 (.slice (some ⟨vb, vo, none⟩) vl vc) none (some (.int .i64 (k : Int))) none).run Tryz.prog W = .ok (.slice (some ⟨vb, vo, none⟩) k vc) W) := fun W => vtake_run _ vl vc k W (by have := HCV.out; omega)
                obtain ⟨xa, hxa⟩ : ∃ xa, (if vc = k + 1 then some (⟨vb, vo, none⟩ : Addr) else some ⟨vb, vo + (k + 1) * 2, none⟩) = xa := ⟨_, rfl⟩
                have TD : Hid (∀ W : World, (Instr.slice 31 (.slice (some ⟨vb, vo, none⟩) vl vc) (some (.int .i64 ((k : Int) + 1))) none none).run Tryz.prog W = .ok (.slice xa (vl - (k + 1)) (vc - (k + 1))) W) := fun W => by
                  have := vdrop_run vb vo vl vc (k + 1) W (by omega)
                  rw [hxa] at this
                  exact this
                have SLT : Hid (∀ W, Below wo.heap.size wo W → VlSl W (.slice (some ⟨vb, vo, none⟩) k vc) (s.vols.take k)) := fun W H => by
                  have e : (s.vols.take k).length = k := by rw [List.length_take]; have := HVL.out; omega
                  have := (HV.out.below (EO.out.on H).2.1).takeV (k := k) (by omega)
                  exact ⟨_, vc, by rw [e], (fun h => by cases h), by rw [e]; exact this⟩
                have SLD : Hid (∀ W, Below wo.heap.size wo W → VlSl W (.slice xa (vl - (k + 1)) (vc - (k + 1))) (s.vols.drop (k + 1))) := fun W H => by
                  have e : (s.vols.drop (k + 1)).length = vl - (k + 1) := by rw [List.length_drop]; have := HVL.out; omega
                  have := (HV.out.below (EO.out.on H).2.1).dropV HCV.out (j := k + 1) (by omega)
                  rw [hxa] at this
                  exact ⟨xa, vc - (k + 1), by rw [e], (fun h => by rw [h] at hxa; split at hxa <;> cases hxa), by rw [e]; exact this⟩
                have LT : Hid ((s.vols.take k).length = k) := by show _ = _; rw [List.length_take]; have := HVL.out; omega
                have LD : Hid ((s.vols.drop (k + 1)).length = vl - (k + 1)) := by show _ = _; rw [List.length_drop]; have := HVL.out; omega
                have BD : Hid (Below wo.heap.size wo wo.drew) := (Below.refl _ _).drew
                have BD1 : Hid (Below wo.heap.size wo (wo.alloc (.cells #[] 69)).drew) := ((Below.refl _ _).alloc (Nat.le_refl _) _).drew
                have OE : Hid ((wo.alloc (.cells #[] 69)).drew.ownsRow wo.heap.size 69 2 (.slice (some ⟨wo.heap.size, 0, none⟩) 0 0) 0 []) := ⟨rfl, .inr ⟨wo.heap.size, 0, #[], rfl, Nat.le_refl _, heap_alloc_new wo _, Nat.le_refl _, by unfold maxLen; omega, rfl, rfl⟩⟩
                have HS1 := hide BD1.out.size
                have KK : Hid (∀ W, Below wo.heap.size wo W → W.cell? ⟨z, 0, none⟩ = some (.slice (some ⟨vb, vo, none⟩) vl vc)) := fun W H => (EO.out.on H).sc.1
                have wk : IntKind.i64.wrap ((k : Int) + 1) = (k : Int) + 1 := by rw [IntKind.wrap_i64]; omega
                clear hxa
                have tt := TT.out
                have td := TD.out
                refine wp_region_last2 13 (S := fun w' => w'.cell? ⟨z, 0, none⟩ = some (.slice (some ⟨vb, vo, none⟩) vl vc)) (by kernel_rfl) rfl (by kernel_rfl) (KK.out _ BD.out) (fun hHeld => ?_)
                simp only [List.dropLast_cons_cons, List.dropLast_singleton, List.length_cons, List.length_nil, Nat.reduceAdd]
                refine takeL 1 (v := ?_) rfl (by kernel_rfl) (by kernel_rfl) (by kernel_rfl) (fun _ _ _ h => h) (by rfl) (by assumption) ?_ ?_
                rotate_left 1
                · (intro w hSw; (try dsimp only at hSw); go_simp; all_goals with_reducible rfl)
                simp only [Act.put, List.setIfInBounds_toArray, List.set_cons_zero, List.set_cons_succ]
                refine takeL 2 (v := ?_) rfl (by kernel_rfl) (by kernel_rfl) (by kernel_rfl) (fun _ _ _ h => h) (by rfl) (by assumption) ?_ ?_
                rotate_left 1
                · (intro w hSw; (try dsimp only at hSw); go_simp; all_goals with_reducible rfl)
                simp only [Act.put, List.setIfInBounds_toArray, List.set_cons_zero, List.set_cons_succ]
                refine takeL 3 (v := ?_) rfl (by kernel_rfl) (by kernel_rfl) (by kernel_rfl) (fun _ _ _ h => h) (by rfl) (by assumption) ?_ ?_
                rotate_left 1
                · (intro w hSw; (try dsimp only at hSw); go_simp; all_goals with_reducible rfl)
                simp only [Act.put, List.setIfInBounds_toArray, List.set_cons_zero, List.set_cons_succ]
                refine takeL 4 (v := ?_) rfl (by kernel_rfl) (by kernel_rfl) (by kernel_rfl) (fun _ _ _ h => h) (by rfl) (by assumption) ?_ ?_
                rotate_left 1
                · (intro w hSw; (try dsimp only at hSw); go_simp; all_goals with_reducible rfl)
                simp only [Act.put, List.setIfInBounds_toArray, List.set_cons_zero, List.set_cons_succ]
                refine takeL 6 (v := ?_) rfl (by kernel_rfl) (by kernel_rfl) (by kernel_rfl) (fun _ _ _ h => h) (by rfl) (by assumption) ?_ ?_
                rotate_left 1
                · (intro w hSw; (try dsimp only at hSw); go_simp; all_goals with_reducible rfl)
                simp only [Act.put, List.setIfInBounds_toArray, List.set_cons_zero, List.set_cons_succ]
                refine takeL 7 (v := ?_) rfl (by kernel_rfl) (by kernel_rfl) (by kernel_rfl) (fun _ _ _ h => h) (by rfl) (by assumption) ?_ ?_
                rotate_left 1
                · (intro w hSw; (try dsimp only at hSw); go_simp; all_goals with_reducible rfl)
                simp only [Act.put, List.setIfInBounds_toArray, List.set_cons_zero, List.set_cons_succ]
                refine takeL 8 (v := ?_) rfl (by kernel_rfl) (by kernel_rfl) (by kernel_rfl) (fun _ _ _ h => h) (by rfl) (by assumption) ?_ ?_
                rotate_left 1
                · (intro w hSw; (try dsimp only at hSw); go_simp; all_goals with_reducible rfl)
                simp only [Act.put, List.setIfInBounds_toArray, List.set_cons_zero, List.set_cons_succ]
                refine takeL 9 (v := ?_) rfl (by kernel_rfl) (by kernel_rfl) (by kernel_rfl) (fun _ _ _ h => h) (by rfl) (by assumption) ?_ ?_
                rotate_left 1
                · (intro w hSw; (try dsimp only at hSw); go_simp; all_goals with_reducible rfl)
                simp only [Act.put, List.setIfInBounds_toArray, List.set_cons_zero, List.set_cons_succ]
                refine takeL 10 (v := ?_) rfl (by kernel_rfl) (by kernel_rfl) (by kernel_rfl) (fun _ _ _ h => h) (by rfl) (by assumption) ?_ ?_
                rotate_left 1
                · (intro w hSw; (try dsimp only at hSw); go_simp; all_goals with_reducible rfl)
                simp only [Act.put, List.setIfInBounds_toArray, List.set_cons_zero, List.set_cons_succ]
                refine oneL 0 rfl (by kernel_rfl) (fun K hK => ?_)
                go_simp
                refine hK.out _ _ (KK.out _ BD1.out) (fun hHeld2 => ?_)
                clear hK K hHeld
                have hHeld := hHeld2
                clear hHeld2
                (try simp only [Act.put, List.setIfInBounds_toArray, List.set_cons_zero, List.set_cons_succ])
                refine oneL 5 rfl (by kernel_rfl) (fun K hK => ?_)
                refine step_append_vl _ (by rfl) (.tmp 56) (.tmp 60) (by rfl) wo.heap.size i0 I0.out Y0.out Y1.out Y2.out _ 0 [] (by simp [Act.eval]) OE.out (s.vols.take k) k LT.out _ (by simp [Act.eval]) (SLT.out _ BD1.out) (by unfold maxLen; omega) (by omega) HS1.out ?_
                intro v1 w1 o1 g1
                rw [List.nil_append, Nat.zero_add] at o1
                have B1 : Hid (Below wo.heap.size wo w1) := BD1.out.grown g1 HS1.out (fun q hq => (OE.out.lt q hq).1)
                have O1 := hide o1
                have HS2 := hide B1.out.size
                clear o1 g1
                refine hK.out _ _ (KK.out _ B1.out) (fun hHeld2 => ?_)
                clear hK K hHeld
                have hHeld := hHeld2
                clear hHeld2
                (try simp only [Act.put, List.setIfInBounds_toArray, List.set_cons_zero, List.set_cons_succ])
                refine oneL 11 rfl (by kernel_rfl) (fun K hK => ?_)
                refine step_append_vl _ (by rfl) (.tmp 61) (.tmp 66) (by rfl) wo.heap.size i0 I0.out Y0.out Y1.out Y2.out _ k (vlcells (s.vols.take k)) (by simp [Act.eval]) O1.out (s.vols.drop (k + 1)) (vl - (k + 1)) LD.out _ (by simp [Act.eval]) (SLD.out _ B1.out) (by unfold maxLen; omega) (by omega) HS2.out ?_
                intro v2 w2 o2 g2
                rw [← vlcells_app] at o2
                obtain ⟨ln, hln⟩ : ∃ ln, k + (vl - (k + 1)) = ln := ⟨_, rfl⟩
                rw [hln] at o2
                have HLN := hide hln
                clear hln
                have B2 : Hid (Below wo.heap.size wo w2) := B1.out.grown g2 HS2.out (fun q hq => (O1.out.lt q hq).1)
                obtain ⟨la, lc, hv2, -⟩ := (Sli.of o2).form
                subst hv2
                have O2 := hide o2
                clear o2 g2
                refine hK.out _ _ (KK.out _ B2.out) (fun hHeld2 => ?_)
                clear hK K hHeld
                have hHeld := hHeld2
                clear hHeld2
                (try simp only [Act.put, List.setIfInBounds_toArray, List.set_cons_zero, List.set_cons_succ])
                refine takeL 12 (v := ?_) rfl (by kernel_rfl) (by kernel_rfl) (by kernel_rfl) (fun _ _ _ h => h) (by rfl) (by assumption) ?_ ?_
                rotate_left 1
                · (intro w hSw; (try dsimp only at hSw); go_simp; all_goals with_reducible rfl)
                simp only [Act.put, List.setIfInBounds_toArray, List.set_cons_zero, List.set_cons_succ]
                refine doneL (by kernel_rfl) (last_go ?_)
                clear hHeld
                have ZL : Hid (zb < wo.heap.size) := by have := ZO.out; show _ < _; omega
                have R7 : Hid (w2.heap[zb]? = some (.cells #[.slice (some ⟨g, 0, none⟩) vl uc, .slice ub um ud, .int .i64 nx] 36 (0, 0))) := (B2.out.block zb ZL.out).trans RO.out
                have p0 := cell_of_row _ _ 0 _ _ _ R7.out
                have pf := frozen_of_row _ _ 0 _ _ R7.out
                have R8 : Hid ((w2.setCell ⟨zb, 0, none⟩ (.slice la (ln) lc)).heap[zb]? = some (.cells #[.slice la (ln) lc, .slice ub um ud, .int .i64 nx] 36 (0, 0))) := heap_setCell_same _ _ 0 _ _ _ R7.out
                have NL : Hid ((s.vols.take k ++ s.vols.drop (k + 1)).length = ln) := by show _ = _; rw [List.length_append, LT.out, LD.out]; exact HLN.out
                have BV : Hid (Below wd.heap.size wd (w2.setCell ⟨zb, 0, none⟩ (.slice la (ln) lc))) := (BO.out.trans (B2.out.mono BO.out.size)).setCell (p := ⟨zb, 0, none⟩) (by rw [HZB.out]; exact Nat.le_refl _) _
                have EV := hide (EX.out.on BV.out)
                have SIT : Hid (StIn (w2.setCell ⟨zb, 0, none⟩ (.slice la (ln) lc)) (.agg #[.slice la (ln) lc, .slice ub um ud, .int .i64 nx]) ⟨s.vols.take k ++ s.vols.drop (k + 1), s.kns, s.next⟩) := by
                  have hS := Sli.of O2.out
                  rw [← NL.out] at hS
                  have a1 := ZL.out
                  have a2 := B2.out.size
                  have a3 := ZO.out
                  have a4 := HK4.out
                  have a6 := HZB.out
                  have b1 : (w2.setCell ⟨zb, 0, none⟩ (.slice la (ln) lc)).heap.size = w2.heap.size := by simp [World.setCell]
                  rw [← HNX.out]
                  refine StH.rd (lo := 0) (zb := zb) (s := ⟨s.vols.take k ++ s.vols.drop (k + 1), s.kns, s.next⟩) ⟨_, _, wo.heap.size, w2.heap.size, lo2, hi2, rfl, ?_, ?_, ⟨Nat.zero_le _, .inr a1⟩, ⟨Nat.zero_le _, .inl (by omega)⟩, by omega, by omega, .inr (by omega)⟩ (drop_fit HFT.out k)
                  · rw [NL.out] at hS ⊢
                    exact Sli.loc _ _ _ _ _ _ w2 _ (fun g g1 g2 => Below.heap_setCell _ _ _ _ (show g ≠ zb by omega)) hS
                  · exact Kns.loc _ _ _ _ wd _ (fun g g1 g2 => (Below.heap_setCell _ _ _ _ (show g ≠ zb by omega)).trans ((B2.out.block g (by omega)).trans (BO.out.block g (by omega)))) HKN.out
                have HE : Hid (enterS s ⟨3, vol, arg, chunk⟩ = (sweptS ⟨s.vols.take k ++ s.vols.drop (k + 1), s.kns, s.next⟩, true)) := by
                  show _ = _
                  rw [enterS, if_pos HEN.out, if_neg (show ¬ (3 : Int) = 1 by decide), if_neg (show ¬ (3 : Int) = 2 by decide)]
                  simp only
                  rw [HAT.out]
                  simp only
                  rw [if_neg HC.out, if_pos trivial]
                  rfl
                clear O1 O2 OE B1 SLT SLD TT TD KK BD BD1 HS1 HS2 LT LD NL HKN tt td wk
                go_upto_region 17 with fail
                clear p0 pf R7
                generalize w2.setCell ⟨zb, 0, none⟩ (.slice la (ln) lc) = V at R8 EV SIT BV ⊢
                have q0 := cell_of_row _ _ 0 _ _ _ R8.out
                have q1 := cell_of_row _ _ 1 _ _ _ R8.out
                have q2 := cell_of_row _ _ 2 _ _ _ R8.out
                go_wp2_with fail
                refine (sswept _ _ _ SIT.out).mono ?_
                rintro e wn ⟨u, rfl, hu, hcp⟩
                obtain ⟨ea, el, ec, eb, em, ed, rfl, ee, fr, hen⟩ := EV.out.fin HE.out hu hcp
                obtain ⟨f0, f1, f2, f3, f4, f5⟩ := ee.rf
                have FR := hide fr
                have FIN := hide hen
                have en : (sweptS ⟨s.vols.take k ++ s.vols.drop (k + 1), s.kns, s.next⟩).next = nx := HNX.out
                rw [en] at FR FIN ⊢
                clear hu ee fr hen hcp q0 q1 q2 en
                go_wp2
                exact bodyPost_ret (res_st2 (p := 4) (q := 5) rfl _ _ (z + 1 + 1) _ _ _ rfl FR.out) rfl FIN.out
              · have k3b : (kind == 3) = false := by simpa using k3
                have HRC := hide ((rc_spec kind vol arg chunk).1 hR)
                go_upto_region 18 with fail
                clear x0 x1 x2 y0 y1 y2 y3
                generalize wd.alloc (.cells #[.slice (some ⟨g, 0, none⟩) vl uc, .slice ub um ud, .int .i64 nx] 36) = wo at BO RO ZO EO ⊢
                obtain ⟨zb, hzb⟩ : ∃ zb, wd.heap.size = zb := ⟨_, rfl⟩
                rw [hzb] at RO ZO ⊢
                have HZB := hide hzb
                clear hzb hR
                obtain ⟨L, hL⟩ : ∃ L, putL s.kns v.2 arg chunk = L := ⟨_, rfl⟩
                obtain ⟨R, hR2⟩ : ∃ R, putR s.kns v.2 arg chunk = R := ⟨_, rfl⟩
                have HL := hide hL
                have HR := hide hR2
                clear hL hR2
                have CP : Hid (∀ W, Below wo.heap.size wo W → Calls Tryz.prog 38 #[.agg #[.slice ad len cap], .int .i64 v.2, .int .i64 arg, .int .i64 chunk] W fun e w' => ∃ pa pn pc, e = .returned (.tuple #[.agg #[.slice pa pn pc], .int .i64 R]) ∧ Hid (KOut W L (.agg #[.slice pa pn pc]) w') ∧ Hid (Below wo.heap.size wo w') ∧ Hid (Below W.heap.size W w')) := fun W H => by
                  refine (sput ad len cap rs v.2 arg chunk W (by omega) HLL.out (HK.out.below (EO.out.on H).2.1)).mono ?_
                  rintro e w' ⟨u, rfl, hu⟩
                  rw [← HKS.out, HL.out] at hu
                  rw [← HKS.out, HR.out]
                  have hu2 := hu
                  obtain ⟨uv, ss, rfl, hu3, -, hb⟩ := hu
                  obtain ⟨pa, pc, rfl⟩ := hu3.form
                  exact ⟨pa, _, pc, rfl, hu2, H.trans (hb.mono H.size), hb⟩
                obtain ⟨x0, x1, x2⟩ := EO.out.sc
                obtain ⟨y0, y1, y2, y3⟩ := EO.out.rc
                simp only at y0 y1 y2 y3
                have c1 : wo.cell? ⟨vb, vo + k * 2 + 1, none⟩ = some (.int .i64 v.2) := by
                  obtain ⟨b', off', e, -, -, c1⟩ := (HV.out.below EO.out.2.1).at HVK.out
                  injection e with e
                  injection e with e1 e2
                  subst e1 e2
                  exact c1
                have VBL : Hid (vb < wo.heap.size) := World.block_lt_of_cell? wo _ c1
                have KK : Hid (∀ W, Below wo.heap.size wo W → W.cell? ⟨z, 0, none⟩ = some (.slice (some ⟨vb, vo, none⟩) vl vc) ∧ W.cell? ⟨z, 1, none⟩ = some (.slice ad len cap) ∧ W.cell? ⟨vb, vo + k * 2 + 1, none⟩ = some (.int .i64 v.2) ∧ W.cell? ⟨z + 1, 2, none⟩ = some (.int .i64 arg) ∧ W.cell? ⟨z + 1, 3, none⟩ = some (.int .i64 chunk)) := fun W H => by
                  have h1 := (EO.out.on H).sc
                  have h2 := (EO.out.on H).rc
                  exact ⟨h1.1, h1.2.1, (H.cell (show vb < wo.heap.size from VBL.out)).trans c1, h2.2.2.1, h2.2.2.2⟩
                have S1d : Hid (Below wo.heap.size wo wo.drew) := (Below.refl _ _).drew
                have S1e : Hid (Below wo.heap.size wo (wo.alloc (.cells #[.slice none 0 0] 34)).drew) := ((Below.refl _ _).alloc (Nat.le_refl _) _).drew
                go_cut [9, 10] (fun s9 s10 V => s10 = .int .i64 R ∧ ∃ (c : Nat) (pa : Option Addr) (pn pc : Nat), s9 = .pointer (some ⟨c, 0, none⟩) ∧ Hid (PuV wo V c (.slice pa pn pc) L))
                case first =>
                  go_region_held3 (fun w' => w'.cell? ⟨z, 0, none⟩ = some (.slice (some ⟨vb, vo, none⟩) vl vc) ∧ w'.cell? ⟨z, 1, none⟩ = some (.slice ad len cap) ∧ w'.cell? ⟨vb, vo + k * 2 + 1, none⟩ = some (.int .i64 v.2) ∧ w'.cell? ⟨z + 1, 2, none⟩ = some (.int .i64 arg) ∧ w'.cell? ⟨z + 1, 3, none⟩ = some (.int .i64 chunk)) (first | exact KK.out _ S1d.out | exact KK.out _ S1e.out | exact KK.out _ S3.out | exact KK.out _ (S3.out.alloc S3.out.size _) | exact KK.out _ (S3.out.setCell (Nat.le_refl _) _)) (first
                    | (go_at_call 38; (with_reducible refine Calls.mono (CP.out _ (by first | exact S1d.out | exact S1e.out)) ?_); rintro en x3 ⟨pa, pn, pc, rfl, U3, S3, N3⟩; (try (have nc : Hid (x3.heap[wo.heap.size]? = some (.cells #[.slice none 0 0] 34 (0, 0))) := (N3.out.block _ (by simp)).trans (show (wo.alloc (.cells #[.slice none 0 0] 34)).drew.heap[wo.heap.size]? = _ from heap_alloc_new wo _); have kc := cell_of_row _ _ 0 _ _ _ nc.out; have kf := frozen_of_row _ _ 0 _ _ nc.out))))
                  all_goals
                    go_wp2_with fail
                    go_meet
                    case rel => first
                      | exact ⟨rfl, _, pa, pn, pc, rfl, PuV.behind U3.out S3.out S1d.out.size⟩
                      | exact ⟨rfl, _, pa, pn, pc, rfl, PuV.ahead U3.out S3.out ⟨Nat.le_refl _, by simp⟩ nc.out⟩
                case rest =>
                  obtain ⟨hs10, c, pa, pn, pc, hs9, PV⟩ := hcut
                  subst hs9 hs10
                  obtain ⟨V, hV⟩ : ∃ V, V = wc := ⟨_, rfl⟩
                  subst hV
                  clear CP S1d S1e KK x0 x1 x2 y0 y1 y2 y3 c1
                  have ZL : Hid (zb < wo.heap.size) := by have := ZO.out; show _ < _; omega
                  have EU := hide (EO.out.on PV.out.2.1)
                  have R6 : Hid (V.heap[zb]? = some (.cells #[.slice (some ⟨g, 0, none⟩) vl uc, .slice ub um ud, .int .i64 nx] 36 (0, 0))) := (PV.out.2.1.block zb ZL.out).trans RO.out
                  have c0 := cell_of_row _ _ 0 _ _ _ PV.out.1
                  have p0 := cell_of_row _ _ 0 _ _ _ R6.out
                  have p1 := cell_of_row _ _ 1 _ _ _ R6.out
                  have p2 := cell_of_row _ _ 2 _ _ _ R6.out
                  have pf := frozen_of_row _ _ 1 _ _ R6.out
                  have pf2 := frozen_of_row _ _ 2 _ _ R6.out
                  obtain ⟨y0, y1, y2, y3⟩ := EU.out.rc
                  simp only at y0 y1 y2 y3
                  have HF : Hid (Flt 69 g (vlcells s.vols) V) := HFL.out.below (BO.out.trans (PV.out.2.1.mono BO.out.size))
                  have gc : V.cell? ⟨g, k * 2 + 1, none⟩ = some (.int .i64 v.2) := HF.out.cell (vlcells_at _ k v HVK.out 1 _ rfl)
                  have gf : V.frozen? ⟨g, k * 2 + 1, none⟩ = false := HF.out.frozen _
                  have k0 : (0 : Int) ≤ k := by omega
                  have kl : (k : Int) < vl := by omega
                  have DN : Hid (g ≠ zb ∧ z + 1 ≠ zb ∧ z + 1 ≠ g ∧ zb ≠ g) := by
                    have h1 := HGL.out
                    have h2 := HGZ.out
                    have h3 := EX.out.lt
                    have h4 := HZB.out
                    have h5 := HCD.out
                    have h6 := HEL.out
                    refine ⟨?_, ?_, ?_, ?_⟩ <;> omega
                  have R7 : Hid ((V.setCell ⟨zb, 1, none⟩ (.slice pa pn pc)).heap[zb]? = some (.cells #[.slice (some ⟨g, 0, none⟩) vl uc, .slice pa pn pc, .int .i64 nx] 36 (0, 0))) := row_set R6.out 1 _
                  have F1 : Hid (Flt 69 g (vlcells s.vols) (V.setCell ⟨zb, 1, none⟩ (.slice pa pn pc))) := Flt.loc _ _ _ V _ (fun q q1 q2 => Below.heap_setCell _ _ _ _ (show q ≠ zb by have := DN.out.1; omega)) HF.out
                  go_upto_region 20 with fail
                  obtain ⟨V1, hV1⟩ : ∃ V1, V.setCell ⟨zb, 1, none⟩ (.slice pa pn pc) = V1 := ⟨_, rfl⟩
                  rw [hV1] at R7 F1 ⊢
                  have HV1 := hide hV1
                  clear hV1 gc gf p0 p1 p2 pf pf2 c0
                  have p0 := cell_of_row _ _ 0 _ _ _ R7.out
                  have gc : V1.cell? ⟨g, k * 2 + 1, none⟩ = some (.int .i64 v.2) := F1.out.cell (vlcells_at _ k v HVK.out 1 _ rfl)
                  have gf : V1.frozen? ⟨g, k * 2 + 1, none⟩ = false := F1.out.frozen _
                  clear y0 y1 y2 y3
                  go_upto_region 21 with fail
                  rw [← HV1.out]
                  have Q7 : Hid (((V.setCell ⟨zb, 1, none⟩ (.slice pa pn pc)).setCell ⟨g, k * 2 + 1, none⟩ (.int .i64 R)).heap[zb]? = some (.cells #[.slice (some ⟨g, 0, none⟩) vl uc, .slice pa pn pc, .int .i64 nx] 36 (0, 0))) := row_set_ne (row_set R6.out 1 _) DN.out.2.2.2 _ _
                  have FL2 : Hid (Flt 69 g (vlcells (s.vols.set k (v.1, R))) ((V.setCell ⟨zb, 1, none⟩ (.slice pa pn pc)).setCell ⟨g, k * 2 + 1, none⟩ (.int .i64 R))) := by
                    have h1 : Flt 69 g (vlcells s.vols) (V.setCell ⟨zb, 1, none⟩ (.slice pa pn pc)) := Flt.loc _ _ _ V _ (fun q q1 q2 => Below.heap_setCell _ _ _ _ (show q ≠ zb by have := DN.out.1; omega)) HF.out
                    have h2 := h1.set (k * 2 + 1) (.int .i64 R)
                    rw [vlcells_set HVK.out] at h2
                    exact h2
                  have BV2 : Hid (Below wc.heap.size wc ((V.setCell ⟨zb, 1, none⟩ (.slice pa pn pc)).setCell ⟨g, k * 2 + 1, none⟩ (.int .i64 R))) := by
                    have a1 := HGZ.out
                    have a2 := HCD.out
                    have a3 := HZB.out
                    have b1 := HBD.out.trans ((BO.out.trans (PV.out.2.1.mono BO.out.size)).mono HCD.out)
                    exact (b1.setCell (p := ⟨zb, 1, none⟩) (show wc.heap.size ≤ zb by omega) _).setCell (p := ⟨g, k * 2 + 1, none⟩) (show wc.heap.size ≤ g by omega) _
                  have KN2 : Hid (∃ lo hi, Kns lo hi (.slice pa pn pc) L ((V.setCell ⟨zb, 1, none⟩ (.slice pa pn pc)).setCell ⟨g, k * 2 + 1, none⟩ (.int .i64 R)) ∧ zb < lo ∧ hi ≤ ((V.setCell ⟨zb, 1, none⟩ (.slice pa pn pc)).setCell ⟨g, k * 2 + 1, none⟩ (.int .i64 R)).heap.size) := by
                    obtain ⟨-, -, lo, hi, h1, h2, h3, -⟩ := PV.out
                    have hz : ((V.setCell ⟨zb, 1, none⟩ (.slice pa pn pc)).setCell ⟨g, k * 2 + 1, none⟩ (.int .i64 R)).heap.size = V.heap.size := by simp [World.setCell]
                    have a1 := ZL.out
                    have a2 := HGL.out
                    have a3 := HZB.out
                    exact ⟨lo, hi, Kns.loc _ _ _ _ V _ (fun q q1 q2 => (Below.heap_setCell _ _ _ _ (show q ≠ g by omega)).trans (Below.heap_setCell _ _ _ _ (show q ≠ zb by omega))) h1, by omega, by omega⟩
                  generalize (V.setCell ⟨zb, 1, none⟩ (.slice pa pn pc)).setCell ⟨g, k * 2 + 1, none⟩ (.int .i64 R) = V2 at Q7 FL2 BV2 KN2 ⊢
                  clear p0 gc gf EU R6 HF PV R7 F1 HV1
                  have GL : Hid (g < zb ∧ zb < V2.heap.size) := by
                    have a2 := HGL.out
                    have a3 := HZB.out
                    exact ⟨by omega, (Array.getElem?_eq_some_iff.1 Q7.out).1⟩
                  have HLE : Hid ((0 ≤ arg ∧ arg ≤ 15) ∧ 0 ≤ chunk ∧ chunk < 1000000000) := by
                    have h1 := HRC.out
                    have h2 := HC.out
                    show _ ∧ _
                    omega
                  have SIQ : Hid (∀ (n : Int) (V3 : World), (∀ q, q ≠ zb → V3.heap[q]? = V2.heap[q]?) → V3.heap.size = V2.heap.size → StIn V3 (.agg #[.slice (some ⟨g, 0, none⟩) vl uc, .slice pa pn pc, .int .i64 n]) ⟨s.vols.set k (v.1, R), L, n⟩) := fun n V3 hq hz => by
                    obtain ⟨lo, hi, h1, h2, h3⟩ := KN2.out
                    have a1 := GL.out
                    have hlen : (s.vols.set k (v.1, R)).length = vl := by rw [List.length_set]; exact HVL.out
                    refine StH.rd (lo := 0) (zb := zb) (s := ⟨s.vols.set k (v.1, R), L, n⟩) ⟨_, _, g, g + 1, lo, hi, rfl, ?_, ?_, ⟨Nat.zero_le _, .inl (by omega)⟩, ⟨Nat.zero_le _, .inr h2⟩, by omega, by omega, .inl (by omega)⟩ ?_
                    · refine .inr ⟨g, uc, by rw [hlen], Nat.le_refl _, by omega, ?_⟩
                      exact Flt.loc _ _ _ V2 _ (fun q q1 q2 => hq q (by omega)) FL2.out
                    · exact Kns.loc _ _ _ _ V2 _ (fun q q1 q2 => hq q (by omega)) h1
                    · have := put_fit HRT.out HVK.out HLE.out.1 HLE.out.2.1 (v.1, R) n
                      rw [HL.out] at this
                      exact this
                  have HEP : Hid (enterS s ⟨kind, vol, arg, chunk⟩ = (sweptS ⟨s.vols.set k (v.1, R), L, if nx ≤ chunk then chunk + 1 else nx⟩, true)) := by
                    show _ = _
                    rw [HEQ.out, HAT.out]
                    simp only
                    rw [if_neg HC.out, if_neg k3, HVK.out, Option.getD_some, putE]
                    simp only
                    rw [HL.out, HR.out, HNX.out]
                  have q0 := cell_of_row _ _ 0 _ _ _ Q7.out
                  have q1 := cell_of_row _ _ 1 _ _ _ Q7.out
                  have q2 := cell_of_row _ _ 2 _ _ _ Q7.out
                  have qf := frozen_of_row _ _ 2 _ _ Q7.out
                  have EV2 := hide (EC0.out.on BV2.out)
                  obtain ⟨y0, y1, y2, y3⟩ := EV2.out.rc
                  simp only at y0 y1 y2 y3
                  have hle := HLE.out
                  by_cases hcn : nx ≤ chunk
                  · have wc1 : IntKind.i64.wrap (chunk + 1) = chunk + 1 := by rw [IntKind.wrap_i64]; omega
                    have hge : chunk ≥ nx := hcn
                    have R8 : Hid ((V2.setCell ⟨zb, 2, none⟩ (.int .i64 (chunk + 1))).heap[zb]? = some (.cells #[.slice (some ⟨g, 0, none⟩) vl uc, .slice pa pn pc, .int .i64 (chunk + 1)] 36 (0, 0))) := heap_setCell_same _ _ 2 _ _ _ Q7.out
                    have SIT := hide (SIQ.out (chunk + 1) (V2.setCell ⟨zb, 2, none⟩ (.int .i64 (chunk + 1))) (fun q hq => Below.heap_setCell _ _ _ _ hq) (by simp [World.setCell]))
                    have EV : Hid (EnvS w (V2.setCell ⟨zb, 2, none⟩ (.int .i64 (chunk + 1))) z (.slice (some ⟨vb, vo, none⟩) vl vc) (.slice ad len cap) (.int .i64 nx) ⟨kind, vol, arg, chunk⟩) := EC0.out.on (BV2.out.setCell (p := ⟨zb, 2, none⟩) (by have := HZB.out; have := HCD.out; show wc.heap.size ≤ zb; omega) _)
                    have HE : Hid (enterS s ⟨kind, vol, arg, chunk⟩ = (sweptS ⟨s.vols.set k (v.1, R), L, chunk + 1⟩, true)) := by
                      have := HEP.out
                      rw [if_pos hcn] at this
                      exact this
                    clear HEP SIQ KN2 FL2 BV2 EV2 HLE
                    go_upto_region 23 with fail
                    clear q0 q1 q2 qf y0 y1 y2 y3
                    generalize V2.setCell ⟨zb, 2, none⟩ (.int .i64 (chunk + 1)) = V3 at R8 SIT EV ⊢
                    have q0 := cell_of_row _ _ 0 _ _ _ R8.out
                    have q1 := cell_of_row _ _ 1 _ _ _ R8.out
                    have q2 := cell_of_row _ _ 2 _ _ _ R8.out
                    go_wp2_with fail
                    refine (sswept _ _ _ SIT.out).mono ?_
                    rintro e wn ⟨u, rfl, hu, hcp⟩
                    obtain ⟨ea, el, ec, eb, em, ed, rfl, ee, fr, hen⟩ := EV.out.fin HE.out hu hcp
                    obtain ⟨f0, f1, f2, f3, f4, f5⟩ := ee.rf
                    have FR := hide fr
                    have FIN := hide hen
                    have en : (sweptS ⟨s.vols.set k (v.1, R), L, chunk + 1⟩).next = chunk + 1 := rfl
                    rw [en] at FR FIN ⊢
                    clear hu ee fr hen hcp q0 q1 q2 en
                    go_wp2
                    exact bodyPost_ret (res_st2 (p := 4) (q := 5) rfl _ _ (z + 1 + 1) _ _ _ rfl FR.out) rfl FIN.out
                  · have hge : ¬ (chunk ≥ nx) := hcn
                    have R8 := Q7
                    have SIT := hide (SIQ.out nx V2 (fun q hq => rfl) rfl)
                    have EV := EV2
                    have HE : Hid (enterS s ⟨kind, vol, arg, chunk⟩ = (sweptS ⟨s.vols.set k (v.1, R), L, nx⟩, true)) := by
                      have := HEP.out
                      rw [if_neg hcn] at this
                      exact this
                    clear HEP SIQ KN2 FL2 BV2 HLE EV2
                    go_upto_region 23 with fail
                    clear q0 q1 q2 qf y0 y1 y2 y3
                    have q0 := cell_of_row _ _ 0 _ _ _ R8.out
                    have q1 := cell_of_row _ _ 1 _ _ _ R8.out
                    have q2 := cell_of_row _ _ 2 _ _ _ R8.out
                    go_wp2_with fail
                    refine (sswept _ _ _ SIT.out).mono ?_
                    rintro e wn ⟨u, rfl, hu, hcp⟩
                    obtain ⟨ea, el, ec, eb, em, ed, rfl, ee, fr, hen⟩ := EV.out.fin HE.out hu hcp
                    obtain ⟨f0, f1, f2, f3, f4, f5⟩ := ee.rf
                    have FR := hide fr
                    have FIN := hide hen
                    have en : (sweptS ⟨s.vols.set k (v.1, R), L, nx⟩).next = nx := rfl
                    rw [en] at FR FIN ⊢
                    clear hu ee fr hen hcp q0 q1 q2 en
                    go_wp2
                    exact bodyPost_ret (res_st2 (p := 4) (q := 5) rfl _ _ (z + 1 + 1) _ _ _ rfl FR.out) rfl FIN.out
    · rw [dcN hR]
      have HN : Hid (enterS s ⟨kind, vol, arg, chunk⟩ = (s, false)) := by show _ = _; rw [enterS, if_neg (fun q => hR q.2)]
      clear hR
      obtain ⟨x0, x1, x2⟩ := EX.out.sc
      go_wp2_with fail
      refine (scopy_in (SI.out _ EX.out.2.1)).mono ?_
      rintro e wn ⟨u, rfl, hu, hcp⟩
      obtain ⟨ea, el, ec, eb, em, ed, rfl, ee, fr, hen⟩ := EX.out.fin HN.out hu hcp
      obtain ⟨f0, f1, f2, f3, f4, f5⟩ := ee.rf
      have FR := hide fr
      have FIN := hide hen
      rw [HNX.out] at FR FIN ⊢
      clear hu ee fr hen hcp x0 x1 x2
      go_wp2
      exact bodyPost_ret (res_st2 (p := 4) (q := 5) rfl _ _ (z + 1 + 1) _ _ _ rfl FR.out) rfl FIN.out
  · have hbf : stoB s = false := by simpa using hb
    rw [hbf]
    have HN : Hid (enterS s ⟨kind, vol, arg, chunk⟩ = (s, false)) := by show _ = _; rw [enterS, if_neg (fun q => hb q.1)]
    clear hb hbf
    obtain ⟨x0, x1, x2⟩ := EX.out.sc
    go_wp2_with fail
    refine (scopy_in (SI.out _ EX.out.2.1)).mono ?_
    rintro e wn ⟨u, rfl, hu, hcp⟩
    obtain ⟨ea, el, ec, eb, em, ed, rfl, ee, fr, hen⟩ := EX.out.fin HN.out hu hcp
    obtain ⟨f0, f1, f2, f3, f4, f5⟩ := ee.rf
    have FR := hide fr
    have FIN := hide hen
    rw [HNX.out] at FR FIN ⊢
    clear hu ee fr hen hcp x0 x1 x2
    go_wp2
    exact bodyPost_ret (res_st2 (p := 4) (q := 5) rfl _ _ (z + 1 + 1) _ _ _ rfl FR.out) rfl FIN.out
end Go.Proofs.YtcnaahajaaifjacGreat
