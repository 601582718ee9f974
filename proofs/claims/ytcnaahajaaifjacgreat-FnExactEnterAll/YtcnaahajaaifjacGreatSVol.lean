/-
  spec.l12Vol.
-/
import Derived.Test.YtcnaahajaaifjacGreatPk20
import Derived.BigQuiet
namespace Go.Proofs.YtcnaahajaaifjacGreat
open Go.RowKit
open Words

set_option maxHeartbeats 2000000 in
set_option maxRecDepth 100000 in
theorem svol (v : Value) (s : Sto) (r : Rc) (w : World) (hin : StIn w v s) : Calls Tryz.prog 35 #[v, .agg #[.int .i64 r.kind, .int .i64 r.vol, .int .i64 r.arg, .int .i64 r.chunk]] w (EnOut2 w (volE s r)) := by
  have HIN := hide hin
  obtain ⟨va, vl, vc, ad, len, cap, rs, rfl, hks, hvl, hl, hll, hvc, h, hk⟩ := hin
  have HV := hide h
  have HVL := hide h.1
  obtain ⟨nx, hnx⟩ : ∃ nx, s.next = nx := ⟨_, rfl⟩
  have HNX := hide hnx
  obtain ⟨i0, hi, hz0, hz1, hz2⟩ := info_parts infoVl
  have I0 := hide hi
  have Y0 := hide hz0
  have Y1 := hide hz1
  have Y2 := hide hz2
  unfold SBox at HIN ⊢
  rw [hnx] at HIN ⊢
  clear hks hll hvc h hk hnx hi hz0 hz1 hz2
  obtain ⟨kind, vol, arg, chunk⟩ := r
  simp only
  have T0 := hide (Tk.three w #[.slice va vl vc, .slice ad len cap, .int .i64 nx] #[.int .i64 kind, .int .i64 vol, .int .i64 arg, .int .i64 chunk] #[.slice none 0 0, .slice none 0 0, .int .i64 0] 36 52 36)
  go_enter Tryz.func35, Tryz.ntmps35
  have E0 : Hid (EnvS w (((w.alloc (.cells #[.slice va vl vc, .slice ad len cap, .int .i64 nx] 36)).alloc (.cells #[.int .i64 kind, .int .i64 vol, .int .i64 arg, .int .i64 chunk] 52)).alloc (.cells #[.slice none 0 0, .slice none 0 0, .int .i64 0] 36)) w.heap.size (.slice va vl vc) (.slice ad len cap) (.int .i64 nx) ⟨kind, vol, arg, chunk⟩) := ⟨rfl, T0.out.1, T0.out.get 2 rfl, T0.out.get 1 rfl, T0.out.get 0 rfl⟩
  have SI : Hid (∀ W, Below w.heap.size w W → StIn W (.agg #[.slice va vl vc, .slice ad len cap, .int .i64 nx]) s) := fun W H => HIN.out.below H
  clear T0 HIN
  by_cases ha : (0 : Int) < arg
  · cases hat : atV s.vols arg with
    | none =>
      have HN : Hid (volE s ⟨kind, vol, arg, chunk⟩ = (s, false)) := by
        show _ = _
        rw [volE]; simp only; rw [if_pos ha, rootV, hat]; rfl
      have hga : arg > 0 := by omega
      go_wp2_with fail
      generalize ((w.alloc (.cells #[.slice va vl vc, .slice ad len cap, .int .i64 nx] 36)).alloc (.cells #[.int .i64 kind, .int .i64 vol, .int .i64 arg, .int .i64 chunk] 52)).alloc (.cells #[.slice none 0 0, .slice none 0 0, .int .i64 0] 36) = w0 at E0 ⊢
      obtain ⟨z, hz⟩ : ∃ z, w.heap.size = z := ⟨_, rfl⟩
      have HZW := hide hz
      rw [hz] at E0 ⊢
      have EW := hide E0.out
      clear hz E0
      have CA1 := hide (satV va vl vc ad len cap nx s.vols arg _ (by omega) (HV.out.below EW.out.2.1))
      unfold SBox at CA1
      rw [hat] at CA1
      refine CA1.out.mono ?_
      rintro e wa ⟨rfl, ba⟩
      have EX := hide (EW.out.on ba)
      clear ba CA1
      simp only [atI]
      obtain ⟨x0, x1, x2⟩ := EX.out.sc
      go_wp2_with fail
      refine (scopy_in (SI.out _ EX.out.2.1)).mono ?_
      rintro e wc ⟨u, rfl, hu, hcp⟩
      obtain ⟨ea, el, ec, eb, em, ed, rfl, ee, fr, hen⟩ := EX.out.fin HN.out hu hcp
      obtain ⟨f0, f1, f2, f3, f4, f5⟩ := ee.rf
      have FR := hide fr
      have FIN := hide hen
      rw [HNX.out] at FR FIN ⊢
      clear hu ee fr hen hcp x0 x1 x2
      go_wp2
      exact bodyPost_ret (res_st2 (p := 4) (q := 5) rfl _ _ (z + 1 + 1) _ _ _ rfl FR.out) rfl FIN.out
    | some j =>
      obtain ⟨vj, hvj, hid⟩ := atV_some hat
      obtain ⟨q, hq⟩ : ∃ q : Int, vj.2 = q := ⟨_, rfl⟩
      have HRT : Hid (rootV s.vols arg = some q) := by
        show _ = _
        rw [rootV, hat, ← hq]
        simp [hvj]
      have HVE : Hid (((atV s.vols vol).isSome || decide (s.vols.length = 3)) = true → volE s ⟨kind, vol, arg, chunk⟩ = (s, false)) := fun hh => by
        rw [volE]; simp only; rw [if_pos ha, HRT.out]; simp only; rw [if_pos hh]
      have HVY : Hid (((atV s.vols vol).isSome || decide (s.vols.length = 3)) = false → volE s ⟨kind, vol, arg, chunk⟩ = (⟨insV s.vols vol q, s.kns, s.next⟩, true)) := fun hh => by
        rw [volE]; simp only; rw [if_pos ha, HRT.out]; simp only; rw [if_neg (by rw [hh]; decide)]
      have hga : arg > 0 := by omega
      go_wp2_with fail
      generalize ((w.alloc (.cells #[.slice va vl vc, .slice ad len cap, .int .i64 nx] 36)).alloc (.cells #[.int .i64 kind, .int .i64 vol, .int .i64 arg, .int .i64 chunk] 52)).alloc (.cells #[.slice none 0 0, .slice none 0 0, .int .i64 0] 36) = w0 at E0 ⊢
      obtain ⟨z, hz⟩ : ∃ z, w.heap.size = z := ⟨_, rfl⟩
      have HZW := hide hz
      rw [hz] at E0 ⊢
      have EW := hide E0.out
      clear hz E0
      have CA1 := hide (satV va vl vc ad len cap nx s.vols arg _ (by omega) (HV.out.below EW.out.2.1))
      unfold SBox at CA1
      rw [hat] at CA1
      refine CA1.out.mono ?_
      rintro e wa0 ⟨rfl, ba⟩
      have EV := hide (EW.out.on ba)
      obtain ⟨x0, x1, x2⟩ := EV.out.sc
      obtain ⟨bj, oj, e, -, cj0, cj1⟩ := (HV.out.below EV.out.2.1).at hvj
      subst e
      rw [hq] at cj1
      have hj0 : (0 : Int) ≤ j := by omega
      have hj1 : ¬ ((j : Int) < 0) := by omega
      have hj2 : (j : Int) < vl := by have := (List.getElem?_eq_some_iff.1 hvj).1; have := HVL.out; omega
      simp only [atI]
      obtain ⟨y0, y1, y2, y3⟩ := EV.out.rc
      simp only at y0 y1 y2 y3
      clear EW ba CA1 hvj hid hq hat
      have EW := hide EV.out
      clear EV
      have CA2 := hide (satV (some ⟨bj, oj, none⟩) vl vc ad len cap nx s.vols vol wa0 (by omega) (HV.out.below EW.out.2.1))
      unfold SBox at CA2
      go_wp2_with fail
      refine CA2.out.mono ?_
      rintro e wa ⟨rfl, ba⟩
      have EX := hide (EW.out.on ba)
      clear x0 x1 x2 y0 y1 y2 y3 ba CA2
      by_cases hs2 : ∃ j, atV s.vols vol = some j
      · obtain ⟨j, hj⟩ := hs2
        rw [hj]
        have HN : Hid (volE s ⟨kind, vol, arg, chunk⟩ = (s, false)) := HVE.out (by rw [hj]; rfl)
        have j0 : (0 : Int) ≤ j := by omega
        simp only [atI]
        obtain ⟨x0, x1, x2⟩ := EX.out.sc
        go_wp2_with fail
        refine (scopy_in (SI.out _ EX.out.2.1)).mono ?_
        rintro e wc ⟨u, rfl, hu, hcp⟩
        obtain ⟨ea, el, ec, eb, em, ed, rfl, ee, fr, hen⟩ := EX.out.fin HN.out hu hcp
        obtain ⟨f0, f1, f2, f3, f4, f5⟩ := ee.rf
        have FR := hide fr
        have FIN := hide hen
        rw [HNX.out] at FR FIN ⊢
        clear hu ee fr hen hcp x0 x1 x2
        go_wp2
        exact bodyPost_ret (res_st2 (p := 4) (q := 5) rfl _ _ (z + 1 + 1) _ _ _ rfl FR.out) rfl FIN.out
      · have hnone : atV s.vols vol = none := by
          cases ha : atV s.vols vol with
          | none => rfl
          | some j => exact absurd ⟨j, ha⟩ hs2
        rw [hnone]
        simp only [atI]
        by_cases h3 : (vl : Int) = 3
        · have HN : Hid (volE s ⟨kind, vol, arg, chunk⟩ = (s, false)) := HVE.out (by rw [decide_eq_true (show s.vols.length = 3 by have := HVL.out; omega)]; simp)
          have h3b : ((vl : Int) == 3) = true := by simpa using h3
          obtain ⟨x0, x1, x2⟩ := EX.out.sc
          go_wp2_with fail
          refine (scopy_in (SI.out _ EX.out.2.1)).mono ?_
          rintro e wc ⟨u, rfl, hu, hcp⟩
          obtain ⟨ea, el, ec, eb, em, ed, rfl, ee, fr, hen⟩ := EX.out.fin HN.out hu hcp
          obtain ⟨f0, f1, f2, f3, f4, f5⟩ := ee.rf
          have FR := hide fr
          have FIN := hide hen
          rw [HNX.out] at FR FIN ⊢
          clear hu ee fr hen hcp x0 x1 x2
          go_wp2
          exact bodyPost_ret (res_st2 (p := 4) (q := 5) rfl _ _ (z + 1 + 1) _ _ _ rfl FR.out) rfl FIN.out
        · have h3b : ((vl : Int) == 3) = false := by simpa using h3
          have HY : Hid (volE s ⟨kind, vol, arg, chunk⟩ = (⟨insV s.vols vol q, s.kns, s.next⟩, true)) := HVY.out (by rw [hnone, decide_eq_false (show ¬ s.vols.length = 3 by have := HVL.out; omega)]; rfl)
          obtain ⟨x0, x1, x2⟩ := EX.out.sc
          go_wp2_with fail
          refine (scopy_in (SI.out _ EX.out.2.1)).mono ?_
          rintro e wc ⟨u, rfl, hu, -⟩
          have EC := hide (EX.out.on hu.blw)
          have HCZ : Hid (wa.heap.size ≤ wc.heap.size) := hu.blw.size
          obtain ⟨ua, ul, uc, ub, um, ud, rfl⟩ := hu.form
          obtain ⟨vv, kv, lo1, hi1, lo2, hi2, eu, -, hkn, -, -, hk3, hk4, -, -⟩ := hu
          have eu2 : Value.slice ub um ud = kv := by
            injection eu with eu
            injection eu with eu
            simp only [List.cons.injEq, and_true] at eu
            exact eu.2
          subst eu2
          have HKN := hide hkn
          have HK3 := hide hk3
          have HK4 := hide hk4
          rw [HNX.out]
          clear x0 x1 x2 hkn hk3 hk4
          have BO : Hid (Below wc.heap.size wc (wc.alloc (.cells #[.slice ua ul uc, .slice ub um ud, .int .i64 nx] 36))) := (Below.refl _ _).alloc (Nat.le_refl _) _
          have RO := hide (heap_alloc_new wc (.cells #[.slice ua ul uc, .slice ub um ud, .int .i64 nx] 36))
          have ZO : Hid ((wc.alloc (.cells #[.slice ua ul uc, .slice ub um ud, .int .i64 nx] 36)).heap.size = wc.heap.size + 1) := by show _ = _; simp
          have EO := hide (EC.out.on BO.out)
          go_wp2_with fail
          generalize wc.alloc (.cells #[.slice ua ul uc, .slice ub um ud, .int .i64 nx] 36) = wo at BO RO ZO EO ⊢
          have O0 := hide (empty_vols wo)
          have B00 : Hid (Below wo.heap.size wo (wo.alloc (.cells #[] 69))) := (Below.refl _ _).alloc (Nat.le_refl _) _
          generalize wo.alloc (.cells #[] 69) = wl at O0 B00 ⊢
          obtain ⟨zb, hzb⟩ : ∃ zb, wc.heap.size = zb := ⟨_, rfl⟩
          rw [hzb] at RO ZO ⊢
          have HZB := hide hzb
          clear hzb
          go_loopw [9, 10] (fun lv iv W => ∃ (k : Nat) (l : List (Int × Int)), k ≤ vl ∧ iv = .int .i64 k ∧ l.length ≤ 0 + k ∧ Hid (l = (s.vols.take k).filter (fun v => decide (v.1 < vol))) ∧ Hid (W.ownsRow wo.heap.size 69 2 lv l.length (vlcells l) ∧ Below wo.heap.size wo W)) (fun _ iv _ => vl - (intOf iv).toNat)
          case atStart => exact ⟨0, [], Nat.zero_le _, rfl, Nat.zero_le _, (by simp : [] = (s.vols.take 0).filter _), by rw [← ZO.out]; exact O0.out, B00.out⟩
          case round =>
            obtain ⟨k, l, hk, rfl, hlk, HL, HO⟩ := hrel
            have EK := hide (EO.out.on HO.out.2)
            obtain ⟨x0, -, -⟩ := EK.out.sc
            obtain ⟨-, y1, -, -⟩ := EK.out.rc
            simp only at y1
            by_cases hlt : (k : Int) < vl
            · obtain ⟨v, hv⟩ : ∃ v, s.vols[k]? = some v := ⟨_, List.getElem?_eq_getElem (by have := HVL.out; omega)⟩
              obtain ⟨b, off, e, hb, c0, c1⟩ := (HV.out.below EK.out.2.1).at hv
              first
                | subst e
                | (injection e with e; injection e with e1 e2; subst e1 e2)
              have k0 : (0 : Int) ≤ k := by omega
              have HF := hide (vfilter_take (f := fun v => decide (v.1 < vol)) hv)
              obtain ⟨i1, i2⟩ := v
              simp only at c0 c1 HF
              clear hv
              by_cases ht : i1 < vol
              · have hd : decide (i1 < vol) = true := decide_eq_true ht
                have HL2 : Hid (l ++ [(i1, i2)] = (s.vols.take (k + 1)).filter (fun v => decide (v.1 < vol))) := by
                  show _ = _
                  rw [HF.out, HL.out, if_pos (by simpa using ht)]
                  try rw [List.append_assoc]
                go_wp2
                go_quiet (fail)
                have BQ := hide (below_drewN (Below.refl wr.heap.size wr) nq)
                have BN : Hid (Below wr.heap.size wr ((wr.drewN nq).alloc (.cells #[.int .i64 i1, .int .i64 i2] 69))) := BQ.out.alloc (by have := BQ.out.size; omega) _
                have OW := hide (own_below HO.out.1 BN.out)
                have d0 := (BQ.out.cell (World.block_lt_of_cell? wr _ x0)).trans x0
                have d1 := (BQ.out.cell (World.block_lt_of_cell? wr _ c0)).trans c0
                have d2 := (BQ.out.cell (World.block_lt_of_cell? wr _ c1)).trans c1
                have CN := hide (vl_new (wr.drewN nq) i1 i2)
                have HSZ : Hid (wo.heap.size ≤ ((wr.drewN nq).alloc (.cells #[.int .i64 i1, .int .i64 i2] 69)).heap.size) := by have := HO.out.2.size; have := BN.out.size; show _ ≤ _; omega
                go_wp2_with (at_builtin; refine wpList_append_own _ rfl _ _ 31 rfl wo.heap.size 69 i0 (.agg #[.int .i64 0, .int .i64 0]) 2 16 Tryz.underlying31 I0.out Y0.out Y1.out Y2.out rfl (by decide) _ _ _ rfl OW.out ⟨(wr.drewN nq).heap.size, 0, none⟩ 1 1 [Value.int .i64 i1, Value.int .i64 i2] rfl rfl CN.out (vl_one _ _) ?c1 ?c2 ?c3 ?_)
                case c1 => unfold maxLen; omega
                case c2 => omega
                case c3 => first | exact HSZ.out | (have := HO.out.2.size; omega)
                intro u' z2 ho hg _
                rw [vl_snoc] at ho
                have ON : Hid (z2.ownsRow wo.heap.size 69 2 u' (l ++ [(i1, i2)]).length (vlcells (l ++ [(i1, i2)])) ∧ Below wo.heap.size wo z2) := ⟨by rw [List.length_append]; exact ho, (HO.out.2.trans (BN.out.mono HO.out.2.size)).grown hg HSZ.out (fun q hq => (OW.out.lt q hq).1)⟩
                have hl3 : (l ++ [(i1, i2)]).length ≤ 0 + (k + 1) := by simp; omega
                generalize l ++ [(i1, i2)] = l2 at HL2 ON hl3
                clear ho hg OW BN BQ CN HSZ HO HL
                go_wp2
                go_roundw
                case rel => exact ⟨k + 1, l2, by omega, by go_num, hl3, HL2, ON⟩
                case measure => simp [intOf]; omega
              · have hd : decide (i1 < vol) = false := decide_eq_false ht
                have HL2 : Hid (l = (s.vols.take (k + 1)).filter (fun v => decide (v.1 < vol))) := by
                  show _ = _
                  rw [HF.out, HL.out, if_neg (by simpa using ht), List.append_nil]
                go_wp2
                go_quiet (fail)
                have ON : Hid ((wr.drewN nq).ownsRow wo.heap.size 69 2 u9 l.length (vlcells l) ∧ Below wo.heap.size wo (wr.drewN nq)) := ⟨own_below HO.out.1 (below_drewN (Below.refl wr.heap.size wr) nq), below_drewN HO.out.2 nq⟩
                go_wp2
                go_roundw
                case rel => exact ⟨k + 1, l, by omega, by go_num, by omega, HL2, ON⟩
                case measure => simp [intOf]; omega
            · have HL2 : Hid (l ++ [(vol, q)] = s.vols.filter (fun v => decide (v.1 < vol)) ++ [(vol, q)]) := by
                show _ = _
                rw [HL.out, List.take_of_length_le (by have := HVL.out; omega)]
              have BN : Hid (Below wr.heap.size wr (wr.alloc (.cells #[.int .i64 vol, .int .i64 q] 69))) := (Below.refl _ _).alloc (Nat.le_refl _) _
              have OW := hide (own_below HO.out.1 BN.out)
              have CN := hide (vl_new wr vol q)
              have HSZ : Hid (wo.heap.size ≤ (wr.alloc (.cells #[.int .i64 vol, .int .i64 q] 69)).heap.size) := by have := HO.out.2.size; have := BN.out.size; show _ ≤ _; omega
              go_wp2_with (at_builtin; refine wpList_append_own _ rfl _ _ 31 rfl wo.heap.size 69 i0 (.agg #[.int .i64 0, .int .i64 0]) 2 16 Tryz.underlying31 I0.out Y0.out Y1.out Y2.out rfl (by decide) _ _ _ rfl OW.out ⟨wr.heap.size, 0, none⟩ 1 1 [Value.int .i64 vol, Value.int .i64 q] rfl rfl CN.out (vl_one _ _) ?c1 ?c2 ?c3 ?_)
              case c1 => unfold maxLen; omega
              case c2 => omega
              case c3 => first | exact HSZ.out | (have := HO.out.2.size; omega)
              intro u' z2 ho hg _
              rw [vl_snoc] at ho
              have ON : Hid (z2.ownsRow wo.heap.size 69 2 u' (l ++ [(vol, q)]).length (vlcells (l ++ [(vol, q)])) ∧ Below wo.heap.size wo z2) := ⟨by rw [List.length_append]; exact ho, (HO.out.2.trans (BN.out.mono HO.out.2.size)).grown hg HSZ.out (fun q hq => (OW.out.lt q hq).1)⟩
              have hl3 : (l ++ [(vol, q)]).length ≤ vl + 1 := by simp; omega
              generalize l ++ [(vol, q)] = l1 at HL2 ON hl3
              clear ho hg OW BN CN HSZ HO HL x0 y1 EK
              go_wp2_with fail
              go_loopw [9, 11] (fun lv iv W => ∃ (k : Nat) (l : List (Int × Int)), k ≤ vl ∧ iv = .int .i64 k ∧ l.length ≤ vl + 1 + k ∧ Hid (l = l1 ++ (s.vols.take k).filter (fun v => decide (vol < v.1))) ∧ Hid (W.ownsRow wo.heap.size 69 2 lv l.length (vlcells l) ∧ Below wo.heap.size wo W)) (fun _ iv _ => vl - (intOf iv).toNat)
              case atStart => exact ⟨0, l1, Nat.zero_le _, rfl, by omega, (by simp : l1 = l1 ++ (s.vols.take 0).filter _), ON⟩
              case round =>
                obtain ⟨k, l, hk, rfl, hlk, HL, HO⟩ := hrel
                have EK := hide (EO.out.on HO.out.2)
                obtain ⟨x0, -, -⟩ := EK.out.sc
                obtain ⟨-, y1, -, -⟩ := EK.out.rc
                simp only at y1
                by_cases hlt : (k : Int) < vl
                · obtain ⟨v, hv⟩ : ∃ v, s.vols[k]? = some v := ⟨_, List.getElem?_eq_getElem (by have := HVL.out; omega)⟩
                  obtain ⟨b, off, e, hb, c0, c1⟩ := (HV.out.below EK.out.2.1).at hv
                  first
                    | subst e
                    | (injection e with e; injection e with e1 e2; subst e1 e2)
                  have k0 : (0 : Int) ≤ k := by omega
                  have HF := hide (vfilter_take (f := fun v => decide (vol < v.1)) hv)
                  obtain ⟨i1, i2⟩ := v
                  simp only at c0 c1 HF
                  clear hv
                  by_cases ht : vol < i1
                  · have hd : decide (vol < i1) = true := decide_eq_true ht
                    have HL2 : Hid (l ++ [(i1, i2)] = l1 ++ (s.vols.take (k + 1)).filter (fun v => decide (vol < v.1))) := by
                      show _ = _
                      rw [HF.out, HL.out, if_pos (by simpa using ht)]
                      try rw [List.append_assoc]
                    go_wp2
                    go_quiet (fail)
                    have BQ := hide (below_drewN (Below.refl wr.heap.size wr) nq)
                    have BN : Hid (Below wr.heap.size wr ((wr.drewN nq).alloc (.cells #[.int .i64 i1, .int .i64 i2] 69))) := BQ.out.alloc (by have := BQ.out.size; omega) _
                    have OW := hide (own_below HO.out.1 BN.out)
                    have d0 := (BQ.out.cell (World.block_lt_of_cell? wr _ x0)).trans x0
                    have d1 := (BQ.out.cell (World.block_lt_of_cell? wr _ c0)).trans c0
                    have d2 := (BQ.out.cell (World.block_lt_of_cell? wr _ c1)).trans c1
                    have CN := hide (vl_new (wr.drewN nq) i1 i2)
                    have HSZ : Hid (wo.heap.size ≤ ((wr.drewN nq).alloc (.cells #[.int .i64 i1, .int .i64 i2] 69)).heap.size) := by have := HO.out.2.size; have := BN.out.size; show _ ≤ _; omega
                    go_wp2_with (at_builtin; refine wpList_append_own _ rfl _ _ 31 rfl wo.heap.size 69 i0 (.agg #[.int .i64 0, .int .i64 0]) 2 16 Tryz.underlying31 I0.out Y0.out Y1.out Y2.out rfl (by decide) _ _ _ rfl OW.out ⟨(wr.drewN nq).heap.size, 0, none⟩ 1 1 [Value.int .i64 i1, Value.int .i64 i2] rfl rfl CN.out (vl_one _ _) ?c1 ?c2 ?c3 ?_)
                    case c1 => unfold maxLen; omega
                    case c2 => omega
                    case c3 => first | exact HSZ.out | (have := HO.out.2.size; omega)
                    intro u' z2 ho hg _
                    rw [vl_snoc] at ho
                    have ON : Hid (z2.ownsRow wo.heap.size 69 2 u' (l ++ [(i1, i2)]).length (vlcells (l ++ [(i1, i2)])) ∧ Below wo.heap.size wo z2) := ⟨by rw [List.length_append]; exact ho, (HO.out.2.trans (BN.out.mono HO.out.2.size)).grown hg HSZ.out (fun q hq => (OW.out.lt q hq).1)⟩
                    have hl3 : (l ++ [(i1, i2)]).length ≤ vl + 1 + (k + 1) := by simp; omega
                    generalize l ++ [(i1, i2)] = l2 at HL2 ON hl3
                    clear ho hg OW BN BQ CN HSZ HO HL
                    go_wp2
                    go_roundw
                    case rel => exact ⟨k + 1, l2, by omega, by go_num, hl3, HL2, ON⟩
                    case measure => simp [intOf]; omega
                  · have hd : decide (vol < i1) = false := decide_eq_false ht
                    have HL2 : Hid (l = l1 ++ (s.vols.take (k + 1)).filter (fun v => decide (vol < v.1))) := by
                      show _ = _
                      rw [HF.out, HL.out, if_neg (by simpa using ht), List.append_nil]
                    go_wp2
                    go_quiet (fail)
                    have ON : Hid ((wr.drewN nq).ownsRow wo.heap.size 69 2 u9 l.length (vlcells l) ∧ Below wo.heap.size wo (wr.drewN nq)) := ⟨own_below HO.out.1 (below_drewN (Below.refl wr.heap.size wr) nq), below_drewN HO.out.2 nq⟩
                    go_wp2
                    go_roundw
                    case rel => exact ⟨k + 1, l, by omega, by go_num, by omega, HL2, ON⟩
                    case measure => simp [intOf]; omega
                · have HE : Hid (l = insV s.vols vol q) := by
                    show _ = _
                    rw [HL.out, HL2.out, List.take_of_length_le (by have := HVL.out; omega), insV, List.append_assoc]
                    rfl
                  have hS := Sli.of HO.out.1
                  obtain ⟨la, lc, hla, -⟩ := hS.form
                  subst hla
                  have HCAP := hide (own_cap HO.out.1)
                  have RB : Hid (wr.heap[zb]? = some (.cells #[.slice ua ul uc, .slice ub um ud, .int .i64 nx] 36 (0, 0))) := (HO.out.2.block zb (by have := ZO.out; omega)).trans RO.out
                  have HW2 : Hid (Below w.heap.size w wr) := EK.out.2.1
                  have HZ2 : Hid (z + 1 + 1 < zb) := by have := EC.out.lt; rw [HZB.out] at this; exact this
                  have HWZ : Hid (w.heap.size = z) := EK.out.1
                  have HSW : Hid (wo.heap.size ≤ wr.heap.size) := HO.out.2.size
                  have r0 : wr.cell? ⟨zb, 0, none⟩ = some (.slice ua ul uc) := cell_of_row _ _ 0 _ _ _ RB.out
                  have r1 : wr.frozen? ⟨zb, 0, none⟩ = false := frozen_of_row _ _ 0 _ _ RB.out
                  have RC : Hid ((wr.setCell ⟨zb, 0, none⟩ (.slice la l.length lc)).heap[zb]? = some (.cells #[.slice la l.length lc, .slice ub um ud, .int .i64 nx] 36 (0, 0))) := heap_setCell_same _ _ 0 _ _ _ RB.out
                  have RD : Hid ((wr.setCell ⟨zb, 0, none⟩ (.slice la l.length lc)).heap[z + 1 + 1]? = some (.cells #[.slice none 0 0, .slice none 0 0, .int .i64 0] 36 (0, 0))) := (Below.heap_setCell _ _ _ _ (show z + 1 + 1 ≠ zb by have := HZ2.out; omega)).trans EK.out.2.2.2.2
                  have FR := hide (sto_row3 (a := .slice la l.length lc) (b := .slice ub um ud) (c := .int .i64 nx) RD.out)
                  have FIN : Hid (EnOut2 w (volE s ⟨kind, vol, arg, chunk⟩) (.returned (.tuple #[.agg #[.slice la l.length lc, .slice ub um ud, .int .i64 nx], .bool true])) ((((wr.setCell ⟨zb, 0, none⟩ (.slice la l.length lc)).setCell ⟨z + 1 + 1, 0, none⟩ (.slice la l.length lc)).setCell ⟨z + 1 + 1, 1, none⟩ (.slice ub um ud)).setCell ⟨z + 1 + 1, 2, none⟩ (.int .i64 nx))) := by
                    have a1 := HZ2.out
                    have a2 := HWZ.out
                    have a3 := HSW.out
                    have a4 := ZO.out
                    have a5 := HK3.out
                    have a6 := HK4.out
                    have a7 := HZB.out
                    have a8 := HCZ.out
                    have a9 := EX.out.lt
                    have b1 : (wr.setCell ⟨zb, 0, none⟩ (.slice la l.length lc)).heap.size = wr.heap.size := by simp [World.setCell]
                    rw [HY.out]
                    refine ⟨_, rfl, ?_, ⟨_, _, _, _, _, rfl, HCAP.out⟩⟩
                    rw [HE.out] at hS b1 ⊢
                    rw [← HNX.out]
                    refine st_fin (s := ⟨insV s.vols vol q, s.kns, s.next⟩) (lo1 := wo.heap.size) (hi1 := wr.heap.size) (lo2 := lo2) (hi2 := hi2) (by omega) ?_ ?_ ⟨by omega, .inr (by omega)⟩ ⟨by omega, .inr (by omega)⟩ (by omega) (by omega) (.inr (by omega)) (HW2.out.setCell (p := ⟨zb, 0, none⟩) (show w.heap.size ≤ zb by omega) _)
                    · exact Sli.loc _ _ _ _ _ _ wr _ (fun g g1 g2 => Below.heap_setCell _ _ _ _ (show g ≠ zb by omega)) hS
                    · exact Kns.loc _ _ _ _ wc _ (fun g g1 g2 => (Below.heap_setCell _ _ _ _ (show g ≠ zb by omega)).trans ((HO.out.2.block g (by omega)).trans (BO.out.block g (by omega)))) HKN.out
                  have s0 := cell_of_row _ _ 0 _ _ _ RC.out
                  have s1 := cell_of_row _ _ 1 _ _ _ RC.out
                  have s2 := cell_of_row _ _ 2 _ _ _ RC.out
                  have t0 := cell_of_row _ _ 0 _ _ _ RD.out
                  have t1 := cell_of_row _ _ 1 _ _ _ RD.out
                  have t2 := cell_of_row _ _ 2 _ _ _ RD.out
                  have t3 := frozen_of_row _ _ 0 _ _ RD.out
                  have t4 := frozen_of_row _ _ 1 _ _ RD.out
                  have t5 := frozen_of_row _ _ 2 _ _ RD.out
                  go_wp2
                  exact bodyPost_ret (res_st2 (p := 4) (q := 5) rfl _ _ (z + 1 + 1) _ _ _ rfl FR.out) rfl FIN.out
  · have HVE : Hid (((atV s.vols vol).isSome || decide (s.vols.length = 3)) = true → volE s ⟨kind, vol, arg, chunk⟩ = (s, false)) := fun hh => by
      rw [volE]; simp only; rw [if_neg ha]; simp only; rw [if_pos hh]
    obtain ⟨q, hq⟩ : ∃ q : Int, -1 = q := ⟨_, rfl⟩
    have HVY : Hid (((atV s.vols vol).isSome || decide (s.vols.length = 3)) = false → volE s ⟨kind, vol, arg, chunk⟩ = (⟨insV s.vols vol q, s.kns, s.next⟩, true)) := fun hh => by
      rw [volE]; simp only; rw [if_neg ha]; simp only; rw [if_neg (by rw [hh]; decide), hq]
    have hga : ¬ (arg > 0) := by omega
    have HQ := hide hq
    clear hq
    go_wp2_with fail
    rw [HQ.out]
    generalize ((w.alloc (.cells #[.slice va vl vc, .slice ad len cap, .int .i64 nx] 36)).alloc (.cells #[.int .i64 kind, .int .i64 vol, .int .i64 arg, .int .i64 chunk] 52)).alloc (.cells #[.slice none 0 0, .slice none 0 0, .int .i64 0] 36) = w0 at E0 ⊢
    obtain ⟨z, hz⟩ : ∃ z, w.heap.size = z := ⟨_, rfl⟩
    have HZW := hide hz
    rw [hz] at E0 ⊢
    have EW := hide E0.out
    clear hz E0
    obtain ⟨x0, x1, x2⟩ := EW.out.sc
    obtain ⟨y0, y1, y2, y3⟩ := EW.out.rc
    simp only at y0 y1 y2 y3
    have CA2 := hide (satV va vl vc ad len cap nx s.vols vol _ (by omega) (HV.out.below EW.out.2.1))
    unfold SBox at CA2
    go_wp2_with fail
    refine CA2.out.mono ?_
    rintro e wa ⟨rfl, ba⟩
    have EX := hide (EW.out.on ba)
    clear x0 x1 x2 y0 y1 y2 y3 ba CA2
    by_cases hs2 : ∃ j, atV s.vols vol = some j
    · obtain ⟨j, hj⟩ := hs2
      rw [hj]
      have HN : Hid (volE s ⟨kind, vol, arg, chunk⟩ = (s, false)) := HVE.out (by rw [hj]; rfl)
      have j0 : (0 : Int) ≤ j := by omega
      simp only [atI]
      obtain ⟨x0, x1, x2⟩ := EX.out.sc
      go_wp2_with fail
      refine (scopy_in (SI.out _ EX.out.2.1)).mono ?_
      rintro e wc ⟨u, rfl, hu, hcp⟩
      obtain ⟨ea, el, ec, eb, em, ed, rfl, ee, fr, hen⟩ := EX.out.fin HN.out hu hcp
      obtain ⟨f0, f1, f2, f3, f4, f5⟩ := ee.rf
      have FR := hide fr
      have FIN := hide hen
      rw [HNX.out] at FR FIN ⊢
      clear hu ee fr hen hcp x0 x1 x2
      go_wp2
      exact bodyPost_ret (res_st2 (p := 4) (q := 5) rfl _ _ (z + 1 + 1) _ _ _ rfl FR.out) rfl FIN.out
    · have hnone : atV s.vols vol = none := by
        cases ha : atV s.vols vol with
        | none => rfl
        | some j => exact absurd ⟨j, ha⟩ hs2
      rw [hnone]
      simp only [atI]
      by_cases h3 : (vl : Int) = 3
      · have HN : Hid (volE s ⟨kind, vol, arg, chunk⟩ = (s, false)) := HVE.out (by rw [decide_eq_true (show s.vols.length = 3 by have := HVL.out; omega)]; simp)
        have h3b : ((vl : Int) == 3) = true := by simpa using h3
        obtain ⟨x0, x1, x2⟩ := EX.out.sc
        go_wp2_with fail
        refine (scopy_in (SI.out _ EX.out.2.1)).mono ?_
        rintro e wc ⟨u, rfl, hu, hcp⟩
        obtain ⟨ea, el, ec, eb, em, ed, rfl, ee, fr, hen⟩ := EX.out.fin HN.out hu hcp
        obtain ⟨f0, f1, f2, f3, f4, f5⟩ := ee.rf
        have FR := hide fr
        have FIN := hide hen
        rw [HNX.out] at FR FIN ⊢
        clear hu ee fr hen hcp x0 x1 x2
        go_wp2
        exact bodyPost_ret (res_st2 (p := 4) (q := 5) rfl _ _ (z + 1 + 1) _ _ _ rfl FR.out) rfl FIN.out
      · have h3b : ((vl : Int) == 3) = false := by simpa using h3
        have HY : Hid (volE s ⟨kind, vol, arg, chunk⟩ = (⟨insV s.vols vol q, s.kns, s.next⟩, true)) := HVY.out (by rw [hnone, decide_eq_false (show ¬ s.vols.length = 3 by have := HVL.out; omega)]; rfl)
        obtain ⟨x0, x1, x2⟩ := EX.out.sc
        go_wp2_with fail
        refine (scopy_in (SI.out _ EX.out.2.1)).mono ?_
        rintro e wc ⟨u, rfl, hu, -⟩
        have EC := hide (EX.out.on hu.blw)
        have HCZ : Hid (wa.heap.size ≤ wc.heap.size) := hu.blw.size
        obtain ⟨ua, ul, uc, ub, um, ud, rfl⟩ := hu.form
        obtain ⟨vv, kv, lo1, hi1, lo2, hi2, eu, -, hkn, -, -, hk3, hk4, -, -⟩ := hu
        have eu2 : Value.slice ub um ud = kv := by
          injection eu with eu
          injection eu with eu
          simp only [List.cons.injEq, and_true] at eu
          exact eu.2
        subst eu2
        have HKN := hide hkn
        have HK3 := hide hk3
        have HK4 := hide hk4
        rw [HNX.out]
        clear x0 x1 x2 hkn hk3 hk4
        have BO : Hid (Below wc.heap.size wc (wc.alloc (.cells #[.slice ua ul uc, .slice ub um ud, .int .i64 nx] 36))) := (Below.refl _ _).alloc (Nat.le_refl _) _
        have RO := hide (heap_alloc_new wc (.cells #[.slice ua ul uc, .slice ub um ud, .int .i64 nx] 36))
        have ZO : Hid ((wc.alloc (.cells #[.slice ua ul uc, .slice ub um ud, .int .i64 nx] 36)).heap.size = wc.heap.size + 1) := by show _ = _; simp
        have EO := hide (EC.out.on BO.out)
        go_wp2_with fail
        generalize wc.alloc (.cells #[.slice ua ul uc, .slice ub um ud, .int .i64 nx] 36) = wo at BO RO ZO EO ⊢
        have O0 := hide (empty_vols wo)
        have B00 : Hid (Below wo.heap.size wo (wo.alloc (.cells #[] 69))) := (Below.refl _ _).alloc (Nat.le_refl _) _
        generalize wo.alloc (.cells #[] 69) = wl at O0 B00 ⊢
        obtain ⟨zb, hzb⟩ : ∃ zb, wc.heap.size = zb := ⟨_, rfl⟩
        rw [hzb] at RO ZO ⊢
        have HZB := hide hzb
        clear hzb
        go_loopw [9, 10] (fun lv iv W => ∃ (k : Nat) (l : List (Int × Int)), k ≤ vl ∧ iv = .int .i64 k ∧ l.length ≤ 0 + k ∧ Hid (l = (s.vols.take k).filter (fun v => decide (v.1 < vol))) ∧ Hid (W.ownsRow wo.heap.size 69 2 lv l.length (vlcells l) ∧ Below wo.heap.size wo W)) (fun _ iv _ => vl - (intOf iv).toNat)
        case atStart => exact ⟨0, [], Nat.zero_le _, rfl, Nat.zero_le _, (by simp : [] = (s.vols.take 0).filter _), by rw [← ZO.out]; exact O0.out, B00.out⟩
        case round =>
          obtain ⟨k, l, hk, rfl, hlk, HL, HO⟩ := hrel
          have EK := hide (EO.out.on HO.out.2)
          obtain ⟨x0, -, -⟩ := EK.out.sc
          obtain ⟨-, y1, -, -⟩ := EK.out.rc
          simp only at y1
          by_cases hlt : (k : Int) < vl
          · obtain ⟨v, hv⟩ : ∃ v, s.vols[k]? = some v := ⟨_, List.getElem?_eq_getElem (by have := HVL.out; omega)⟩
            obtain ⟨b, off, e, hb, c0, c1⟩ := (HV.out.below EK.out.2.1).at hv
            first
              | subst e
              | (injection e with e; injection e with e1 e2; subst e1 e2)
            have k0 : (0 : Int) ≤ k := by omega
            have HF := hide (vfilter_take (f := fun v => decide (v.1 < vol)) hv)
            obtain ⟨i1, i2⟩ := v
            simp only at c0 c1 HF
            clear hv
            by_cases ht : i1 < vol
            · have hd : decide (i1 < vol) = true := decide_eq_true ht
              have HL2 : Hid (l ++ [(i1, i2)] = (s.vols.take (k + 1)).filter (fun v => decide (v.1 < vol))) := by
                show _ = _
                rw [HF.out, HL.out, if_pos (by simpa using ht)]
                try rw [List.append_assoc]
              go_wp2
              go_quiet (fail)
              have BQ := hide (below_drewN (Below.refl wr.heap.size wr) nq)
              have BN : Hid (Below wr.heap.size wr ((wr.drewN nq).alloc (.cells #[.int .i64 i1, .int .i64 i2] 69))) := BQ.out.alloc (by have := BQ.out.size; omega) _
              have OW := hide (own_below HO.out.1 BN.out)
              have d0 := (BQ.out.cell (World.block_lt_of_cell? wr _ x0)).trans x0
              have d1 := (BQ.out.cell (World.block_lt_of_cell? wr _ c0)).trans c0
              have d2 := (BQ.out.cell (World.block_lt_of_cell? wr _ c1)).trans c1
              have CN := hide (vl_new (wr.drewN nq) i1 i2)
              have HSZ : Hid (wo.heap.size ≤ ((wr.drewN nq).alloc (.cells #[.int .i64 i1, .int .i64 i2] 69)).heap.size) := by have := HO.out.2.size; have := BN.out.size; show _ ≤ _; omega
              go_wp2_with (at_builtin; refine wpList_append_own _ rfl _ _ 31 rfl wo.heap.size 69 i0 (.agg #[.int .i64 0, .int .i64 0]) 2 16 Tryz.underlying31 I0.out Y0.out Y1.out Y2.out rfl (by decide) _ _ _ rfl OW.out ⟨(wr.drewN nq).heap.size, 0, none⟩ 1 1 [Value.int .i64 i1, Value.int .i64 i2] rfl rfl CN.out (vl_one _ _) ?c1 ?c2 ?c3 ?_)
              case c1 => unfold maxLen; omega
              case c2 => omega
              case c3 => first | exact HSZ.out | (have := HO.out.2.size; omega)
              intro u' z2 ho hg _
              rw [vl_snoc] at ho
              have ON : Hid (z2.ownsRow wo.heap.size 69 2 u' (l ++ [(i1, i2)]).length (vlcells (l ++ [(i1, i2)])) ∧ Below wo.heap.size wo z2) := ⟨by rw [List.length_append]; exact ho, (HO.out.2.trans (BN.out.mono HO.out.2.size)).grown hg HSZ.out (fun q hq => (OW.out.lt q hq).1)⟩
              have hl3 : (l ++ [(i1, i2)]).length ≤ 0 + (k + 1) := by simp; omega
              generalize l ++ [(i1, i2)] = l2 at HL2 ON hl3
              clear ho hg OW BN BQ CN HSZ HO HL
              go_wp2
              go_roundw
              case rel => exact ⟨k + 1, l2, by omega, by go_num, hl3, HL2, ON⟩
              case measure => simp [intOf]; omega
            · have hd : decide (i1 < vol) = false := decide_eq_false ht
              have HL2 : Hid (l = (s.vols.take (k + 1)).filter (fun v => decide (v.1 < vol))) := by
                show _ = _
                rw [HF.out, HL.out, if_neg (by simpa using ht), List.append_nil]
              go_wp2
              go_quiet (fail)
              have ON : Hid ((wr.drewN nq).ownsRow wo.heap.size 69 2 u9 l.length (vlcells l) ∧ Below wo.heap.size wo (wr.drewN nq)) := ⟨own_below HO.out.1 (below_drewN (Below.refl wr.heap.size wr) nq), below_drewN HO.out.2 nq⟩
              go_wp2
              go_roundw
              case rel => exact ⟨k + 1, l, by omega, by go_num, by omega, HL2, ON⟩
              case measure => simp [intOf]; omega
          · have HL2 : Hid (l ++ [(vol, q)] = s.vols.filter (fun v => decide (v.1 < vol)) ++ [(vol, q)]) := by
              show _ = _
              rw [HL.out, List.take_of_length_le (by have := HVL.out; omega)]
            have BN : Hid (Below wr.heap.size wr (wr.alloc (.cells #[.int .i64 vol, .int .i64 q] 69))) := (Below.refl _ _).alloc (Nat.le_refl _) _
            have OW := hide (own_below HO.out.1 BN.out)
            have CN := hide (vl_new wr vol q)
            have HSZ : Hid (wo.heap.size ≤ (wr.alloc (.cells #[.int .i64 vol, .int .i64 q] 69)).heap.size) := by have := HO.out.2.size; have := BN.out.size; show _ ≤ _; omega
            go_wp2_with (at_builtin; refine wpList_append_own _ rfl _ _ 31 rfl wo.heap.size 69 i0 (.agg #[.int .i64 0, .int .i64 0]) 2 16 Tryz.underlying31 I0.out Y0.out Y1.out Y2.out rfl (by decide) _ _ _ rfl OW.out ⟨wr.heap.size, 0, none⟩ 1 1 [Value.int .i64 vol, Value.int .i64 q] rfl rfl CN.out (vl_one _ _) ?c1 ?c2 ?c3 ?_)
            case c1 => unfold maxLen; omega
            case c2 => omega
            case c3 => first | exact HSZ.out | (have := HO.out.2.size; omega)
            intro u' z2 ho hg _
            rw [vl_snoc] at ho
            have ON : Hid (z2.ownsRow wo.heap.size 69 2 u' (l ++ [(vol, q)]).length (vlcells (l ++ [(vol, q)])) ∧ Below wo.heap.size wo z2) := ⟨by rw [List.length_append]; exact ho, (HO.out.2.trans (BN.out.mono HO.out.2.size)).grown hg HSZ.out (fun q hq => (OW.out.lt q hq).1)⟩
            have hl3 : (l ++ [(vol, q)]).length ≤ vl + 1 := by simp; omega
            generalize l ++ [(vol, q)] = l1 at HL2 ON hl3
            clear ho hg OW BN CN HSZ HO HL x0 y1 EK
            go_wp2_with fail
            go_loopw [9, 11] (fun lv iv W => ∃ (k : Nat) (l : List (Int × Int)), k ≤ vl ∧ iv = .int .i64 k ∧ l.length ≤ vl + 1 + k ∧ Hid (l = l1 ++ (s.vols.take k).filter (fun v => decide (vol < v.1))) ∧ Hid (W.ownsRow wo.heap.size 69 2 lv l.length (vlcells l) ∧ Below wo.heap.size wo W)) (fun _ iv _ => vl - (intOf iv).toNat)
            case atStart => exact ⟨0, l1, Nat.zero_le _, rfl, by omega, (by simp : l1 = l1 ++ (s.vols.take 0).filter _), ON⟩
            case round =>
              obtain ⟨k, l, hk, rfl, hlk, HL, HO⟩ := hrel
              have EK := hide (EO.out.on HO.out.2)
              obtain ⟨x0, -, -⟩ := EK.out.sc
              obtain ⟨-, y1, -, -⟩ := EK.out.rc
              simp only at y1
              by_cases hlt : (k : Int) < vl
              · obtain ⟨v, hv⟩ : ∃ v, s.vols[k]? = some v := ⟨_, List.getElem?_eq_getElem (by have := HVL.out; omega)⟩
                obtain ⟨b, off, e, hb, c0, c1⟩ := (HV.out.below EK.out.2.1).at hv
                first
                  | subst e
                  | (injection e with e; injection e with e1 e2; subst e1 e2)
                have k0 : (0 : Int) ≤ k := by omega
                have HF := hide (vfilter_take (f := fun v => decide (vol < v.1)) hv)
                obtain ⟨i1, i2⟩ := v
                simp only at c0 c1 HF
                clear hv
                by_cases ht : vol < i1
                · have hd : decide (vol < i1) = true := decide_eq_true ht
                  have HL2 : Hid (l ++ [(i1, i2)] = l1 ++ (s.vols.take (k + 1)).filter (fun v => decide (vol < v.1))) := by
                    show _ = _
                    rw [HF.out, HL.out, if_pos (by simpa using ht)]
                    try rw [List.append_assoc]
                  go_wp2
                  go_quiet (fail)
                  have BQ := hide (below_drewN (Below.refl wr.heap.size wr) nq)
                  have BN : Hid (Below wr.heap.size wr ((wr.drewN nq).alloc (.cells #[.int .i64 i1, .int .i64 i2] 69))) := BQ.out.alloc (by have := BQ.out.size; omega) _
                  have OW := hide (own_below HO.out.1 BN.out)
                  have d0 := (BQ.out.cell (World.block_lt_of_cell? wr _ x0)).trans x0
                  have d1 := (BQ.out.cell (World.block_lt_of_cell? wr _ c0)).trans c0
                  have d2 := (BQ.out.cell (World.block_lt_of_cell? wr _ c1)).trans c1
                  have CN := hide (vl_new (wr.drewN nq) i1 i2)
                  have HSZ : Hid (wo.heap.size ≤ ((wr.drewN nq).alloc (.cells #[.int .i64 i1, .int .i64 i2] 69)).heap.size) := by have := HO.out.2.size; have := BN.out.size; show _ ≤ _; omega
                  go_wp2_with (at_builtin; refine wpList_append_own _ rfl _ _ 31 rfl wo.heap.size 69 i0 (.agg #[.int .i64 0, .int .i64 0]) 2 16 Tryz.underlying31 I0.out Y0.out Y1.out Y2.out rfl (by decide) _ _ _ rfl OW.out ⟨(wr.drewN nq).heap.size, 0, none⟩ 1 1 [Value.int .i64 i1, Value.int .i64 i2] rfl rfl CN.out (vl_one _ _) ?c1 ?c2 ?c3 ?_)
                  case c1 => unfold maxLen; omega
                  case c2 => omega
                  case c3 => first | exact HSZ.out | (have := HO.out.2.size; omega)
                  intro u' z2 ho hg _
                  rw [vl_snoc] at ho
                  have ON : Hid (z2.ownsRow wo.heap.size 69 2 u' (l ++ [(i1, i2)]).length (vlcells (l ++ [(i1, i2)])) ∧ Below wo.heap.size wo z2) := ⟨by rw [List.length_append]; exact ho, (HO.out.2.trans (BN.out.mono HO.out.2.size)).grown hg HSZ.out (fun q hq => (OW.out.lt q hq).1)⟩
                  have hl3 : (l ++ [(i1, i2)]).length ≤ vl + 1 + (k + 1) := by simp; omega
                  generalize l ++ [(i1, i2)] = l2 at HL2 ON hl3
                  clear ho hg OW BN BQ CN HSZ HO HL
                  go_wp2
                  go_roundw
                  case rel => exact ⟨k + 1, l2, by omega, by go_num, hl3, HL2, ON⟩
                  case measure => simp [intOf]; omega
                · have hd : decide (vol < i1) = false := decide_eq_false ht
                  have HL2 : Hid (l = l1 ++ (s.vols.take (k + 1)).filter (fun v => decide (vol < v.1))) := by
                    show _ = _
                    rw [HF.out, HL.out, if_neg (by simpa using ht), List.append_nil]
                  go_wp2
                  go_quiet (fail)
                  have ON : Hid ((wr.drewN nq).ownsRow wo.heap.size 69 2 u9 l.length (vlcells l) ∧ Below wo.heap.size wo (wr.drewN nq)) := ⟨own_below HO.out.1 (below_drewN (Below.refl wr.heap.size wr) nq), below_drewN HO.out.2 nq⟩
                  go_wp2
                  go_roundw
                  case rel => exact ⟨k + 1, l, by omega, by go_num, by omega, HL2, ON⟩
                  case measure => simp [intOf]; omega
              · have HE : Hid (l = insV s.vols vol q) := by
                  show _ = _
                  rw [HL.out, HL2.out, List.take_of_length_le (by have := HVL.out; omega), insV, List.append_assoc]
                  rfl
                have hS := Sli.of HO.out.1
                obtain ⟨la, lc, hla, -⟩ := hS.form
                subst hla
                have HCAP := hide (own_cap HO.out.1)
                have RB : Hid (wr.heap[zb]? = some (.cells #[.slice ua ul uc, .slice ub um ud, .int .i64 nx] 36 (0, 0))) := (HO.out.2.block zb (by have := ZO.out; omega)).trans RO.out
                have HW2 : Hid (Below w.heap.size w wr) := EK.out.2.1
                have HZ2 : Hid (z + 1 + 1 < zb) := by have := EC.out.lt; rw [HZB.out] at this; exact this
                have HWZ : Hid (w.heap.size = z) := EK.out.1
                have HSW : Hid (wo.heap.size ≤ wr.heap.size) := HO.out.2.size
                have r0 : wr.cell? ⟨zb, 0, none⟩ = some (.slice ua ul uc) := cell_of_row _ _ 0 _ _ _ RB.out
                have r1 : wr.frozen? ⟨zb, 0, none⟩ = false := frozen_of_row _ _ 0 _ _ RB.out
                have RC : Hid ((wr.setCell ⟨zb, 0, none⟩ (.slice la l.length lc)).heap[zb]? = some (.cells #[.slice la l.length lc, .slice ub um ud, .int .i64 nx] 36 (0, 0))) := heap_setCell_same _ _ 0 _ _ _ RB.out
                have RD : Hid ((wr.setCell ⟨zb, 0, none⟩ (.slice la l.length lc)).heap[z + 1 + 1]? = some (.cells #[.slice none 0 0, .slice none 0 0, .int .i64 0] 36 (0, 0))) := (Below.heap_setCell _ _ _ _ (show z + 1 + 1 ≠ zb by have := HZ2.out; omega)).trans EK.out.2.2.2.2
                have FR := hide (sto_row3 (a := .slice la l.length lc) (b := .slice ub um ud) (c := .int .i64 nx) RD.out)
                have FIN : Hid (EnOut2 w (volE s ⟨kind, vol, arg, chunk⟩) (.returned (.tuple #[.agg #[.slice la l.length lc, .slice ub um ud, .int .i64 nx], .bool true])) ((((wr.setCell ⟨zb, 0, none⟩ (.slice la l.length lc)).setCell ⟨z + 1 + 1, 0, none⟩ (.slice la l.length lc)).setCell ⟨z + 1 + 1, 1, none⟩ (.slice ub um ud)).setCell ⟨z + 1 + 1, 2, none⟩ (.int .i64 nx))) := by
                  have a1 := HZ2.out
                  have a2 := HWZ.out
                  have a3 := HSW.out
                  have a4 := ZO.out
                  have a5 := HK3.out
                  have a6 := HK4.out
                  have a7 := HZB.out
                  have a8 := HCZ.out
                  have a9 := EX.out.lt
                  have b1 : (wr.setCell ⟨zb, 0, none⟩ (.slice la l.length lc)).heap.size = wr.heap.size := by simp [World.setCell]
                  rw [HY.out]
                  refine ⟨_, rfl, ?_, ⟨_, _, _, _, _, rfl, HCAP.out⟩⟩
                  rw [HE.out] at hS b1 ⊢
                  rw [← HNX.out]
                  refine st_fin (s := ⟨insV s.vols vol q, s.kns, s.next⟩) (lo1 := wo.heap.size) (hi1 := wr.heap.size) (lo2 := lo2) (hi2 := hi2) (by omega) ?_ ?_ ⟨by omega, .inr (by omega)⟩ ⟨by omega, .inr (by omega)⟩ (by omega) (by omega) (.inr (by omega)) (HW2.out.setCell (p := ⟨zb, 0, none⟩) (show w.heap.size ≤ zb by omega) _)
                  · exact Sli.loc _ _ _ _ _ _ wr _ (fun g g1 g2 => Below.heap_setCell _ _ _ _ (show g ≠ zb by omega)) hS
                  · exact Kns.loc _ _ _ _ wc _ (fun g g1 g2 => (Below.heap_setCell _ _ _ _ (show g ≠ zb by omega)).trans ((HO.out.2.block g (by omega)).trans (BO.out.block g (by omega)))) HKN.out
                have s0 := cell_of_row _ _ 0 _ _ _ RC.out
                have s1 := cell_of_row _ _ 1 _ _ _ RC.out
                have s2 := cell_of_row _ _ 2 _ _ _ RC.out
                have t0 := cell_of_row _ _ 0 _ _ _ RD.out
                have t1 := cell_of_row _ _ 1 _ _ _ RD.out
                have t2 := cell_of_row _ _ 2 _ _ _ RD.out
                have t3 := frozen_of_row _ _ 0 _ _ RD.out
                have t4 := frozen_of_row _ _ 1 _ _ RD.out
                have t5 := frozen_of_row _ _ 2 _ _ RD.out
                go_wp2
                exact bodyPost_ret (res_st2 (p := 4) (q := 5) rfl _ _ (z + 1 + 1) _ _ _ rfl FR.out) rfl FIN.out
end Go.Proofs.YtcnaahajaaifjacGreat
