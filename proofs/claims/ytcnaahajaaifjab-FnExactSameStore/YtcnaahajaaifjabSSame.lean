/-
  spec.SameStore.
-/
import Derived.Test.YtcnaahajaaifjabISame
import Derived.Test.YtcnaahajaaifjabPq8
import Derived.BigQuiet
import Derived.Deep.RegionHeld3
namespace Go.Proofs.Ytcnaahajaaifjab
open Go.RowKit
open Words

set_option maxHeartbeats 400000 in
set_option maxRecDepth 100000 in
theorem ssameI (ag bg c d : Nat) (A B : List Int) (w : World) (hA : A.length = 16) (hB : B.length = 16) (ca : ∀ (k : Nat) (x : Int), A[k]? = some x → w.cell? ⟨ag, k, none⟩ = some (.int .i64 x)) (cb : ∀ (k : Nat) (x : Int), B[k]? = some x → w.cell? ⟨bg, k, none⟩ = some (.int .i64 x)) :
    Calls Try.prog 60 #[.slice (some ⟨ag, 0, none⟩) 16 c, .slice (some ⟨bg, 0, none⟩) 16 d] w fun e w' => e = .returned (.bool (decide (A = B))) ∧ Below w.heap.size w w' := by
  have CA := hide ca
  have CB := hide cb
  have HA := hide hA
  have HB := hide hB
  have LA : Hid (ag < w.heap.size) := World.block_lt_of_cell? w _ (ca 0 _ (List.getElem?_eq_getElem (by omega)))
  have LB : Hid (bg < w.heap.size) := World.block_lt_of_cell? w _ (cb 0 _ (List.getElem?_eq_getElem (by omega)))
  clear ca cb hA hB
  go_enter Try.func60, Try.ntmps60
  go_wp2
  go_loopw [5] (fun iv W => ∃ k : Nat, k ≤ 16 ∧ iv = .int .i64 k ∧ Hid (A.take k = B.take k) ∧ Hid (Below w.heap.size w W)) (fun iv _ => 16 - (intOf iv).toNat)
  case atStart => exact ⟨0, Nat.zero_le _, rfl, (by simp : A.take 0 = B.take 0), Below.refl _ _⟩
  case round =>
    obtain ⟨k, hk, rfl, HT, HW⟩ := hrel
    by_cases hlt : (k : Int) < 16
    · obtain ⟨x, hx⟩ : ∃ x, A[k]? = some x := ⟨_, List.getElem?_eq_getElem (by have := HA.out; omega)⟩
      obtain ⟨y, hy⟩ : ∃ y, B[k]? = some y := ⟨_, List.getElem?_eq_getElem (by have := HB.out; omega)⟩
      have cx := (HW.out.cell (show ag < w.heap.size from LA.out)).trans (CA.out k x hx)
      have cy := (HW.out.cell (show bg < w.heap.size from LB.out)).trans (CB.out k y hy)
      have k0 : (0 : Int) ≤ k := by omega
      by_cases hxy : x = y
      · subst hxy
        have hne : (x != x) = false := by simp
        have HT2 : Hid (A.take (k + 1) = B.take (k + 1)) := by
          show _ = _
          rw [List.take_add_one, List.take_add_one, hx, hy, HT.out]
        clear hx hy
        go_wp2
        go_quiet (fail)
        have BF := hide (below_drewN HW.out nq)
        go_wp2
        go_roundw
        case rel => exact ⟨k + 1, by omega, by go_num, HT2, BF⟩
        case measure => simp [intOf]; omega
      · have hne : (x != y) = true := by simpa using hxy
        have EC : Hid (decide (A = B) = false) := decide_eq_false (fun e => hxy (by rw [e, hy] at hx; exact (Option.some.inj hx).symm))
        clear hx hy
        go_wp2
        go_quiet (fail)
        have BF := hide (below_drewN HW.out nq)
        go_wp2
        go_ret
        exact ⟨by rw [EC.out]; rfl, BF.out⟩
    · have EC : Hid (decide (A = B) = true) := decide_eq_true (by
        have h1 := HT.out
        have h2 := HA.out
        have h3 := HB.out
        rw [List.take_of_length_le (by omega), List.take_of_length_le (by omega)] at h1
        exact h1)
      go_wp2
      go_ret
      exact ⟨by rw [EC.out]; rfl, HW.out⟩
theorem zip_step {vs us : List (Int × Int)} {k : Nat} {x y : Int × Int} {f : (Int × Int) × (Int × Int) → Bool} (hx : vs[k]? = some x) (hy : us[k]? = some y) : ((vs.zip us).take (k + 1)).all f = (((vs.zip us).take k).all f && f (x, y)) := by
  have : (vs.zip us)[k]? = some (x, y) := by rw [List.getElem?_zip_eq_some]; exact ⟨hx, hy⟩
  rw [List.take_add_one, this, List.all_append]
  simp
theorem zip_bad {vs us : List (Int × Int)} {k : Nat} {x y : Int × Int} {f : (Int × Int) × (Int × Int) → Bool} (hx : vs[k]? = some x) (hy : us[k]? = some y) (hf : f (x, y) = false) : (vs.zip us).all f = false := by
  have : (vs.zip us)[k]? = some (x, y) := by rw [List.getElem?_zip_eq_some]; exact ⟨hx, hy⟩
  rw [List.all_eq_false]
  exact ⟨_, List.mem_of_getElem? this, by simp [hf]⟩
set_option maxHeartbeats 1000000 in
set_option maxRecDepth 100000 in
theorem ssameS : SameC 29 := by
  rintro v s u t w ⟨va, vl, vc, ad, len, cap, rs, rfl, hks, hvl, hl, hll, hvc, h, hk⟩ ⟨ua, ul, uc, bd, ben, bap, qs, rfl, hkt, hul, hbl, hll2, huc, h2, hk2⟩
  obtain ⟨vs, kns, nx⟩ := s
  obtain ⟨us, kms, my⟩ := t
  simp only at hks h hkt h2 ⊢
  subst hks hkt
  have T0 := hide (Tk.two w #[.slice va vl vc, .slice ad len cap, .int .i64 nx] #[.slice ua ul uc, .slice bd ben bap, .int .i64 my] 35 35)
  have HV := hide h
  have HU := hide h2
  have HV1 := hide h.1
  have HU1 := hide h2.1
  have HKA := hide hk
  have HKB := hide hk2
  have EQ := hide (same_is ⟨vs, rs.map ktell, nx⟩ ⟨us, qs.map ktell, my⟩)
  simp only at EQ
  obtain ⟨C, hC⟩ : ∃ C, sameS ⟨vs, rs.map ktell, nx⟩ ⟨us, qs.map ktell, my⟩ = C := ⟨_, rfl⟩
  rw [hC] at EQ ⊢
  clear hC h h2 hk hk2 hll hll2 hvc huc
  unfold SBox
  by_cases hvu : ¬ ((vl : Int) = ul)
  · have EC : Hid (C = false) := by
      show _ = _
      rw [EQ.out, HV1.out, HU1.out, decide_eq_false (show ¬ (vl = ul) by omega)]
      simp
    have hne : ((vl : Int) != ul) = true := by simpa using hvu
    go_enter Try.func29, Try.ntmps29
    go_wp2
    go_ret
    exact ⟨by rw [EC.out]; rfl, T0.out.1⟩
  obtain rfl : vl = ul := by omega
  clear hvu
  have hne : ((vl : Int) != vl) = false := by simp
  by_cases hxy : ¬ (nx = my)
  · have EC : Hid (C = false) := by
      show _ = _
      rw [EQ.out, decide_eq_false hxy, Bool.false_and]
    have hn2 : (nx != my) = true := by simpa using hxy
    go_enter Try.func29, Try.ntmps29
    go_wp2
    go_ret
    exact ⟨by rw [EC.out]; rfl, T0.out.1⟩
  obtain rfl : nx = my := by omega
  clear hxy
  have hn2 : (nx != nx) = false := by simp
  have EC : Hid (C = (vs.zip us).all (fun p => volEq (rs.map ktell) (qs.map ktell) p.1 p.2)) := by
    show _ = _
    rw [EQ.out, HV1.out, HU1.out]
    simp
  clear EQ
  go_enter Try.func29, Try.ntmps29
  go_wp2
  generalize (w.alloc (.cells #[.slice va vl vc, .slice ad len cap, .int .i64 nx] 35)).alloc (.cells #[.slice ua vl uc, .slice bd ben bap, .int .i64 nx] 35) = wb at T0 ⊢
  have x0 : wb.cell? ⟨w.heap.size, 0, none⟩ = some (.slice va vl vc) := T0.out.at 1 0 rfl rfl
  have x1 : wb.cell? ⟨w.heap.size, 1, none⟩ = some (.slice ad len cap) := T0.out.at 1 1 rfl rfl
  have y0 : wb.cell? ⟨w.heap.size + 1, 0, none⟩ = some (.slice ua vl uc) := T0.out.at 0 0 rfl rfl
  have y1 : wb.cell? ⟨w.heap.size + 1, 1, none⟩ = some (.slice bd ben bap) := T0.out.at 0 1 rfl rfl
  have BW := hide T0.out.1
  have XB : Hid (w.heap.size < wb.heap.size ∧ w.heap.size + 1 < wb.heap.size) := ⟨World.block_lt_of_cell? wb _ x0, World.block_lt_of_cell? wb _ y0⟩
  obtain ⟨z, hz⟩ : ∃ z, w.heap.size = z := ⟨_, rfl⟩
  have HZW := hide hz
  rw [hz] at x0 x1 y0 y1 XB ⊢
  clear hz T0
  go_loopw [5] (fun iv W => ∃ k : Nat, k ≤ vl ∧ iv = .int .i64 k ∧ Hid (((vs.zip us).take k).all (fun p => volEq (rs.map ktell) (qs.map ktell) p.1 p.2) = true) ∧ Hid (Below wb.heap.size wb W)) (fun iv _ => vl - (intOf iv).toNat)
  case atStart => exact ⟨0, Nat.zero_le _, rfl, (by simp : ((vs.zip us).take 0).all _ = true), Below.refl _ _⟩
  case round =>
    obtain ⟨k, hk, rfl, HT, HW⟩ := hrel
    have a0 := (HW.out.cell (show z < wb.heap.size from XB.out.1)).trans x0
    have a1 := (HW.out.cell (show z < wb.heap.size from XB.out.1)).trans x1
    have b0 := (HW.out.cell (show z + 1 < wb.heap.size from XB.out.2)).trans y0
    have b1 := (HW.out.cell (show z + 1 < wb.heap.size from XB.out.2)).trans y1
    have BWW := hide (BW.out.trans (HW.out.mono BW.out.size))
    by_cases hlt : (k : Int) < vl
    · obtain ⟨p, hp⟩ : ∃ p, vs[k]? = some p := ⟨_, List.getElem?_eq_getElem (by have := HV1.out; omega)⟩
      obtain ⟨q, hq⟩ : ∃ q, us[k]? = some q := ⟨_, List.getElem?_eq_getElem (by have := HU1.out; omega)⟩
      obtain ⟨e1, o1, r1, -, c0, c1⟩ := (HV.out.below BWW.out).at hp
      obtain ⟨e2, o2, r2, -, d0, d1⟩ := (HU.out.below BWW.out).at hq
      subst r1 r2
      have k0 : (0 : Int) ≤ k := by omega
      have HZ := hide (zip_step (f := fun p => volEq (rs.map ktell) (qs.map ktell) p.1 p.2) hp hq)
      have HZB := hide (zip_bad (f := fun p => volEq (rs.map ktell) (qs.map ktell) p.1 p.2) hp hq)
      obtain ⟨p0, p1⟩ := p
      obtain ⟨q0, q1⟩ := q
      simp only at c0 c1 d0 d1 HZ HZB
      clear hp hq
      have BD : Hid (Below wr.heap.size wr wr.drew) := (Below.refl _ _).drew
      have KK : Hid (∀ W, Below wr.heap.size wr W → (W.cell? ⟨z, 0, none⟩ = some (.slice (some ⟨e1, o1, none⟩) vl vc) ∧ W.cell? ⟨z, 1, none⟩ = some (.slice ad len cap) ∧ W.cell? ⟨z + 1, 0, none⟩ = some (.slice (some ⟨e2, o2, none⟩) vl uc) ∧ W.cell? ⟨z + 1, 1, none⟩ = some (.slice bd ben bap)) ∧ W.cell? ⟨e1, o1 + k * 2, none⟩ = some (.int .i64 p0) ∧ W.cell? ⟨e1, o1 + k * 2 + 1, none⟩ = some (.int .i64 p1) ∧ W.cell? ⟨e2, o2 + k * 2, none⟩ = some (.int .i64 q0) ∧ W.cell? ⟨e2, o2 + k * 2 + 1, none⟩ = some (.int .i64 q1)) := by
        have l0 : z < wr.heap.size := World.block_lt_of_cell? wr _ a0
        have l1 : z + 1 < wr.heap.size := World.block_lt_of_cell? wr _ b0
        have l2 : e1 < wr.heap.size := World.block_lt_of_cell? wr _ c0
        have l3 : e2 < wr.heap.size := World.block_lt_of_cell? wr _ d0
        exact fun W H => ⟨⟨(H.cell l0).trans a0, (H.cell l0).trans a1, (H.cell l1).trans b0, (H.cell l1).trans b1⟩, (H.cell l2).trans c0, (H.cell l2).trans c1, (H.cell l3).trans d0, (H.cell l3).trans d1⟩
      by_cases hpq : p0 = q0
      · have hnp : (p0 != q0) = false := by simpa using hpq
        obtain ⟨A, hA⟩ : ∃ A, allT (rs.map ktell) p1 = A := ⟨_, rfl⟩
        obtain ⟨B, hB⟩ : ∃ B, allT (qs.map ktell) q1 = B := ⟨_, rfl⟩
        have LNA : Hid (A.length = 16) := by show _ = _; rw [← hA]; exact allT_len _ _
        have LNB : Hid (B.length = 16) := by show _ = _; rw [← hB]; exact allT_len _ _
        have EV : Hid (volEq (rs.map ktell) (qs.map ktell) (p0, p1) (q0, q1) = decide (A = B)) := by
          show _ = _
          rw [volEq, hA, hB]
          simp only [hpq, decide_true, Bool.true_and]
        have CA1 := hide (sall ad len cap rs p1 wr.drew (by omega) (HKA.out.below (BWW.out.trans (BD.out.mono BWW.out.size))))
        have CB : Hid (∀ W, Below wr.heap.size wr W → Calls Try.prog 51 #[.agg #[.slice bd ben bap], .int .i64 q1] W (IOut W B)) := fun W H => by
          have := sall bd ben bap qs q1 W (by omega) (HKB.out.below (BWW.out.trans (H.mono BWW.out.size)))
          rw [hB] at this
          exact this
        rw [hA] at CA1
        have OG : Hid (∀ (W : World) (B0 : Nat) (v : Value) (L : List Int), L.length = 16 → W.ownsRow B0 3 1 v L.length (icells L) → ∃ g c, v = .slice (some ⟨g, 0, none⟩) 16 c ∧ g < W.heap.size ∧ ∀ (k : Nat) (x : Int), L[k]? = some x → W.cell? ⟨g, k, none⟩ = some (.int .i64 x)) := fun W B0 v L hl ho => by
          obtain ⟨va, vc, rfl, hr⟩ := (Sli.of ho).form
          obtain ⟨g, rfl, -, hg⟩ := hr (by omega)
          refine ⟨g, vc, by rw [hl], hg, fun k x hk => ?_⟩
          rw [← addr_at]
          exact ho.cells (g := g) rfl k _ (icells_get hk)
        have KP := hide (KK.out _ BD.out)
        obtain ⟨D, hD⟩ : ∃ D, decide (A = B) = D := ⟨_, rfl⟩
        have CE : Hid (∀ (W : World) (ag bg c d : Nat), (∀ (k : Nat) (x : Int), A[k]? = some x → W.cell? ⟨ag, k, none⟩ = some (.int .i64 x)) → (∀ (k : Nat) (x : Int), B[k]? = some x → W.cell? ⟨bg, k, none⟩ = some (.int .i64 x)) → Calls Try.prog 60 #[.slice (some ⟨ag, 0, none⟩) 16 c, .slice (some ⟨bg, 0, none⟩) 16 d] W fun e w' => e = .returned (.bool D) ∧ Below W.heap.size W w') := fun W ag bg c d hca hcb => by
          have := ssameI ag bg c d A B W LNA.out LNB.out hca hcb
          rw [hD] at this
          exact this
        rw [hD] at EV
        clear hA hB hD x0 x1 y0 y1
        go_wp2
        clear c0 c1 d0 d1 a0 a1 b0 b1
        go_region_held3 (fun w' => (w'.cell? ⟨z, 0, none⟩ = some (.slice (some ⟨e1, o1, none⟩) vl vc) ∧ w'.cell? ⟨z, 1, none⟩ = some (.slice ad len cap) ∧ w'.cell? ⟨z + 1, 0, none⟩ = some (.slice (some ⟨e2, o2, none⟩) vl uc) ∧ w'.cell? ⟨z + 1, 1, none⟩ = some (.slice bd ben bap)) ∧ w'.cell? ⟨e1, o1 + k * 2, none⟩ = some (.int .i64 p0) ∧ w'.cell? ⟨e1, o1 + k * 2 + 1, none⟩ = some (.int .i64 p1) ∧ w'.cell? ⟨e2, o2 + k * 2, none⟩ = some (.int .i64 q0) ∧ w'.cell? ⟨e2, o2 + k * 2 + 1, none⟩ = some (.int .i64 q1)) (first | exact KP.out | go_keep) (first
          | (go_at_call 51; (with_reducible refine Calls.mono CA1.out ?_); rintro en w1 ⟨v1, rfl, o1', b1'⟩; (obtain ⟨ag, f1, hv1, hg1, hc1⟩ := OG.out _ _ _ _ LNA.out o1'); subst hv1; have HC1 := hide hc1; have HG1 := hide hg1; have BE := hide (BD.out.trans (b1'.mono BD.out.size)); clear KP CA1 o1' hc1 hg1 b1'; have KP := hide (KK.out _ BE.out); have CB1 := hide (CB.out _ BE.out))
          | (go_at_call 51; (with_reducible refine Calls.mono CB1.out ?_); rintro en w2 ⟨v2, rfl, o2', b2'⟩; (obtain ⟨bg, f2, hv2, hg2, hc2⟩ := OG.out _ _ _ _ LNB.out o2'); subst hv2; have CE1 := hide (CE.out w2 ag bg f1 f2 (fun k x hk => (b2'.cell (show ag < w1.heap.size from HG1.out)).trans (HC1.out k x hk)) hc2); have BE2 := hide (BE.out.trans (b2'.mono BE.out.size)); clear KP CB1 o2' hc2 hg2 b2'; have KP := hide (KK.out _ BE2.out))
          | (go_at_call 60; (with_reducible refine Calls.mono CE1.out ?_); rintro en w3 ⟨rfl, b3⟩; have BE3 := hide (BE2.out.trans (b3.mono BE2.out.size)); clear KP CE1 b3; have KP := hide (KK.out _ BE3.out)))
        have BF := hide (HW.out.trans (BE3.out.mono HW.out.size))
        clear KP KK CB CE OG BE BE2 HC1 HG1
        cases D with
        | true =>
          have HT2 : Hid (((vs.zip us).take (k + 1)).all (fun p => volEq (rs.map ktell) (qs.map ktell) p.1 p.2) = true) := by
            show _ = _
            rw [HZ.out, HT.out, EV.out]
            rfl
          go_wp2
          go_roundw
          case rel => exact ⟨k + 1, by omega, by go_num, HT2, BF⟩
          case measure => simp [intOf]; omega
        | false =>
          have EF : Hid (C = false) := by
            show _ = _
            rw [EC.out]
            exact HZB.out EV.out
          have BG := hide (BW.out.trans (BF.out.mono BW.out.size))
          go_wp2
          go_ret
          exact ⟨by rw [EF.out]; rfl, BG.out⟩
      · have hnp : (p0 != q0) = true := by simpa using hpq
        have EF : Hid (C = false) := by
          show _ = _
          rw [EC.out]
          refine HZB.out ?_
          rw [volEq, decide_eq_false hpq, Bool.false_and]
        clear KK
        go_wp2
        go_quiet (fail)
        have BG := hide (below_drewN BWW.out nq)
        go_wp2
        go_ret
        exact ⟨by rw [EF.out]; rfl, BG.out⟩
    · have EF : Hid (C = true) := by
        have h1 := HT.out
        have h2 : (vs.zip us).length ≤ k := by
          rw [List.length_zip]
          have := HV1.out
          omega
        rw [List.take_of_length_le h2] at h1
        show _ = _
        rw [EC.out, h1]
      go_wp2
      go_ret
      exact ⟨by rw [EF.out]; rfl, BWW.out⟩
end Go.Proofs.Ytcnaahajaaifjab
