/-
  slices.Max of numbers; hasRightTrees; impl.StoreOk.
-/
import Derived.Test.YtcnaahajaaifjacGreatPk47
import Derived.Test.YtcnaahajaaifjacGreatISweep
namespace Go.Proofs.YtcnaahajaaifjacGreat
open Go.RowKit
open Words

/-- What slices.Max answers. -/
def MaxOut (w : World) (ls : List Int) (e : Ending) (w' : World) : Prop := ∃ x, e = .returned (.int .i64 x) ∧ x ∈ ls ∧ (∀ y ∈ ls, y ≤ x) ∧ w' = w
set_option maxHeartbeats 400000 in
set_option maxRecDepth 100000 in
theorem imax (b off n c : Nat) (ls : List Int) (w : World) (h0 : 0 < n) (hn : n ≤ 1048576) (h : IRow w (some ⟨b, off, none⟩) n ls) :
    Calls Tryz.prog 80 #[.slice (some ⟨b, off, none⟩) n c] w (MaxOut w ls) := by
  have HL := hide h.1
  have CE : Hid (∀ (k : Nat) (x : Int), ls[k]? = some x → w.cell? ⟨b, off + k, none⟩ = some (.int .i64 x)) := fun k x hk => by
    obtain ⟨b', off', e, -, c⟩ := h.at hk
    injection e with e
    injection e with e1 e2
    subst e1 e2
    exact c
  clear h
  obtain ⟨x, hx⟩ : ∃ x, ls[0]? = some x := ⟨_, List.getElem?_eq_getElem (by have := HL.out; omega)⟩
  have d0 := CE.out 0 x hx
  simp only [Nat.add_zero] at d0
  have hi0 : (0 : Int) < n := by omega
  have hi1 : ¬ ((n : Int) < 1) := by omega
  have S0 : Hid (x ∈ ls ∧ ∀ y ∈ ls.take 1, y ≤ x) := ⟨List.mem_of_getElem? hx, fun y hy => by
    obtain ⟨j, hj⟩ := List.getElem?_of_mem hy
    have hl := (List.getElem?_eq_some_iff.1 hj).1
    rw [List.length_take] at hl
    have : j = 0 := by omega
    subst this
    rw [List.getElem?_take_of_lt (by omega), hx] at hj
    cases hj
    exact Int.le_refl _⟩
  clear hx
  go_enter Tryz.func80, Tryz.ntmps80
  go_wp2_with fail
  go_loop [3, 4] (fun mv iv => ∃ (k : Nat) (x : Int), 1 ≤ k ∧ k ≤ n ∧ iv = .int .i64 k ∧ mv = .int .i64 x ∧ Hid (x ∈ ls ∧ ∀ y ∈ ls.take k, y ≤ x)) (fun _ iv => n - (intOf iv).toNat)
  case atStart => exact ⟨1, x, Nat.le_refl _, h0, rfl, rfl, S0⟩
  case round =>
    clear S0 d0
    obtain ⟨k, m, hk1, hk, rfl, rfl, HM⟩ := hrel
    by_cases hlt : (k : Int) < n
    · have hkn : k < ls.length := by have := HL.out; omega
      obtain ⟨v, hv⟩ : ∃ v, ls[k]? = some v := ⟨_, List.getElem?_eq_getElem hkn⟩
      have c0 := CE.out k v hv
      have k0 : (0 : Int) ≤ k := by omega
      have TS : Hid (ls.take (k + 1) = ls.take k ++ [v]) := by
        show _ = _
        rw [List.take_succ_eq_append_getElem hkn, (List.getElem?_eq_some_iff.1 hv).2]
      have HVM : Hid (v ∈ ls) := List.mem_of_getElem? hv
      have NX : Hid ((if m < v then v else m) ∈ ls ∧ ∀ y ∈ ls.take (k + 1), y ≤ (if m < v then v else m)) := by
        by_cases hmv : m < v
        · rw [if_pos hmv]
          refine ⟨HVM.out, fun y hy => ?_⟩
          rw [TS.out] at hy
          rcases List.mem_append.1 hy with hy | hy
          · have := HM.out.2 y hy; omega
          · simp at hy; omega
        · rw [if_neg hmv]
          refine ⟨HM.out.1, fun y hy => ?_⟩
          rw [TS.out] at hy
          rcases List.mem_append.1 hy with hy | hy
          · exact HM.out.2 y hy
          · simp at hy; omega
      clear hv
      go_wp2
      go_round
      case rel => exact ⟨k + 1, _, by omega, by omega, by go_num, rfl, NX⟩
      case measure => simp [intOf]; omega
    · have E : Hid (m ∈ ls ∧ (∀ y ∈ ls, y ≤ m)) := by
        refine ⟨HM.out.1, ?_⟩
        have := HM.out.2
        rw [List.take_of_length_le (by have := HL.out; omega)] at this
        exact this
      go_wp2
      go_ret
      exact ⟨m, rfl, E.out.1, E.out.2, rfl⟩
/-- The numbers of the first k knots are below. -/
def numK (nx : Int) (L : List Kn) (k : Nat) : Prop := ∀ x ∈ L.take k, numB nx x = true
theorem num_max {bs : List Nat} {u : Nat → Bool} {q : Nat → Int} {i : Nat} {x : Kn} {nx m : Int} (hm : m ∈ (lkU bs u q i x).nums) (h : ∀ y ∈ (lkU bs u q i x).nums, y ≤ m) : numB nx x = decide (m < nx) := by
  have e : (lkU bs u q i x).nums = numsOf x := by
    show (lkOf bs i x).nums = _
    unfold lkOf numsOf
    split <;> rfl
  rw [e] at hm h
  unfold numB
  by_cases hmn : m < nx
  · rw [decide_eq_true hmn, List.all_eq_true]
    intro y hy
    have := h y hy
    simp only [decide_eq_true_eq]
    omega
  · rw [decide_eq_false hmn]
    cases hq : (numsOf x).all (fun n => decide (n < nx)) with
    | false => rfl
    | true =>
      have := List.all_eq_true.1 hq m hm
      simp only [decide_eq_true_eq] at this
      exact absurd this hmn
theorem trees_bad {s : Sto} {k : Nat} {x : Kn} (hx : s.kns[k]? = some x) (h : numB s.next x = false) : treesB s = false := by
  unfold treesB
  have : s.kns.all (numB s.next) = false := by
    rw [List.all_eq_false]
    exact ⟨x, List.mem_of_getElem? hx, by rw [h]; decide⟩
  rw [this, Bool.and_false]
set_option maxHeartbeats 1000000 in
set_option maxRecDepth 100000 in
theorem ihasRight (p : Nat) (s : Sto) (w W : World) (hn : s.vols.length ≤ 1048576) (h : OpS w W p s) :
    Calls Tryz.prog 65 #[.pointer (some ⟨p, 0, none⟩)] W fun e w' => e = .returned (.bool (treesB s)) ∧ Below W.heap.size W w' := by
  obtain ⟨ad, len, cap, rs, va, vl, vc, hc, e1, hl, hll, hk, hv, ho, hvl, hkh⟩ := h.open
  obtain ⟨c0, c1, c2, -⟩ := ops_cells hc
  have HO := hide h
  have HP := hide h.lt
  have HE1 := hide e1
  have HLn := hide (show s.kns.length = len by rw [← e1, List.length_map]; exact hk.1)
  have HN := hide hn
  obtain ⟨nx, hnx⟩ : ∃ nx, s.next = nx := ⟨_, rfl⟩
  rw [hnx] at c2
  have HNX := hide hnx
  have C2 := hide c2
  obtain ⟨qs, hqs⟩ : ∃ qs, rootsV s.vols = qs := ⟨_, rfl⟩
  have HQS := hide hqs
  have HQL : Hid (qs.length ≤ 1048576) := by show _ ≤ _; rw [← hqs, rootsV, List.length_map]; exact hn
  have HCL := hide (ilinked ad len cap rs W hl hk)
  rw [e1] at HCL
  have TB : Hid (treesB s = ((swB s.kns qs && decide ((swL s.kns qs).length = s.kns.length)) && s.kns.all (numB nx))) := by show _ = _; rw [treesB, hqs, hnx]
  clear h hc e1 hll hk hv ho hvl hkh c1 c2 hn hnx hqs
  go_enter Tryz.func65, Tryz.ntmps65
  go_wp2_with fail
  refine HCL.out.mono ?_
  rintro e w1 ⟨b1, h1⟩
  have B1 := hide b1
  have O1 := hide (HO.out.below b1)
  have P1 := hide O1.out.lt
  have CR := hide (irootsO p s w w1 HN.out O1.out)
  rw [HQS.out] at CR
  clear b1 HCL c0
  rcases h1 with ⟨hA, v, bs, rfl, hF⟩ | ⟨hA, rfl⟩
  · have HA := hide hA
    obtain ⟨fa, fc, rfl, hpr⟩ := PRow.of (bs := bs) (by rw [hF.2.1]; exact hF.1)
    have HPR := hide hpr
    have HFO := hide hF
    clear hA hF hpr
    have hbl := HFO.out.2.1
    rw [hbl] at HPR ⊢
    rw [HLn.out] at HPR ⊢
    go_wp2_with fail
    refine CR.out.mono ?_
    rintro e w2 ⟨rv, rfl, ro, b2⟩
    have B2 := hide b2
    obtain ⟨ra, rc, rfl, hra, hrow⟩ := ISl.of (Sli.of ro) (by have := HQL.out; unfold maxLen; omega) (Nat.le_refl _)
    have HRO := hide hrow
    obtain ⟨m, hm⟩ : ∃ m, qs.length = m := ⟨_, rfl⟩
    rw [hm] at HRO HQL ⊢
    have HML := hide hm
    clear ro b2 hra hrow hm CR
    go_wp2_with fail
    refine (itreesAt fa len fc bs s.kns ra m rc qs w2 HQL.out (HPR.out.below B2.out) (HFO.out.2.2.1.below B2.out) HRO.out).mono ?_
    rintro e w3 ⟨b3, h3⟩
    have B3 := hide b3
    have B23 := hide (B2.out.trans (b3.mono B2.out.size))
    clear b3
    rcases h3 with ⟨hR, ts, tc, rfl, ot, hT, hfr⟩ | ⟨hR, rfl⟩
    · have TO : Hid (TrsOk s.kns qs) := ⟨HA.out, fun r hr => List.all_eq_true.1 hR r hr⟩
      have HTL : Hid (ts.length = m) := by show _ = _; rw [hT.1]; exact HML.out
      have TBB : Hid (∀ (k t q : Nat), ts[k]? = some t → qs[k]? = some (q : Int) → bs[q]? = some t) := fun k t q h1 h2 => by
        rcases (hT.2 k t _ h1 h2).2 with ⟨e, -⟩ | ⟨q', x, e, hb, -⟩
        · omega
        · have : q = q' := by omega
          rw [this]; exact hb
      have hs1 := B1.out.size
      have hs2 := B2.out.size
      have hs3 := B3.out.size
      have S3 : Hid (SwSt W.heap.size w3 w3 (.slice fa len fc) bs s.kns (.slice (some ⟨w2.heap.size, 0, none⟩) m tc) ts qs (fun _ => false) (fun i => (i : Int))) := by
        refine ⟨?_, ?_, ?_, ?_, Below.refl _ _⟩
        · have := own_below HFO.out.1 B23.out
          rw [hbl, HLn.out] at *
          exact this
        · have := ot
          rw [HML.out] at this
          exact own_lower this (by omega)
        · rw [← lksU_of]
          exact HFO.out.2.2.1.below B23.out
        · intro i t h1 h2
          refine ⟨?_, fun hin => ?_⟩
          · rcases (hT.2 i t _ h1 h2).2 with ⟨-, q⟩ | ⟨q', x, e, -⟩
            · exact q
            · omega
          · have := hfr i t h1 h2
            have := HFO.out.2.2.1.all_lt t hin
            omega
      have HSW := hide (iswept W.heap.size fa len fc bs s.kns (some ⟨w2.heap.size, 0, none⟩) m tc ts qs w3 hl HQL.out HLn.out (by rw [hbl, HLn.out]) HTL.out HML.out (by omega) HA.out TO.out.2 HFO.out.2.2.2.1 HFO.out.2.2.2.2 TBB.out S3.out)
      rw [HML.out]
      clear hR ot hT hfr
      go_wp2_with fail
      refine HSW.out.mono ?_
      rintro e w4 ⟨lv, rfl, ol, s4⟩
      have BW : Hid (Below W.heap.size W w4) := ((B1.out.trans (B23.out.mono hs1))).trans s4.2.2.2.2
      have F4 := hide s4.2.2.1
      obtain ⟨fa', fc', e4, hp4⟩ := PRow.of s4.1
      rw [hbl, HLn.out] at e4 hp4
      injection e4 with e4a e4b e4c
      subst e4a e4c
      have HP4 := hide hp4
      obtain ⟨la, lc, rfl, -⟩ := (Sli.of ol).form
      have hsn := swN_le (swU s.kns qs) s.kns.length
      rw [HLn.out] at hsn
      have SN : Hid ((swL s.kns qs).length = swN (swU s.kns qs) len) := by show _ = _; rw [swL_len, HLn.out]
      rw [HLn.out]
      obtain ⟨sn, hsn2⟩ : ∃ sn, swN (swU s.kns qs) len = sn := ⟨_, rfl⟩
      rw [hsn2] at hsn SN ⊢
      have hc2 := (BW.out.cell (show p < W.heap.size from HP.out)).trans C2.out
      clear s4 ol hp4 e4b hsn2 HSW S3 TBB HTL
      by_cases hlt : (sn : Int) < len
      · have E : Hid (treesB s = false) := by
          show _ = _
          rw [TB.out, SN.out, HLn.out, decide_eq_false (by omega), Bool.and_false, Bool.false_and]
        go_wp2
        go_ret
        exact ⟨by rw [E.out]; rfl, BW.out⟩
      · have E : Hid (treesB s = s.kns.all (numB nx)) := by
          show _ = _
          rw [TB.out, swB_of TO.out, SN.out, HLn.out, decide_eq_true (by omega), Bool.true_and, Bool.true_and]
        have hnl : ¬ (sn < len) := by omega
        have hnd : decide (sn < len) = false := decide_eq_false hnl
        go_wp2_with fail
        go_loopw [41] (fun kv V => ∃ k : Nat, k ≤ len ∧ kv = .int .i64 k ∧ Hid (numK nx s.kns k ∧ Below w4.heap.size w4 V)) (fun kv _ => len - (intOf kv).toNat)
        case atStart => exact ⟨0, Nat.zero_le _, rfl, (fun x hx => by cases hx), Below.refl _ _⟩
        case round =>
          obtain ⟨k, hk, rfl, HKV⟩ := hrel
          have HK := hide HKV.out.1
          have HV := hide HKV.out.2
          clear HKV
          by_cases hlk : (k : Int) < len
          · obtain ⟨x, hx⟩ : ∃ x, s.kns[k]? = some x := ⟨_, List.getElem?_eq_getElem (by have := HLn.out; omega)⟩
            obtain ⟨b, hb, hat⟩ := (F4.out.below HV.out).get (lksU_some (bs := bs) (u := swU s.kns qs) (p := pK (swU s.kns qs) s.kns.length) hx)
            obtain ⟨g, rfl, hg, hcell⟩ := (HP4.out.below HV.out).at hb
            unfold ptr at hcell
            have HX := hide hx
            have k0 : (0 : Int) ≤ k := by omega
            have p2 := (HV.out.cell (show p < w4.heap.size by have := BW.out.size; have := HP.out; omega)).trans hc2
            have HAT := hide hat
            have BD : Hid (Below wr.heap.size wr wr.drew) := (Below.refl _ _).drew
            have IR : Hid (IRow wr.drew (some ⟨b, 2, none⟩) 4 (lkU bs (swU s.kns qs) (pK (swU s.kns qs) s.kns.length) k x).nums) := ⟨hat.2.1, by unfold maxLen; omega, fun _ => ⟨b, 2, rfl, by have := BD.out.size; have := hat.lt; omega, fun i t ht => (HAT.out.blw BD.out).num ht⟩⟩
            have CM := hide (imax b 2 4 4 _ wr.drew (by omega) (by omega) IR.out)
            have KP := hide ((BD.out.cell (World.block_lt_of_cell? wr _ p2)).trans p2)
            clear hx hb hat IR
            go_wp2_with fail
            go_region_held3 (fun w' => w'.cell? ⟨p, 2, none⟩ = some (.int .i64 nx)) (first | exact KP.out | go_keep) ((go_at_call 80; (with_reducible refine Calls.mono CM.out ?_); rintro en w5 ⟨mx, rfl, m1, m2, rfl⟩; have M1 := hide m1; have M2 := hide m2; clear m1 m2))
            have EQ := hide (num_max (nx := nx) M1.out M2.out)
            have HV2 := hide (HV.out.trans (BD.out.mono HV.out.size))
            by_cases hge : nx ≤ mx
            · have E2 : Hid (treesB s = false) := trees_bad HX.out (by rw [HNX.out, EQ.out, decide_eq_false (by omega)])
              have BE := hide (BW.out.trans (HV2.out.mono BW.out.size))
              go_wp2
              go_ret
              exact ⟨by rw [E2.out]; rfl, BE.out⟩
            · have HK2 : Hid (numK nx s.kns (k + 1)) := by
                intro y hy
                obtain ⟨hx1, hx2⟩ := List.getElem?_eq_some_iff.1 HX.out
                rw [List.take_succ_eq_append_getElem hx1, hx2] at hy
                rcases List.mem_append.1 hy with hy | hy
                · exact HK.out y hy
                · simp at hy
                  rw [hy, EQ.out, decide_eq_true (by omega)]
              go_wp2
              go_roundw
              case rel => exact ⟨k + 1, by omega, by go_num, HK2.out, HV2.out⟩
              case measure => simp [intOf]; omega
          · have E2 : Hid (s.kns.all (numB nx) = true) := by
              show _ = _
              rw [List.all_eq_true]
              have := HK.out
              unfold numK at this
              rw [List.take_of_length_le (by have := HLn.out; omega)] at this
              exact this
            have BE := hide (BW.out.trans (HV.out.mono BW.out.size))
            go_wp2
            go_ret
            exact ⟨by rw [E.out, E2.out]; rfl, BE.out⟩
    · have E : Hid (treesB s = false) := by
        show _ = _
        rw [TB.out, swB, hR, Bool.and_false, Bool.false_and, Bool.false_and]
      have BE := hide (B1.out.trans (B23.out.mono B1.out.size))
      clear hR
      go_wp2
      go_ret
      exact ⟨by rw [E.out]; rfl, BE.out⟩
  · have E : Hid (treesB s = false) := by
      show _ = _
      rw [TB.out, swB, hA, Bool.false_and, Bool.false_and, Bool.false_and]
    clear hA
    go_wp2_with fail
    refine CR.out.mono ?_
    rintro e w2 ⟨rv, rfl, ro, b2⟩
    have B2 := hide b2
    obtain ⟨ra, rc, rfl, hra, hrow⟩ := ISl.of (Sli.of ro) (by have := HQL.out; unfold maxLen; omega) (Nat.le_refl _)
    have HRO := hide hrow
    clear ro b2 hra hrow CR
    go_wp2_with fail
    refine (itreesAt none 0 0 [] [] ra qs.length rc qs w2 HQL.out ⟨rfl, by unfold maxLen; omega, fun h => by omega⟩ (FAt.nil _) HRO.out).mono ?_
    rintro e w3 ⟨b3, h3⟩
    have BE := hide (B1.out.trans ((B2.out.trans (b3.mono B2.out.size)).mono B1.out.size))
    obtain ⟨v3, ok3, rfl⟩ : ∃ v ok, e = .returned (.tuple #[v, .bool ok]) := by
      rcases h3 with ⟨-, ts, tc, rfl, -⟩ | ⟨-, rfl⟩
      · exact ⟨_, _, rfl⟩
      · exact ⟨_, _, rfl⟩
    clear b3 h3
    go_wp2
    go_ret
    exact ⟨by rw [E.out]; rfl, BE.out⟩
set_option maxHeartbeats 1000000 in
set_option maxRecDepth 100000 in
theorem istoOk : OkC 44 := by
  rintro v s w ⟨va, vl, vc, ad, len, cap, rs, rfl, hks, hvl, hl, hll, hvc, h, hk⟩
  obtain ⟨vs, kns, nx⟩ := s
  simp only at hks h ⊢
  subst hks
  have BX := hide (sbox_at w (.slice va vl vc) (.slice ad len cap) (.int .i64 nx))
  have B0 : Hid (Below w.heap.size w (w.alloc (.cells #[.slice va vl vc, .slice ad len cap, .int .i64 nx] 36))) := (Below.refl _ _).alloc (Nat.le_refl _) _
  have HV := hide h
  have HVL := hide h.1
  have HK := hide hk
  have HLL := hide hll
  have HVC := hide hvc
  have HZ := hide (show w.heap.size < (w.alloc (.cells #[.slice va vl vc, .slice ad len cap, .int .i64 nx] 36)).heap.size by simp)
  have EQ := hide (stoB_is ⟨vs, rs.map ktell, nx⟩)
  simp only at EQ
  obtain ⟨C, hC⟩ : ∃ C, stoB ⟨vs, rs.map ktell, nx⟩ = C := ⟨_, rfl⟩
  rw [hC] at EQ ⊢
  clear h hk hll hvc hC
  unfold SBox
  go_enter Tryz.func44, Tryz.ntmps44
  go_wp2_with fail
  generalize w.alloc (.cells #[.slice va vl vc, .slice ad len cap, .int .i64 nx] 36) = wb at BX B0 HZ ⊢
  obtain ⟨z, hz⟩ : ∃ z, w.heap.size = z := ⟨_, rfl⟩
  rw [hz] at BX HZ ⊢
  have HZW := hide hz
  clear hz
  have KK : Hid (∀ W, Below wb.heap.size wb W → W.cell? ⟨z, 0, none⟩ = some (.slice va vl vc) ∧ W.cell? ⟨z, 1, none⟩ = some (.slice ad len cap) ∧ W.cell? ⟨z, 2, none⟩ = some (.int .i64 nx)) := fun W H => ⟨(H.cell (show z < wb.heap.size from HZ.out)).trans BX.out.1, (H.cell (show z < wb.heap.size from HZ.out)).trans BX.out.2.1, (H.cell (show z < wb.heap.size from HZ.out)).trans BX.out.2.2⟩
  obtain ⟨x0, x1, x2⟩ := KK.out wb (Below.refl _ _)
  refine (iareVols va vl vc vs wb hvl (HV.out.below B0.out)).mono ?_
  rintro e w1 ⟨rfl, b1⟩
  have B1 := hide b1
  have B01 := hide (B0.out.trans (b1.mono B0.out.size))
  clear x0 x1 x2
  obtain ⟨x0, x1, x2⟩ := KK.out w1 b1
  clear b1
  by_cases hvb : volsB vs = true
  · rw [hvb] at EQ ⊢
    by_cases hin : 1 ≤ nx ∧ nx ≤ 1000000000
    · have EC : Hid (C = treesB ⟨vs, rs.map ktell, nx⟩) := by
        show _ = _
        rw [EQ.out, decide_eq_true hin.1, decide_eq_true hin.2]
        rfl
      have KB := hide (HK.out.below B01.out)
      have VB := hide (HV.out.below B01.out)
      have CO := hide (iopened va vl vc ad len cap nx vs rs w1 hvl (by omega) HLL.out HVC.out VB.out KB.out)
      unfold SBox at CO
      go_wp2_with fail
      refine (iwithin nx 1 1000000000 true _ (.inl ⟨hin.1, hin.2, rfl⟩)).mono ?_
      rintro e w2 ⟨rfl, rfl⟩
      go_wp2_with fail
      refine CO.out.mono ?_
      rintro e w3 ⟨p, rfl, hop⟩
      have HOP := hide hop
      have HB3 := hide hop.1
      clear hop
      go_wp2_with fail
      refine (ihasRight p _ _ w3 (by show vs.length ≤ _; have := HVL.out; omega) HOP.out).mono ?_
      rintro e w4 ⟨rfl, b4⟩
      have BE := hide (B01.out.trans ((HB3.out.trans (b4.mono HB3.out.size)).mono B01.out.size))
      clear b4
      rw [← EC.out]
      go_wp2
      go_ret
      exact ⟨rfl, by rw [HZW.out]; have := BE.out; rw [HZW.out] at this; exact this⟩
    · have EC : Hid (C = false) := by
        show _ = _
        rw [EQ.out]
        have : (decide (1 ≤ nx) && decide (nx ≤ 1000000000)) = false := by
          rw [Bool.and_eq_false_iff, decide_eq_false_iff_not, decide_eq_false_iff_not]
          omega
        rw [this]
        rfl
      go_wp2_with fail
      refine (iwithin nx 1 1000000000 false _ (.inr ⟨by omega, rfl⟩)).mono ?_
      rintro e w2 ⟨rfl, rfl⟩
      go_wp2
      go_ret
      exact ⟨by rw [EC.out]; rfl, by rw [HZW.out]; have := B01.out; rw [HZW.out] at this; exact this⟩
  · have hvf : volsB vs = false := by simpa using hvb
    rw [hvf] at EQ ⊢
    have EC : Hid (C = false) := EQ.out
    go_wp2
    go_ret
    exact ⟨by rw [EC.out]; rfl, by rw [HZW.out]; have := B01.out; rw [HZW.out] at this; exact this⟩
end Go.Proofs.YtcnaahajaaifjacGreat
