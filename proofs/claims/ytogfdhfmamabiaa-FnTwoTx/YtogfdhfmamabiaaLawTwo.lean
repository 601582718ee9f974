/-
  FnTwoTx, of what TxPages, Gather and SinceBase answer.
-/
import Derived.Test.YtogfdhfmamabiaaPk27
namespace Go.Proofs.Ytogfdhfmamabiaa
open Go.RowKit
open Words

set_option maxHeartbeats 4000000 in
set_option maxRecDepth 100000 in
theorem lawTwo_of (ad : Option Addr) (len cap : Nat) (w : World) (hd : CodeIn w ad len w.heap.size) (HI : Hid (TxPagesC 14)) (HG : Hid (GatherC 8)) (HSB : Hid (SinceC 10)) :
    Calls Try.prog 4 #[.slice ad len cap] w fun e w' => e = .returned (.bool true) ∧ Below w.heap.size w w' := by
  have HD := hide hd
  clear hd
  by_cases hbig : (1048576 : Int) < len
  · go_enter Try.func4, Try.ntmps4
    go_wp2_with fail
    refine (big_any ad len cap _).mono ?_
    rintro e w1 ⟨rfl, rfl⟩
    rw [decide_eq_true hbig]
    go_wp2
    go_ret
    exact ⟨rfl, Below.refl _ _⟩
  have hl2 : len ≤ 1048576 := by omega
  have hbd : decide ((1048576 : Int) < len) = false := decide_eq_false hbig
  clear hbig
  go_enter Try.func4, Try.ntmps4
  go_wp2_with fail
  refine (big_any ad len cap _).mono ?_
  rintro e w0 ⟨rfl, hw0⟩
  subst hw0
  rw [hbd]
  clear hbd
  go_wp2_with fail
  refine (many_tk (Tk.start w0) hl2 HD.out).mono ?_
  rintro e w1 ⟨gl, cl, nl, l, rfl, hll, t1, s1⟩
  have T1 := hide t1
  have HL := hide hll
  have HKA := hide (many_ok (n := nl) 1 4 ⟨by omega, by omega⟩ ⟨by omega, by omega⟩ (by omega) hll.1 hll.2.2.1 hll.2.2.2)
  clear t1 hll
  go_wp2_with fail
  refine (recs_tk T1.out hl2 HD.out).mono ?_
  rintro e w2 ⟨gm, cm, nm, m, rfl, hmm, t2, s2⟩
  have T2 := hide t2
  have HM := hide hmm
  have HKB := hide (many_ok (n := nm) 30 5 ⟨by omega, by omega⟩ ⟨by omega, by omega⟩ (by omega) (by omega) hmm.2.2.1 hmm.2.2.2)
  clear t2 hmm T1
  obtain ⟨na, hna⟩ : ∃ n, (txPgs 1 4 l).length = n := ⟨_, rfl⟩
  obtain ⟨nb, hnb⟩ : ∃ n, (txPgs 30 5 m).length = n := ⟨_, rfl⟩
  have na9 : na ≤ 9 := by have := (txPgs_small HKA.out).1; omega
  have nb9 : nb ≤ 9 := by have := (txPgs_small HKB.out).1; omega
  have PAN := hide hna
  have PBN := hide hnb
  clear hna hnb
  go_wp2_with fail
  refine (pages_tk (n := na) HI.out T2.out 1 HKA.out HL.out.2.1 (by have := HL.out.1; omega) rfl (by rw [List.length_map]; exact PAN.out) rfl).mono ?_
  rintro e w3 ⟨pa, ca, rfl, t3, s3⟩
  have T3 := hide t3
  clear t3 T2
  go_wp2_with fail
  refine (pages_tk (n := nb) HI.out T3.out 1 HKB.out HM.out.2.1 (by have := HM.out.1; omega) rfl (by rw [List.length_map]; exact PBN.out) rfl).mono ?_
  rintro e w4 ⟨pb, cb, rfl, t4, s4⟩
  have T4 := hide t4
  clear t4 T3 HI
  have PBS : Hid (Sli 40 w3.heap.size w4.heap.size (.slice pb nb cb) nb (pgcells ((txPgs 30 5 m).map Pg.tu)) w4) := T4.out.get 0 rfl
  have PAS : Hid (Sli 40 w2.heap.size w3.heap.size (.slice pa na ca) na (pgcells ((txPgs 1 4 l).map Pg.tu)) w4) := T4.out.get 1 rfl
  have PBF : Hid (0 < nb → ∃ g, pb = some ⟨g, 0, none⟩ ∧ w3.heap.size ≤ g ∧ g < w4.heap.size) := by
    obtain ⟨q1, q2, e, h⟩ := PBS.out.form
    injection e with e1 e2 e3
    rw [e1]; exact h
  have PAF : Hid (0 < na → ∃ g, pa = some ⟨g, 0, none⟩ ∧ w2.heap.size ≤ g ∧ g < w4.heap.size) := by
    obtain ⟨q1, q2, e, h⟩ := PAS.out.form
    injection e with e1 e2 e3
    rw [e1]
    intro h0
    obtain ⟨g, a1, a2, a3⟩ := h h0
    exact ⟨g, a1, a2, by omega⟩
  have TL : Hid (Tk w0 w4 [(w1.heap.size, w2.heap.size, Sli 34 w1.heap.size w2.heap.size (.slice (some ⟨gm, 0, none⟩) nm cm) nm (rccells (m.map Rc.tu))), (w0.heap.size, w1.heap.size, Sli 34 w0.heap.size w1.heap.size (.slice (some ⟨gl, 0, none⟩) nl cl) nl (rccells (l.map Rc.tu)))]) := T4.out.drop (by
    intro x hx
    simp only [List.mem_cons, List.not_mem_nil, or_false] at hx ⊢
    rcases hx with rfl | rfl
    · exact .inr (.inr (.inl rfl))
    · exact .inr (.inr (.inr rfl)))
  clear T4
  obtain ⟨b0, hb0⟩ : ∃ b0, w4.heap.size = b0 := ⟨_, rfl⟩
  have O0 : Hid (Below b0 w4 (w4.alloc (.cells #[] 42)) ∧ (w4.alloc (.cells #[] 42)).ownsRow b0 42 8 (.slice (some ⟨b0, 0, none⟩) 0 0) ([] : List Fnd).length (fcells [])) := by
    subst hb0
    exact ⟨(Below.refl _ _).alloc (Nat.le_refl _) _, rfl, .inr ⟨w4.heap.size, 0, #[], rfl, Nat.le_refl _, heap_alloc_new w4 _, Nat.le_refl _, by unfold maxLen; omega, rfl, rfl⟩⟩
  have HB0 := hide hb0
  rw [hb0] at PBF PAF
  go_wp2_with fail
  try rw [hb0]
  generalize w4.alloc (.cells #[] 42) = wb at O0 ⊢
  clear hb0
  go_loopw [9, 10] (fun ov jv W => ∃ (j : Nat) (zs : List Fnd), jv = .int .i64 j ∧ j ≤ nb ∧ zs.length ≤ 9 + j ∧ Hid (zs = (((txPgs 30 5 m).take j).map mkF)) ∧ Hid (Below b0 w4 W ∧ W.ownsRow b0 42 8 ov zs.length (fcells zs))) (fun _ jv _ => nb - (intOf jv).toNat)
  case atStart => exact ⟨0, [], rfl, Nat.zero_le _, Nat.zero_le _, rfl, O0⟩
  case round =>
    obtain ⟨j, zs, rfl, hj, hzj, EZ, OZ⟩ := hrel
    by_cases hlt : (j : Int) < nb
    · obtain ⟨g, e, -, hg⟩ := PBF.out (by omega)
      subst e
      obtain ⟨p, hp⟩ : ∃ p, (txPgs 30 5 m)[j]? = some p := ⟨_, List.getElem?_eq_getElem (by have := PBN.out; omega)⟩
      have PC : Hid (∀ i v, (pgcell p.tu)[i]? = some v → wr.cell? ⟨g, j * 6 + i, none⟩ = some v) := by
        intro i v hv
        exact (OZ.out.1.cell (show g < b0 from hg)).trans (PBS.out.flt.cell (pgcells_at _ j p.tu (by rw [List.getElem?_map, hp]; rfl) i v hv))
      have c0 := PC.out 0 _ rfl
      have c1 := PC.out 1 _ rfl
      have c2 := PC.out 2 _ rfl
      have c3 := PC.out 3 _ rfl
      have c4 := PC.out 4 _ rfl
      have c5 := PC.out 5 _ rfl
      simp only [Pg.tu, Nat.add_zero] at c0 c1 c2 c3 c4 c5
      have F2 : Hid (zs ++ [mkF p] = (((txPgs 30 5 m).take (j + 1)).map mkF)) := by
        show _ = _
        rw [EZ.out, List.take_add_one, hp]
        simp
      have j0 : (0 : Int) ≤ j := by omega
      clear hp PC EZ
      have BN : Hid (Below wr.heap.size wr (wr.alloc (.cells #[.int .i64 0, .int .i64 0, .int .i64 p.kind, .int .i64 p.seq, .int .i64 p.tx, .int .i64 p.part, .int .i64 p.count, .string p.text] 42))) := (Below.refl _ _).alloc (Nat.le_refl _) _
      have OW := hide (own_below OZ.out.2 BN.out)
      have H1 := hide (fd_new wr (mkF p) wr.heap.size rfl)
      have H2 := hide (fd_one (mkF p))
      simp only [mkF, fdCells] at H1 H2
      have HSZ := hide (show b0 ≤ (wr.alloc (.cells #[.int .i64 0, .int .i64 0, .int .i64 p.kind, .int .i64 p.seq, .int .i64 p.tx, .int .i64 p.part, .int .i64 p.count, .string p.text] 42)).heap.size by have := OZ.out.1.size; have := HB0.out; have := BN.out.size; omega)
      obtain ⟨i0, hi0, hz0, hz1, hz2⟩ := info_parts infoFound
      have I0 := hide hi0
      have Z0 := hide hz0
      have Z1 := hide hz1
      have Z2 := hide hz2
      clear hi0 hz0 hz1 hz2
      go_wp2_with (at_builtin; refine wpList_append_own _ rfl _ _ 24 rfl b0 42 i0 (.agg #[.int .i64 0, .int .i64 0, .int .i64 0, .int .i64 0, .int .i64 0, .int .i64 0, .int .i64 0, .string ⟨#[]⟩]) 8 72 Try.underlying24 I0.out Z0.out Z1.out Z2.out rfl (by decide) _ _ _ rfl OW.out ⟨wr.heap.size, 0, none⟩ 1 1 [.int .i64 0, .int .i64 0, .int .i64 p.kind, .int .i64 p.seq, .int .i64 p.tx, .int .i64 p.part, .int .i64 p.count, .string p.text] rfl rfl H1.out H2.out ?c1 ?c2 HSZ.out ?_)
      case c1 => unfold maxLen; omega
      case c2 => omega
      intro u' z ho hg2 _
      have ho2 : z.ownsRow b0 42 8 u' (zs ++ [mkF p]).length (fcells (zs ++ [mkF p])) := by
        rw [← fcells_snoc, List.length_append]
        exact ho
      have ON : Hid (Below b0 w4 z ∧ z.ownsRow b0 42 8 u' (zs ++ [mkF p]).length (fcells (zs ++ [mkF p]))) := ⟨(OZ.out.1.trans (BN.out.mono (by have := OZ.out.1.size; have := HB0.out; omega))).grown hg2 (by have := HSZ.out; have := HB0.out; omega) (fun k hk => (OW.out.lt k hk).1), ho2⟩
      have hl3 : (zs ++ [mkF p]).length ≤ 9 + (j + 1) := by simp; omega
      generalize zs ++ [mkF p] = zs2 at ON F2 hl3
      clear ho ho2 hg2 OW H1 H2 HSZ I0 Z0 Z1 Z2 BN OZ c0 c1 c2 c3 c4 c5
      go_wp2
      go_roundw
      case rel => exact ⟨j + 1, zs2, by go_num, by omega, hl3, F2, ON⟩
      case measure => simp [intOf]; omega
    · have hjn : j = (txPgs 30 5 m).length := by have := PBN.out; omega
      have EF : Hid (zs = ((txPgs 30 5 m).map mkF)) := by show _ = _; rw [EZ.out, hjn, List.take_length]
      clear hjn EZ
      -- the pages of the first one
      have OZ1 := OZ
      clear OZ
      generalize hpre : zs = pre at EF OZ1
      have hpl : pre.length ≤ 9 := by have h2 := (txPgs_small HKB.out).1; rw [EF.out, List.length_map]; exact h2
      have EFB := EF
      clear EF hpre hzj
      go_wp2
      clear hlt hj
      go_loopw [9, 11] (fun ov jv W => ∃ (j : Nat) (zs : List Fnd), jv = .int .i64 j ∧ j ≤ na ∧ zs.length ≤ 9 + j ∧ Hid (zs = pre ++ (((txPgs 1 4 l).take j).map mkF)) ∧ Hid (Below b0 w4 W ∧ W.ownsRow b0 42 8 ov zs.length (fcells zs))) (fun _ jv _ => na - (intOf jv).toNat)
      case atStart => exact ⟨0, pre, rfl, Nat.zero_le _, by omega, by show _ = _; simp, OZ1⟩
      case round =>
        obtain ⟨j, zs, rfl, hj, hzj, EZ, OZ⟩ := hrel
        by_cases hlt : (j : Int) < na
        · obtain ⟨g, e, -, hg⟩ := PAF.out (by omega)
          subst e
          obtain ⟨p, hp⟩ : ∃ p, (txPgs 1 4 l)[j]? = some p := ⟨_, List.getElem?_eq_getElem (by have := PAN.out; omega)⟩
          have PC : Hid (∀ i v, (pgcell p.tu)[i]? = some v → wr.cell? ⟨g, j * 6 + i, none⟩ = some v) := by
            intro i v hv
            exact (OZ.out.1.cell (show g < b0 from hg)).trans (PAS.out.flt.cell (pgcells_at _ j p.tu (by rw [List.getElem?_map, hp]; rfl) i v hv))
          have c0 := PC.out 0 _ rfl
          have c1 := PC.out 1 _ rfl
          have c2 := PC.out 2 _ rfl
          have c3 := PC.out 3 _ rfl
          have c4 := PC.out 4 _ rfl
          have c5 := PC.out 5 _ rfl
          simp only [Pg.tu, Nat.add_zero] at c0 c1 c2 c3 c4 c5
          have F2 : Hid (zs ++ [mkF p] = pre ++ (((txPgs 1 4 l).take (j + 1)).map mkF)) := by
            show _ = _
            rw [EZ.out, List.take_add_one, hp]
            simp
          have j0 : (0 : Int) ≤ j := by omega
          clear hp PC EZ
          have BN : Hid (Below wr.heap.size wr (wr.alloc (.cells #[.int .i64 0, .int .i64 0, .int .i64 p.kind, .int .i64 p.seq, .int .i64 p.tx, .int .i64 p.part, .int .i64 p.count, .string p.text] 42))) := (Below.refl _ _).alloc (Nat.le_refl _) _
          have OW := hide (own_below OZ.out.2 BN.out)
          have H1 := hide (fd_new wr (mkF p) wr.heap.size rfl)
          have H2 := hide (fd_one (mkF p))
          simp only [mkF, fdCells] at H1 H2
          have HSZ := hide (show b0 ≤ (wr.alloc (.cells #[.int .i64 0, .int .i64 0, .int .i64 p.kind, .int .i64 p.seq, .int .i64 p.tx, .int .i64 p.part, .int .i64 p.count, .string p.text] 42)).heap.size by have := OZ.out.1.size; have := HB0.out; have := BN.out.size; omega)
          obtain ⟨i0, hi0, hz0, hz1, hz2⟩ := info_parts infoFound
          have I0 := hide hi0
          have Z0 := hide hz0
          have Z1 := hide hz1
          have Z2 := hide hz2
          clear hi0 hz0 hz1 hz2
          go_wp2_with (at_builtin; refine wpList_append_own _ rfl _ _ 24 rfl b0 42 i0 (.agg #[.int .i64 0, .int .i64 0, .int .i64 0, .int .i64 0, .int .i64 0, .int .i64 0, .int .i64 0, .string ⟨#[]⟩]) 8 72 Try.underlying24 I0.out Z0.out Z1.out Z2.out rfl (by decide) _ _ _ rfl OW.out ⟨wr.heap.size, 0, none⟩ 1 1 [.int .i64 0, .int .i64 0, .int .i64 p.kind, .int .i64 p.seq, .int .i64 p.tx, .int .i64 p.part, .int .i64 p.count, .string p.text] rfl rfl H1.out H2.out ?c1 ?c2 HSZ.out ?_)
          case c1 => unfold maxLen; omega
          case c2 => omega
          intro u' z ho hg2 _
          have ho2 : z.ownsRow b0 42 8 u' (zs ++ [mkF p]).length (fcells (zs ++ [mkF p])) := by
            rw [← fcells_snoc, List.length_append]
            exact ho
          have ON : Hid (Below b0 w4 z ∧ z.ownsRow b0 42 8 u' (zs ++ [mkF p]).length (fcells (zs ++ [mkF p]))) := ⟨(OZ.out.1.trans (BN.out.mono (by have := OZ.out.1.size; have := HB0.out; omega))).grown hg2 (by have := HSZ.out; have := HB0.out; omega) (fun k hk => (OW.out.lt k hk).1), ho2⟩
          have hl3 : (zs ++ [mkF p]).length ≤ 9 + (j + 1) := by simp; omega
          generalize zs ++ [mkF p] = zs2 at ON F2 hl3
          clear ho ho2 hg2 OW H1 H2 HSZ I0 Z0 Z1 Z2 BN OZ c0 c1 c2 c3 c4 c5
          go_wp2
          go_roundw
          case rel => exact ⟨j + 1, zs2, by go_num, by omega, hl3, F2, ON⟩
          case measure => simp [intOf]; omega
        · have hjn : j = (txPgs 1 4 l).length := by have := PAN.out; omega
          have EF : Hid (zs = pre ++ ((txPgs 1 4 l).map mkF)) := by show _ = _; rw [EZ.out, hjn, List.take_length]
          clear hjn EZ
          have ZP : Hid (zs.map Fnd.page = txPgs 30 5 m ++ txPgs 1 4 l) := by show _ = _; rw [EF.out, EFB.out, List.map_append, mkF_page, mkF_page]
          have GP : Hid (gatherP (zs.map Fnd.page) = [⟨4, 1, l⟩, ⟨5, 30, m⟩]) := by
            show _ = _
            refine gather_two (by omega) HL.out.2.2.1 HM.out.2.2.1 (fun x => ?_)
            rw [ZP.out, List.mem_append]
            exact Or.comm
          have ZS : Hid (sumF (fun p => p.text.size) (zs.map Fnd.page) ≤ 1048576) := by
            have h1 := txPgs_small HKA.out
            have h2 := txPgs_small HKB.out
            have := sumF_bound (Q := zs.map Fnd.page) (by
              intro p hp
              rw [ZP.out, List.mem_append] at hp
              rcases hp with hp | hp
              · exact h2.2 p hp
              · exact h1.2 p hp)
            rw [ZP.out, List.length_append] at this
            show _ ≤ _
            rw [ZP.out]
            omega
          have hzl : zs.length ≤ 1048576 := by omega
          have TW : Hid (Tk w0 wr [(w1.heap.size, w2.heap.size, Sli 34 w1.heap.size w2.heap.size (.slice (some ⟨gm, 0, none⟩) nm cm) nm (rccells (m.map Rc.tu))), (w0.heap.size, w1.heap.size, Sli 34 w0.heap.size w1.heap.size (.slice (some ⟨gl, 0, none⟩) nl cl) nl (rccells (l.map Rc.tu)))]) := (TL.out).below (by rw [HB0.out]; exact OZ.out.1)
          obtain ⟨fa, fc, hfo, -⟩ := (Sli.of OZ.out.2).form
          subst hfo
          have FR := hide ((Sli.of OZ.out.2).fdrd rfl (by unfold maxLen; omega) (Nat.le_refl _))
          obtain ⟨nz, hnz⟩ : ∃ nz, zs.length = nz := ⟨_, rfl⟩
          have CG := hide (HG.out fa zs.length fc zs wr hzl ZS.out FR.out)
          rw [hnz] at CG ⊢
          clear OZ EF ZP FR hnz
          go_wp2_with fail
          refine CG.out.mono ?_
          rintro e w7 hto
          rw [GP.out] at hto
          obtain ⟨ta, tc, rs, rfl, hrl, hrt, hxo, b7⟩ := hto.rows (n := 2) rfl
          have T7 := hide (TW.out.below b7)
          have XO := hide hxo
          match rs, hrl, hrt, XO with
          | [r0, r1], _, hrt, XO =>
            obtain ⟨ga, hta⟩ : ∃ ga, ta = some ⟨ga, 0, none⟩ := by
              rcases XO.out.1.2 with ⟨e, h0⟩ | ⟨g, cap, cur, e, -⟩
              · cases h0
              · injection e with e1; exact ⟨g, e1⟩
            subst hta
            simp only [List.map_cons, List.map_nil, List.cons.injEq, and_true] at hrt
            obtain ⟨hr0, hr1⟩ := hrt
            obtain ⟨x0, y0, v0, ls0⟩ := r0
            obtain ⟨x1, y1, v1, ls1⟩ := r1
            simp only [xtell, TxR.tu, Prod.mk.injEq] at hr0 hr1
            obtain ⟨rfl, rfl, rfl⟩ := hr0
            obtain ⟨rfl, rfl, rfl⟩ := hr1
            have SA := (XO.out.2.1 (4, 1, v0, l.map Rc.tu) (by simp)).1
            have SB := (XO.out.2.1 (5, 30, v1, m.map Rc.tu) (by simp)).1
            simp only [List.length_map] at SA SB
            rw [HL.out.2.1] at SA
            rw [HM.out.2.1] at SB
            obtain ⟨a0, s0, rfl, -⟩ := SA.form
            obtain ⟨a1, s1, rfl, -⟩ := SB.form
            have KC : Hid (∀ W, Below w7.heap.size w7 W → W.cell? ⟨ga, 0, none⟩ = some (.int .i64 4) ∧ W.cell? ⟨ga, 2, none⟩ = some (.slice a0 nl s0) ∧ W.cell? ⟨ga, 3, none⟩ = some (.int .i64 5) ∧ W.cell? ⟨ga, 5, none⟩ = some (.slice a1 nm s1)) := by
              intro W hW
              have O := own_below XO.out.1 hW
              have hc := fun j v hj => O.cells (g := ga) rfl j v hj
              simp only [addr_at] at hc
              exact ⟨hc 0 _ rfl, hc 2 _ rfl, hc 3 _ rfl, hc 5 _ rfl⟩
            have SA7 := hide SA
            have SB7 := hide SB
            obtain ⟨c0, c2, c3, c5⟩ := KC.out w7 (Below.refl _ _)
            clear SA SB hxo b7 CG
            go_wp2_with fail
            refine (same_tkR T7.out (by rw [List.length_map]; exact HL.out.2.1) (by have := HL.out.1; omega) SA7.out (T7.out.get 1 rfl)).mono ?_
            rintro e w8 ⟨rfl, t8, b8⟩
            have T8 := hide t8
            have B8 := hide b8
            clear t8 b8 c0 c2 c3 c5
            obtain ⟨c0, c2, c3, c5⟩ := KC.out w8 B8.out
            go_wp2_with fail
            refine (same_tkR T8.out (by rw [List.length_map]; exact HM.out.2.1) (by have := HM.out.1; omega) (SB7.out.blw B8.out) (T8.out.get 0 rfl)).mono ?_
            rintro e w9 ⟨rfl, t9, b9⟩
            have T9 := hide t9
            have XR := hide ((XO.out.below (B8.out.trans (b9.mono B8.out.size))).txs.rd rfl (Nat.le_refl _))
            clear t9 b9 c0 c2 c3 c5
            have CS := hide (HSB.out (some ⟨ga, 0, none⟩) 2 tc _ [⟨4, 1, l⟩, ⟨5, 30, m⟩] w9 (by omega) XO.out.cap (by
              intro r hr
              simp only [List.mem_cons, List.not_mem_nil, or_false] at hr
              rcases hr with rfl | rfl
              · simp only [List.length_map]; have := HL.out; omega
              · simp only [List.length_map]; have := HM.out; omega) rfl XR.out)
            go_wp2_with fail
            refine CS.out.mono ?_
            rintro e w10 hto2
            obtain ⟨n2, hn2⟩ : ∃ n2, (sinceP [⟨4, 1, l⟩, ⟨5, 30, m⟩]).length = n2 := ⟨_, rfl⟩
            have hn22 : n2 ≤ 2 := by rw [← hn2, sinceP, List.length_drop]; simp
            obtain ⟨ua, uc, rs2, rfl, -, -, -, b10⟩ := hto2.rows hn2
            have HF := hide (T9.out.1.trans (b10.mono T9.out.1.size))
            have hn23 : (n2 : Int) ≤ 2 := by omega
            clear hto2 b10 CS hn2
            go_wp2
            go_ret
            exact ⟨rfl, HF.out⟩
end Go.Proofs.Ytogfdhfmamabiaa
