/-
  FnTransactions, of what TxPages and Gather answer.
-/
import Derived.Test.YtcjgjkejhkhknaaPq62
import Derived.Test.YtcjgjkejhkhknaaSTxP
import Derived.Test.YtcjgjkejhkhknaaPq120
import Derived.Test.YtcjgjkejhkhknaaDPl
import Derived.Test.YtcjgjkejhkhknaaPq50
import Derived.Deep.DeepCutAuto
namespace Go.Proofs.Ytcjgjkejhkhknaa
open Go.RowKit
open Words

/-- Twelve numbers in a block. -/
def Plc (g : Nat) (l : List Int) : World → Prop := fun W => ∀ j x, l[j]? = some x → W.cell? ⟨g, j, none⟩ = some (.int .i64 x)
theorem Plc.loc {lo hi g : Nat} (l : List Int) (h1 : lo ≤ g) (h2 : g < hi) : Loc lo hi (Plc g l) := fun _ _ hk h j x hx => (World.cell?_of_block (hk g h1 h2)).trans (h j x hx)
theorem plc_tk {w wi : World} {hs : List Hold} {ad : Option Addr} {len cap : Nat} (T : Tk w wi hs) (hl : len ≤ 1048576) (hd : CodeIn w ad len w.heap.size) :
    Calls Try.prog 10 #[.slice ad len cap] wi fun e w' => ∃ (g cp : Nat) (q0 q1 : Nat) (l : List Int), e = .returned (.slice (some ⟨g, 0, none⟩) 12 cp) ∧ (wi.heap.size ≤ g ∧ g < w'.heap.size) ∧ (q0 < 10000 ∧ q1 < 10000) ∧ (l[0]? = some (q0 : Int) ∧ l[1]? = some (q1 : Int)) ∧ Tk w w' ((wi.heap.size, w'.heap.size, Plc g l) :: hs) ∧ wi.heap.size ≤ w'.heap.size := by
  refine (places_any ad len cap wi hl (code_onR hd T.1)).mono ?_
  rintro e w' ⟨g, cp, l, rfl, h1, h2, h3, h4, h5, hb⟩
  have e0 : l[0]? = some l[0] := List.getElem?_eq_getElem (by omega)
  have e1 : l[1]? = some l[1] := List.getElem?_eq_getElem (by omega)
  have b0 := h4 l[0] (List.getElem_mem _)
  have b1 := h4 l[1] (List.getElem_mem _)
  refine ⟨g, cp, l[0].toNat, l[1].toNat, l, rfl, ⟨h1, h2⟩, ⟨by omega, by omega⟩, ⟨by rw [e0]; congr 1; omega, by rw [e1]; congr 1; omega⟩, T.add hb (Plc.loc l h1 h2) ?_, hb.size⟩
  intro j x hx
  obtain ⟨hj, ex⟩ := List.getElem?_eq_some_iff.1 hx
  rw [← ex]
  exact h5 j hj

theorem txPgs_right {seq tx : Int} {l : List Rc} (h : TxOk seq tx l) : ∀ p ∈ txPgs seq tx l, p.Right ∧ p.tx = tx := by
  intro p hp
  obtain ⟨i, hi⟩ := List.mem_iff_getElem?.1 hp
  have hil := (List.getElem?_eq_some_iff.1 hi).1
  rw [txPgs_len] at hil
  have hs := (txPgs_small h).2 p hp
  obtain ⟨g, hg, rfl⟩ := txPgs_at hi
  obtain ⟨h1, h2, h3, h4, h5, h6⟩ := h
  refine ⟨⟨.inr ⟨rfl, ?_, ?_, ?_, ?_⟩, ?_, ?_, h5, h6, ?_⟩, rfl⟩
  · show (1 : Int) ≤ (((pkG l).length : Nat) : Int); omega
  · show (((pkG l).length : Nat) : Int) ≤ 9; omega
  · show (0 : Int) ≤ ((i : Nat) : Int); omega
  · show ((i : Nat) : Int) < (((pkG l).length : Nat) : Int); omega
  · show 1 ≤ seq + (i : Int); omega
  · show seq + (i : Int) ≤ 1000000000; omega
  · have : (pgTx seq tx (pkG l).length i g).text.size ≤ 90 := hs
    omega

set_option maxHeartbeats 4000000 in
set_option maxRecDepth 100000 in
theorem lawTr_of (ad : Option Addr) (len cap : Nat) (w : World) (hd : CodeIn w ad len w.heap.size) (HI : Hid (TxPagesC 33)) (HG : Hid (GatherC 28)) :
    Calls Try.prog 7 #[.slice ad len cap] w fun e w' => e = .returned (.bool true) ∧ Below w.heap.size w w' := by
  have HD := hide hd
  clear hd
  by_cases hbig : (1048576 : Int) < len
  · go_enter Try.func7, Try.ntmps7
    go_wp2_with fail
    refine (big_any ad len cap _).mono ?_
    rintro e w1 ⟨rfl, rfl⟩
    rw [decide_eq_true hbig]
    go_wp2
    go_ret
    exact ⟨rfl, Below.refl _ _⟩
  have hl2 : len ≤ 1048576 := by omega
  have hbd : decide ((1048576 : Int) < len) = false := decide_eq_false hbig
  clear hbig
  go_enter Try.func7, Try.ntmps7
  go_wp2_with fail
  refine (big_any ad len cap _).mono ?_
  rintro e w0 ⟨rfl, hw0⟩
  subst hw0
  rw [hbd]
  clear hbd
  go_wp2_with fail
  refine (many_tk (Tk.start w0) hl2 HD.out).mono ?_
  rintro e w1 ⟨gl, cl, nl, l, rfl, hll, t1, s1⟩
  have T1 := hide t1
  have HL := hide hll
  have HK := hide (many_ok (n := nl) 7 3 ⟨by omega, by omega⟩ ⟨by omega, by omega⟩ (by omega) hll.1 hll.2.2.1 hll.2.2.2)
  clear t1 hll
  go_wp2_with fail
  refine (plc_tk T1.out hl2 HD.out).mono ?_
  rintro e w2 ⟨pg, pcp, q0, q1, pl, rfl, hpg, ⟨hq0, hq1⟩, hpl, t2, s2⟩
  have T2 := hide t2
  have HPL := hide hpl
  clear t2 hpl T1
  obtain ⟨n, hn⟩ : ∃ n, (txPgs 7 3 l).length = n := ⟨_, rfl⟩
  have n9 : n ≤ 9 := by have := (txPgs_small HK.out).1; omega
  have n0 : 0 < n := by rw [← hn, txPgs_len]; exact pkG_pos l
  have HN := hide hn
  clear hn
  go_wp2_with fail
  refine (pages_tk (n := n) HI.out T2.out 1 HK.out HL.out.2.1 (by have := HL.out.1; omega) rfl (by rw [List.length_map]; exact HN.out) rfl).mono ?_
  rintro e w3 ⟨pa, ca, rfl, t3, s3⟩
  have T3 := hide t3
  clear t3 T2 HI
  go_wp2_with fail
  refine (pages_tk (n := n) (fun seq tx ad len cap l w h1 h2 => stxPages seq tx ad len cap l w (Nat.le_trans h1 (by decide)) h2) T3.out 2 HK.out HL.out.2.1 (by have := HL.out.1; omega) rfl (by rw [List.length_map]; exact HN.out) rfl).mono ?_
  rintro e w4 ⟨pb, cb, rfl, t4, s4⟩
  have T4 := hide (t4.drop (hs' := [(w2.heap.size, w3.heap.size, Sli 69 w2.heap.size w3.heap.size (.slice pa n ca) n (pgcells ((txPgs 7 3 l).map Pg.tu))), (w1.heap.size, w2.heap.size, Plc pg pl), (w0.heap.size, w1.heap.size, Sli 63 w0.heap.size w1.heap.size (.slice (some ⟨gl, 0, none⟩) nl cl) nl (rccells (l.map Rc.tu)))]) (by
    intro x hx
    simp only [List.mem_cons, List.not_mem_nil, or_false] at hx ⊢
    exact .inr hx))
  clear t4 T3
  have PSx : Hid (Sli 69 w2.heap.size w3.heap.size (.slice pa n ca) n (pgcells ((txPgs 7 3 l).map Pg.tu)) w4) := T4.out.get 0 rfl
  obtain ⟨gp, hpa, hgp⟩ : ∃ g, pa = some ⟨g, 0, none⟩ ∧ g < w4.heap.size := by
    obtain ⟨x1, x2, e, h⟩ := PSx.out.form
    injection e with e1 e2 e3
    obtain ⟨g, a1, a2, a3⟩ := h n0
    exact ⟨g, by rw [e1, a1], by omega⟩
  subst hpa
  have nn : ((n : Int) != n) = false := by simp
  obtain ⟨b0, hb0⟩ : ∃ b0, w4.heap.size = b0 := ⟨_, rfl⟩
  have hpgb : pg < b0 := by omega
  have O0 : Hid (Below b0 w4 (w4.alloc (.cells #[] 72)) ∧ (w4.alloc (.cells #[] 72)).ownsRow b0 72 8 (.slice (some ⟨b0, 0, none⟩) 0 0) ([] : List Fnd).length (fcells [])) := by
    subst hb0
    exact ⟨(Below.refl _ _).alloc (Nat.le_refl _) _, rfl, .inr ⟨w4.heap.size, 0, #[], rfl, Nat.le_refl _, heap_alloc_new w4 _, Nat.le_refl _, by unfold maxLen; omega, rfl, rfl⟩⟩
  have HB0 := hide hb0
  rw [hb0] at hgp
  go_wp2_with fail
  try rw [hb0]
  generalize w4.alloc (.cells #[] 72) = wb at O0 ⊢
  clear hb0
  have QC : Hid (∀ W, Below b0 w4 W → W.cell? ⟨pg, 0, none⟩ = some (.int .i64 (q0 : Int)) ∧ W.cell? ⟨pg, 1, none⟩ = some (.int .i64 (q1 : Int))) := by
    intro W hW
    have h := T4.out.get 1 rfl
    exact ⟨(hW.cell (show pg < b0 from hpgb)).trans (h 0 _ HPL.out.1), (hW.cell (show pg < b0 from hpgb)).trans (h 1 _ HPL.out.2)⟩
  go_loopw [9, 10] (fun ov jv W => ∃ (j : Nat) (zs : List Fnd), jv = .int .i64 j ∧ j ≤ n ∧ Hid (zs.length = j ∧ zs = (rotL (txPgs 7 3 l) q0 j).map mkF) ∧ Hid (Below b0 w4 W ∧ W.ownsRow b0 72 8 ov zs.length (fcells zs))) (fun _ jv _ => n - (intOf jv).toNat)
  case atStart => exact ⟨0, [], rfl, Nat.zero_le _, ⟨rfl, rfl⟩, O0⟩
  case round =>
    obtain ⟨j, zs, rfl, hj, EZ, OZ⟩ := hrel
    obtain ⟨y0, y1⟩ := QC.out wr OZ.out.1
    by_cases hlt : (j : Int) < n
    · have hx0 : (j + q0) % (txPgs 7 3 l).length < (txPgs 7 3 l).length := Nat.mod_lt _ (by rw [HN.out]; exact n0)
      obtain ⟨p, hp⟩ : ∃ p, (txPgs 7 3 l)[(j + q0) % (txPgs 7 3 l).length]? = some p := ⟨_, List.getElem?_eq_getElem hx0⟩
      have hrot := rotL_succ hp
      rw [HN.out] at hp hx0
      obtain ⟨x, hx⟩ : ∃ x, (j + q0) % n = x := ⟨_, rfl⟩
      rw [hx] at hp hx0
      have PC : Hid (∀ i v, (pgcell p.tu)[i]? = some v → wr.cell? ⟨gp, x * 6 + i, none⟩ = some v) := by
        intro i v hv
        exact (OZ.out.1.cell (show gp < b0 from hgp)).trans (PSx.out.flt.cell (pgcells_at _ x p.tu (by rw [List.getElem?_map, hp]; rfl) i v hv))
      have c0 := PC.out 0 _ rfl
      have c1 := PC.out 1 _ rfl
      have c2 := PC.out 2 _ rfl
      have c3 := PC.out 3 _ rfl
      have c4 := PC.out 4 _ rfl
      have c5 := PC.out 5 _ rfl
      simp only [Pg.tu, Nat.add_zero] at c0 c1 c2 c3 c4 c5
      obtain ⟨hpr, hpt⟩ := txPgs_right HK.out p (List.mem_of_getElem? hp)
      have CP := hide (spageOk p)
      unfold pgVal at CP
      rw [dcY hpr] at CP
      have F2 : Hid ((zs ++ [mkF p]).length = j + 1 ∧ zs ++ [mkF p] = (rotL (txPgs 7 3 l) q0 (j + 1)).map mkF) := by
        refine ⟨by simp [EZ.out.1], ?_⟩
        rw [hrot, List.map_append, ← EZ.out.2]
        rfl
      have j0 : (0 : Int) ≤ j := by omega
      have em : ((j : Int) + (q0 : Int)).tmod (n : Int) = (x : Int) := by
        rw [← hx]
        rw [show (j : Int) + (q0 : Int) = ((j + q0 : Nat) : Int) by omega]
        rfl
      have em2 : ((j : Int) + (q0 : Int)) % (n : Int) = (x : Int) := by
        rw [← hx, show (j : Int) + (q0 : Int) = ((j + q0 : Nat) : Int) by omega]
        rfl
      have xi0 : (0 : Int) ≤ x := by omega
      have xin : (x : Int) < n := by omega
      have nz : ¬ ((n : Int) = 0) := by omega
      have tx3 : (p.tx != 3) = false := by rw [hpt]; rfl
      have hzj : zs.length = j := EZ.out.1
      clear hp hx PC EZ hrot hpr hpt
      have BP : Hid (Below wr.heap.size wr (wr.alloc (.cells #[.int .i64 p.kind, .int .i64 p.seq, .int .i64 p.tx, .int .i64 p.part, .int .i64 p.count, .string p.text] 69))) := (Below.refl _ _).alloc (Nat.le_refl _) _
      have BPc := hide (heap_alloc_new wr (.cells #[.int .i64 p.kind, .int .i64 p.seq, .int .i64 p.tx, .int .i64 p.part, .int .i64 p.count, .string p.text] 69))
      obtain ⟨xb, hxb⟩ : ∃ xb, wr.heap.size = xb := ⟨_, rfl⟩
      rw [hxb] at BPc
      go_wp2_with fail
      generalize wr.alloc (.cells #[.int .i64 p.kind, .int .i64 p.seq, .int .i64 p.tx, .int .i64 p.part, .int .i64 p.count, .string p.text] 69) = w5 at BP BPc ⊢
      try rw [hxb]
      refine (CP.out _).mono ?_
      rintro e w6 ⟨rfl, b6⟩
      have R6 := hide ((b6.block _ (Array.getElem?_eq_some_iff.1 BPc.out).1).trans BPc.out)
      have OD : Hid (Below b0 w4 w6 ∧ w6.ownsRow b0 72 8 u9 zs.length (fcells zs)) := by
        have hb1 : b0 ≤ wr.heap.size := by have := OZ.out.1.size; have := HB0.out; omega
        have hb2 : b0 ≤ w5.heap.size := by have := BP.out.size; omega
        exact ⟨(OZ.out.1.trans (BP.out.mono hb1)).trans (b6.mono hb2), own_below (own_below OZ.out.2 BP.out) b6⟩
      have d0 := cell_of_row _ _ 0 _ _ _ R6.out
      have d1 := cell_of_row _ _ 1 _ _ _ R6.out
      have d2 := cell_of_row _ _ 2 _ _ _ R6.out
      have d3 := cell_of_row _ _ 3 _ _ _ R6.out
      have d4 := cell_of_row _ _ 4 _ _ _ R6.out
      have d5 := cell_of_row _ _ 5 _ _ _ R6.out
      clear b6 BP BPc OZ CP c0 c1 c2 c3 c4 c5 y0 y1 hxb
      have BN : Hid (Below w6.heap.size w6 (w6.alloc (.cells #[.int .i64 0, .int .i64 0, .int .i64 p.kind, .int .i64 p.seq, .int .i64 p.tx, .int .i64 p.part, .int .i64 p.count, .string p.text] 72))) := (Below.refl _ _).alloc (Nat.le_refl _) _
      have OW := hide (own_below OD.out.2 BN.out)
      have H1 := hide (fd_new w6 (mkF p) w6.heap.size rfl)
      have H2 := hide (fd_one (mkF p))
      simp only [mkF, fdCells] at H1 H2
      have HSZ := hide (show b0 ≤ (w6.alloc (.cells #[.int .i64 0, .int .i64 0, .int .i64 p.kind, .int .i64 p.seq, .int .i64 p.tx, .int .i64 p.part, .int .i64 p.count, .string p.text] 72)).heap.size by have := OD.out.1.size; have := HB0.out; have := BN.out.size; omega)
      obtain ⟨i0, hi0, hz0, hz1, hz2⟩ := info_parts infoFound
      have I0 := hide hi0
      have Z0 := hide hz0
      have Z1 := hide hz1
      have Z2 := hide hz2
      clear hi0 hz0 hz1 hz2
      go_wp2_with (at_builtin; refine wpList_append_own _ rfl _ _ 53 rfl b0 72 i0 (.agg #[.int .i64 0, .int .i64 0, .int .i64 0, .int .i64 0, .int .i64 0, .int .i64 0, .int .i64 0, .string ⟨#[]⟩]) 8 72 Try.underlying53 I0.out Z0.out Z1.out Z2.out rfl (by decide) _ _ _ rfl OW.out ⟨w6.heap.size, 0, none⟩ 1 1 [.int .i64 0, .int .i64 0, .int .i64 p.kind, .int .i64 p.seq, .int .i64 p.tx, .int .i64 p.part, .int .i64 p.count, .string p.text] rfl rfl H1.out H2.out ?c1 ?c2 HSZ.out ?_)
      case c1 => unfold maxLen; omega
      case c2 => omega
      intro u' z ho hg2 _
      have ho2 : z.ownsRow b0 72 8 u' (zs ++ [mkF p]).length (fcells (zs ++ [mkF p])) := by
        rw [← fcells_snoc, List.length_append, hzj]
        exact ho
      have ON : Hid (Below b0 w4 z ∧ z.ownsRow b0 72 8 u' (zs ++ [mkF p]).length (fcells (zs ++ [mkF p]))) := ⟨(OD.out.1.trans (BN.out.mono (by have := OD.out.1.size; have := HB0.out; omega))).grown hg2 (by have := HSZ.out; have := HB0.out; omega) (fun k hk => (OW.out.lt k hk).1), ho2⟩
      generalize zs ++ [mkF p] = zs2 at ON F2
      clear ho ho2 hg2 OW H1 H2 HSZ I0 Z0 Z1 Z2 BN OD d0 d1 d2 d3 d4 d5 R6
      go_wp2
      go_roundw
      case rel => exact ⟨j + 1, zs2, by go_num, by omega, F2, ON⟩
      case measure => simp [intOf]; omega
    · have hjn : j = n := by omega
      subst hjn
      have EF : Hid (zs.map Fnd.page = rotL (txPgs 7 3 l) q0 (txPgs 7 3 l).length) := by show _ = _; rw [EZ.out.2, mkF_page, HN.out]
      have hzl : zs.length = j := EZ.out.1
      have ZA : Hid (∀ p ∈ zs.map Fnd.page, p.text.size ≤ 90) := by
        intro p hp
        rw [EF.out] at hp
        exact rot_all (P := fun p => p.text.size ≤ 90) (txPgs_small HK.out).2 p hp
      have ZS : Hid (sumF (fun p => p.text.size) (zs.map Fnd.page) ≤ 1048576) := by
        have := sumF_bound ZA.out
        rw [List.length_map, hzl] at this
        show _ ≤ _
        omega
      have hOZ := OZ.out.2
      rw [hzl] at hOZ
      obtain ⟨fg, fc, hfo, hfb, hfw⟩ := hOZ.form n0
      subst hfo
      have hfc : j ≤ fc := by
        rcases hOZ.2 with ⟨e, -⟩ | ⟨g', c', cu', e, -, -, h5, -⟩
        · cases e
        · injection e with e1 e2 e3; omega
      have OF : Hid (Below b0 w4 wr ∧ wr.ownsRow b0 72 8 (.slice (some ⟨fg, 0, none⟩) j fc) j (fcells zs)) := ⟨OZ.out.1, hOZ⟩
      clear hOZ OZ y0 y1
      have FR := hide ((Sli.of OF.out.2).fdrd hzl (by unfold maxLen; omega) (Nat.le_refl _))
      have CG := hide (HG.out (some ⟨fg, 0, none⟩) j fc zs wr (by omega) ZS.out FR.out)
      go_wp2_with fail
      refine CG.out.mono ?_
      rintro e w7 hto
      rw [EF.out, gather_rot HL.out.2.2.1] at hto
      obtain ⟨ta, tc, rs, rfl, hrl, hrt, hxo, b7⟩ := hto.rows (n := 1) rfl
      have XO := hide hxo
      have OF7 : Hid (Below b0 w4 w7 ∧ w7.ownsRow b0 72 8 (.slice (some ⟨fg, 0, none⟩) j fc) j (fcells zs)) := ⟨OF.out.1.trans (b7.mono (by have := OF.out.1.size; have := HB0.out; omega)), own_below OF.out.2 b7⟩
      have XO7 : Hid (∃ (ga s0 : Nat) (a0 : Option Addr), ta = some ⟨ga, 0, none⟩ ∧ (∀ W, Below w7.heap.size w7 W → W.cell? ⟨ga, 0, none⟩ = some (.int .i64 3) ∧ W.cell? ⟨ga, 1, none⟩ = some (.int .i64 7) ∧ W.cell? ⟨ga, 2, none⟩ = some (.slice a0 nl s0)) ∧ Sli 63 wr.heap.size w7.heap.size (.slice a0 nl s0) nl (rccells (l.map Rc.tu)) w7) := by
        match rs, hrl, hrt, XO with
        | [r0], _, hrt, XO =>
          obtain ⟨ga, hta⟩ : ∃ ga, ta = some ⟨ga, 0, none⟩ := by
            rcases XO.out.1.2 with ⟨e, h0⟩ | ⟨g, cap, cur, e, -⟩
            · cases h0
            · injection e with e1; exact ⟨g, e1⟩
          subst hta
          simp only [List.map_cons, List.map_nil, List.cons.injEq, and_true] at hrt
          obtain ⟨x0, y0, v0, ls0⟩ := r0
          simp only [xtell, TxR.tu, Prod.mk.injEq] at hrt
          obtain ⟨rfl, rfl, rfl⟩ := hrt
          have SA := (XO.out.2.1 (3, 7, v0, l.map Rc.tu) (by simp)).1
          simp only [List.length_map] at SA
          rw [HL.out.2.1] at SA
          obtain ⟨a0, s0, rfl, -⟩ := SA.form
          refine ⟨ga, s0, a0, rfl, ?_, SA⟩
          intro W hW
          have O := own_below XO.out.1 hW
          have hc := fun j v hj => O.cells (g := ga) rfl j v hj
          simp only [addr_at] at hc
          exact ⟨hc 0 _ rfl, hc 1 _ rfl, hc 2 _ rfl⟩
      obtain ⟨ga, s0, a0, hta, KC, SA7⟩ := XO7.out
      subst hta
      have KC := hide KC
      have SA7 := hide SA7
      clear hxo hto b7 CG FR OF hrt hrl XO XO7
      obtain ⟨y0, y1⟩ := QC.out w7 OF7.out.1
      -- what is left out
      obtain ⟨mo, hmo⟩ : ∃ mo, q1 % j = mo := ⟨_, rfl⟩
      have hmj : mo < j := by rw [← hmo]; exact Nat.mod_lt _ n0
      have em : (q1 : Int).tmod (j : Int) = (mo : Int) := by rw [← hmo]; rfl
      have em2 : (q1 : Int) % (j : Int) = (mo : Int) := by rw [← hmo]; rfl
      have nz : ¬ ((j : Int) = 0) := by omega
      have TR := ftake_run (some ⟨fg, 0, none⟩) j fc mo
      have DR := fdrop_run fg 0 j fc (mo + 1)
      have TR' : ∀ W : World, (Instr.slice 53 (.slice (some ⟨fg, 0, none⟩) j fc) none (some (.int .i64 (mo : Int))) none).run Try.prog W = .ok (.slice (some ⟨fg, 0, none⟩) mo fc) W := fun W => TR W (by omega)
      have DR' : ∀ W : World, (Instr.slice 53 (.slice (some ⟨fg, 0, none⟩) j fc) (some (.int .i64 ((mo : Int) + 1))) none none).run Try.prog W = .ok (.slice (if fc = mo + 1 then some ⟨fg, 0, none⟩ else some ⟨fg, 0 + (mo + 1) * 8, none⟩) (j - (mo + 1)) (fc - (mo + 1))) W := fun W => DR W (by omega)
      obtain ⟨da, hda⟩ : ∃ da : Addr, (if fc = mo + 1 then some (⟨fg, 0, none⟩ : Addr) else some ⟨fg, 0 + (mo + 1) * 8, none⟩) = some da := by
        split
        · exact ⟨_, rfl⟩
        · exact ⟨_, rfl⟩
      have HDA := hide hda
      rw [hda] at DR'
      clear TR DR hda hmo
      have wm : IntKind.i64.wrap ((mo : Int) + 1) = (mo : Int) + 1 := by rw [IntKind.wrap_i64]; omega
      obtain ⟨i0, hi0, hz0, hz1, hz2⟩ := info_parts infoFound
      have I0 := hide hi0
      have Z0 := hide hz0
      have Z1 := hide hz1
      have Z2 := hide hz2
      clear hi0 hz0 hz1 hz2
      have j0 : (0 : Int) ≤ j := by omega
      have nj : ¬ j = 0 := by omega
      have BA : Hid (Below w7.heap.size w7 (w7.alloc (.cells #[] 72)).drew) := ((Below.refl _ _).alloc (Nat.le_refl _) _).drew
      have OE : Hid ((w7.alloc (.cells #[] 72)).drew.ownsRow w7.heap.size 72 8 (.slice (some ⟨w7.heap.size, 0, none⟩) 0 0) 0 []) := ⟨rfl, .inr ⟨w7.heap.size, 0, #[], rfl, Nat.le_refl _, heap_alloc_new w7 _, Nat.le_refl _, by unfold maxLen; omega, rfl, rfl⟩⟩
      have hf7 : fg < w7.heap.size := (OF7.out.2.lt fg rfl).2
      have hp7 : pg < w7.heap.size := by have := OF7.out.1.size; have := HB0.out; omega
      have C1 := hide (ftake_cells (k := mo) (own_below OF7.out.2 BA.out))
      have L1 : Hid ((fcells (zs.take mo)).length = mo * 8) := by show _ = _; rw [fcells_len, List.length_take, hzl, Nat.min_eq_left (by omega)]
      have L2 : Hid ((fcells (zs.drop (mo + 1))).length = (j - (mo + 1)) * 8) := by show _ = _; rw [fcells_len, List.length_drop, hzl]
      have HS1 := hide (show w7.heap.size ≤ (w7.alloc (.cells #[] 72)).drew.heap.size from BA.out.size)
      have y1w : (w7.alloc (.cells #[] 72)).cell? ⟨pg, 1, none⟩ = some (.int .i64 (q1 : Int)) := (BA.out.cell (show pg < w7.heap.size from hp7)).trans y1
      have PB : Hid ((zs.take mo ++ zs.drop (mo + 1)).map Fnd.page = butL (rotL (txPgs 7 3 l) q0 (txPgs 7 3 l).length) mo) := by show _ = _; rw [List.map_append, List.map_take, List.map_drop, EF.out]; rfl
      have GB : Hid (gatherP ((zs.take mo ++ zs.drop (mo + 1)).map Fnd.page) = []) := by show _ = _; rw [PB.out]; exact gather_but q0 mo (by rw [HN.out]; exact hmj)
      have YL : Hid ((zs.take mo ++ zs.drop (mo + 1)).length = 0 + mo + (j - (mo + 1))) := by show _ = _; rw [List.length_append, List.length_take, List.length_drop, hzl, Nat.min_eq_left (by omega)]; omega
      have YS : Hid (sumF (fun p => p.text.size) ((zs.take mo ++ zs.drop (mo + 1)).map Fnd.page) ≤ 1048576) := by
        have := sumF_bound (Q := (zs.take mo ++ zs.drop (mo + 1)).map Fnd.page) (by
          rw [PB.out, ← EF.out]
          exact but_all (P := fun p => p.text.size ≤ 90) ZA.out)
        rw [List.length_map, YL.out] at this
        show _ ≤ _
        omega
      have YC : Hid (([] ++ fcells (zs.take mo)) ++ fcells (zs.drop (mo + 1)) = fcells (zs.take mo ++ zs.drop (mo + 1))) := by show _ = _; unfold fcells; rw [List.nil_append, List.flatMap_append]
      have CG2 : Hid (∀ (v : Value) (W : World), W.ownsRow w7.heap.size 72 8 v (0 + mo + (j - (mo + 1))) (([] ++ fcells (zs.take mo)) ++ fcells (zs.drop (mo + 1))) → Calls Try.prog 28 #[v] W fun e w' => ∃ sa sc, e = .returned (.slice sa 0 sc) ∧ Below W.heap.size W w') := by
        intro v W ho
        rw [YC.out] at ho
        obtain ⟨a9, c9, rfl, -⟩ := (Sli.of ho).form
        refine (HG.out a9 _ c9 (zs.take mo ++ zs.drop (mo + 1)) W (by omega) YS.out ((Sli.of ho).fdrd YL.out (by unfold maxLen; omega) (Nat.le_refl _))).mono ?_
        intro e w' hto
        rw [GB.out] at hto
        obtain ⟨sa, sc, rs2, rfl, -, -, -, b⟩ := hto.rows (n := 0) rfl
        exact ⟨sa, sc, rfl, b⟩
      clear PB ZA YC YL YS GB
      go_wp2_with fail
      go_region_held3 (fun w' => w'.cell? ⟨pg, 1, none⟩ = some (.int .i64 (q1 : Int))) (first | go_keep | exact (B8.out.cell (show pg < w7.heap.size from hp7)).trans y1 | exact (B9.out.cell (show pg < w7.heap.size from hp7)).trans y1 | exact (B10.out.cell (show pg < w7.heap.size from hp7)).trans y1) (first
        | (refine step_append_own _ (by rfl) (.tmp 78) (.tmp 86) 53 (by rfl) w7.heap.size 72 i0 (.agg #[.int .i64 0, .int .i64 0, .int .i64 0, .int .i64 0, .int .i64 0, .int .i64 0, .int .i64 0, .string ⟨#[]⟩]) 8 72 Try.underlying53 I0.out Z0.out Z1.out Z2.out rfl (by decide) _ 0 [] (by simp [Act.eval]) OE.out ⟨fg, 0, none⟩ mo fc (fcells (zs.take mo)) (by simp [Act.eval]) L1.out C1.out (fcells_one _) (by unfold maxLen; omega) (by omega) HS1.out ?_; intro v8 w8 o8 g8; have B8 : Hid (Below w7.heap.size w7 w8) := BA.out.grown g8 HS1.out (fun k hk => (OE.out.lt k hk).1); have O8 := hide o8; have C2 := hide (fdrop_cells (own_below OF7.out.2 B8.out) hzl hfc (show mo + 1 ≤ j by omega) HDA.out); have HS8 := hide B8.out.size; clear o8 g8)
        | (refine step_append_own _ (by rfl) (.tmp 87) (.tmp 96) 53 (by rfl) w7.heap.size 72 i0 (.agg #[.int .i64 0, .int .i64 0, .int .i64 0, .int .i64 0, .int .i64 0, .int .i64 0, .int .i64 0, .string ⟨#[]⟩]) 8 72 Try.underlying53 I0.out Z0.out Z1.out Z2.out rfl (by decide) _ (0 + mo) ([] ++ fcells (zs.take mo)) (by simp [Act.eval]) O8.out da (j - (mo + 1)) (fc - (mo + 1)) (fcells (zs.drop (mo + 1))) (by simp [Act.eval]) L2.out C2.out (fcells_one _) (by unfold maxLen; omega) (by omega) HS8.out ?_; intro v9 w9 o9 g9; have B9 : Hid (Below w7.heap.size w7 w9) := B8.out.grown g9 HS8.out (fun k hk => (O8.out.lt k hk).1); have O9 := hide o9; clear o9 g9)
        | (go_at_call 28; (refine Calls.mono (CG2.out _ _ O9.out) ?_); rintro e w10 ⟨sa, sc, rfl, b10⟩; have B10 := hide (B9.out.trans (b10.mono B9.out.size)); clear b10))
      all_goals
        obtain ⟨k0, k1, k2⟩ := KC.out w10 B10.out
        have T10 : Hid (Tk w0 w10 [(w0.heap.size, w1.heap.size, Sli 63 w0.heap.size w1.heap.size (.slice (some ⟨gl, 0, none⟩) nl cl) nl (rccells (l.map Rc.tu)))]) := ((T4.out.below (by rw [HB0.out]; exact OF7.out.1)).below B10.out).drop (by
          intro x hx
          simp only [List.mem_cons, List.not_mem_nil, or_false] at hx ⊢
          exact .inr (.inr hx))
        clear OF7 O8 O9 C1 C2 CG2 DR' TR'
        go_wp2_with fail
        refine (same_tkR T10.out (by rw [List.length_map]; exact HL.out.2.1) (by have := HL.out.1; omega) (SA7.out.blw B10.out) (T10.out.get 0 rfl)).mono ?_
        rintro e w11 ⟨rfl, t11, -⟩
        have T11 := hide t11
        clear t11
        go_wp2
        go_ret
        exact ⟨rfl, T11.out.1⟩
end Go.Proofs.Ytcjgjkejhkhknaa
