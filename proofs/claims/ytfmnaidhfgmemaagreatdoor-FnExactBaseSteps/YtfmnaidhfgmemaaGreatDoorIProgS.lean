import Derived.Test.YtfmnaidhfgmemaaGreatDoorILeafT
import Derived.Test.YtfmnaidhfgmemaaGreatDoorPk17
import Derived.Test.YtfmnaidhfgmemaaGreatDoorPk24
import Derived.Test.YtfmnaidhfgmemaaGreatDoorSWrite
import Derived.Test.YtfmnaidhfgmemaaGreatDoorPk35
import Derived.Deep.DeepAppendRoom
namespace Go.Proofs.YtfmnaidhfgmemaaGreatDoor
open Go.RowKit
open Words Sums
structure PgS (w W0 W : World) (sb np : Nat) (v : Value) (cs : List Bk) (l : List Stp) : Prop where
  lt : w.heap.size < sb
  bel : Below w.heap.size w W
  kept : Kept2 W0 W (fun i => i ≠ w.heap.size ∧ i ≠ sb)
  cell : W.heap[w.heap.size]? = some (.cells #[v] 39 (0, 0))
  fl : ∃ lo hi, Fla lo hi v cs W ∧ hi ≤ W.heap.size ∧ (hi ≤ w.heap.size ∨ sb < lo)
  row : W.ownsRow (w.heap.size + 1) 67 4 (.slice (some ⟨sb, 0, none⟩) l.length np) l.length (stcells l)
theorem PgS.hi {w W0 W : World} {sb np : Nat} {v : Value} {cs : List Bk} {l : List Stp} (h : PgS w W0 W sb np v cs l) : sb < W.heap.size := (h.row.lt sb rfl).2
theorem PgS.below {w W0 W W' : World} {sb np : Nat} {v : Value} {cs : List Bk} {l : List Stp} (h : PgS w W0 W sb np v cs l) (hb : Below W.heap.size W W') : PgS w W0 W' sb np v cs l := by
  refine ⟨h.lt, h.bel.trans (hb.mono h.bel.size), Kept2.trans h.kept (Kept2.below hb), ?_, ?_, own_below h.row hb⟩
  · exact (hb.block _ (Nat.lt_trans h.lt h.hi)).trans h.cell
  · obtain ⟨lo, hi, h1, h2, h3⟩ := h.fl
    exact ⟨lo, hi, Fla.loc lo hi v cs W W' (fun g _ g2 => hb.block g (by omega)) h1, Nat.le_trans h2 hb.size, h3⟩
theorem PgS.form {w W0 W : World} {sb np : Nat} {v : Value} {cs : List Bk} {l : List Stp} (h : PgS w W0 W sb np v cs l) : ∃ ad cap, v = .slice ad cs.length cap := by
  obtain ⟨lo, hi, h1, -⟩ := h.fl
  obtain ⟨ad, cap, e, -⟩ := h1.form
  exact ⟨ad, cap, e⟩
theorem PgS.c0 {w W0 W : World} {sb np : Nat} {v : Value} {cs : List Bk} {l : List Stp} (h : PgS w W0 W sb np v cs l) : W.cell? ⟨w.heap.size, 0, none⟩ = some v ∧ W.frozen? ⟨w.heap.size, 0, none⟩ = false :=
  ⟨cell_of_row _ _ 0 _ _ _ h.cell, frozen_of_row _ _ 0 _ _ h.cell⟩
theorem PgS.step {w W0 W W' : World} {sb np : Nat} {v : Value} {cs : List Bk} {l : List Stp} {s : Stp} (h : PgS w W0 W sb np v cs l) (hg : W.grownBy W' (some sb)) (ho : W'.ownsRow (w.heap.size + 1) 67 4 (.slice (some ⟨sb, 0, none⟩) (l.length + 1) np) (l.length + 1) (stcells l ++ stcell s)) : PgS w W0 W' sb np v cs (l ++ [s]) := by
  have hlt := h.lt
  refine ⟨h.lt, h.bel.grown hg h.bel.size (fun k hk => by cases hk; omega), ?_, ?_, ?_, ?_⟩
  · exact ⟨hg.os.trans h.kept.1, hg.tape.trans h.kept.2.1, hg.output.trans h.kept.2.2.1, Nat.le_trans h.kept.2.2.2.1 hg.size, fun i hi hn => (hg.block i (Nat.lt_of_lt_of_le hi h.kept.2.2.2.1) (fun e => hn.2 (by cases e; rfl))).trans (h.kept.2.2.2.2 i hi hn)⟩
  · exact (hg.block _ (Nat.lt_trans h.lt h.hi) (fun e => by cases e; omega)).trans h.cell
  · obtain ⟨lo, hi, h1, h2, h3⟩ := h.fl
    exact ⟨lo, hi, Fla.loc lo hi v cs W W' (fun g g1 g2 => hg.block g (by omega) (fun e => by cases e; omega)) h1, Nat.le_trans h2 hg.size, h3⟩
  · rw [List.length_append, stcells_app]
    simpa [stcells] using ho
theorem PgS.done {w W0 W W' : World} {sb np : Nat} {v u : Value} {cs cs' : List Bk} {l : List Stp} (h : PgS w W0 W sb np v cs l) (hb : Below W.heap.size W W') (f : FlashOf W' W.heap.size u cs') : PgS w W0 (W'.setCell ⟨w.heap.size, 0, none⟩ u) sb np u cs' l := by
  have h1 := h.below hb
  have hlt := h.lt
  have hhi := h.hi
  have hz : (W'.setCell ⟨w.heap.size, 0, none⟩ u).heap.size = W'.heap.size := by simp [World.setCell]
  refine ⟨h.lt, h1.bel.setCell (p := ⟨w.heap.size, 0, none⟩) (Nat.le_refl _) _, ?_, heap_setCell_same _ _ 0 _ _ _ h1.cell, ?_, own_cell h1.row (Nat.lt_succ_self _) _ _⟩
  · exact ⟨h1.kept.1, h1.kept.2.1, h1.kept.2.2.1, by rw [hz]; exact h1.kept.2.2.2.1, fun i hi hn => (Below.heap_setCell _ _ _ _ hn.1).trans (h1.kept.2.2.2.2 i hi hn)⟩
  · obtain ⟨ss, e, h2⟩ := f
    exact ⟨W.heap.size, W'.heap.size, Fla.loc _ _ _ _ _ _ (fun g g1 _ => Below.heap_setCell _ _ _ _ (by show g ≠ w.heap.size; omega)) ⟨ss, e, h2⟩, by rw [hz]; exact Nat.le_refl _, .inr hhi⟩
theorem row_new16 (w : World) (cs : List Value) (t : TypeId) : ∀ (j : Nat) (u : Value), cs[j]? = some u → (w.alloc (.cells cs.toArray t)).cell? ((⟨w.heap.size, 0, none⟩ : Addr).add j) = some u := fun j u h => by
  rw [addr_at]
  exact cell_of_row _ _ j _ _ _ (heap_alloc_new _ _) |>.trans (by simpa using h)
theorem iplace_fla {lo hi : Nat} {v : Value} {cs : List Bk} {W : World} (h : Fla lo hi v cs W) (hh : hi ≤ W.heap.size) (hs : Sml cs) : Calls Tryz.prog 76 #[.agg #[v]] W fun e w' => e = .returned (plV (placeF cs)) ∧ Below W.heap.size W w' := by
  obtain ⟨ss, rfl, h1⟩ := h
  refine iplace_any v ss lo hi W (by simpa using hs.1) (fun r hr => ?_) hh h1
  have := (hs.2 (tellOf r) (List.mem_map.2 ⟨r, hr, rfl⟩)).1
  simpa [tellOf] using this
set_option maxHeartbeats 4000000 in
set_option maxRecDepth 100000 in
theorem iprogramSteps (fv : Value) (bs : List Bk) (lo hi : Nat) (pv : Value) (Q : List Pg) (B : Nat) (w : World) (hf : Fla lo hi fv bs w) (hh : hi ≤ w.heap.size) (hs : Sml bs) (hQ : Q.length ≤ 100) (hv : HalvIn w) (ho : w.ownsRow B 92 6 pv Q.length (pgcells (Q.map Pg.tu))) :
    Calls Tryz.prog 49 #[.agg #[fv], pv] w (WsOut w (if (putsP (bs, [], true) Q).2.2 then ((putsP (bs, [], true) Q).2.1, true) else ([], false))) := by
  obtain ⟨fd, fc, rfl, -⟩ := hf.form
  obtain ⟨R, hR⟩ : ∃ R, (if (putsP (bs, [], true) Q).2.2 then ((putsP (bs, [], true) Q).2.1, true) else ([], false)) = R := ⟨_, rfl⟩
  have HR := hide hR
  rw [hR]
  clear hR
  have b0 := (Below.refl w.heap.size w).alloc (Nat.le_refl _) (.cells #[.slice fd bs.length fc] 39)
  have CL := hide (ileafTexts pv Q B (w.alloc (.cells #[.slice fd bs.length fc] 39)) hQ (hv.on b0) (own_below ho b0))
  have B0 := hide b0
  have hz0 : (w.alloc (.cells #[.slice fd bs.length fc] 39)).heap.size = w.heap.size + 1 := by simp
  have HZ0 := hide hz0
  have C0 := hide (heap_alloc_new w (.cells #[.slice fd bs.length fc] 39))
  have HF := hide hf
  have HH := hide hh
  have HS := hide hs
  obtain ⟨np, hnp⟩ : ∃ np, Q.length = np := ⟨_, rfl⟩
  have HNP := hide hnp
  obtain ⟨i0, hi0, hy0, hy1, hy2⟩ := info_parts infoSt
  have I0 := hide hi0
  have Y0 := hide hy0
  have Y1 := hide hy1
  have Y2 := hide hy2
  rw [hnp] at hQ
  clear hf hh hs ho hv b0 hz0 hnp hi0 hy0 hy1 hy2
  go_enter Tryz.func49, Tryz.ntmps49
  go_wp2_with fail
  refine CL.out.mono ?_
  rintro e w1 ⟨b1, ⟨hnr, rfl⟩ | ⟨hall, g, cv, L, rfl, hg0, htx, hrow⟩⟩
  · have HE : Hid (R = ([], false)) := by
      show _ = _
      obtain ⟨p, hp, hp2⟩ : ∃ p ∈ Q, ¬ p.Right := by
        rcases Classical.em (∃ p ∈ Q, ¬ p.Right) with h | h
        · exact h
        · exact absurd (fun p hp => (Classical.em p.Right).elim id (fun q => absurd ⟨p, hp, q⟩ h)) hnr
      rw [← HR.out, puts_wrong Q _ ⟨p, hp, hp2⟩]
      rfl
    have HB := hide (B0.out.trans (b1.mono (by rw [HZ0.out]; omega)))
    clear hnr b1 CL HR
    go_wp2
    refine bodyPost_ret (results_tmp2 rfl _ _ _) rfl ?_
    rw [HE.out]
    exact ⟨_, rfl, World.ownsRow_nil _ _ _ _, HB.out⟩
  · have HALL := hide hall
    have HTX := hide htx
    have HROW := hide hrow
    have hB1 := B0.out.trans (b1.mono (by rw [HZ0.out]; omega))
    have HB1 := hide hB1
    have hs1 := b1.size
    rw [HZ0.out] at hs1
    have CB : Hid (w1.heap[w.heap.size]? = some (.cells #[.slice fd bs.length fc] 39 (0, 0))) := (b1.block _ (by rw [HZ0.out]; exact Nat.lt_succ_self _)).trans C0.out
    obtain ⟨cd, ccap, rfl, -, -, hcf⟩ := frow_form hrow
    have hll := htx.1
    rw [HNP.out] at HROW hcf hll ⊢
    have HLL := hide hll
    rw [HZ0.out] at HROW hcf hg0
    clear hall htx hrow hB1 b1 CL hll
    obtain ⟨sb, hsb⟩ : ∃ sb, w1.heap.size = sb := ⟨_, rfl⟩
    go_wp2_with (at_make; refine wpList_make_own _ rfl _ _ 34 rfl (w.heap.size + 1) 67 i0 (.agg #[.int .i64 0, .int .i64 0, .int .i64 0, .string ⟨#[]⟩]) 4 Tryz.underlying34 I0.out Y0.out Y1.out .i64 .i64 _ np rfl rfl rfl (by rw [Y2.out]; omega) (by unfold maxLen; omega) (by omega) ?_)
    intro w2 ho2 hg2
    have b2 := (Below.refl w1.heap.size w1).grown hg2 (Nat.le_refl _) (fun k hk => by cases hk)
    have ST : Hid (PgS w w2 w2 sb np (.slice fd bs.length fc) bs []) := ⟨by omega, HB1.out.trans (b2.mono HB1.out.size), Kept2.refl _ _, (b2.block _ (by omega)).trans CB.out, ⟨lo, hi, Fla.loc lo hi _ bs w w2 (fun g _ g2 => (b2.block g (by have := HH.out; omega)).trans (HB1.out.block g (by have := HH.out; omega))) HF.out, by have := HH.out; have := b2.size; omega, .inl HH.out⟩, ho2⟩
    have KW0 : Hid (∀ i, w.heap.size + 1 ≤ i → i < sb → ∀ W, Kept2 w2 W (fun i => i ≠ w.heap.size ∧ i ≠ sb) → W.heap[i]? = w1.heap[i]?) := fun i i1 i2 W hW => (hW.2.2.2.2 i (by have := b2.size; omega) ⟨by omega, by omega⟩).trans (b2.block i (by omega))
    have hsb2 : w.heap.size + 1 ≤ sb := by omega
    have HSB := hide hsb
    clear hsb ho2 hg2 b2 CB HB1 hs1 Y0
    go_wp2
    go_loopw [8, 27] (fun uv iv wr => ∃ (k : Nat) (v : Value) (cs : List Bk) (l : List Stp), iv = .int .i64 k ∧ k ≤ np ∧ uv = .slice (some ⟨sb, 0, none⟩) k np ∧ Hid (l.length = k) ∧ Hid (Sml cs) ∧ Hid (putsP (bs, [], true) Q = putsP (cs, l, true) (Q.drop k)) ∧ Hid (PgS w w2 wr sb np v cs l)) (fun _ iv _ => np - (intOf iv).toNat)
    case atStart => exact ⟨0, _, bs, [], rfl, Nat.zero_le _, rfl, rfl, HS, rfl, ST⟩
    case round =>
      rename World => wr
      obtain ⟨k, v, cs, l, rfl, hk, rfl, HL, HC, HQ, P⟩ := hrel
      clear ST
      obtain ⟨vd, vc, rfl⟩ := P.out.form
      obtain ⟨q0, f0⟩ := P.out.c0
      have k0 : (0 : Int) ≤ k := by omega
      by_cases hlt : (k : Int) < np
      · obtain ⟨cb, rfl, hc1, hc2⟩ := hcf (by omega)
        obtain ⟨p, hp⟩ : ∃ p, Q[k]? = some p := ⟨_, List.getElem?_eq_getElem (by have := HNP.out; omega)⟩
        obtain ⟨⟨o, z⟩, hc⟩ : ∃ c, L[k]? = some c := ⟨_, List.getElem?_eq_getElem (by have := HLL.out; omega)⟩
        obtain ⟨hz, htx⟩ := HTX.out.2 k _ p hc hp
        simp only at hz htx
        have hpr := HALL.out p (List.mem_of_getElem? hp)
        have hft := seal_fits hpr
        have HD : Hid (Q.drop k = p :: Q.drop (k + 1)) := List.drop_eq_getElem_cons (List.getElem?_eq_some_iff.1 hp).1 |>.trans (by rw [(List.getElem?_eq_some_iff.1 hp).2])
        have hgs : g < sb := by
          have h1 := htx 0 _ (List.getElem?_eq_getElem (by show 0 < (sealA (pageA p)).size; omega))
          have h2 : g < w1.heap.size := World.block_lt_of_cell? w1 _ h1
          have := HSB.out
          omega
        have q1 : wr.cell? ⟨cb, k, none⟩ = some (.slice (some ⟨g, o, none⟩) z z) := by
          rw [World.cell?_of_block (KW0.out cb hc1 (by have := HSB.out; omega) wr P.out.kept)]
          have := HROW.out.cells (g := cb) rfl k (cutV g (o, z)) (by rw [List.getElem?_map, hc]; rfl)
          rw [addr_at] at this
          exact this
        have CP : Hid (Calls Tryz.prog 76 #[.agg #[.slice vd cs.length vc]] wr fun e w' => e = .returned (plV (placeF cs)) ∧ Below wr.heap.size wr w') := by
          obtain ⟨lo', hi', h1, h2, -⟩ := P.out.fl
          exact iplace_fla h1 h2 HC.out
        obtain ⟨pb, pl, pk, hpl⟩ : ∃ pb pl pk, placeF cs = (pb, pl, pk) := ⟨_, _, _, rfl⟩
        have HPL := hide hpl
        rw [hpl] at CP
        unfold plV at CP
        simp only at CP
        have HP := hide hp
        have HPR := hide hpr
        obtain ⟨tt, htt⟩ : ∃ tt, sealA (pageA p) = tt := ⟨_, rfl⟩
        rw [htt] at htx hz hft
        subst hz
        have HTT := hide htt
        have HCV : Hid (∀ W, Below wr.heap.size wr W → (convert 110 9 (.slice (some ⟨g, o, none⟩) tt.size tt.size)).run Tryz.prog W = .ok (.string tt) W) := fun W hW => by
          have e := run_convert_bytes_back (P := Tryz.prog) W 110 9 5 ⟨g, o, none⟩ tt.size tt.data.toList Tryz.underlying110 Tryz.underlying5 Tryz.underlying9 (fun j hj => by
            rw [show (⟨g, o, none⟩ : Addr).add j = ⟨g, o + j, none⟩ by simp only [Addr.add]; split <;> simp_all]
            rw [hW.cell (p := ⟨g, o + j, none⟩) (by have := P.out.hi; show g < _; omega), World.cell?_of_block (KW0.out g hg0 hgs wr P.out.kept)]
            exact htx j _ (List.getElem?_eq_getElem hj))
          rw [show tt.data.toList.length = tt.size from rfl] at e
          rw [e]
        clear hpl hp hpr htt htx hc hc1 hc2 hgs
        go_wp2_with fail
        refine CP.out.mono ?_
        rintro e w3 ⟨rfl, b3⟩
        have P3 := hide (P.out.below b3)
        obtain ⟨q3, f3⟩ := P3.out.c0
        have hcv := HCV.out w3 b3
        clear b3 CP P q0 f0 q1 HCV
        cases pk with
        | false =>
          have HE : Hid (R = ([], false)) := by
            show _ = _
            rw [← HR.out, HQ.out, HD.out, putsP, if_pos rfl, put_none (by rw [HPL.out]), puts_false _ _ rfl]
            rfl
          have BE := hide P3.out.bel
          clear hcv P3
          go_wp2
          refine bodyPost_ret (results_tmp2 rfl _ _ _) rfl ?_
          rw [HE.out]
          exact ⟨_, rfl, World.ownsRow_nil _ _ _ _, BE.out⟩
        | true =>
          have hput := put_yes l HPR.out (show (placeF cs).2.2 = true by rw [HPL.out])
          rw [HPL.out, HTT.out] at hput
          simp only at hput
          obtain ⟨cs', ok, hd⟩ : ∃ cs' ok, doF cs (1, pb, pl, tt) = (cs', ok) := ⟨_, _, rfl⟩
          rw [hd] at hput
          simp only at hput
          have HQ2 : Hid (putsP (bs, [], true) Q = putsP (cs', l ++ [(1, pb, pl, tt)], true) (Q.drop (k + 1))) := by
            show _ = _
            rw [HQ.out, HD.out, putsP, if_pos rfl, hput]
          have HDF := hide hd
          have bS := (Below.refl w3.heap.size w3).alloc (Nat.le_refl _) (.cells #[.int .i64 1, .int .i64 pb, .int .i64 pl, .string tt] 67)
          have PS := hide (P3.out.below bS)
          have hzS : (w3.alloc (.cells #[.int .i64 1, .int .i64 pb, .int .i64 pl, .string tt] 67)).heap.size = w3.heap.size + 1 := by simp
          have rS := heap_alloc_new w3 (.cells #[.int .i64 1, .int .i64 pb, .int .i64 pl, .string tt] 67)
          have hrow : (w3.alloc (.cells #[.int .i64 1, .int .i64 pb, .int .i64 pl, .string tt] 67)).ownsRow (w.heap.size + 1) 67 4 (.slice (some ⟨sb, 0, none⟩) k np) k (stcells l) := by
            have e := PS.out.row
            rw [HL.out] at e
            exact e
          have HRW := hide hrow
          clear bS hput hd hrow
          go_wp2_with (at_builtin; refine wpList_append_own_spare _ rfl _ _ 34 rfl (w.heap.size + 1) 67 i0 4 Tryz.underlying34 I0.out Y1.out sb k np (stcells l) rfl (by exact HRW.out.alloc _) ⟨w3.heap.size + 1, 0, none⟩ 1 1 (stcell (1, pb, pl, tt)) rfl rfl (by have e := row_new16 (w3.alloc (.cells #[.int .i64 1, .int .i64 pb, .int .i64 pl, .string tt] 67)) (stcell (1, pb, pl, tt)) 67; rw [hzS] at e; exact e) (by intro u hu; simp [stcell] at hu; rcases hu with rfl | rfl | rfl | rfl <;> rfl) (by omega) ?_)
          intro w5 ho5 hg5
          have bT := (Below.refl (w3.alloc (.cells #[.int .i64 1, .int .i64 pb, .int .i64 pl, .string tt] 67)).heap.size (w3.alloc (.cells #[.int .i64 1, .int .i64 pb, .int .i64 pl, .string tt] 67))).alloc (Nat.le_refl _) (.cells #[.int .i64 1, .int .i64 pb, .int .i64 pl, .string tt] 67)
          have P5 : Hid (PgS w w2 w5 sb np (.slice vd cs.length vc) cs (l ++ [(1, pb, pl, tt)])) := (PS.out.below bT).step hg5 (by rw [HL.out]; exact ho5)
          have hs3 : sb < w3.heap.size := P3.out.hi
          have rS5 : w5.heap[w3.heap.size]? = some (.cells #[.int .i64 1, .int .i64 pb, .int .i64 pl, .string tt] 67 (0, 0)) := (hg5.block _ (by simp; omega) (fun e => by cases e; omega)).trans ((bT.block _ (by rw [hzS]; omega)).trans rS)
          have RS5 := hide rS5
          have HL5 : Hid ((l ++ [(1, pb, pl, tt)]).length = k + 1) := by show _ = _; rw [List.length_append, HL.out]; rfl
          obtain ⟨q5, f5⟩ := P5.out.c0
          have y0 := cell_of_row _ _ 0 _ _ _ rS5
          have y1 := cell_of_row _ _ 1 _ _ _ rS5
          have y2 := cell_of_row _ _ 2 _ _ _ rS5
          have y3 := cell_of_row _ _ 3 _ _ _ rS5
          simp at y0 y1 y2 y3
          have CD : Hid (Calls Tryz.prog 77 #[.agg #[.slice vd cs.length vc], stV (1, pb, pl, tt)] w5 fun e w' => ∃ u, e = .returned (.tuple #[.agg #[u], .bool (doF cs (1, pb, pl, tt)).2]) ∧ FlashOf w' w5.heap.size u (doF cs (1, pb, pl, tt)).1 ∧ Below w5.heap.size w5 w') := ido_b _ cs _ w5 HC.out (by obtain ⟨lo', hi', h1, -⟩ := P5.out.fl; exact h1.rdb)
          rw [HDF.out] at CD
          unfold stV at CD
          simp only at CD
          have HC5 : Hid (Sml cs') := by have := HC.out.step (1, pb, pl, tt); rw [HDF.out] at this; exact this
          clear ho5 hg5 bT PS P3 rS rS5 HRW hzS q3 f3 hcv
          go_wp2_with fail
          refine CD.out.mono ?_
          rintro e w6 ⟨u, rfl, fo, b6⟩
          obtain ⟨ud, uc, rfl⟩ := fo.form
          have P6 := hide (P5.out.done b6 fo)
          have q6 := (P5.out.below b6).c0
          obtain ⟨q7, f7⟩ := q6
          clear fo b6 CD P5 q5 f5 y0 y1 y2 y3 RS5
          go_wp2
          go_roundw
          case rel => exact ⟨k + 1, _, cs', _, by go_num, by omega, rfl, HL5, HC5, HQ2, P6⟩
          case measure => simp [intOf]; omega
      · have hkn : k = np := by omega
        subst hkn
        have HE : Hid (R = (l, true)) := by
          show _ = _
          rw [← HR.out, HQ.out, List.drop_eq_nil_of_le (by rw [HNP.out]; exact Nat.le_refl _)]
          rfl
        go_wp2
        refine bodyPost_ret (results_tmp2 rfl _ _ _) rfl ?_
        rw [HE.out]
        exact ⟨_, rfl, (by have e := own_down (B' := w.heap.size) P.out.row (Nat.le_succ _); rw [HL.out] at e; show World.ownsRow _ _ _ _ _ l.length _; rw [HL.out]; exact e), P.out.bel⟩
end Go.Proofs.YtfmnaidhfgmemaaGreatDoor
