/-
  EaStM; IEnAll
-/
import Derived.Test.YtcnaahajaaifjaaPq18
import Derived.Test.YtcnaahajaaifjaaPq44
/-
  Stores that are entered record by record: what is held.
-/
namespace Go.Proofs.Ytcnaahajaaifjaa
open Go.RowKit
open Words

/-- What EnterAll holds: what came in, the result's cells, the store under way. -/
def EaSt (w V : World) (z zb : Nat) (x0 x1 x2 a b : Value) (t : Sto) : Prop :=
  Below w.heap.size w V ∧ V.heap[z]? = some (.cells #[x0, x1, x2] 29 (0, 0)) ∧ V.heap[z + 1]? = some (.cells #[.slice none 0 0, .slice none 0 0, .int .i64 0] 29 (0, 0)) ∧ V.heap[zb]? = some (.cells #[a, b, .int .i64 t.next] 29 (0, 0)) ∧ StH (z + 2) zb (.agg #[a, b, .int .i64 t.next]) t V ∧ t.Fit ∧ (w.heap.size = z ∧ z + 2 ≤ zb)
theorem EaSt.below {w V V' : World} {z zb : Nat} {x0 x1 x2 a b : Value} {t : Sto} (h : EaSt w V z zb x0 x1 x2 a b t) (hb : Below V.heap.size V V') : EaSt w V' z zb x0 x1 x2 a b t := by
  obtain ⟨h1, h2, h3, h4, h5, h6, h8⟩ := h
  have l2 := (Array.getElem?_eq_some_iff.1 h2).1
  have l3 := (Array.getElem?_eq_some_iff.1 h3).1
  have l4 := (Array.getElem?_eq_some_iff.1 h4).1
  exact ⟨h1.trans (hb.mono h1.size), (hb.block _ l2).trans h2, (hb.block _ l3).trans h3, (hb.block _ l4).trans h4, h5.below hb, h6, h8⟩
/-- The variable gets another store. -/
theorem EaSt.next {w V V1 : World} {z zb : Nat} {x0 x1 x2 a b a' b' : Value} {n : Int} {t t' : Sto} (h : EaSt w V z zb x0 x1 x2 a b t) (ho : StOut V t' (.agg #[a', b', .int .i64 n]) V1) (hn : t'.next = n) (hf : t'.Fit) {V2 : World} (hb : Below V1.heap.size V1 V2) : EaSt w (((V2.setCell ⟨zb, 0, none⟩ a').setCell ⟨zb, 1, none⟩ b').setCell ⟨zb, 2, none⟩ (.int .i64 n)) z zb x0 x1 x2 a' b' t' := by
  have hv := ho.blw
  have h' := h.below (hv.trans (hb.mono hv.size))
  have l4 := (Array.getElem?_eq_some_iff.1 h.2.2.2.1).1
  obtain ⟨h1, h2, h3, h4, -, -, h8⟩ := h'
  have hz8 := h8.1
  have hz9 := h8.2
  subst hn
  have st := ((((StH.of (lo := z + 2) (zb := zb) ho (by omega) (.inl l4)).below hb).set (k := 0) (u := a')).set (k := 1) (u := b')).set (k := 2) (u := .int .i64 t'.next)
  refine ⟨((h1.setCell (p := ⟨zb, 0, none⟩) (by show _ ≤ zb; omega) _).setCell (p := ⟨zb, 1, none⟩) (by show _ ≤ zb; omega) _).setCell (p := ⟨zb, 2, none⟩) (by show _ ≤ zb; omega) _, row_set_ne (row_set_ne (row_set_ne h2 (by omega) _ _) (by omega) _ _) (by omega) _ _, row_set_ne (row_set_ne (row_set_ne h3 (by omega) _ _) (by omega) _ _) (by omega) _ _, sto_row3 h4, st, hf, h8⟩
end Go.Proofs.Ytcnaahajaaifjaa

/-
  impl.EnterAll.
-/
namespace Go.Proofs.Ytcnaahajaaifjaa
open Go.RowKit
open Words

set_option maxHeartbeats 2000000 in
set_option maxRecDepth 100000 in
theorem ienterAll : EnterAllC 17 := by
  intro v s la ln lc l w hln hin hl
  obtain ⟨va, vl, vc, ad, len, cap, rs, ev, -⟩ := id hin
  have HIN := hide hin
  have T0 := hide (Tk.two w #[.slice va vl vc, .slice ad len cap, .int .i64 s.next] #[.slice none 0 0, .slice none 0 0, .int .i64 0] 29 29)
  unfold SBox at ev
  rw [ev]
  rw [ev] at HIN
  obtain ⟨nx, hnx⟩ : ∃ nx, s.next = nx := ⟨_, rfl⟩
  have HNX := hide hnx
  rw [hnx] at T0 HIN ⊢
  have HL := hide hl
  have HLN := hide (show l.length = ln by have := hl.1; simpa using this)
  have HFT := hide hin.fit
  clear hin ev hl hnx
  go_enter Try.func17, Try.ntmps17
  go_wp2_with fail
  generalize (w.alloc (.cells #[.slice va vl vc, .slice ad len cap, .int .i64 nx] 29)).alloc (.cells #[.slice none 0 0, .slice none 0 0, .int .i64 0] 29) = w0 at T0 ⊢
  have B0 := hide T0.out.1
  have XR := hide (T0.out.get 0 rfl)
  have X1 := hide (T0.out.get 1 rfl)
  obtain ⟨z, hz⟩ : ∃ z, w.heap.size = z := ⟨_, rfl⟩
  have HZW := hide hz
  rw [hz] at XR X1 ⊢
  clear hz T0
  have HZ : Hid (z + 1 < w0.heap.size) := (Array.getElem?_eq_some_iff.1 XR.out).1
  refine (icopS_in (HIN.out.below B0.out)).mono ?_
  rintro e w1 ⟨u, rfl, hu⟩
  obtain ⟨ua, ul, uc, ub, um, ud, rfl⟩ := hu.form
  rw [HNX.out]
  have B1 := hide hu.blw
  have ST0 : Hid (EaSt w (w1.alloc (.cells #[.slice ua ul uc, .slice ub um ud, .int .i64 nx] 29)) z w1.heap.size (.slice va vl vc) (.slice ad len cap) (.int .i64 nx) (.slice ua ul uc) (.slice ub um ud) s) := by
    have bb := B0.out.trans (B1.out.mono B0.out.size)
    have ba : Below w1.heap.size w1 (w1.alloc (.cells #[.slice ua ul uc, .slice ub um ud, .int .i64 nx] 29)) := (Below.refl _ _).alloc (Nat.le_refl _) _
    have hzz := HZ.out
    have hs1 := B1.out.size
    have hzw := HZW.out
    refine ⟨bb.trans (ba.mono bb.size), (ba.block z (by omega)).trans ((B1.out.block z (by omega)).trans X1.out), (ba.block (z + 1) (by omega)).trans ((B1.out.block (z + 1) (by omega)).trans XR.out), by rw [HNX.out]; exact heap_alloc_new w1 _, ?_, HFT.out, hzw, by omega⟩
    exact (StH.of hu (by omega) (.inr (Nat.le_refl _))).below ba
  obtain ⟨zb, hzb⟩ : ∃ zb, w1.heap.size = zb := ⟨_, rfl⟩
  rw [hzb] at ST0
  clear hu B1 XR X1
  go_wp2_with fail
  generalize w1.alloc (.cells #[.slice ua ul uc, .slice ub um ud, .int .i64 nx] 29) = w2 at ST0 ⊢
  clear hzb
  go_loopw [15] (fun kv V => ∃ (k : Nat) (t : Sto) (aa : Option Addr) (al ac : Nat) (ba : Option Addr) (bl bc : Nat), k ≤ ln ∧ kv = .int .i64 k ∧ Hid (enterGo s (l.take k) = some t ∧ EaSt w V z zb (.slice va vl vc) (.slice ad len cap) (.int .i64 nx) (.slice aa al ac) (.slice ba bl bc) t)) (fun kv _ => ln - (intOf kv).toNat)
  case atStart => exact ⟨0, s, ua, ul, uc, ub, um, ud, Nat.zero_le _, rfl, by rw [List.take_zero, enterGo], ST0.out⟩
  case round =>
    obtain ⟨k, t, aa, al, ac, ba, bl, bc, hk, rfl, HS⟩ := hrel
    clear ST0
    by_cases hlt : (k : Int) < ln
    · obtain ⟨r, hr⟩ : ∃ r, l[k]? = some r := ⟨_, List.getElem?_eq_getElem (by have := HLN.out; omega)⟩
      obtain ⟨b, off, e, hb, c0, c1, c2, c3⟩ := (HL.out.below HS.out.2.1).at (show (l.map Rc.tu)[k]? = some r.tu by rw [List.getElem?_map, hr]; rfl)
      subst e
      have k0 : (0 : Int) ≤ k := by omega
      have HRK := hide hr
      obtain ⟨kind, vol, arg, chunk⟩ := r
      simp only [Rc.tu] at c0 c1 c2 c3
      have BA : Hid (Below wr.heap.size wr (wr.alloc (.cells #[.int .i64 kind, .int .i64 vol, .int .i64 arg, .int .i64 chunk] 31))) := (Below.refl _ _).alloc (Nat.le_refl _) _
      have S1 := hide (HS.out.2.below BA.out)
      obtain ⟨tn, htn⟩ : ∃ tn, t.next = tn := ⟨_, rfl⟩
      have HTN := hide htn
      have hz4 := S1.out.2.2.2.1
      rw [htn] at hz4
      have y0 := cell_of_row _ _ 0 _ _ _ hz4
      have y1 := cell_of_row _ _ 1 _ _ _ hz4
      have y2 := cell_of_row _ _ 2 _ _ _ hz4
      have hy0 : (wr.alloc (.cells #[.int .i64 kind, .int .i64 vol, .int .i64 arg, .int .i64 chunk] 31)).cell? ⟨zb, 0, none⟩ = some (.slice aa al ac) := y0
      have hy1 : (wr.alloc (.cells #[.int .i64 kind, .int .i64 vol, .int .i64 arg, .int .i64 chunk] 31)).cell? ⟨zb, 1, none⟩ = some (.slice ba bl bc) := y1
      have hy2 : (wr.alloc (.cells #[.int .i64 kind, .int .i64 vol, .int .i64 arg, .int .i64 chunk] 31)).cell? ⟨zb, 2, none⟩ = some (.int .i64 tn) := y2
      have CE := hide (ienter _ t ⟨kind, vol, arg, chunk⟩ _ (S1.out.2.2.2.2.1.rd S1.out.2.2.2.2.2.1))
      rw [htn] at CE
      simp only at CE
      clear hr hz4 y0 y1 y2 htn
      go_wp2_with fail
      refine CE.out.mono ?_
      rintro e w3 ⟨u, rfl, hu⟩
      have B3 := hide hu.blw
      have S3 := hide (S1.out.below hu.blw)
      have HFE := hide (enter_fit S1.out.2.2.2.2.2.1 ⟨kind, vol, arg, chunk⟩)
      obtain ⟨pa, pl, pc, pb, pm, pd, rfl⟩ := hu.form
      obtain ⟨m, hm⟩ : ∃ m, (enterS t ⟨kind, vol, arg, chunk⟩).1.next = m := ⟨_, rfl⟩
      have HM := hide hm
      have HU := hide hu
      rw [hm] at HU ⊢
      have hz4 := S3.out.2.2.2.1
      rw [HTN.out] at hz4
      have BA3 : Hid (Below w3.heap.size w3 (w3.alloc (.cells #[.slice pa pl pc, .slice pb pm pd, .int .i64 m] 29))) := (Below.refl _ _).alloc (Nat.le_refl _) _
      have hzl : zb < w3.heap.size := (Array.getElem?_eq_some_iff.1 hz4).1
      by_cases hok : (enterS t ⟨kind, vol, arg, chunk⟩).2 = true
      · have q0 := cell_of_row _ _ 0 _ _ _ hz4
        have q1 := cell_of_row _ _ 1 _ _ _ hz4
        have q2 := cell_of_row _ _ 2 _ _ _ hz4
        have g0 := frozen_of_row _ _ 0 _ _ hz4
        have g1 := frozen_of_row _ _ 1 _ _ hz4
        have g2 := frozen_of_row _ _ 2 _ _ hz4
        have r0 := (BA3.out.cell (show zb < w3.heap.size from hzl)).trans q0
        have r1 := (BA3.out.cell (show zb < w3.heap.size from hzl)).trans q1
        have r2 := (BA3.out.cell (show zb < w3.heap.size from hzl)).trans q2
        have k0' := (BA3.out.frozen (p := ⟨zb, 0, none⟩) (show zb < w3.heap.size from hzl)).trans g0
        have k1' := (BA3.out.frozen (p := ⟨zb, 1, none⟩) (show zb < w3.heap.size from hzl)).trans g1
        have k2' := (BA3.out.frozen (p := ⟨zb, 2, none⟩) (show zb < w3.heap.size from hzl)).trans g2
        have NX : Hid (enterGo s (l.take (k + 1)) = some (enterS t ⟨kind, vol, arg, chunk⟩).1 ∧ EaSt w ((((w3.setCell ⟨zb, 0, none⟩ (.slice pa pl pc)).setCell ⟨zb, 1, none⟩ (.slice pb pm pd)).setCell ⟨zb, 2, none⟩ (.int .i64 m)).alloc (.cells #[.slice pa pl pc, .slice pb pm pd, .int .i64 m] 29)) z zb (.slice va vl vc) (.slice ad len cap) (.int .i64 nx) (.slice pa pl pc) (.slice pb pm pd) (enterS t ⟨kind, vol, arg, chunk⟩).1) := by
          refine ⟨by rw [go_snoc HS.out.1 HRK.out, if_pos hok], ?_⟩
          exact (S1.out.next HU.out HM.out HFE.out (Below.refl _ _)).below ((Below.refl _ _).alloc (Nat.le_refl _) _)
        rw [hok]
        clear hu hm hz4 CE HS S1 S3 HU hok
        go_wp2
        go_roundw
        case rel => exact ⟨k + 1, _, pa, pl, pc, pb, pm, pd, by omega, by go_num, NX⟩
        case measure => simp [intOf]; omega
      · have hof : (enterS t ⟨kind, vol, arg, chunk⟩).2 = false := by simpa using hok
        have HE := hide (go_bad HS.out.1 HRK.out hof)
        have S4 := hide (S3.out.below BA3.out)
        have x0 : (w3.alloc (.cells #[.slice pa pl pc, .slice pb pm pd, .int .i64 m] 29)).cell? ⟨z, 0, none⟩ = some (.slice va vl vc) := cell_of_row _ _ 0 _ _ _ S4.out.2.1
        have x1 : (w3.alloc (.cells #[.slice pa pl pc, .slice pb pm pd, .int .i64 m] 29)).cell? ⟨z, 1, none⟩ = some (.slice ad len cap) := cell_of_row _ _ 1 _ _ _ S4.out.2.1
        have x2 : (w3.alloc (.cells #[.slice pa pl pc, .slice pb pm pd, .int .i64 m] 29)).cell? ⟨z, 2, none⟩ = some (.int .i64 nx) := cell_of_row _ _ 2 _ _ _ S4.out.2.1
        have CC := hide (icopS_in (HIN.out.below S4.out.1))
        have HZ4 : Hid (z + 1 < (w3.alloc (.cells #[.slice pa pl pc, .slice pb pm pd, .int .i64 m] 29)).heap.size) := (Array.getElem?_eq_some_iff.1 S4.out.2.2.1).1
        have B4 := hide S4.out.1
        have R4 := hide S4.out.2.2.1
        rw [hof]
        clear hu hm hz4 CE HS S1 S3 HU hok hof
        go_wp2_with fail
        refine CC.out.mono ?_
        rintro e w5 ⟨u5, rfl, hu5⟩
        obtain ⟨ga, gl, gc, gb, gm, gd, rfl⟩ := hu5.form
        rw [HNX.out]
        have R5 := (hu5.blw.block (z + 1) HZ4.out).trans R4.out
        have r0 := cell_of_row _ _ 0 _ _ _ R5
        have r1 := cell_of_row _ _ 1 _ _ _ R5
        have r2 := cell_of_row _ _ 2 _ _ _ R5
        have f0 := frozen_of_row _ _ 0 _ _ R5
        have f1 := frozen_of_row _ _ 1 _ _ R5
        have f2 := frozen_of_row _ _ 2 _ _ R5
        have FR := hide (sto_row3 (a := .slice ga gl gc) (b := .slice gb gm gd) (c := .int .i64 nx) R5)
        have FIN : Hid (EnOut w (enterAllS s l) (.returned (.tuple #[.agg #[.slice ga gl gc, .slice gb gm gd, .int .i64 nx], .bool false])) (((w5.setCell ⟨z + 1, 0, none⟩ (.slice ga gl gc)).setCell ⟨z + 1, 1, none⟩ (.slice gb gm gd)).setCell ⟨z + 1, 2, none⟩ (.int .i64 nx))) := by
          rw [HE.out]
          refine ⟨_, rfl, ?_⟩
          have := hu5.set3 (w0 := w) (a := .slice ga gl gc) (b := .slice gb gm gd) (c := .int .i64 nx) B4.out (g := z + 1) HZ4.out (by have := HZW.out; omega)
          rw [HNX.out] at this
          exact this
        clear hu5 R5 CC
        go_wp2
        exact bodyPost_ret (results_st2 (p := 4) (q := 5) rfl _ _ (z + 1) _ _ _ rfl FR.out) rfl FIN.out
    · have HE : Hid (enterAllS s l = (t, true)) := by
        have := HS.out.1
        rw [List.take_of_length_le (by have := HLN.out; omega)] at this
        exact go_all this
      obtain ⟨tn, htn⟩ : ∃ tn, t.next = tn := ⟨_, rfl⟩
      have S1 := hide HS.out.2
      have hz4 := S1.out.2.2.2.1
      rw [htn] at hz4
      have y0 := cell_of_row _ _ 0 _ _ _ hz4
      have y1 := cell_of_row _ _ 1 _ _ _ hz4
      have y2 := cell_of_row _ _ 2 _ _ _ hz4
      have hy0 : wr.cell? ⟨zb, 0, none⟩ = some (.slice aa al ac) := y0
      have hy1 : wr.cell? ⟨zb, 1, none⟩ = some (.slice ba bl bc) := y1
      have hy2 : wr.cell? ⟨zb, 2, none⟩ = some (.int .i64 tn) := y2
      have R5 := S1.out.2.2.1
      have r0 := cell_of_row _ _ 0 _ _ _ R5
      have r1 := cell_of_row _ _ 1 _ _ _ R5
      have r2 := cell_of_row _ _ 2 _ _ _ R5
      have f0 := frozen_of_row _ _ 0 _ _ R5
      have f1 := frozen_of_row _ _ 1 _ _ R5
      have f2 := frozen_of_row _ _ 2 _ _ R5
      have FR := hide (sto_row3 (a := .slice aa al ac) (b := .slice ba bl bc) (c := .int .i64 tn) R5)
      have FIN : Hid (EnOut w (enterAllS s l) (.returned (.tuple #[.agg #[.slice aa al ac, .slice ba bl bc, .int .i64 tn], .bool true])) (((wr.setCell ⟨z + 1, 0, none⟩ (.slice aa al ac)).setCell ⟨z + 1, 1, none⟩ (.slice ba bl bc)).setCell ⟨z + 1, 2, none⟩ (.int .i64 tn))) := by
        rw [HE.out]
        refine ⟨_, rfl, ?_⟩
        have hh := S1.out.2.2.2.2.1
        rw [htn] at hh
        exact hh.fin S1.out.1 (by have := HZW.out; omega) (by omega)
      clear HS S1 hz4 y0 y1 y2 R5 htn
      go_wp2
      exact bodyPost_ret (results_st2 (p := 4) (q := 5) rfl _ _ (z + 1) _ _ _ rfl FR.out) rfl FIN.out
end Go.Proofs.Ytcnaahajaaifjaa
