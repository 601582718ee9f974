/-
  IEnter; IEntA; IEnAll
-/
import Derived.Test.YtcnaahajaaifjacGreatIAdd
import Derived.Test.YtcnaahajaaifjacGreatPk47
import Derived.Test.YtcnaahajaaifjacGreatIStOk
import Derived.Test.YtcnaahajaaifjacGreatPk28
import Derived.Test.YtcnaahajaaifjacGreatPk30
import Derived.Test.YtcnaahajaaifjacGreatPk20
/-
  enter; impl.Enter, impl.EnterAll, impl.StoreNew.
-/
namespace Go.Proofs.YtcnaahajaaifjacGreat
open Go.RowKit
open Words

/-- What enter answers. -/
def EmOut (w : World) (p : Nat) (s : Sto) (r : Rc) (e : Ending) (w' : World) : Prop := ∃ ok t, e = .returned (.bool ok) ∧ OpS w w' p t ∧ EntS s r ok t
set_option maxHeartbeats 2000000 in
set_option maxRecDepth 100000 in
theorem ienterM (p : Nat) (s : Sto) (r : Rc) (w W : World) (hR : s.Right) (hr : r.Right) (h : OpS w W p s) :
    Calls Tryz.prog 46 #[.pointer (some ⟨p, 0, none⟩), .agg #[.int .i64 r.kind, .int .i64 r.vol, .int .i64 r.arg, .int .i64 r.chunk]] W (EmOut w p s r) := by
  obtain ⟨kind, vol, arg, chunk⟩ := r
  have HR := hide hR
  have HRR := hide hr
  have hfew := hR.few
  have hsm := right_small hR
  obtain ⟨⟨ha0, ha1⟩, hrr⟩ := hr
  simp only at ha0 ha1 hrr ⊢
  have BA : Hid (Below W.heap.size W (W.alloc (.cells #[.int .i64 kind, .int .i64 vol, .int .i64 arg, .int .i64 chunk] 52))) := (Below.refl _ _).alloc (Nat.le_refl _) _
  have HO := hide (h.below BA.out)
  clear hR h
  rcases hrr with ⟨rfl, rfl, rfl⟩ | ⟨hv, ⟨rfl, ha2, rfl⟩ | ⟨rfl, rfl, rfl⟩ | ⟨rfl, ha2, hc1, hc2⟩ | ⟨rfl, ha2, rfl⟩⟩
  · -- a base
    obtain ⟨kv, vv, hd⟩ := HO.out.d
    obtain ⟨va, vc, rfl, -, -⟩ := hd.open
    obtain ⟨-, c1, c2, -, f1, f2⟩ := ops_cells hd.2.2.1
    have FIN : Hid (∀ m, (if arg < 1 then 1 else arg) = m → EmOut w p s ⟨1, 0, arg, 0⟩ (.returned (.bool true)) ((((W.alloc (.cells #[.int .i64 1, .int .i64 0, .int .i64 arg, .int .i64 0] 52)).setCell ⟨p, 1, none⟩ (.slice none 0 0)).setCell ⟨p, 2, none⟩ (.int .i64 m)).drew)) := fun m hm => by
      have h1 := hd.setVols (vs := []) (vv' := .slice none 0 0) (World.ownsRow_nil _ _ _ _)
      have h2 := ((h1.setNext m).below (Below.refl _ _).drew).s
      have h3 := ent_base HR.out HRR.out
      rw [hm] at h3
      exact ⟨true, _, rfl, h2, h3⟩
    go_enter Tryz.func46, Tryz.ntmps46
    go_wp2_with fail
    by_cases h1 : arg < 1
    · have F2 := hide (FIN.out 1 (if_pos h1))
      clear FIN hd
      go_region
      go_wp2
      go_ret
      exact F2.out
    · have F2 := hide (FIN.out arg (if_neg h1))
      clear FIN hd
      go_region
      go_wp2
      go_ret
      exact F2.out
  · -- a volume
    have CA := hide (iaddV p s vol arg w _ hfew HR.out.asc HO.out)
    go_enter Tryz.func46, Tryz.ntmps46
    go_wp2_with fail
    refine CA.out.mono ?_
    rintro e w1 (⟨hn, rfl, ho⟩ | ⟨⟨h1, h2⟩, q, hq, rfl, ho⟩)
    · have FIN : Hid (EmOut w p s ⟨2, vol, arg, 0⟩ (.returned (.bool false)) w1) := ⟨false, s, rfl, ho, ent_vol_no HR.out HRR.out hn _⟩
      clear ho hn CA
      go_wp2
      go_ret
      exact FIN.out
    · have FIN : Hid (EmOut w p s ⟨2, vol, arg, 0⟩ (.returned (.bool true)) w1) := ⟨true, _, rfl, ho, ent_vol HR.out HRR.out h1 h2 hq⟩
      clear ho hq CA h1 h2
      go_wp2
      go_ret
      exact FIN.out
  · -- one that goes
    have CA := hide (idropV p s vol w _ (by omega) HR.out.asc HO.out)
    go_enter Tryz.func46, Tryz.ntmps46
    go_wp2_with fail
    refine CA.out.mono ?_
    intro e w1 hm
    cases ho : atV s.vols vol with
    | none =>
      rw [ho] at hm
      obtain ⟨rfl, hop⟩ := hm
      have FIN : Hid (EmOut w p s ⟨3, vol, 0, 0⟩ (.returned (.bool false)) w1) := ⟨false, s, rfl, hop, ent_drop_no HR.out HRR.out ho _⟩
      clear hop CA ho
      go_wp2
      go_ret
      exact FIN.out
    | some k =>
      rw [ho] at hm
      obtain ⟨rfl, hop⟩ := hm
      have FIN : Hid (EmOut w p s ⟨3, vol, 0, 0⟩ (.returned (.bool true)) w1) := ⟨true, _, rfl, hop, ent_drop HR.out HRR.out ho⟩
      clear hop CA ho
      go_wp2
      go_ret
      exact FIN.out
  · -- a chunk
    have CA := hide (iputC p s vol arg chunk w _ (by omega) (by omega) (fun q => put_kids HR.out q arg chunk) (by omega) hc2 HO.out)
    go_enter Tryz.func46, Tryz.ntmps46
    go_wp2_with fail
    refine CA.out.mono ?_
    rintro e w1 (⟨hn, rfl, ho⟩ | ⟨h1, k, v, h2, h3, rfl, ho⟩)
    · have FIN : Hid (EmOut w p s ⟨4, vol, arg, chunk⟩ (.returned (.bool false)) w1) := ⟨false, s, rfl, ho, ent_put_no HR.out (.inl rfl) HRR.out hn _⟩
      clear ho hn CA
      go_wp2
      go_ret
      exact FIN.out
    · have FIN : Hid (EmOut w p s ⟨4, vol, arg, chunk⟩ (.returned (.bool true)) w1) := ⟨true, _, rfl, ho, ent_put HR.out (.inl rfl) HRR.out h1 h2 h3⟩
      clear ho CA h1 h2 h3
      go_wp2
      go_ret
      exact FIN.out
  · -- nothing in its place
    have CA := hide (iputC p s vol arg 0 w _ (by omega) (by omega) (fun q => put_kids HR.out q arg 0) (by omega) (by omega) HO.out)
    go_enter Tryz.func46, Tryz.ntmps46
    go_wp2_with fail
    refine CA.out.mono ?_
    rintro e w1 (⟨hn, rfl, ho⟩ | ⟨h1, k, v, h2, h3, rfl, ho⟩)
    · have FIN : Hid (EmOut w p s ⟨5, vol, arg, 0⟩ (.returned (.bool false)) w1) := ⟨false, s, rfl, ho, ent_put_no HR.out (.inr rfl) HRR.out hn _⟩
      clear ho hn CA
      go_wp2
      go_ret
      exact FIN.out
    · have FIN : Hid (EmOut w p s ⟨5, vol, arg, 0⟩ (.returned (.bool true)) w1) := ⟨true, _, rfl, ho, ent_put HR.out (.inr rfl) HRR.out h1 h2 h3⟩
      clear ho CA h1 h2 h3
      go_wp2
      go_ret
      exact FIN.out
end Go.Proofs.YtcnaahajaaifjacGreat

/-
  impl.StoreNew, impl.Enter, impl.EnterAll.
-/
namespace Go.Proofs.YtcnaahajaaifjacGreat
open Go.RowKit
open Words

/-- A store that came in is copied. -/
theorem icopS_in {v : Value} {s : Sto} {w : World} (h : StIn w v s) : Calls Tryz.prog 22 #[v] w fun e w' => ∃ u, e = .returned u ∧ StOut w s u w' := by
  obtain ⟨va, vl, vc, ad, len, cap, rs, rfl, hks, hvl, hl, hll, hvc, h, hk⟩ := h
  have := icopS va vl vc ad len cap s.next s.vols rs w hvl (by omega) hll hvc h hk
  rw [← hks] at this
  exact this
theorem iopened_in {v : Value} {s : Sto} {w : World} (h : StIn w v s) : Calls Tryz.prog 43 #[v] w fun e w' => ∃ p, e = .returned (.pointer (some ⟨p, 0, none⟩)) ∧ OpS w w' p s := by
  obtain ⟨va, vl, vc, ad, len, cap, rs, rfl, hks, hvl, hl, hll, hvc, h, hk⟩ := h
  have := iopened va vl vc ad len cap s.next s.vols rs w hvl (by omega) hll hvc h hk
  rw [← hks] at this
  exact this
set_option maxHeartbeats 2000000 in
set_option maxRecDepth 100000 in
theorem ienter : EnterC 23 := by
  intro v s r w hin
  obtain ⟨va, vl, vc, ad, len, cap, rs, ev, -⟩ := id hin
  have HIN := hide hin
  have T0 := hide (Tk.three w #[.slice va vl vc, .slice ad len cap, .int .i64 s.next] #[.int .i64 r.kind, .int .i64 r.vol, .int .i64 r.arg, .int .i64 r.chunk] #[.slice none 0 0, .slice none 0 0, .int .i64 0] 36 52 36)
  unfold SBox at ev
  have HEV := hide ev
  rw [ev]
  rw [ev] at HIN
  obtain ⟨nx, hnx⟩ : ∃ nx, s.next = nx := ⟨_, rfl⟩
  rw [hnx] at T0 HIN ⊢
  clear hin ev
  obtain ⟨kind, vol, arg, chunk⟩ := r
  simp only at T0 ⊢
  go_enter Tryz.func23, Tryz.ntmps23
  go_wp2_with fail
  generalize ((w.alloc (.cells #[.slice va vl vc, .slice ad len cap, .int .i64 nx] 36)).alloc (.cells #[.int .i64 kind, .int .i64 vol, .int .i64 arg, .int .i64 chunk] 52)).alloc (.cells #[.slice none 0 0, .slice none 0 0, .int .i64 0] 36) = w0 at T0 ⊢
  have B0 := hide T0.out.1
  have XR := hide (T0.out.get 0 rfl)
  have X1 := hide (T0.out.get 1 rfl)
  have X2 := hide (T0.out.get 2 rfl)
  obtain ⟨z, hz⟩ : ∃ z, w.heap.size = z := ⟨_, rfl⟩
  have HZW := hide hz
  rw [hz] at XR X1 X2 ⊢
  have HNXs := hide hnx
  clear hz T0 hnx
  have HZ : Hid (z + 1 + 1 < w0.heap.size) := (Array.getElem?_eq_some_iff.1 XR.out).1
  have SC : Hid (∀ W, Below w0.heap.size w0 W → W.cell? ⟨z, 0, none⟩ = some (.slice va vl vc) ∧ W.cell? ⟨z, 1, none⟩ = some (.slice ad len cap) ∧ W.cell? ⟨z, 2, none⟩ = some (.int .i64 nx)) := fun W H => by
    have h := (H.block z (by have := HZ.out; omega)).trans X2.out
    exact ⟨cell_of_row _ _ 0 _ _ _ h, cell_of_row _ _ 1 _ _ _ h, cell_of_row _ _ 2 _ _ _ h⟩
  have RC : Hid (∀ W, Below w0.heap.size w0 W → W.cell? ⟨z + 1, 0, none⟩ = some (.int .i64 kind) ∧ W.cell? ⟨z + 1, 1, none⟩ = some (.int .i64 vol) ∧ W.cell? ⟨z + 1, 2, none⟩ = some (.int .i64 arg) ∧ W.cell? ⟨z + 1, 3, none⟩ = some (.int .i64 chunk)) := fun W H => by
    have h := (H.block (z + 1) (by have := HZ.out; omega)).trans X1.out
    exact ⟨cell_of_row _ _ 0 _ _ _ h, cell_of_row _ _ 1 _ _ _ h, cell_of_row _ _ 2 _ _ _ h, cell_of_row _ _ 3 _ _ _ h⟩
  have RR : Hid (∀ W, Below w0.heap.size w0 W → W.heap[z + 1 + 1]? = some (.cells #[.slice none 0 0, .slice none 0 0, .int .i64 0] 36 (0, 0))) := fun W H => (H.block (z + 1 + 1) HZ.out).trans XR.out
  have RF : Hid (∀ W, Below w0.heap.size w0 W → W.cell? ⟨z + 1 + 1, 0, none⟩ = some (.slice none 0 0) ∧ W.cell? ⟨z + 1 + 1, 1, none⟩ = some (.slice none 0 0) ∧ W.cell? ⟨z + 1 + 1, 2, none⟩ = some (.int .i64 0) ∧ W.frozen? ⟨z + 1 + 1, 0, none⟩ = false ∧ W.frozen? ⟨z + 1 + 1, 1, none⟩ = false ∧ W.frozen? ⟨z + 1 + 1, 2, none⟩ = false) := fun W H => by
    have h := RR.out W H
    exact ⟨cell_of_row _ _ 0 _ _ _ h, cell_of_row _ _ 1 _ _ _ h, cell_of_row _ _ 2 _ _ _ h, frozen_of_row _ _ 0 _ _ h, frozen_of_row _ _ 1 _ _ h, frozen_of_row _ _ 2 _ _ h⟩
  have SI : Hid (∀ W, Below w0.heap.size w0 W → StIn W (.agg #[.slice va vl vc, .slice ad len cap, .int .i64 nx]) s) := fun W H => HIN.out.below (B0.out.trans (H.mono B0.out.size))
  clear XR X1 X2 HIN
  -- what is answered where nothing is entered
  have NOE : Hid (∀ (W w' : World) (u : Value), Below w0.heap.size w0 W → enterS s ⟨kind, vol, arg, chunk⟩ = (s, false) → StOut W s u w' → ∃ ua ul uc ub um ud, u = .agg #[.slice ua ul uc, .slice ub um ud, .int .i64 nx] ∧ Below w0.heap.size w0 w' ∧ EnOut w (enterS s ⟨kind, vol, arg, chunk⟩) (.returned (.tuple #[.agg #[.slice ua ul uc, .slice ub um ud, .int .i64 nx], .bool false])) (((w'.setCell ⟨z + 1 + 1, 0, none⟩ (.slice ua ul uc)).setCell ⟨z + 1 + 1, 1, none⟩ (.slice ub um ud)).setCell ⟨z + 1 + 1, 2, none⟩ (.int .i64 nx))) := fun W w' u H he hu => by
    obtain ⟨ua, ul, uc, ub, um, ud, rfl⟩ := hu.form
    have hbw := H.trans (hu.blw.mono H.size)
    have hz := HZ.out
    have hzw := HZW.out
    have hs := H.size
    refine ⟨ua, ul, uc, ub, um, ud, by rw [HNXs.out], hbw, ?_⟩
    rw [he]
    refine ⟨_, rfl, ?_⟩
    have := (hu.from H).set3 (w0 := w) (a := .slice ua ul uc) (b := .slice ub um ud) (c := .int .i64 nx) B0.out (g := z + 1 + 1) (by omega) (by omega)
    rw [← HNXs.out] at this ⊢
    exact this
  refine (iopened_in (SI.out _ (Below.refl _ _))).mono ?_
  rintro e w1 ⟨p, rfl, op1⟩
  have B1 := hide op1.1
  have O1 := hide op1
  obtain ⟨x0, x1, x2⟩ := SC.out w1 op1.1
  clear op1
  go_wp2_with fail
  refine (istoOk _ _ _ (SI.out _ B1.out)).mono ?_
  rintro e w2 ⟨rfl, b2⟩
  have B2 := hide (B1.out.trans (b2.mono B1.out.size))
  have O2 := hide (O1.out.below b2)
  clear b2 x0 x1 x2 O1
  by_cases hsb : stoB s = true
  · rw [hsb]
    have HR := hide ((stoB_iff s).1 hsb)
    have HSB := hide hsb
    obtain ⟨y0, y1, y2, y3⟩ := RC.out w2 B2.out
    have CR := hide (irecOk ⟨kind, vol, arg, chunk⟩ w2)
    unfold rcVal at CR
    simp only at CR
    clear hsb
    go_wp2_with fail
    refine CR.out.mono ?_
    rintro e w3 ⟨rfl, b3⟩
    have B3 := hide (B2.out.trans (b3.mono B2.out.size))
    have O3 := hide (O2.out.below b3)
    clear b3 CR y0 y1 y2 y3 O2
    by_cases hrr : (Rc.mk kind vol arg chunk).Right
    · rw [dcY hrr]
      obtain ⟨y0, y1, y2, y3⟩ := RC.out w3 B3.out
      have CM := hide (ienterM p s ⟨kind, vol, arg, chunk⟩ w0 w3 HR.out hrr O3.out)
      simp only at CM
      clear hrr
      go_wp2_with fail
      refine CM.out.mono ?_
      rintro e w4 ⟨ok, t, rfl, op4, hent⟩
      have B4 := hide op4.1
      have O4 := hide op4
      clear op4 CM y0 y1 y2 y3 O3
      rcases hent with ⟨rfl, he⟩ | ⟨rfl, he, hfew⟩
      · have HE := hide he
        clear he
        obtain ⟨x0, x1, x2⟩ := SC.out w4 B4.out
        go_wp2_with fail
        refine (icopS_in (SI.out w4 B4.out)).mono ?_
        rintro e wc ⟨u, rfl, hu⟩
        obtain ⟨ua, ul, uc, ub, um, ud, rfl, bc, hen⟩ := NOE.out _ _ _ B4.out HE.out hu
        obtain ⟨r0, r1, r2, f0, f1, f2⟩ := RF.out wc bc
        have FR := hide (sto_row3 (a := .slice ua ul uc) (b := .slice ub um ud) (c := .int .i64 nx) (RR.out wc bc))
        have FIN := hide hen
        clear hu bc hen x0 x1 x2
        go_wp2
        exact bodyPost_ret (results_st2 (p := 4) (q := 5) rfl _ _ (z + 1 + 1) _ _ _ rfl FR.out) rfl FIN.out
      · have HE := hide he
        clear he
        have CT := hide (isweepT p t w0 w4 hfew O4.out)
        clear hfew
        go_wp2_with fail
        refine CT.out.mono ?_
        rintro e w5 ⟨rfl, op5⟩
        have CC := hide (iclosed p (sweptS t) w0 w5 op5)
        clear op5 CT
        go_wp2_with fail
        refine CC.out.mono ?_
        rintro e w6 ⟨u, rfl, hu, b6⟩
        obtain ⟨ua, ul, uc, ub, um, ud, rfl⟩ := hu.form
        obtain ⟨r0, r1, r2, f0, f1, f2⟩ := RF.out w6 hu.blw
        obtain ⟨mx, hmx⟩ : ∃ mx, (sweptS t).next = mx := ⟨_, rfl⟩
        have FIN : Hid (EnOut w (enterS s ⟨kind, vol, arg, chunk⟩) (.returned (.tuple #[.agg #[.slice ua ul uc, .slice ub um ud, .int .i64 mx], .bool true])) (((w6.setCell ⟨z + 1 + 1, 0, none⟩ (.slice ua ul uc)).setCell ⟨z + 1 + 1, 1, none⟩ (.slice ub um ud)).setCell ⟨z + 1 + 1, 2, none⟩ (.int .i64 mx))) := by
          rw [HE.out]
          refine ⟨_, rfl, ?_⟩
          have hz := HZ.out
          have hzw := HZW.out
          have := hu.set3 (w0 := w) (a := .slice ua ul uc) (b := .slice ub um ud) (c := .int .i64 mx) B0.out (g := z + 1 + 1) hz (by omega)
          rw [← hmx] at this ⊢
          exact this
        have FR := hide (sto_row3 (a := .slice ua ul uc) (b := .slice ub um ud) (c := .int .i64 mx) (RR.out w6 hu.blw))
        rw [hmx]
        clear hu b6 hmx CC
        go_wp2
        exact bodyPost_ret (results_st2 (p := 4) (q := 5) rfl _ _ (z + 1 + 1) _ _ _ rfl FR.out) rfl FIN.out
    · rw [dcN hrr]
      have HE : Hid (enterS s ⟨kind, vol, arg, chunk⟩ = (s, false)) := by show _ = _; rw [enterS, if_neg (fun q => hrr q.2)]
      clear hrr
      obtain ⟨x0, x1, x2⟩ := SC.out w3 B3.out
      go_wp2_with fail
      refine (icopS_in (SI.out w3 B3.out)).mono ?_
      rintro e wc ⟨u, rfl, hu⟩
      obtain ⟨ua, ul, uc, ub, um, ud, rfl, bc, hen⟩ := NOE.out _ _ _ B3.out HE.out hu
      obtain ⟨r0, r1, r2, f0, f1, f2⟩ := RF.out wc bc
      have FR := hide (sto_row3 (a := .slice ua ul uc) (b := .slice ub um ud) (c := .int .i64 nx) (RR.out wc bc))
      have FIN := hide hen
      clear hu bc hen x0 x1 x2
      go_wp2
      exact bodyPost_ret (results_st2 (p := 4) (q := 5) rfl _ _ (z + 1 + 1) _ _ _ rfl FR.out) rfl FIN.out
  · have HE : Hid (enterS s ⟨kind, vol, arg, chunk⟩ = (s, false)) := by show _ = _; rw [enterS, if_neg (fun q => hsb q.1)]
    have hsf : stoB s = false := by simpa using hsb
    rw [hsf]
    clear hsb hsf
    obtain ⟨x0, x1, x2⟩ := SC.out w2 B2.out
    go_wp2_with fail
    refine (icopS_in (SI.out w2 B2.out)).mono ?_
    rintro e wc ⟨u, rfl, hu⟩
    obtain ⟨ua, ul, uc, ub, um, ud, rfl, bc, hen⟩ := NOE.out _ _ _ B2.out HE.out hu
    obtain ⟨r0, r1, r2, f0, f1, f2⟩ := RF.out wc bc
    have FR := hide (sto_row3 (a := .slice ua ul uc) (b := .slice ub um ud) (c := .int .i64 nx) (RR.out wc bc))
    have FIN := hide hen
    clear hu bc hen x0 x1 x2
    go_wp2
    exact bodyPost_ret (results_st2 (p := 4) (q := 5) rfl _ _ (z + 1 + 1) _ _ _ rfl FR.out) rfl FIN.out
end Go.Proofs.YtcnaahajaaifjacGreat

/-
  impl.EnterAll.
-/
namespace Go.Proofs.YtcnaahajaaifjacGreat
open Go.RowKit
open Words

set_option maxHeartbeats 2000000 in
set_option maxRecDepth 100000 in
theorem ienterAll : EnterAllC 9 := by
  intro v s la ln lc l w hln hin hl
  obtain ⟨va, vl, vc, ad, len, cap, rs, ev, -⟩ := id hin
  have HIN := hide hin
  have T0 := hide (Tk.two w #[.slice va vl vc, .slice ad len cap, .int .i64 s.next] #[.slice none 0 0, .slice none 0 0, .int .i64 0] 36 36)
  unfold SBox at ev
  rw [ev]
  rw [ev] at HIN
  obtain ⟨nx, hnx⟩ : ∃ nx, s.next = nx := ⟨_, rfl⟩
  have HNX := hide hnx
  rw [hnx] at T0 HIN ⊢
  have HL := hide hl
  have HLN := hide (show l.length = ln by have := hl.1; simpa using this)
  have HFT := hide hin.fit
  clear hin ev hl hnx
  go_enter Tryz.func9, Tryz.ntmps9
  go_wp2_with fail
  generalize (w.alloc (.cells #[.slice va vl vc, .slice ad len cap, .int .i64 nx] 36)).alloc (.cells #[.slice none 0 0, .slice none 0 0, .int .i64 0] 36) = w0 at T0 ⊢
  have B0 := hide T0.out.1
  have XR := hide (T0.out.get 0 rfl)
  have X1 := hide (T0.out.get 1 rfl)
  obtain ⟨z, hz⟩ : ∃ z, w.heap.size = z := ⟨_, rfl⟩
  have HZW := hide hz
  rw [hz] at XR X1 ⊢
  clear hz T0
  have HZ : Hid (z + 1 < w0.heap.size) := (Array.getElem?_eq_some_iff.1 XR.out).1
  refine (icopS_in (HIN.out.below B0.out)).mono ?_
  rintro e w1 ⟨u, rfl, hu⟩
  obtain ⟨ua, ul, uc, ub, um, ud, rfl⟩ := hu.form
  rw [HNX.out]
  have B1 := hide hu.blw
  have ST0 : Hid (EaSt w (w1.alloc (.cells #[.slice ua ul uc, .slice ub um ud, .int .i64 nx] 36)) z w1.heap.size (.slice va vl vc) (.slice ad len cap) (.int .i64 nx) (.slice ua ul uc) (.slice ub um ud) s) := by
    have bb := B0.out.trans (B1.out.mono B0.out.size)
    have ba : Below w1.heap.size w1 (w1.alloc (.cells #[.slice ua ul uc, .slice ub um ud, .int .i64 nx] 36)) := (Below.refl _ _).alloc (Nat.le_refl _) _
    have hzz := HZ.out
    have hs1 := B1.out.size
    have hzw := HZW.out
    refine ⟨bb.trans (ba.mono bb.size), (ba.block z (by omega)).trans ((B1.out.block z (by omega)).trans X1.out), (ba.block (z + 1) (by omega)).trans ((B1.out.block (z + 1) (by omega)).trans XR.out), by rw [HNX.out]; exact heap_alloc_new w1 _, ?_, HFT.out, hzw, by omega⟩
    exact (StH.of hu (by omega) (.inr (Nat.le_refl _))).below ba
  obtain ⟨zb, hzb⟩ : ∃ zb, w1.heap.size = zb := ⟨_, rfl⟩
  rw [hzb] at ST0
  clear hu B1 XR X1
  go_wp2_with fail
  generalize w1.alloc (.cells #[.slice ua ul uc, .slice ub um ud, .int .i64 nx] 36) = w2 at ST0 ⊢
  clear hzb
  go_loopw [15] (fun kv V => ∃ (k : Nat) (t : Sto) (aa : Option Addr) (al ac : Nat) (ba : Option Addr) (bl bc : Nat), k ≤ ln ∧ kv = .int .i64 k ∧ Hid (enterGo s (l.take k) = some t ∧ EaSt w V z zb (.slice va vl vc) (.slice ad len cap) (.int .i64 nx) (.slice aa al ac) (.slice ba bl bc) t)) (fun kv _ => ln - (intOf kv).toNat)
  case atStart => exact ⟨0, s, ua, ul, uc, ub, um, ud, Nat.zero_le _, rfl, by rw [List.take_zero, enterGo], ST0.out⟩
  case round =>
    obtain ⟨k, t, aa, al, ac, ba, bl, bc, hk, rfl, HS⟩ := hrel
    clear ST0
    by_cases hlt : (k : Int) < ln
    · obtain ⟨r, hr⟩ : ∃ r, l[k]? = some r := ⟨_, List.getElem?_eq_getElem (by have := HLN.out; omega)⟩
      obtain ⟨b, off, e, hb, c0, c1, c2, c3⟩ := (HL.out.below HS.out.2.1).at (show (l.map Rc.tu)[k]? = some r.tu by rw [List.getElem?_map, hr]; rfl)
      subst e
      have k0 : (0 : Int) ≤ k := by omega
      have HRK := hide hr
      obtain ⟨kind, vol, arg, chunk⟩ := r
      simp only [Rc.tu] at c0 c1 c2 c3
      have BA : Hid (Below wr.heap.size wr (wr.alloc (.cells #[.int .i64 kind, .int .i64 vol, .int .i64 arg, .int .i64 chunk] 52))) := (Below.refl _ _).alloc (Nat.le_refl _) _
      have S1 := hide (HS.out.2.below BA.out)
      obtain ⟨tn, htn⟩ : ∃ tn, t.next = tn := ⟨_, rfl⟩
      have HTN := hide htn
      have hz4 := S1.out.2.2.2.1
      rw [htn] at hz4
      have y0 := cell_of_row _ _ 0 _ _ _ hz4
      have y1 := cell_of_row _ _ 1 _ _ _ hz4
      have y2 := cell_of_row _ _ 2 _ _ _ hz4
      have hy0 : (wr.alloc (.cells #[.int .i64 kind, .int .i64 vol, .int .i64 arg, .int .i64 chunk] 52)).cell? ⟨zb, 0, none⟩ = some (.slice aa al ac) := y0
      have hy1 : (wr.alloc (.cells #[.int .i64 kind, .int .i64 vol, .int .i64 arg, .int .i64 chunk] 52)).cell? ⟨zb, 1, none⟩ = some (.slice ba bl bc) := y1
      have hy2 : (wr.alloc (.cells #[.int .i64 kind, .int .i64 vol, .int .i64 arg, .int .i64 chunk] 52)).cell? ⟨zb, 2, none⟩ = some (.int .i64 tn) := y2
      have CE := hide (ienter _ t ⟨kind, vol, arg, chunk⟩ _ (S1.out.2.2.2.2.1.rd S1.out.2.2.2.2.2.1))
      rw [htn] at CE
      simp only at CE
      clear hr hz4 y0 y1 y2 htn
      go_wp2_with fail
      refine CE.out.mono ?_
      rintro e w3 ⟨u, rfl, hu⟩
      have B3 := hide hu.blw
      have S3 := hide (S1.out.below hu.blw)
      have HFE := hide (enter_fit S1.out.2.2.2.2.2.1 ⟨kind, vol, arg, chunk⟩)
      obtain ⟨pa, pl, pc, pb, pm, pd, rfl⟩ := hu.form
      obtain ⟨m, hm⟩ : ∃ m, (enterS t ⟨kind, vol, arg, chunk⟩).1.next = m := ⟨_, rfl⟩
      have HM := hide hm
      have HU := hide hu
      rw [hm] at HU ⊢
      have hz4 := S3.out.2.2.2.1
      rw [HTN.out] at hz4
      have BA3 : Hid (Below w3.heap.size w3 (w3.alloc (.cells #[.slice pa pl pc, .slice pb pm pd, .int .i64 m] 36))) := (Below.refl _ _).alloc (Nat.le_refl _) _
      have hzl : zb < w3.heap.size := (Array.getElem?_eq_some_iff.1 hz4).1
      by_cases hok : (enterS t ⟨kind, vol, arg, chunk⟩).2 = true
      · have q0 := cell_of_row _ _ 0 _ _ _ hz4
        have q1 := cell_of_row _ _ 1 _ _ _ hz4
        have q2 := cell_of_row _ _ 2 _ _ _ hz4
        have g0 := frozen_of_row _ _ 0 _ _ hz4
        have g1 := frozen_of_row _ _ 1 _ _ hz4
        have g2 := frozen_of_row _ _ 2 _ _ hz4
        have r0 := (BA3.out.cell (show zb < w3.heap.size from hzl)).trans q0
        have r1 := (BA3.out.cell (show zb < w3.heap.size from hzl)).trans q1
        have r2 := (BA3.out.cell (show zb < w3.heap.size from hzl)).trans q2
        have k0' := (BA3.out.frozen (p := ⟨zb, 0, none⟩) (show zb < w3.heap.size from hzl)).trans g0
        have k1' := (BA3.out.frozen (p := ⟨zb, 1, none⟩) (show zb < w3.heap.size from hzl)).trans g1
        have k2' := (BA3.out.frozen (p := ⟨zb, 2, none⟩) (show zb < w3.heap.size from hzl)).trans g2
        have NX : Hid (enterGo s (l.take (k + 1)) = some (enterS t ⟨kind, vol, arg, chunk⟩).1 ∧ EaSt w ((((w3.setCell ⟨zb, 0, none⟩ (.slice pa pl pc)).setCell ⟨zb, 1, none⟩ (.slice pb pm pd)).setCell ⟨zb, 2, none⟩ (.int .i64 m)).alloc (.cells #[.slice pa pl pc, .slice pb pm pd, .int .i64 m] 36)) z zb (.slice va vl vc) (.slice ad len cap) (.int .i64 nx) (.slice pa pl pc) (.slice pb pm pd) (enterS t ⟨kind, vol, arg, chunk⟩).1) := by
          refine ⟨by rw [go_snoc HS.out.1 HRK.out, if_pos hok], ?_⟩
          exact (S1.out.next HU.out HM.out HFE.out (Below.refl _ _)).below ((Below.refl _ _).alloc (Nat.le_refl _) _)
        rw [hok]
        clear hu hm hz4 CE HS S1 S3 HU hok
        go_wp2
        go_roundw
        case rel => exact ⟨k + 1, _, pa, pl, pc, pb, pm, pd, by omega, by go_num, NX⟩
        case measure => simp [intOf]; omega
      · have hof : (enterS t ⟨kind, vol, arg, chunk⟩).2 = false := by simpa using hok
        have HE := hide (go_bad HS.out.1 HRK.out hof)
        have S4 := hide (S3.out.below BA3.out)
        have x0 : (w3.alloc (.cells #[.slice pa pl pc, .slice pb pm pd, .int .i64 m] 36)).cell? ⟨z, 0, none⟩ = some (.slice va vl vc) := cell_of_row _ _ 0 _ _ _ S4.out.2.1
        have x1 : (w3.alloc (.cells #[.slice pa pl pc, .slice pb pm pd, .int .i64 m] 36)).cell? ⟨z, 1, none⟩ = some (.slice ad len cap) := cell_of_row _ _ 1 _ _ _ S4.out.2.1
        have x2 : (w3.alloc (.cells #[.slice pa pl pc, .slice pb pm pd, .int .i64 m] 36)).cell? ⟨z, 2, none⟩ = some (.int .i64 nx) := cell_of_row _ _ 2 _ _ _ S4.out.2.1
        have CC := hide (icopS_in (HIN.out.below S4.out.1))
        have HZ4 : Hid (z + 1 < (w3.alloc (.cells #[.slice pa pl pc, .slice pb pm pd, .int .i64 m] 36)).heap.size) := (Array.getElem?_eq_some_iff.1 S4.out.2.2.1).1
        have B4 := hide S4.out.1
        have R4 := hide S4.out.2.2.1
        rw [hof]
        clear hu hm hz4 CE HS S1 S3 HU hok hof
        go_wp2_with fail
        refine CC.out.mono ?_
        rintro e w5 ⟨u5, rfl, hu5⟩
        obtain ⟨ga, gl, gc, gb, gm, gd, rfl⟩ := hu5.form
        rw [HNX.out]
        have R5 := (hu5.blw.block (z + 1) HZ4.out).trans R4.out
        have r0 := cell_of_row _ _ 0 _ _ _ R5
        have r1 := cell_of_row _ _ 1 _ _ _ R5
        have r2 := cell_of_row _ _ 2 _ _ _ R5
        have f0 := frozen_of_row _ _ 0 _ _ R5
        have f1 := frozen_of_row _ _ 1 _ _ R5
        have f2 := frozen_of_row _ _ 2 _ _ R5
        have FR := hide (sto_row3 (a := .slice ga gl gc) (b := .slice gb gm gd) (c := .int .i64 nx) R5)
        have FIN : Hid (EnOut w (enterAllS s l) (.returned (.tuple #[.agg #[.slice ga gl gc, .slice gb gm gd, .int .i64 nx], .bool false])) (((w5.setCell ⟨z + 1, 0, none⟩ (.slice ga gl gc)).setCell ⟨z + 1, 1, none⟩ (.slice gb gm gd)).setCell ⟨z + 1, 2, none⟩ (.int .i64 nx))) := by
          rw [HE.out]
          refine ⟨_, rfl, ?_⟩
          have := hu5.set3 (w0 := w) (a := .slice ga gl gc) (b := .slice gb gm gd) (c := .int .i64 nx) B4.out (g := z + 1) HZ4.out (by have := HZW.out; omega)
          rw [HNX.out] at this
          exact this
        clear hu5 R5 CC
        go_wp2
        exact bodyPost_ret (results_st2 (p := 4) (q := 5) rfl _ _ (z + 1) _ _ _ rfl FR.out) rfl FIN.out
    · have HE : Hid (enterAllS s l = (t, true)) := by
        have := HS.out.1
        rw [List.take_of_length_le (by have := HLN.out; omega)] at this
        exact go_all this
      obtain ⟨tn, htn⟩ : ∃ tn, t.next = tn := ⟨_, rfl⟩
      have S1 := hide HS.out.2
      have hz4 := S1.out.2.2.2.1
      rw [htn] at hz4
      have y0 := cell_of_row _ _ 0 _ _ _ hz4
      have y1 := cell_of_row _ _ 1 _ _ _ hz4
      have y2 := cell_of_row _ _ 2 _ _ _ hz4
      have hy0 : wr.cell? ⟨zb, 0, none⟩ = some (.slice aa al ac) := y0
      have hy1 : wr.cell? ⟨zb, 1, none⟩ = some (.slice ba bl bc) := y1
      have hy2 : wr.cell? ⟨zb, 2, none⟩ = some (.int .i64 tn) := y2
      have R5 := S1.out.2.2.1
      have r0 := cell_of_row _ _ 0 _ _ _ R5
      have r1 := cell_of_row _ _ 1 _ _ _ R5
      have r2 := cell_of_row _ _ 2 _ _ _ R5
      have f0 := frozen_of_row _ _ 0 _ _ R5
      have f1 := frozen_of_row _ _ 1 _ _ R5
      have f2 := frozen_of_row _ _ 2 _ _ R5
      have FR := hide (sto_row3 (a := .slice aa al ac) (b := .slice ba bl bc) (c := .int .i64 tn) R5)
      have FIN : Hid (EnOut w (enterAllS s l) (.returned (.tuple #[.agg #[.slice aa al ac, .slice ba bl bc, .int .i64 tn], .bool true])) (((wr.setCell ⟨z + 1, 0, none⟩ (.slice aa al ac)).setCell ⟨z + 1, 1, none⟩ (.slice ba bl bc)).setCell ⟨z + 1, 2, none⟩ (.int .i64 tn))) := by
        rw [HE.out]
        refine ⟨_, rfl, ?_⟩
        have hh := S1.out.2.2.2.2.1
        rw [htn] at hh
        exact hh.fin S1.out.1 (by have := HZW.out; omega) (by omega)
      clear HS S1 hz4 y0 y1 y2 R5 htn
      go_wp2
      exact bodyPost_ret (results_st2 (p := 4) (q := 5) rfl _ _ (z + 1) _ _ _ rfl FR.out) rfl FIN.out
end Go.Proofs.YtcnaahajaaifjacGreat
