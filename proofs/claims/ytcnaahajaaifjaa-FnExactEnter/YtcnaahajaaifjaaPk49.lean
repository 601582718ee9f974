/-
  IEnter; ResSt; IEntA
-/
import Derived.Test.YtcnaahajaaifjaaIAdd
import Derived.Test.YtcnaahajaaifjaaPk47
import Derived.Test.YtcnaahajaaifjaaIStOk
import Derived.Test.YtcnaahajaaifjaaPk28
import Derived.Test.YtcnaahajaaifjaaPk16
/-
  enter; impl.Enter, impl.EnterAll, impl.StoreNew.
-/
namespace Go.Proofs.Ytcnaahajaaifjaa
open Go.RowKit
open Words

/-- What enter answers. -/
def EmOut (w : World) (p : Nat) (s : Sto) (r : Rc) (e : Ending) (w' : World) : Prop := ∃ ok t, e = .returned (.bool ok) ∧ OpS w w' p t ∧ EntS s r ok t
set_option maxHeartbeats 2000000 in
set_option maxRecDepth 100000 in
theorem ienterM (p : Nat) (s : Sto) (r : Rc) (w W : World) (hR : s.Right) (hr : r.Right) (h : OpS w W p s) :
    Calls Try.prog 41 #[.pointer (some ⟨p, 0, none⟩), .agg #[.int .i64 r.kind, .int .i64 r.vol, .int .i64 r.arg, .int .i64 r.chunk]] W (EmOut w p s r) := by
  obtain ⟨kind, vol, arg, chunk⟩ := r
  have HR := hide hR
  have HRR := hide hr
  have hfew := hR.few
  have hsm := right_small hR
  obtain ⟨⟨ha0, ha1⟩, hrr⟩ := hr
  simp only at ha0 ha1 hrr ⊢
  have BA : Hid (Below W.heap.size W (W.alloc (.cells #[.int .i64 kind, .int .i64 vol, .int .i64 arg, .int .i64 chunk] 31))) := (Below.refl _ _).alloc (Nat.le_refl _) _
  have HO := hide (h.below BA.out)
  clear hR h
  rcases hrr with ⟨rfl, rfl, rfl⟩ | ⟨hv, ⟨rfl, ha2, rfl⟩ | ⟨rfl, rfl, rfl⟩ | ⟨rfl, ha2, hc1, hc2⟩ | ⟨rfl, ha2, rfl⟩⟩
  · -- a base
    obtain ⟨kv, vv, hd⟩ := HO.out.d
    obtain ⟨va, vc, rfl, -, -⟩ := hd.open
    obtain ⟨-, c1, c2, -, f1, f2⟩ := ops_cells hd.2.2.1
    have FIN : Hid (∀ m, (if arg < 1 then 1 else arg) = m → EmOut w p s ⟨1, 0, arg, 0⟩ (.returned (.bool true)) ((((W.alloc (.cells #[.int .i64 1, .int .i64 0, .int .i64 arg, .int .i64 0] 31)).setCell ⟨p, 1, none⟩ (.slice none 0 0)).setCell ⟨p, 2, none⟩ (.int .i64 m)).drew)) := fun m hm => by
      have h1 := hd.setVols (vs := []) (vv' := .slice none 0 0) (World.ownsRow_nil _ _ _ _)
      have h2 := ((h1.setNext m).below (Below.refl _ _).drew).s
      have h3 := ent_base HR.out HRR.out
      rw [hm] at h3
      exact ⟨true, _, rfl, h2, h3⟩
    go_enter Try.func41, Try.ntmps41
    go_wp2_with fail
    by_cases h1 : arg < 1
    · have F2 := hide (FIN.out 1 (if_pos h1))
      clear FIN hd
      go_region
      go_wp2
      go_ret
      exact F2.out
    · have F2 := hide (FIN.out arg (if_neg h1))
      clear FIN hd
      go_region
      go_wp2
      go_ret
      exact F2.out
  · -- a volume
    have CA := hide (iaddV p s vol arg w _ hfew HR.out.asc HO.out)
    go_enter Try.func41, Try.ntmps41
    go_wp2_with fail
    refine CA.out.mono ?_
    rintro e w1 (⟨hn, rfl, ho⟩ | ⟨⟨h1, h2⟩, q, hq, rfl, ho⟩)
    · have FIN : Hid (EmOut w p s ⟨2, vol, arg, 0⟩ (.returned (.bool false)) w1) := ⟨false, s, rfl, ho, ent_vol_no HR.out HRR.out hn _⟩
      clear ho hn CA
      go_wp2
      go_ret
      exact FIN.out
    · have FIN : Hid (EmOut w p s ⟨2, vol, arg, 0⟩ (.returned (.bool true)) w1) := ⟨true, _, rfl, ho, ent_vol HR.out HRR.out h1 h2 hq⟩
      clear ho hq CA h1 h2
      go_wp2
      go_ret
      exact FIN.out
  · -- one that goes
    have CA := hide (idropV p s vol w _ (by omega) HR.out.asc HO.out)
    go_enter Try.func41, Try.ntmps41
    go_wp2_with fail
    refine CA.out.mono ?_
    intro e w1 hm
    cases ho : atV s.vols vol with
    | none =>
      rw [ho] at hm
      obtain ⟨rfl, hop⟩ := hm
      have FIN : Hid (EmOut w p s ⟨3, vol, 0, 0⟩ (.returned (.bool false)) w1) := ⟨false, s, rfl, hop, ent_drop_no HR.out HRR.out ho _⟩
      clear hop CA ho
      go_wp2
      go_ret
      exact FIN.out
    | some k =>
      rw [ho] at hm
      obtain ⟨rfl, hop⟩ := hm
      have FIN : Hid (EmOut w p s ⟨3, vol, 0, 0⟩ (.returned (.bool true)) w1) := ⟨true, _, rfl, hop, ent_drop HR.out HRR.out ho⟩
      clear hop CA ho
      go_wp2
      go_ret
      exact FIN.out
  · -- a chunk
    have CA := hide (iputC p s vol arg chunk w _ (by omega) (by omega) (fun q => put_kids HR.out q arg chunk) (by omega) hc2 HO.out)
    go_enter Try.func41, Try.ntmps41
    go_wp2_with fail
    refine CA.out.mono ?_
    rintro e w1 (⟨hn, rfl, ho⟩ | ⟨h1, k, v, h2, h3, rfl, ho⟩)
    · have FIN : Hid (EmOut w p s ⟨4, vol, arg, chunk⟩ (.returned (.bool false)) w1) := ⟨false, s, rfl, ho, ent_put_no HR.out (.inl rfl) HRR.out hn _⟩
      clear ho hn CA
      go_wp2
      go_ret
      exact FIN.out
    · have FIN : Hid (EmOut w p s ⟨4, vol, arg, chunk⟩ (.returned (.bool true)) w1) := ⟨true, _, rfl, ho, ent_put HR.out (.inl rfl) HRR.out h1 h2 h3⟩
      clear ho CA h1 h2 h3
      go_wp2
      go_ret
      exact FIN.out
  · -- nothing in its place
    have CA := hide (iputC p s vol arg 0 w _ (by omega) (by omega) (fun q => put_kids HR.out q arg 0) (by omega) (by omega) HO.out)
    go_enter Try.func41, Try.ntmps41
    go_wp2_with fail
    refine CA.out.mono ?_
    rintro e w1 (⟨hn, rfl, ho⟩ | ⟨h1, k, v, h2, h3, rfl, ho⟩)
    · have FIN : Hid (EmOut w p s ⟨5, vol, arg, 0⟩ (.returned (.bool false)) w1) := ⟨false, s, rfl, ho, ent_put_no HR.out (.inr rfl) HRR.out hn _⟩
      clear ho hn CA
      go_wp2
      go_ret
      exact FIN.out
    · have FIN : Hid (EmOut w p s ⟨5, vol, arg, 0⟩ (.returned (.bool true)) w1) := ⟨true, _, rfl, ho, ent_put HR.out (.inr rfl) HRR.out h1 h2 h3⟩
      clear ho CA h1 h2 h3
      go_wp2
      go_ret
      exact FIN.out
end Go.Proofs.Ytcnaahajaaifjaa

/-
  A store and a yes, answered by way of a cell.
-/
namespace Go.Proofs.Ytcnaahajaaifjaa
open Go.RowKit
open Words

theorem results_st2 {fn : Func} {p q : Tmp} (h : fn.results = #[.cell p 29, .tmp q]) (tmps : Array Value) (w : World) (g : Nat) (a b c : Value)
    (hp : tmps.getD p undef = .pointer (some ⟨g, 0, none⟩)) (hg : w.heap[g]? = some (.cells #[a, b, c] 29 (0, 0))) :
    (results fn tmps).run Try.prog w = .ok (.tuple #[.agg #[a, b, c], tmps.getD q undef]) w := by
  have hp' : tmps[p]?.getD undef = .pointer (some ⟨g, 0, none⟩) := by simpa using hp
  have hl := run_loadVar_row (P := Try.prog) w g 29 29 #[a, b, c] (0, 0) _ hg Try.underlying29 rfl infoSto
  simp [results, h, hp', asAddr, hl]
end Go.Proofs.Ytcnaahajaaifjaa

/-
  impl.StoreNew, impl.Enter, impl.EnterAll.
-/
namespace Go.Proofs.Ytcnaahajaaifjaa
open Go.RowKit
open Words

/-- A store that came in is copied. -/
theorem icopS_in {v : Value} {s : Sto} {w : World} (h : StIn w v s) : Calls Try.prog 42 #[v] w fun e w' => ∃ u, e = .returned u ∧ StOut w s u w' := by
  obtain ⟨va, vl, vc, ad, len, cap, rs, rfl, hks, hvl, hl, hll, hvc, h, hk⟩ := h
  have := icopS va vl vc ad len cap s.next s.vols rs w hvl (by omega) hll hvc h hk
  rw [← hks] at this
  exact this
theorem iopened_in {v : Value} {s : Sto} {w : World} (h : StIn w v s) : Calls Try.prog 39 #[v] w fun e w' => ∃ p, e = .returned (.pointer (some ⟨p, 0, none⟩)) ∧ OpS w w' p s := by
  obtain ⟨va, vl, vc, ad, len, cap, rs, rfl, hks, hvl, hl, hll, hvc, h, hk⟩ := h
  have := iopened va vl vc ad len cap s.next s.vols rs w hvl (by omega) hll hvc h hk
  rw [← hks] at this
  exact this
set_option maxHeartbeats 2000000 in
set_option maxRecDepth 100000 in
theorem ienter : EnterC 11 := by
  intro v s r w hin
  obtain ⟨va, vl, vc, ad, len, cap, rs, ev, -⟩ := id hin
  have HIN := hide hin
  have T0 := hide (Tk.three w #[.slice va vl vc, .slice ad len cap, .int .i64 s.next] #[.int .i64 r.kind, .int .i64 r.vol, .int .i64 r.arg, .int .i64 r.chunk] #[.slice none 0 0, .slice none 0 0, .int .i64 0] 29 31 29)
  unfold SBox at ev
  have HEV := hide ev
  rw [ev]
  rw [ev] at HIN
  obtain ⟨nx, hnx⟩ : ∃ nx, s.next = nx := ⟨_, rfl⟩
  rw [hnx] at T0 HIN ⊢
  clear hin ev
  obtain ⟨kind, vol, arg, chunk⟩ := r
  simp only at T0 ⊢
  go_enter Try.func11, Try.ntmps11
  go_wp2_with fail
  generalize ((w.alloc (.cells #[.slice va vl vc, .slice ad len cap, .int .i64 nx] 29)).alloc (.cells #[.int .i64 kind, .int .i64 vol, .int .i64 arg, .int .i64 chunk] 31)).alloc (.cells #[.slice none 0 0, .slice none 0 0, .int .i64 0] 29) = w0 at T0 ⊢
  have B0 := hide T0.out.1
  have XR := hide (T0.out.get 0 rfl)
  have X1 := hide (T0.out.get 1 rfl)
  have X2 := hide (T0.out.get 2 rfl)
  obtain ⟨z, hz⟩ : ∃ z, w.heap.size = z := ⟨_, rfl⟩
  have HZW := hide hz
  rw [hz] at XR X1 X2 ⊢
  have HNXs := hide hnx
  clear hz T0 hnx
  have HZ : Hid (z + 1 + 1 < w0.heap.size) := (Array.getElem?_eq_some_iff.1 XR.out).1
  have SC : Hid (∀ W, Below w0.heap.size w0 W → W.cell? ⟨z, 0, none⟩ = some (.slice va vl vc) ∧ W.cell? ⟨z, 1, none⟩ = some (.slice ad len cap) ∧ W.cell? ⟨z, 2, none⟩ = some (.int .i64 nx)) := fun W H => by
    have h := (H.block z (by have := HZ.out; omega)).trans X2.out
    exact ⟨cell_of_row _ _ 0 _ _ _ h, cell_of_row _ _ 1 _ _ _ h, cell_of_row _ _ 2 _ _ _ h⟩
  have RC : Hid (∀ W, Below w0.heap.size w0 W → W.cell? ⟨z + 1, 0, none⟩ = some (.int .i64 kind) ∧ W.cell? ⟨z + 1, 1, none⟩ = some (.int .i64 vol) ∧ W.cell? ⟨z + 1, 2, none⟩ = some (.int .i64 arg) ∧ W.cell? ⟨z + 1, 3, none⟩ = some (.int .i64 chunk)) := fun W H => by
    have h := (H.block (z + 1) (by have := HZ.out; omega)).trans X1.out
    exact ⟨cell_of_row _ _ 0 _ _ _ h, cell_of_row _ _ 1 _ _ _ h, cell_of_row _ _ 2 _ _ _ h, cell_of_row _ _ 3 _ _ _ h⟩
  have RR : Hid (∀ W, Below w0.heap.size w0 W → W.heap[z + 1 + 1]? = some (.cells #[.slice none 0 0, .slice none 0 0, .int .i64 0] 29 (0, 0))) := fun W H => (H.block (z + 1 + 1) HZ.out).trans XR.out
  have RF : Hid (∀ W, Below w0.heap.size w0 W → W.cell? ⟨z + 1 + 1, 0, none⟩ = some (.slice none 0 0) ∧ W.cell? ⟨z + 1 + 1, 1, none⟩ = some (.slice none 0 0) ∧ W.cell? ⟨z + 1 + 1, 2, none⟩ = some (.int .i64 0) ∧ W.frozen? ⟨z + 1 + 1, 0, none⟩ = false ∧ W.frozen? ⟨z + 1 + 1, 1, none⟩ = false ∧ W.frozen? ⟨z + 1 + 1, 2, none⟩ = false) := fun W H => by
    have h := RR.out W H
    exact ⟨cell_of_row _ _ 0 _ _ _ h, cell_of_row _ _ 1 _ _ _ h, cell_of_row _ _ 2 _ _ _ h, frozen_of_row _ _ 0 _ _ h, frozen_of_row _ _ 1 _ _ h, frozen_of_row _ _ 2 _ _ h⟩
  have SI : Hid (∀ W, Below w0.heap.size w0 W → StIn W (.agg #[.slice va vl vc, .slice ad len cap, .int .i64 nx]) s) := fun W H => HIN.out.below (B0.out.trans (H.mono B0.out.size))
  clear XR X1 X2 HIN
  -- what is answered where nothing is entered
  have NOE : Hid (∀ (W w' : World) (u : Value), Below w0.heap.size w0 W → enterS s ⟨kind, vol, arg, chunk⟩ = (s, false) → StOut W s u w' → ∃ ua ul uc ub um ud, u = .agg #[.slice ua ul uc, .slice ub um ud, .int .i64 nx] ∧ Below w0.heap.size w0 w' ∧ EnOut w (enterS s ⟨kind, vol, arg, chunk⟩) (.returned (.tuple #[.agg #[.slice ua ul uc, .slice ub um ud, .int .i64 nx], .bool false])) (((w'.setCell ⟨z + 1 + 1, 0, none⟩ (.slice ua ul uc)).setCell ⟨z + 1 + 1, 1, none⟩ (.slice ub um ud)).setCell ⟨z + 1 + 1, 2, none⟩ (.int .i64 nx))) := fun W w' u H he hu => by
    obtain ⟨ua, ul, uc, ub, um, ud, rfl⟩ := hu.form
    have hbw := H.trans (hu.blw.mono H.size)
    have hz := HZ.out
    have hzw := HZW.out
    have hs := H.size
    refine ⟨ua, ul, uc, ub, um, ud, by rw [HNXs.out], hbw, ?_⟩
    rw [he]
    refine ⟨_, rfl, ?_⟩
    have := (hu.from H).set3 (w0 := w) (a := .slice ua ul uc) (b := .slice ub um ud) (c := .int .i64 nx) B0.out (g := z + 1 + 1) (by omega) (by omega)
    rw [← HNXs.out] at this ⊢
    exact this
  refine (iopened_in (SI.out _ (Below.refl _ _))).mono ?_
  rintro e w1 ⟨p, rfl, op1⟩
  have B1 := hide op1.1
  have O1 := hide op1
  obtain ⟨x0, x1, x2⟩ := SC.out w1 op1.1
  clear op1
  go_wp2_with fail
  refine (istoOk _ _ _ (SI.out _ B1.out)).mono ?_
  rintro e w2 ⟨rfl, b2⟩
  have B2 := hide (B1.out.trans (b2.mono B1.out.size))
  have O2 := hide (O1.out.below b2)
  clear b2 x0 x1 x2 O1
  by_cases hsb : stoB s = true
  · rw [hsb]
    have HR := hide ((stoB_iff s).1 hsb)
    have HSB := hide hsb
    obtain ⟨y0, y1, y2, y3⟩ := RC.out w2 B2.out
    have CR := hide (irecOk ⟨kind, vol, arg, chunk⟩ w2)
    unfold rcVal at CR
    simp only at CR
    clear hsb
    go_wp2_with fail
    refine CR.out.mono ?_
    rintro e w3 ⟨rfl, b3⟩
    have B3 := hide (B2.out.trans (b3.mono B2.out.size))
    have O3 := hide (O2.out.below b3)
    clear b3 CR y0 y1 y2 y3 O2
    by_cases hrr : (Rc.mk kind vol arg chunk).Right
    · rw [dcY hrr]
      obtain ⟨y0, y1, y2, y3⟩ := RC.out w3 B3.out
      have CM := hide (ienterM p s ⟨kind, vol, arg, chunk⟩ w0 w3 HR.out hrr O3.out)
      simp only at CM
      clear hrr
      go_wp2_with fail
      refine CM.out.mono ?_
      rintro e w4 ⟨ok, t, rfl, op4, hent⟩
      have B4 := hide op4.1
      have O4 := hide op4
      clear op4 CM y0 y1 y2 y3 O3
      rcases hent with ⟨rfl, he⟩ | ⟨rfl, he, hfew⟩
      · have HE := hide he
        clear he
        obtain ⟨x0, x1, x2⟩ := SC.out w4 B4.out
        go_wp2_with fail
        refine (icopS_in (SI.out w4 B4.out)).mono ?_
        rintro e wc ⟨u, rfl, hu⟩
        obtain ⟨ua, ul, uc, ub, um, ud, rfl, bc, hen⟩ := NOE.out _ _ _ B4.out HE.out hu
        obtain ⟨r0, r1, r2, f0, f1, f2⟩ := RF.out wc bc
        have FR := hide (sto_row3 (a := .slice ua ul uc) (b := .slice ub um ud) (c := .int .i64 nx) (RR.out wc bc))
        have FIN := hide hen
        clear hu bc hen x0 x1 x2
        go_wp2
        exact bodyPost_ret (results_st2 (p := 4) (q := 5) rfl _ _ (z + 1 + 1) _ _ _ rfl FR.out) rfl FIN.out
      · have HE := hide he
        clear he
        have CT := hide (isweepT p t w0 w4 hfew O4.out)
        clear hfew
        go_wp2_with fail
        refine CT.out.mono ?_
        rintro e w5 ⟨rfl, op5⟩
        have CC := hide (iclosed p (sweptS t) w0 w5 op5)
        clear op5 CT
        go_wp2_with fail
        refine CC.out.mono ?_
        rintro e w6 ⟨u, rfl, hu, b6⟩
        obtain ⟨ua, ul, uc, ub, um, ud, rfl⟩ := hu.form
        obtain ⟨r0, r1, r2, f0, f1, f2⟩ := RF.out w6 hu.blw
        obtain ⟨mx, hmx⟩ : ∃ mx, (sweptS t).next = mx := ⟨_, rfl⟩
        have FIN : Hid (EnOut w (enterS s ⟨kind, vol, arg, chunk⟩) (.returned (.tuple #[.agg #[.slice ua ul uc, .slice ub um ud, .int .i64 mx], .bool true])) (((w6.setCell ⟨z + 1 + 1, 0, none⟩ (.slice ua ul uc)).setCell ⟨z + 1 + 1, 1, none⟩ (.slice ub um ud)).setCell ⟨z + 1 + 1, 2, none⟩ (.int .i64 mx))) := by
          rw [HE.out]
          refine ⟨_, rfl, ?_⟩
          have hz := HZ.out
          have hzw := HZW.out
          have := hu.set3 (w0 := w) (a := .slice ua ul uc) (b := .slice ub um ud) (c := .int .i64 mx) B0.out (g := z + 1 + 1) hz (by omega)
          rw [← hmx] at this ⊢
          exact this
        have FR := hide (sto_row3 (a := .slice ua ul uc) (b := .slice ub um ud) (c := .int .i64 mx) (RR.out w6 hu.blw))
        rw [hmx]
        clear hu b6 hmx CC
        go_wp2
        exact bodyPost_ret (results_st2 (p := 4) (q := 5) rfl _ _ (z + 1 + 1) _ _ _ rfl FR.out) rfl FIN.out
    · rw [dcN hrr]
      have HE : Hid (enterS s ⟨kind, vol, arg, chunk⟩ = (s, false)) := by show _ = _; rw [enterS, if_neg (fun q => hrr q.2)]
      clear hrr
      obtain ⟨x0, x1, x2⟩ := SC.out w3 B3.out
      go_wp2_with fail
      refine (icopS_in (SI.out w3 B3.out)).mono ?_
      rintro e wc ⟨u, rfl, hu⟩
      obtain ⟨ua, ul, uc, ub, um, ud, rfl, bc, hen⟩ := NOE.out _ _ _ B3.out HE.out hu
      obtain ⟨r0, r1, r2, f0, f1, f2⟩ := RF.out wc bc
      have FR := hide (sto_row3 (a := .slice ua ul uc) (b := .slice ub um ud) (c := .int .i64 nx) (RR.out wc bc))
      have FIN := hide hen
      clear hu bc hen x0 x1 x2
      go_wp2
      exact bodyPost_ret (results_st2 (p := 4) (q := 5) rfl _ _ (z + 1 + 1) _ _ _ rfl FR.out) rfl FIN.out
  · have HE : Hid (enterS s ⟨kind, vol, arg, chunk⟩ = (s, false)) := by show _ = _; rw [enterS, if_neg (fun q => hsb q.1)]
    have hsf : stoB s = false := by simpa using hsb
    rw [hsf]
    clear hsb hsf
    obtain ⟨x0, x1, x2⟩ := SC.out w2 B2.out
    go_wp2_with fail
    refine (icopS_in (SI.out w2 B2.out)).mono ?_
    rintro e wc ⟨u, rfl, hu⟩
    obtain ⟨ua, ul, uc, ub, um, ud, rfl, bc, hen⟩ := NOE.out _ _ _ B2.out HE.out hu
    obtain ⟨r0, r1, r2, f0, f1, f2⟩ := RF.out wc bc
    have FR := hide (sto_row3 (a := .slice ua ul uc) (b := .slice ub um ud) (c := .int .i64 nx) (RR.out wc bc))
    have FIN := hide hen
    clear hu bc hen x0 x1 x2
    go_wp2
    exact bodyPost_ret (results_st2 (p := 4) (q := 5) rfl _ _ (z + 1 + 1) _ _ _ rfl FR.out) rfl FIN.out
end Go.Proofs.Ytcnaahajaaifjaa
