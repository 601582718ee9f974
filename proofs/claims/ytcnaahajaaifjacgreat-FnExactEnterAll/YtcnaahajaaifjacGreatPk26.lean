/-
  RtK; SSwp
-/
import Derived.Test.YtcnaahajaaifjacGreatPk22
import Derived.Test.YtcnaahajaaifjacGreatPk10
import Derived.Test.YtcnaahajaaifjacGreatSStOk
import Derived.Test.YtcnaahajaaifjacGreatPk16
import Derived.OneCell
import Derived.Deep.RegionHeld3
/-
  New roots of volumes, one by one.
-/
namespace Go.Proofs.YtcnaahajaaifjacGreat
open Words

/-- The new roots of the first k volumes. -/
def rtK (vs : List (Int × Int)) (R : List Int) (k : Nat) : List (Int × Int) := (List.zipWith (fun v r => (v.1, r)) vs R).take k ++ vs.drop k
theorem rtK_at {vs : List (Int × Int)} {R : List Int} {k : Nat} (h : vs.length = R.length) (hk : k < vs.length) : (rtK vs R k)[k]? = vs[k]? := by
  rw [rtK, List.getElem?_append_right (by simp; omega), List.getElem?_drop]
  congr 1
  simp
  all_goals omega
theorem rtK_succ {vs : List (Int × Int)} {R : List Int} {k : Nat} {v : Int × Int} {r : Int} (h : vs.length = R.length) (hv : vs[k]? = some v) (hr : R[k]? = some r) : (rtK vs R k).set k (v.1, r) = rtK vs R (k + 1) := by
  have hk := (List.getElem?_eq_some_iff.1 hv).1
  refine part_set ?_ (by simp; omega)
  rw [List.getElem?_zipWith, hv, hr]
theorem rtK_len (vs : List (Int × Int)) (R : List Int) (k : Nat) (h : vs.length = R.length) (hk : k ≤ vs.length) : (rtK vs R k).length = vs.length := by
  rw [rtK]
  simp
  omega
theorem rtK_all {vs : List (Int × Int)} {R : List Int} (h : vs.length = R.length) : rtK vs R vs.length = List.zipWith (fun v r => (v.1, r)) vs R := by
  rw [rtK, List.take_of_length_le (by simp; omega), List.drop_eq_nil_of_le (Nat.le_refl _), List.append_nil]
end Go.Proofs.YtcnaahajaaifjacGreat

/-
  spec.l12Swept: what a sweep leaves in variables; a store in a new variable.
-/
namespace Go.Proofs.YtcnaahajaaifjacGreat
open Go.RowKit
open Words

/-- What a sweep left, in variables. -/
def SwV (wb V : World) (c : Nat) (uv iv : Value) (L : List Kn) (R : List Int) : Prop :=
  V.heap[c]? = some (.cells #[uv] 34 (0, 0)) ∧ Below wb.heap.size wb V ∧ ∃ lo1 hi1 lo2 hi2, Kns lo1 hi1 uv L V ∧ Sli 3 lo2 hi2 iv R.length (icells R) V ∧ wb.heap.size ≤ lo1 ∧ hi1 ≤ V.heap.size ∧ wb.heap.size ≤ lo2 ∧ hi2 ≤ V.heap.size ∧ wb.heap.size ≤ c
theorem SwV.ahead {wb W V : World} {c : Nat} {uv iv x : Value} {L : List Kn} {R : List Int} (h : SweepOut W L R (.returned (.tuple #[.agg #[uv], iv])) V) (hb : Below wb.heap.size wb V) (hc : wb.heap.size ≤ c ∧ c < W.heap.size) (hx : V.heap[c]? = some (.cells #[x] 34 (0, 0))) : SwV wb (V.setCell ⟨c, 0, none⟩ uv) c uv iv L R := by
  obtain ⟨uv', iv', lo1, hi1, lo2, hi2, e, h1, h2, h3, h4, h5, h6, -, -⟩ := h
  cases e
  have hz : (V.setCell ⟨c, 0, none⟩ uv).heap.size = V.heap.size := by simp [World.setCell]
  refine ⟨heap_setCell_same _ _ 0 _ _ _ hx, hb.setCell (p := ⟨c, 0, none⟩) hc.1 _, lo1, hi1, lo2, hi2, ?_, ?_, by omega, by omega, by omega, by omega, hc.1⟩
  · exact Kns.loc _ _ _ _ V _ (fun g g1 g2 => Below.heap_setCell _ _ _ _ (show g ≠ c by omega)) h1
  · exact Sli.loc _ _ _ _ _ _ V _ (fun g g1 g2 => Below.heap_setCell _ _ _ _ (show g ≠ c by omega)) h2
theorem SwV.behind {wb W V : World} {uv iv : Value} {L : List Kn} {R : List Int} (h : SweepOut W L R (.returned (.tuple #[.agg #[uv], iv])) V) (hb : Below wb.heap.size wb V) (hw : wb.heap.size ≤ W.heap.size) : SwV wb (V.alloc (.cells #[uv] 34)) V.heap.size uv iv L R := by
  obtain ⟨uv', iv', lo1, hi1, lo2, hi2, e, h1, h2, h3, h4, h5, h6, -, -⟩ := h
  cases e
  have hz : (V.alloc (.cells #[uv] 34)).heap.size = V.heap.size + 1 := by simp
  have hs := hb.size
  refine ⟨heap_alloc_new _ _, hb.alloc hs _, lo1, hi1, lo2, hi2, ?_, ?_, by omega, by omega, by omega, by omega, hs⟩
  · exact Kns.loc _ _ _ _ V _ (fun g g1 g2 => Below.heap_alloc _ _ _ (by omega)) h1
  · exact Sli.loc _ _ _ _ _ _ V _ (fun g g1 g2 => Below.heap_alloc _ _ _ (by omega)) h2
theorem own_ne {W : World} {B n xb : Nat} {lv : Value} {xs : List Value} {cs : Array Value} (h : W.ownsRow B 69 2 lv n xs) (hx : W.heap[xb]? = some (.cells cs 36 (0, 0))) (e : lv.ownBlock = some xb) : False := by
  obtain ⟨-, -, c, hc⟩ := own_kind h xb e
  rw [hc] at hx
  injection hx with hx
  injection hx with h1 h2
  exact absurd h2 (by decide)
/-- A store in a new variable, with volumes of its own. -/
def OuV (V V' : World) (xb : Nat) (lv av : Value) (nx : Int) (vs : List (Int × Int)) : Prop :=
  V'.heap[xb]? = some (.cells #[lv, av, .int .i64 nx] 36 (0, 0)) ∧ V'.ownsRow V.heap.size 69 2 lv vs.length (vlcells vs) ∧ lv.ownBlock ≠ some xb ∧ Below V.heap.size V V' ∧ V.heap.size ≤ xb
theorem OuV.behind {V W : World} {lv av : Value} {nx : Int} {vs : List (Int × Int)} (ho : W.ownsRow V.heap.size 69 2 lv vs.length (vlcells vs)) (hb : Below V.heap.size V W) : OuV V (W.alloc (.cells #[lv, av, .int .i64 nx] 36)) W.heap.size lv av nx vs :=
  ⟨heap_alloc_new _ _, own_below ho ((Below.refl _ _).alloc (Nat.le_refl _) _), fun e => by have := (ho.lt _ e).2; omega, hb.alloc hb.size _, hb.size⟩
theorem OuV.ahead {V W : World} {xb : Nat} {lv av x0 x1 x2 : Value} {nx : Int} {vs : List (Int × Int)} (ho : W.ownsRow V.heap.size 69 2 lv vs.length (vlcells vs)) (hb : Below V.heap.size V W) (hx : W.heap[xb]? = some (.cells #[x0, x1, x2] 36 (0, 0))) (hv : V.heap.size ≤ xb) (hn : lv.ownBlock ≠ some xb) :
    OuV V (((W.setCell ⟨xb, 0, none⟩ lv).setCell ⟨xb, 1, none⟩ av).setCell ⟨xb, 2, none⟩ (.int .i64 nx)) xb lv av nx vs := by
  have hs : ∀ (W : World) (k : Nat) (u : Value), W.ownsRow V.heap.size 69 2 lv vs.length (vlcells vs) → (W.setCell ⟨xb, k, none⟩ u).ownsRow V.heap.size 69 2 lv vs.length (vlcells vs) := fun W k u h => ownsRow_setCell_other h (a := ⟨xb, k, none⟩) hn u
  exact ⟨sto_row3 hx, hs _ _ _ (hs _ _ _ (hs _ _ _ ho)), hn, ((hb.setCell (p := ⟨xb, 0, none⟩) hv _).setCell (p := ⟨xb, 1, none⟩) hv _).setCell (p := ⟨xb, 2, none⟩) hv _, hv⟩
/-- A root is written. -/
theorem OuV.root {V V' : World} {xb g k cap n : Nat} {av : Value} {nx : Int} {vs : List (Int × Int)} {v : Int × Int} (hn : vs.length = n) (h : OuV V V' xb (.slice (some ⟨g, 0, none⟩) n cap) av nx vs) (hk : vs[k]? = some v) (r : Int) : OuV V (V'.setCell ⟨g, k * 2 + 1, none⟩ (.int .i64 r)) xb (.slice (some ⟨g, 0, none⟩) n cap) av nx (vs.set k (v.1, r)) := by
  obtain ⟨h1, h2, h3, h4, h5⟩ := h
  rw [hn] at h2
  have hne : xb ≠ g := fun e => h3 (by rw [e]; rfl)
  have q1 := (own_kind h2 g rfl).1
  refine ⟨row_set_ne h1 hne _ _, ?_, h3, h4.setCell (p := ⟨g, k * 2 + 1, none⟩) q1 _, h5⟩
  have := fown_set h2 rfl (k * 2 + 1) (.int .i64 r)
  rw [vlcells_set hk] at this
  rw [List.length_set, hn]
  exact this
theorem OuV.drew {V V' : World} {xb : Nat} {lv av : Value} {nx : Int} {vs : List (Int × Int)} (h : OuV V V' xb lv av nx vs) : OuV V V'.drew xb lv av nx vs := ⟨h.1, own_below h.2.1 ((Below.refl _ _).drew), h.2.2.1, h.2.2.2.1.drew, h.2.2.2.2⟩
set_option maxHeartbeats 2000000 in
set_option maxRecDepth 100000 in
theorem sswept (v : Value) (s : Sto) (w : World) (hin : StIn w v s) : Calls Tryz.prog 37 #[v] w fun e w' => ∃ u, e = .returned u ∧ StOut w (sweptS s) u w' ∧ VCap u := by
  obtain ⟨va, vl, vc, ad, len, cap, rs, rfl, hks, hvl, hl, hll, hvc, h, hk⟩ := hin
  have HV := hide h
  have HVL := hide h.1
  have HK := hide hk
  have HKS := hide hks
  have HLL := hide hll
  have HVC := hide hvc
  obtain ⟨nx, hnx⟩ : ∃ nx, s.next = nx := ⟨_, rfl⟩
  have HNX := hide hnx
  obtain ⟨L, hL⟩ : ∃ L, sweepL s.kns (rootsV s.vols) = L := ⟨_, rfl⟩
  obtain ⟨R, hR⟩ : ∃ R, sweepR s.kns (rootsV s.vols) = R := ⟨_, rfl⟩
  have HL := hide hL
  have HR := hide hR
  have HRL : Hid (R.length = vl) := by show _ = _; rw [← hR, swR_len, rootsV, List.length_map, HVL.out]
  unfold SBox
  rw [hnx]
  have T0 := hide (Tk.two w #[.slice va vl vc, .slice ad len cap, .int .i64 nx] #[.slice none 0 0, .slice none 0 0, .int .i64 0] 36 36)
  clear h hk hks hll hvc hnx hL hR
  go_enter Tryz.func37, Tryz.ntmps37
  go_wp2_with fail
  generalize (w.alloc (.cells #[.slice va vl vc, .slice ad len cap, .int .i64 nx] 36)).alloc (.cells #[.slice none 0 0, .slice none 0 0, .int .i64 0] 36) = wb at T0 ⊢
  have y0 : wb.cell? ⟨w.heap.size, 0, none⟩ = some (.slice va vl vc) := T0.out.at 1 0 rfl rfl
  have y1 : wb.cell? ⟨w.heap.size, 1, none⟩ = some (.slice ad len cap) := T0.out.at 1 1 rfl rfl
  have y2 : wb.cell? ⟨w.heap.size, 2, none⟩ = some (.int .i64 nx) := T0.out.at 1 2 rfl rfl
  have BW := hide T0.out.1
  have XR := hide (T0.out.get 0 rfl)
  have XB : Hid (w.heap.size < wb.heap.size) := World.block_lt_of_cell? wb _ y0
  obtain ⟨z, hz⟩ : ∃ z, w.heap.size = z := ⟨_, rfl⟩
  have HZW := hide hz
  rw [hz] at y0 y1 y2 XR XB ⊢
  clear hz T0
  have hz1 := XB.out
  have KK : Hid (∀ W, Below wb.heap.size wb W → W.cell? ⟨z, 0, none⟩ = some (.slice va vl vc) ∧ W.cell? ⟨z, 1, none⟩ = some (.slice ad len cap) ∧ W.cell? ⟨z, 2, none⟩ = some (.int .i64 nx)) := fun W H => ⟨(H.cell (show z < wb.heap.size by omega)).trans y0, (H.cell (show z < wb.heap.size by omega)).trans y1, (H.cell (show z < wb.heap.size by omega)).trans y2⟩
  have VB := hide (HV.out.below BW.out)
  have KB := hide (HK.out.below BW.out)
  have CR : Hid (∀ W, Below wb.heap.size wb W → Calls Tryz.prog 59 #[.agg #[.slice va vl vc, .slice ad len cap, .int .i64 nx]] W fun e w' => ∃ ra rc, e = .returned (.slice ra vl rc) ∧ Hid ((ra = none → rc = 0) ∧ IRow w' ra vl (rootsV s.vols)) ∧ Hid (Below wb.heap.size wb w') ∧ Hid (Below W.heap.size W w')) := fun W H => by
    refine (sroots va vl vc ad len cap nx s.vols W (by omega) (VB.out.below H)).mono ?_
    rintro e w' ⟨v, rfl, ho, hb⟩
    have hn : (rootsV s.vols).length = vl := by rw [rootsV, List.length_map]; exact HVL.out
    obtain ⟨ra, rc, e, h1, h2⟩ := ISl.of (Sli.of ho) (by rw [hn]; unfold maxLen; omega) (Nat.le_refl _)
    rw [hn] at e h2
    subst e
    exact ⟨ra, rc, rfl, ⟨h1, h2⟩, H.trans (hb.mono H.size), hb⟩
  have CS : Hid (∀ W ra rc, Below wb.heap.size wb W → (ra = none → rc = 0) ∧ IRow W ra vl (rootsV s.vols) → Calls Tryz.prog 58 #[.agg #[.slice ad len cap], .slice ra vl rc] W fun e w' => ∃ ua un uc ia ic, e = .returned (.tuple #[.agg #[.slice ua un uc], .slice ia vl ic]) ∧ Hid (SweepOut W L R (.returned (.tuple #[.agg #[.slice ua un uc], .slice ia vl ic])) w') ∧ Hid (Below wb.heap.size wb w') ∧ Hid (Below W.heap.size W w')) := fun W ra rc H HRR => by
    refine (ssweep ad len cap rs ra vl rc (rootsV s.vols) W (by omega) (by omega) HLL.out (KB.out.below H) HRR.1 HRR.2).mono ?_
    intro e w' hh
    rw [← HKS.out, HL.out, HR.out] at hh
    have hh2 := hh
    obtain ⟨uv, iv, _, _, _, _, rfl, hu, hi, -, -, -, -, -, hb⟩ := hh
    obtain ⟨ua, uc, rfl⟩ := hu.form
    rw [HRL.out] at hi
    obtain ⟨ia, ic, rfl, -⟩ := hi.form
    exact ⟨ua, _, uc, ia, ic, rfl, hh2, H.trans (hb.mono H.size), hb⟩
  have S1d : Hid (Below wb.heap.size wb wb.drew) := (Below.refl _ _).drew
  have S1e : Hid (Below wb.heap.size wb (wb.alloc (.cells #[.slice none 0 0] 34)).drew) := ((Below.refl _ _).alloc (Nat.le_refl _) _).drew
  have S1f : Hid (Below wb.heap.size wb (wb.drew.alloc (.cells #[.slice none 0 0] 34))) := ((Below.refl _ _).drew).alloc (Nat.le_refl _) _
  go_cut [3, 4] (fun s3 s4 V => ∃ (c : Nat) (ua : Option Addr) (un uc : Nat) (ia : Option Addr) (ic : Nat), s3 = .pointer (some ⟨c, 0, none⟩) ∧ s4 = .slice ia vl ic ∧ Hid (SwV wb V c (.slice ua un uc) (.slice ia vl ic) L R))
  case first =>
    go_region_held3 (fun w' => w'.cell? ⟨z, 0, none⟩ = some (.slice va vl vc) ∧ w'.cell? ⟨z, 1, none⟩ = some (.slice ad len cap) ∧ w'.cell? ⟨z, 2, none⟩ = some (.int .i64 nx)) (first | exact KK.out _ S1d.out | exact KK.out _ S1e.out | exact KK.out _ S1f.out | exact KK.out _ S2.out | exact KK.out _ (S2.out.alloc S2.out.size _) | exact KK.out _ S3.out | exact KK.out _ (S3.out.alloc S3.out.size _) | exact KK.out _ (S3.out.setCell S2.out.size _) | exact KK.out _ (S3.out.setCell (Nat.le_refl _) _)) (first
      | (go_at_call 59; (with_reducible refine Calls.mono (CR.out _ (by first | exact S1d.out | exact S1e.out | exact S1f.out)) ?_); rintro en x2 ⟨ra, rc, rfl, R2, S2, N2⟩)
      | (go_at_call 58; (with_reducible refine Calls.mono (CS.out _ ra rc (by first | exact S2.out | exact S2.out.alloc S2.out.size _) (by first | exact R2.out | exact ⟨R2.out.1, R2.out.2.below ((Below.refl _ _).alloc (Nat.le_refl _) _)⟩)) ?_); rintro en x3 ⟨ua, un, uc, ia, ic, rfl, U3, S3, N3⟩; (try (have nc : Hid (x3.heap[x2.heap.size]? = some (.cells #[.slice none 0 0] 34 (0, 0))) := (N3.out.block _ (by simp)).trans (heap_alloc_new x2 _); have kc := cell_of_row _ _ 0 _ _ _ nc.out; have kf := frozen_of_row _ _ 0 _ _ nc.out)); (try (have nc : Hid (x3.heap[wb.heap.size]? = some (.cells #[.slice none 0 0] 34 (0, 0))) := (N3.out.block _ (by have := N2.out.size; simp at this; omega)).trans ((N2.out.block _ (by simp)).trans (heap_alloc_new wb _)); have kc := cell_of_row _ _ 0 _ _ _ nc.out; have kf := frozen_of_row _ _ 0 _ _ nc.out))))
    all_goals
      go_wp2_with fail
      go_meet
      case rel => first
        | exact ⟨_, ua, un, uc, ia, ic, rfl, rfl, SwV.behind U3.out S3.out S2.out.size⟩
        | exact ⟨_, ua, un, uc, ia, ic, rfl, rfl, SwV.ahead U3.out S3.out ⟨S2.out.size, by simp⟩ nc.out⟩
        | exact ⟨_, ua, un, uc, ia, ic, rfl, rfl, SwV.ahead U3.out S3.out ⟨Nat.le_refl _, by have := N2.out.size; simp at this; omega⟩ nc.out⟩
  case rest =>
    obtain ⟨c, ua, un, uc, ia, ic, hs3, hs4, SV⟩ := hcut
    subst hs3 hs4
    clear CR CS S1d S1e S1f
    obtain ⟨q, hq⟩ : ∃ q, q = wc := ⟨_, rfl⟩
    subst hq
    have LC : Hid (c < q.heap.size) := (Array.getElem?_eq_some_iff.1 SV.out.1).1
    have c0 : q.cell? ⟨c, 0, none⟩ = some (.slice ua un uc) := cell_of_row _ _ 0 _ _ _ SV.out.1
    have HQS : Hid (wb.heap.size ≤ q.heap.size) := SV.out.2.1.size
    obtain ⟨i0, hi, hz0, hz1', hz2⟩ := info_parts infoVl
    have I0 := hide hi
    have Y0 := hide hz0
    have Y1 := hide hz1'
    have Y2 := hide hz2
    clear hi hz0 hz1' hz2
    have KS : Hid (∀ W, Below q.heap.size q W → W.cell? ⟨z, 0, none⟩ = some (.slice va vl vc) ∧ W.cell? ⟨z, 2, none⟩ = some (.int .i64 nx) ∧ W.cell? ⟨c, 0, none⟩ = some (.slice ua un uc)) := fun W H => by
      have hh := KK.out W (SV.out.2.1.trans (H.mono SV.out.2.1.size))
      exact ⟨hh.1, hh.2.2, (H.cell (show c < q.heap.size from LC.out)).trans c0⟩
    have SL : Hid (∀ W, Below q.heap.size q W → VlSl W (.slice va vl vc) s.vols) := fun W H => ⟨va, vc, by rw [HVL.out], HVC.out, by rw [HVL.out]; exact VB.out.below (SV.out.2.1.trans (H.mono SV.out.2.1.size))⟩
    have W1 : Hid (Below q.heap.size q (q.alloc (.cells #[] 69)).drew) := ((Below.refl _ _).alloc (Nat.le_refl _) _).drew
    have WX : Hid (Below q.heap.size q (q.alloc (.cells #[.slice none 0 0, .slice none 0 0, .int .i64 0] 36)).drew) := ((Below.refl _ _).alloc (Nat.le_refl _) _).drew
    have W2 : Hid (Below q.heap.size q ((q.alloc (.cells #[] 69)).alloc (.cells #[.slice none 0 0, .slice none 0 0, .int .i64 0] 36)).drew) := (((Below.refl _ _).alloc (Nat.le_refl _) _).alloc (by simp) _).drew
    have W3 : Hid (Below q.heap.size q ((q.alloc (.cells #[.slice none 0 0, .slice none 0 0, .int .i64 0] 36)).alloc (.cells #[] 69)).drew) := (((Below.refl _ _).alloc (Nat.le_refl _) _).alloc (by simp) _).drew
    have ze : (q.alloc (.cells #[] 69)).heap.size = q.heap.size + 1 := by simp
    have zx : (q.alloc (.cells #[.slice none 0 0, .slice none 0 0, .int .i64 0] 36)).heap.size = q.heap.size + 1 := by simp
    have RN : ∀ (W : World) (g : Nat), W.heap[g]? = some (.cells #[] 69 (0, 0)) → q.heap.size ≤ g → W.ownsRow q.heap.size 69 2 (.slice (some ⟨g, 0, none⟩) 0 0) 0 [] := fun W g h1 h2 => ⟨rfl, .inr ⟨g, 0, #[], rfl, h2, h1, Nat.le_refl _, by unfold maxLen; omega, rfl, rfl⟩⟩
    have O1 : Hid ((q.alloc (.cells #[] 69)).drew.ownsRow q.heap.size 69 2 (.slice (some ⟨q.heap.size, 0, none⟩) 0 0) 0 []) := RN _ _ (heap_alloc_new q _) (Nat.le_refl _)
    have O2 : Hid (((q.alloc (.cells #[] 69)).alloc (.cells #[.slice none 0 0, .slice none 0 0, .int .i64 0] 36)).drew.ownsRow q.heap.size 69 2 (.slice (some ⟨q.heap.size, 0, none⟩) 0 0) 0 []) := RN _ _ ((Below.heap_alloc _ _ _ (by simp)).trans (heap_alloc_new q _)) (Nat.le_refl _)
    have O3 : Hid (((q.alloc (.cells #[.slice none 0 0, .slice none 0 0, .int .i64 0] 36)).alloc (.cells #[] 69)).drew.ownsRow q.heap.size 69 2 (.slice (some ⟨q.heap.size + 1, 0, none⟩) 0 0) 0 []) := RN _ _ (by have := heap_alloc_new (q.alloc (.cells #[.slice none 0 0, .slice none 0 0, .int .i64 0] 36)) (.cells #[] 69); rw [zx] at this; exact this) (by omega)
    have X2 : Hid (((q.alloc (.cells #[] 69)).alloc (.cells #[.slice none 0 0, .slice none 0 0, .int .i64 0] 36)).drew.heap[q.heap.size + 1]? = some (.cells #[.slice none 0 0, .slice none 0 0, .int .i64 0] 36 (0, 0))) := by have := heap_alloc_new (q.alloc (.cells #[] 69)) (.cells #[.slice none 0 0, .slice none 0 0, .int .i64 0] 36); rw [ze] at this; exact this
    have X3 : Hid (((q.alloc (.cells #[.slice none 0 0, .slice none 0 0, .int .i64 0] 36)).alloc (.cells #[] 69)).drew.heap[q.heap.size]? = some (.cells #[.slice none 0 0, .slice none 0 0, .int .i64 0] 36 (0, 0))) := (Below.heap_alloc _ _ _ (by simp)).trans (heap_alloc_new q _)
    have WD : Hid (Below q.heap.size q q.drew) := (Below.refl _ _).drew
    clear ze zx RN
    go_wp2_with fail
    go_cut [5] (fun s5 V => ∃ (xb : Nat) (la : Option Addr) (lc : Nat), s5 = .pointer (some ⟨xb, 0, none⟩) ∧ Hid (OuV q V xb (.slice la vl lc) (.slice ua un uc) nx s.vols))
    case first =>
      go_region_held3 (fun w' => w'.cell? ⟨z, 0, none⟩ = some (.slice va vl vc) ∧ w'.cell? ⟨z, 2, none⟩ = some (.int .i64 nx) ∧ w'.cell? ⟨c, 0, none⟩ = some (.slice ua un uc)) (first | exact KS.out _ WD.out | exact KS.out _ W1.out | exact KS.out _ WX.out | exact KS.out _ W2.out | exact KS.out _ W3.out | exact KS.out _ BB.out | exact KS.out _ (BB.out.alloc BB.out.size _) | exact KS.out _ (XL.out.2.2.2.1) | exact KS.out _ (XE.out.2.2.2.1) | go_keep) (first
        | (refine step_append_vl _ (by rfl) (.tmp 15) (.tmp 17) (by rfl) q.heap.size i0 I0.out Y0.out Y1.out Y2.out _ 0 [] (by simp [Act.eval]) O1.out s.vols vl HVL.out _ (by simp [Act.eval]) (SL.out _ W1.out) (by unfold maxLen; omega) (by omega) W1.out.size ?_; intro v6 w6 o6 g6; (rw [List.nil_append, Nat.zero_add] at o6); (have o7 : w6.ownsRow q.heap.size 69 2 v6 s.vols.length (vlcells s.vols) := (by rw [HVL.out]; exact o6)); (have hf := (Sli.of o7).form); (rw [HVL.out] at hf); (obtain ⟨la, lc, hv6, -⟩ := hf); subst hv6; have BB : Hid (Below q.heap.size q w6) := W1.out.grown g6 W1.out.size (fun x hx => by cases hx; exact Nat.le_refl _); have XL : Hid (OuV q (w6.alloc (.cells #[.slice la vl lc, .slice ua un uc, .int .i64 nx] 36)) w6.heap.size (.slice la vl lc) (.slice ua un uc) nx s.vols) := OuV.behind o7 BB.out; clear o6 o7 g6)
        | (refine step_append_vl _ (by rfl) (.tmp 15) (.tmp 17) (by rfl) q.heap.size i0 I0.out Y0.out Y1.out Y2.out _ 0 [] (by simp [Act.eval]) O2.out s.vols vl HVL.out _ (by simp [Act.eval]) (SL.out _ W2.out) (by unfold maxLen; omega) (by omega) W2.out.size ?_; intro v6 w6 o6 g6; (rw [List.nil_append, Nat.zero_add] at o6); (have o7 : w6.ownsRow q.heap.size 69 2 v6 s.vols.length (vlcells s.vols) := (by rw [HVL.out]; exact o6)); (have hf := (Sli.of o7).form); (rw [HVL.out] at hf); (obtain ⟨la, lc, hv6, -⟩ := hf); subst hv6; have BB : Hid (Below q.heap.size q w6) := W2.out.grown g6 W2.out.size (fun x hx => by cases hx; exact Nat.le_refl _); have hx6 : w6.heap[q.heap.size + 1]? = some (.cells #[.slice none 0 0, .slice none 0 0, .int .i64 0] 36 (0, 0)) := (g6.block _ (Array.getElem?_eq_some_iff.1 X2.out).1 (fun e => by simp [Value.ownBlock] at e)).trans X2.out; have hnb : (Value.slice la vl lc).ownBlock ≠ some (q.heap.size + 1) := (fun e => own_ne o7 hx6 e); have e0 := cell_of_row _ _ 0 _ _ _ hx6; have e1 := cell_of_row _ _ 1 _ _ _ hx6; have e2 := cell_of_row _ _ 2 _ _ _ hx6; have e3 := frozen_of_row _ _ 0 _ _ hx6; have e4 := frozen_of_row _ _ 1 _ _ hx6; have e5 := frozen_of_row _ _ 2 _ _ hx6; have XE : Hid (OuV q (((w6.setCell ⟨q.heap.size + 1, 0, none⟩ (.slice la vl lc)).setCell ⟨q.heap.size + 1, 1, none⟩ (.slice ua un uc)).setCell ⟨q.heap.size + 1, 2, none⟩ (.int .i64 nx)) (q.heap.size + 1) (.slice la vl lc) (.slice ua un uc) nx s.vols) := OuV.ahead o7 BB.out hx6 (by omega) hnb; clear o6 o7 g6 hx6 hnb)
        | (refine step_append_vl _ (by rfl) (.tmp 15) (.tmp 17) (by rfl) q.heap.size i0 I0.out Y0.out Y1.out Y2.out _ 0 [] (by simp [Act.eval]) O3.out s.vols vl HVL.out _ (by simp [Act.eval]) (SL.out _ W3.out) (by unfold maxLen; omega) (by omega) W3.out.size ?_; intro v6 w6 o6 g6; (rw [List.nil_append, Nat.zero_add] at o6); (have o7 : w6.ownsRow q.heap.size 69 2 v6 s.vols.length (vlcells s.vols) := (by rw [HVL.out]; exact o6)); (have hf := (Sli.of o7).form); (rw [HVL.out] at hf); (obtain ⟨la, lc, hv6, -⟩ := hf); subst hv6; have BB : Hid (Below q.heap.size q w6) := W3.out.grown g6 W3.out.size (fun x hx => by cases hx; show q.heap.size ≤ q.heap.size + 1; omega); have hx6 : w6.heap[q.heap.size]? = some (.cells #[.slice none 0 0, .slice none 0 0, .int .i64 0] 36 (0, 0)) := (g6.block _ (Array.getElem?_eq_some_iff.1 X3.out).1 (fun e => by simp [Value.ownBlock] at e)).trans X3.out; have hnb : (Value.slice la vl lc).ownBlock ≠ some (q.heap.size) := (fun e => own_ne o7 hx6 e); have e0 := cell_of_row _ _ 0 _ _ _ hx6; have e1 := cell_of_row _ _ 1 _ _ _ hx6; have e2 := cell_of_row _ _ 2 _ _ _ hx6; have e3 := frozen_of_row _ _ 0 _ _ hx6; have e4 := frozen_of_row _ _ 1 _ _ hx6; have e5 := frozen_of_row _ _ 2 _ _ hx6; have XE : Hid (OuV q (((w6.setCell ⟨q.heap.size, 0, none⟩ (.slice la vl lc)).setCell ⟨q.heap.size, 1, none⟩ (.slice ua un uc)).setCell ⟨q.heap.size, 2, none⟩ (.int .i64 nx)) (q.heap.size) (.slice la vl lc) (.slice ua un uc) nx s.vols) := OuV.ahead o7 BB.out hx6 (by omega) hnb; clear o6 o7 g6 hx6 hnb))
      all_goals
        go_wp2_with fail
        go_meet
        case rel => first
          | exact ⟨_, _, _, rfl, XL⟩
          | exact ⟨_, _, _, rfl, XE⟩
    case rest =>
      obtain ⟨xb, la, lc, hs5, OV⟩ := hcut
      subst hs5
      obtain ⟨q2, hq2⟩ : ∃ q2, q2 = wc := ⟨_, rfl⟩
      subst hq2
      have OV0 : Hid (OuV q q2 xb (.slice la vl lc) (.slice ua un uc) nx (rtK s.vols R 0)) := by
        have e : rtK s.vols R 0 = s.vols := by simp [rtK]
        rw [e]
        exact OV.out
      clear OV W1 WX W2 W3 O1 O2 O3 X2 X3 WD SL KS I0 Y0 Y1 Y2 c0 KK VB KB HLL HVC
      go_wp2_with fail
      go_loopw [6] (fun iv W => ∃ k : Nat, k ≤ vl ∧ iv = .int .i64 k ∧ Hid (OuV q W xb (.slice la vl lc) (.slice ua un uc) nx (rtK s.vols R k))) (fun iv _ => vl - (intOf iv).toNat)
      case atStart => exact ⟨0, Nat.zero_le _, rfl, OV0⟩
      case round =>
        obtain ⟨k, hk, rfl, HT⟩ := hrel
        clear OV0
        have x0 : wr.cell? ⟨xb, 0, none⟩ = some (.slice la vl lc) := cell_of_row _ _ 0 _ _ _ HT.out.1
        by_cases hlt : (k : Int) < vl
        · obtain ⟨v, hv⟩ : ∃ v, s.vols[k]? = some v := ⟨_, List.getElem?_eq_getElem (by have := HVL.out; omega)⟩
          obtain ⟨r, hr⟩ : ∃ r, R[k]? = some r := ⟨_, List.getElem?_eq_getElem (by have := HRL.out; omega)⟩
          have hle : s.vols.length = R.length := by rw [HRL.out]; exact HVL.out
          have hat := rtK_at hle (show k < s.vols.length by have := HVL.out; omega)
          rw [hv] at hat
          have hlen := rtK_len s.vols R k hle (by have := HVL.out; omega)
          rw [HVL.out] at hlen
          obtain ⟨g, hva, hglo, hgl⟩ : ∃ g, la = some ⟨g, 0, none⟩ ∧ q.heap.size ≤ g ∧ g < wr.heap.size := by
            obtain ⟨va', vc', e, hh⟩ := (Sli.of HT.out.2.1).form
            injection e with e1 e2 e3
            obtain ⟨g, e4, e5, e6⟩ := hh (by rw [hlen]; omega)
            exact ⟨g, by rw [e1, e4], e5, e6⟩
          subst hva
          have NX := hide (HT.out.root hlen hat r).drew
          rw [rtK_succ hle hv hr] at NX
          have HO := hide HT.out.2.1
          rw [hlen] at HO
          have oc : wr.cell? ⟨g, k * 2 + 1, none⟩ = some (.int .i64 v.2) := by
            rw [← addr_at]
            exact HO.out.cells (g := g) rfl _ _ (vlcells_at _ k v hat 1 _ rfl)
          have of : wr.frozen? ⟨g, k * 2 + 1, none⟩ = false := by
            obtain ⟨-, -, cs, q⟩ := own_kind HO.out g rfl
            exact frozen_of_row _ _ _ _ _ q
          obtain ⟨-, -, lo1, hi1, lo2, hi2, -, hsl, -, -, -, hh2, -⟩ := SV.out
          replace hsl := hsl.blw HT.out.2.2.2.1
          rw [HRL.out] at hsl
          obtain ⟨ig, hig⟩ : ∃ ig, ia = some ⟨ig, 0, none⟩ := by
            obtain ⟨ia', ic', e, hh⟩ := hsl.form
            injection e with e1 e2 e3
            obtain ⟨ig, e4, -⟩ := hh (by omega)
            exact ⟨ig, by rw [e1, e4]⟩
          subst hig
          have rc2 : wr.cell? ⟨ig, k, none⟩ = some (.int .i64 r) := hsl.flt.cell (icells_get hr)
          have k0 : (0 : Int) ≤ k := by omega
          clear hv hr hle hat hlen hsl HO HT hh2 SV HQS LC
          go_wp2
          go_region
          go_wp2
          go_roundw
          case rel => exact ⟨k + 1, by omega, by go_num, NX⟩
          case measure => simp [intOf]; omega
        · have ek : k = vl := by omega
          subst ek
          have x1 : wr.cell? ⟨xb, 1, none⟩ = some (.slice ua un uc) := cell_of_row _ _ 1 _ _ _ HT.out.1
          have x2 : wr.cell? ⟨xb, 2, none⟩ = some (.int .i64 nx) := cell_of_row _ _ 2 _ _ _ HT.out.1
          have hzb : Hid (z + 1 < wb.heap.size) := (Array.getElem?_eq_some_iff.1 XR.out).1
          have BB : Hid (Below wb.heap.size wb wr) := SV.out.2.1.trans (HT.out.2.2.2.1.mono SV.out.2.1.size)
          have R2 : Hid (wr.heap[z + 1]? = some (.cells #[.slice none 0 0, .slice none 0 0, .int .i64 0] 36 (0, 0))) := (BB.out.block (z + 1) hzb.out).trans XR.out
          have r0 := cell_of_row _ _ 0 _ _ _ R2.out
          have r1 := cell_of_row _ _ 1 _ _ _ R2.out
          have r2 := cell_of_row _ _ 2 _ _ _ R2.out
          have f0 := frozen_of_row _ _ 0 _ _ R2.out
          have f1 := frozen_of_row _ _ 1 _ _ R2.out
          have f2 := frozen_of_row _ _ 2 _ _ R2.out
          have R3 := hide (sto_row3 (a := .slice la k lc) (b := .slice ua un uc) (c := .int .i64 nx) R2.out)
          have FIN : Hid (StOut w (sweptS s) (.agg #[.slice la k lc, .slice ua un uc, .int .i64 nx]) (((wr.setCell ⟨z + 1, 0, none⟩ (.slice la k lc)).setCell ⟨z + 1, 1, none⟩ (.slice ua un uc)).setCell ⟨z + 1, 2, none⟩ (.int .i64 nx))) := by
            have hle : s.vols.length = R.length := by rw [HRL.out]; exact HVL.out
            have e : rtK s.vols R k = (sweptS s).vols := by
              show _ = List.zipWith _ _ _
              rw [HR.out, ← rtK_all hle, HVL.out]
            have hS := Sli.of HT.out.2.1
            rw [e] at hS
            obtain ⟨-, h5, lo1, hi1, lo2, hi2, hkn, -, a1, a2, -, -, -⟩ := SV.out
            have a3 := HT.out.2.2.2.1.size
            have a4 := h5.size
            have a5 := hzb.out
            have a6 := HZW.out
            have en : (sweptS s).next = nx := HNX.out
            have ek : (sweptS s).kns = L := HL.out
            have hf := st_fin (w := w) (W := wr) (z := z + 1) (lo1 := q.heap.size) (hi1 := wr.heap.size) (lo2 := lo1) (hi2 := hi1) (vv := .slice la k lc) (kv := .slice ua un uc) (s := sweptS s) (by omega) hS (by rw [ek]; exact Kns.loc _ _ _ _ q _ (fun g g1 g2 => HT.out.2.2.2.1.block g (by omega)) hkn) ⟨by have := BW.out.size; omega, .inr (by omega)⟩ ⟨by have := BW.out.size; omega, .inr (by omega)⟩ (Nat.le_refl _) (by omega) (.inr (by omega)) (BW.out.trans (BB.out.mono BW.out.size))
            rw [en] at hf
            exact hf
          have HCAP := hide (own_cap HT.out.2.1)
          clear HT R2 BB SV
          go_wp2
          exact bodyPost_ret (results_cell_row rfl _ _ (z + 1) 36 _ (0, 0) _ rfl R3.out Tryz.underlying36 rfl infoSto) rfl ⟨_, rfl, FIN.out, ⟨_, _, _, _, _, rfl, HCAP.out⟩⟩
end Go.Proofs.YtcnaahajaaifjacGreat
