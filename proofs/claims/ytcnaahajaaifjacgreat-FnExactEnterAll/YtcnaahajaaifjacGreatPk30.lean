/-
  ResSt; EaStM; GsM; SEnAll
-/
import Derived.Test.YtcnaahajaaifjacGreatPk16
import Derived.Test.YtcnaahajaaifjacGreatPk20
import Derived.Test.YtcnaahajaaifjacGreatPk14
import Derived.Test.YtcnaahajaaifjacGreatSEnter
import Derived.Deep.RegionHeld3
import Derived.Deep.DeepCutAuto
/-
  A store and a yes, answered by way of a cell.
-/
namespace Go.Proofs.YtcnaahajaaifjacGreat
open Go.RowKit
open Words

theorem results_st2 {fn : Func} {p q : Tmp} (h : fn.results = #[.cell p 36, .tmp q]) (tmps : Array Value) (w : World) (g : Nat) (a b c : Value)
    (hp : tmps.getD p undef = .pointer (some ⟨g, 0, none⟩)) (hg : w.heap[g]? = some (.cells #[a, b, c] 36 (0, 0))) :
    (results fn tmps).run Tryz.prog w = .ok (.tuple #[.agg #[a, b, c], tmps.getD q undef]) w := by
  have hp' : tmps[p]?.getD undef = .pointer (some ⟨g, 0, none⟩) := by simpa using hp
  have hl := run_loadVar_row (P := Tryz.prog) w g 36 36 #[a, b, c] (0, 0) _ hg Tryz.underlying36 rfl infoSto
  simp [results, h, hp', asAddr, hl]
end Go.Proofs.YtcnaahajaaifjacGreat

/-
  Stores that are entered record by record: what is held.
-/
namespace Go.Proofs.YtcnaahajaaifjacGreat
open Go.RowKit
open Words

/-- What EnterAll holds: what came in, the result's cells, the store under way. -/
def EaSt (w V : World) (z zb : Nat) (x0 x1 x2 a b : Value) (t : Sto) : Prop :=
  Below w.heap.size w V ∧ V.heap[z]? = some (.cells #[x0, x1, x2] 36 (0, 0)) ∧ V.heap[z + 1]? = some (.cells #[.slice none 0 0, .slice none 0 0, .int .i64 0] 36 (0, 0)) ∧ V.heap[zb]? = some (.cells #[a, b, .int .i64 t.next] 36 (0, 0)) ∧ StH (z + 2) zb (.agg #[a, b, .int .i64 t.next]) t V ∧ t.Fit ∧ (w.heap.size = z ∧ z + 2 ≤ zb)
theorem EaSt.below {w V V' : World} {z zb : Nat} {x0 x1 x2 a b : Value} {t : Sto} (h : EaSt w V z zb x0 x1 x2 a b t) (hb : Below V.heap.size V V') : EaSt w V' z zb x0 x1 x2 a b t := by
  obtain ⟨h1, h2, h3, h4, h5, h6, h8⟩ := h
  have l2 := (Array.getElem?_eq_some_iff.1 h2).1
  have l3 := (Array.getElem?_eq_some_iff.1 h3).1
  have l4 := (Array.getElem?_eq_some_iff.1 h4).1
  exact ⟨h1.trans (hb.mono h1.size), (hb.block _ l2).trans h2, (hb.block _ l3).trans h3, (hb.block _ l4).trans h4, h5.below hb, h6, h8⟩
/-- The variable gets another store. -/
theorem EaSt.next {w V V1 : World} {z zb : Nat} {x0 x1 x2 a b a' b' : Value} {n : Int} {t t' : Sto} (h : EaSt w V z zb x0 x1 x2 a b t) (ho : StOut V t' (.agg #[a', b', .int .i64 n]) V1) (hn : t'.next = n) (hf : t'.Fit) {V2 : World} (hb : Below V1.heap.size V1 V2) : EaSt w (((V2.setCell ⟨zb, 0, none⟩ a').setCell ⟨zb, 1, none⟩ b').setCell ⟨zb, 2, none⟩ (.int .i64 n)) z zb x0 x1 x2 a' b' t' := by
  have hv := ho.blw
  have h' := h.below (hv.trans (hb.mono hv.size))
  have l4 := (Array.getElem?_eq_some_iff.1 h.2.2.2.1).1
  obtain ⟨h1, h2, h3, h4, -, -, h8⟩ := h'
  have hz8 := h8.1
  have hz9 := h8.2
  subst hn
  have st := ((((StH.of (lo := z + 2) (zb := zb) ho (by omega) (.inl l4)).below hb).set (k := 0) (u := a')).set (k := 1) (u := b')).set (k := 2) (u := .int .i64 t'.next)
  refine ⟨((h1.setCell (p := ⟨zb, 0, none⟩) (by show _ ≤ zb; omega) _).setCell (p := ⟨zb, 1, none⟩) (by show _ ≤ zb; omega) _).setCell (p := ⟨zb, 2, none⟩) (by show _ ≤ zb; omega) _, row_set_ne (row_set_ne (row_set_ne h2 (by omega) _ _) (by omega) _ _) (by omega) _ _, row_set_ne (row_set_ne (row_set_ne h3 (by omega) _ _) (by omega) _ _) (by omega) _ _, sto_row3 h4, st, hf, h8⟩
end Go.Proofs.YtcnaahajaaifjacGreat

/-
  A call that answers a store into a cell of its own, whichever came first.
-/
namespace Go.Proofs.YtcnaahajaaifjacGreat
open Go.RowKit
open Words

theorem vcap_le {a : Option Addr} {n c : Nat} {k x : Value} (h : VCap (.agg #[.slice a n c, k, x])) : n ≤ c := by
  obtain ⟨a', n', c', k', x', e, hh⟩ := h
  injection e with e
  injection e with e
  simp only [List.cons.injEq, and_true] at e
  obtain ⟨e, -⟩ := e
  injection e with e1 e2 e3
  omega
theorem bel_tr {w w1 w2 : World} {B : Nat} (h : Below B w w1) (hB : B ≤ w1.heap.size) (b : Below w1.heap.size w1 w2) : Below B w w2 := h.trans (b.mono hB)
theorem bel3 {w W : World} {B c : Nat} (h : Below B w W) (hc : B ≤ c) (a b d : Value) : Below B w (((W.setCell ⟨c, 0, none⟩ a).setCell ⟨c, 1, none⟩ b).setCell ⟨c, 2, none⟩ d) := ((h.setCell (p := ⟨c, 0, none⟩) hc a).setCell (p := ⟨c, 1, none⟩) hc b).setCell (p := ⟨c, 2, none⟩) hc d
/-- The cell, the store, and all that was held before. -/
def Gs (w wr : World) (hs : List Hold) (s0 c : Nat) (a b : Value) (R : Sto) : Prop := ∃ lo hi, s0 ≤ lo ∧ s0 ≤ c ∧ (c + 1 ≤ lo ∨ hi ≤ c) ∧ Tk w wr ((c, c + 1, Cel c #[a, b, .int .i64 R.next] 36) :: (lo, hi, Sts lo hi (.agg #[a, b, .int .i64 R.next]) R) :: hs)
theorem Gs.late {w wS W w3 : World} {hs : List Hold} {a b : Value} {R : Sto} (T : Tk w wS hs) (hb : Below wS.heap.size wS w3) (f : StOut W R (.agg #[a, b, .int .i64 R.next]) w3) (h : wS.heap.size ≤ W.heap.size) : Gs w (w3.alloc (.cells #[a, b, .int .i64 R.next] 36)) hs wS.heap.size w3.heap.size a b R := by
  have T1 := (T.below hb).put (Nat.le_refl _) (Sts.loc W.heap.size w3.heap.size (.agg #[a, b, .int .i64 R.next]) R) f.sts
  exact ⟨W.heap.size, w3.heap.size, h, hb.size, Or.inr (Nat.le_refl _), T1.celln rfl _ _⟩
theorem Gs.early {w wS W w3 : World} {hs : List Hold} {c : Nat} {a b z0 z1 z2 : Value} {R : Sto} (T : Tk w wS hs) (hb : Below wS.heap.size wS w3) (f : StOut W R (.agg #[a, b, .int .i64 R.next]) w3) (hc : w3.heap[c]? = some (.cells #[z0, z1, z2] 36 (0, 0))) (h0 : wS.heap.size ≤ c) (h1 : c < W.heap.size) :
    Gs w (((w3.setCell ⟨c, 0, none⟩ a).setCell ⟨c, 1, none⟩ b).setCell ⟨c, 2, none⟩ (.int .i64 R.next)) hs wS.heap.size c a b R := by
  have hlt := (Array.getElem?_eq_some_iff.1 hc).1
  have hz := T.1.size
  have hq : ∀ q, q ≠ c → (((w3.setCell ⟨c, 0, none⟩ a).setCell ⟨c, 1, none⟩ b).setCell ⟨c, 2, none⟩ (.int .i64 R.next)).heap[q]? = w3.heap[q]? := fun q q1 => (Below.heap_setCell _ _ _ _ q1).trans ((Below.heap_setCell _ _ _ _ q1).trans (Below.heap_setCell _ _ _ _ q1))
  have T1 := (T.below hb).put (Nat.le_refl _) (Sts.loc W.heap.size w3.heap.size (.agg #[a, b, .int .i64 R.next]) R) f.sts
  refine ⟨W.heap.size, w3.heap.size, by omega, h0, Or.inl h1, T1.touch (lo := c) (hi := c + 1) ⟨rfl, rfl, rfl, by simp [World.setCell], fun i _ hi => hq i (fun e => hi (by omega))⟩ (by omega) hlt (Cel.loc _ _ _) (sto_row3 hc) (fun x hx => ?_)⟩
  rcases List.mem_cons.1 hx with rfl | hx
  · exact ⟨List.mem_of_getElem? (i := 0) rfl, Or.inr h1⟩
  · exact ⟨List.mem_cons_of_mem _ hx, Or.inl (Nat.le_trans (T.2 x hx).1 h0)⟩
end Go.Proofs.YtcnaahajaaifjacGreat

/-
  spec.EnterAll.
-/
namespace Go.Proofs.YtcnaahajaaifjacGreat
open Go.RowKit
open Words

/-- A store that was answered, in a variable of its own. -/
def NxV (wS V : World) (c : Nat) (a b : Value) (t : Sto) : Prop := V.heap[c]? = some (.cells #[a, b, .int .i64 t.next] 36 (0, 0)) ∧ StH wS.heap.size c (.agg #[a, b, .int .i64 t.next]) t V ∧ Below wS.heap.size wS V ∧ VCap (.agg #[a, b, .int .i64 t.next])
theorem NxV.late {wS W V : World} {a b : Value} {t : Sto} (hb : Below wS.heap.size wS V) (f : StOut W t (.agg #[a, b, .int .i64 t.next]) V) (h : wS.heap.size ≤ W.heap.size) (hc : VCap (.agg #[a, b, .int .i64 t.next])) : NxV wS (V.alloc (.cells #[a, b, .int .i64 t.next] 36)) V.heap.size a b t :=
  ⟨heap_alloc_new V _, (StH.of f h (.inr (Nat.le_refl _))).below ((Below.refl _ _).alloc (Nat.le_refl _) _), hb.alloc hb.size _, hc⟩
theorem NxV.early {wS W V : World} {c : Nat} {a b z0 z1 z2 : Value} {t : Sto} (hb : Below wS.heap.size wS V) (f : StOut W t (.agg #[a, b, .int .i64 t.next]) V) (hx : V.heap[c]? = some (.cells #[z0, z1, z2] 36 (0, 0))) (h0 : wS.heap.size ≤ c) (h1 : c < W.heap.size) (hc : VCap (.agg #[a, b, .int .i64 t.next])) : NxV wS (((V.setCell ⟨c, 0, none⟩ a).setCell ⟨c, 1, none⟩ b).setCell ⟨c, 2, none⟩ (.int .i64 t.next)) c a b t :=
  ⟨sto_row3 hx, (StH.of f (by omega) (.inl h1)).set.set.set, bel3 hb h0 _ _ _, hc⟩
theorem EaSt.take {w V : World} {z zb c B : Nat} {x0 x1 x2 a b a' b' : Value} {t t' : Sto} (h : EaSt w V z zb x0 x1 x2 a b t) (hh : StH B c (.agg #[a', b', .int .i64 t'.next]) t' V) (hB : zb < B) (hf : t'.Fit) : EaSt w (((V.setCell ⟨zb, 0, none⟩ a').setCell ⟨zb, 1, none⟩ b').setCell ⟨zb, 2, none⟩ (.int .i64 t'.next)) z zb x0 x1 x2 a' b' t' := by
  obtain ⟨h1, h2, h3, h4, -, -, h8⟩ := h
  have hz8 := h8.1
  have hz9 := h8.2
  obtain ⟨vv, kv, lo1, hi1, lo2, hi2, e, q1, q2, q3, q4, q5, q6, q7⟩ := hh
  have hs : StH (z + 2) zb (.agg #[a', b', .int .i64 t'.next]) t' V := ⟨vv, kv, lo1, hi1, lo2, hi2, e, q1, q2, ⟨by omega, .inr (by omega)⟩, ⟨by omega, .inr (by omega)⟩, q5, q6, q7⟩
  exact ⟨bel3 h1 (by omega) _ _ _, row_set_ne (row_set_ne (row_set_ne h2 (by omega) _ _) (by omega) _ _) (by omega) _ _, row_set_ne (row_set_ne (row_set_ne h3 (by omega) _ _) (by omega) _ _) (by omega) _ _, sto_row3 h4, hs.set.set.set, hf, h8⟩
set_option maxHeartbeats 2000000 in
set_option maxRecDepth 100000 in
theorem senterAll : EnterAllC 6 := by
  intro v s la ln lc l w hln hin hl
  obtain ⟨va, vl, vc, ad, len, cap, rs, ev, -⟩ := id hin
  have HIN := hide hin
  have T0 := hide (Tk.two w #[.slice va vl vc, .slice ad len cap, .int .i64 s.next] #[.slice none 0 0, .slice none 0 0, .int .i64 0] 36 36)
  unfold SBox at ev
  rw [ev]
  rw [ev] at HIN
  obtain ⟨nx, hnx⟩ : ∃ nx, s.next = nx := ⟨_, rfl⟩
  have HNX := hide hnx
  rw [hnx] at T0 HIN ⊢
  have HL := hide hl
  have HLN := hide (show l.length = ln by have := hl.1; simpa using this)
  have HFT := hide hin.fit
  clear hin ev hl hnx
  go_enter Tryz.func6, Tryz.ntmps6
  go_wp2_with fail
  generalize (w.alloc (.cells #[.slice va vl vc, .slice ad len cap, .int .i64 nx] 36)).alloc (.cells #[.slice none 0 0, .slice none 0 0, .int .i64 0] 36) = w0 at T0 ⊢
  have B0 := hide T0.out.1
  have XR := hide (T0.out.get 0 rfl)
  have X1 := hide (T0.out.get 1 rfl)
  obtain ⟨z, hz⟩ : ∃ z, w.heap.size = z := ⟨_, rfl⟩
  have HZW := hide hz
  rw [hz] at XR X1 ⊢
  clear hz T0
  have HZ : Hid (z + 1 < w0.heap.size) := (Array.getElem?_eq_some_iff.1 XR.out).1
  refine (scopy_in (HIN.out.below B0.out)).mono ?_
  rintro e w1 ⟨u, rfl, hu, hcp⟩
  obtain ⟨ua, ul, uc, ub, um, ud, rfl⟩ := hu.form
  rw [HNX.out]
  have B1 := hide hu.blw
  have CP0 := hide hcp
  rw [HNX.out] at CP0
  have ST0 : Hid (EaSt w (w1.alloc (.cells #[.slice ua ul uc, .slice ub um ud, .int .i64 nx] 36)) z w1.heap.size (.slice va vl vc) (.slice ad len cap) (.int .i64 nx) (.slice ua ul uc) (.slice ub um ud) s) := by
    have bb := B0.out.trans (B1.out.mono B0.out.size)
    have ba : Below w1.heap.size w1 (w1.alloc (.cells #[.slice ua ul uc, .slice ub um ud, .int .i64 nx] 36)) := (Below.refl _ _).alloc (Nat.le_refl _) _
    have hzz := HZ.out
    have hs1 := B1.out.size
    have hzw := HZW.out
    refine ⟨bb.trans (ba.mono bb.size), (ba.block z (by omega)).trans ((B1.out.block z (by omega)).trans X1.out), (ba.block (z + 1) (by omega)).trans ((B1.out.block (z + 1) (by omega)).trans XR.out), by rw [HNX.out]; exact heap_alloc_new w1 _, ?_, HFT.out, hzw, by omega⟩
    exact (StH.of hu (by omega) (.inr (Nat.le_refl _))).below ba
  obtain ⟨zb, hzb⟩ : ∃ zb, w1.heap.size = zb := ⟨_, rfl⟩
  rw [hzb] at ST0
  clear hu hcp B1 XR X1
  go_wp2_with fail
  generalize w1.alloc (.cells #[.slice ua ul uc, .slice ub um ud, .int .i64 nx] 36) = w2 at ST0 ⊢
  clear hzb
  go_loopw [7] (fun kv V => ∃ (k : Nat) (t : Sto) (aa : Option Addr) (al ac : Nat) (ba : Option Addr) (bl bc : Nat), k ≤ ln ∧ kv = .int .i64 k ∧ Hid (enterGo s (l.take k) = some t ∧ EaSt w V z zb (.slice va vl vc) (.slice ad len cap) (.int .i64 nx) (.slice aa al ac) (.slice ba bl bc) t ∧ al ≤ ac)) (fun kv _ => ln - (intOf kv).toNat)
  case atStart => exact ⟨0, s, ua, ul, uc, ub, um, ud, Nat.zero_le _, rfl, by rw [List.take_zero, enterGo], ST0.out, vcap_le CP0.out⟩
  case round =>
    obtain ⟨k, t, aa, al, ac, ba, bl, bc, hk, rfl, HS⟩ := hrel
    clear ST0
    by_cases hlt : (k : Int) < ln
    · obtain ⟨r, hr⟩ : ∃ r, l[k]? = some r := ⟨_, List.getElem?_eq_getElem (by have := HLN.out; omega)⟩
      obtain ⟨b, off, e, hb, c0, c1, c2, c3⟩ := (HL.out.below HS.out.2.1.1).at (show (l.map Rc.tu)[k]? = some r.tu by rw [List.getElem?_map, hr]; rfl)
      subst e
      have k0 : (0 : Int) ≤ k := by omega
      have HRK := hide hr
      obtain ⟨kind, vol, arg, chunk⟩ := r
      simp only [Rc.tu] at c0 c1 c2 c3
      obtain ⟨tn, htn⟩ : ∃ tn, t.next = tn := ⟨_, rfl⟩
      have HTN := hide htn
      have hz4 := HS.out.2.1.2.2.2.1
      rw [htn] at hz4
      have ZBL : Hid (zb < wr.heap.size) := (Array.getElem?_eq_some_iff.1 hz4).1
      have y0 := cell_of_row _ _ 0 _ _ _ hz4
      have y1 := cell_of_row _ _ 1 _ _ _ hz4
      have y2 := cell_of_row _ _ 2 _ _ _ hz4
      have hy0 : wr.cell? ⟨zb, 0, none⟩ = some (.slice aa al ac) := y0
      have hy1 : wr.cell? ⟨zb, 1, none⟩ = some (.slice ba bl bc) := y1
      have hy2 : wr.cell? ⟨zb, 2, none⟩ = some (.int .i64 tn) := y2
      obtain ⟨t2, ok, hE⟩ : ∃ t2 ok, enterS t ⟨kind, vol, arg, chunk⟩ = (t2, ok) := ⟨_, _, rfl⟩
      have HEE := hide hE
      have HFE : Hid t2.Fit := by
        have := enter_fit HS.out.2.1.2.2.2.2.2.1 ⟨kind, vol, arg, chunk⟩
        rw [hE] at this
        exact this
      have CE : Hid (∀ W, Below wr.heap.size wr W → Calls Tryz.prog 18 #[.agg #[.slice aa al ac, .slice ba bl bc, .int .i64 tn], .agg #[.int .i64 kind, .int .i64 vol, .int .i64 arg, .int .i64 chunk]] W fun e w' => ∃ pa pl pc pb pm pd, e = .returned (.tuple #[.agg #[.slice pa pl pc, .slice pb pm pd, .int .i64 t2.next], .bool ok]) ∧ StOut W t2 (.agg #[.slice pa pl pc, .slice pb pm pd, .int .i64 t2.next]) w' ∧ VCap (.agg #[.slice pa pl pc, .slice pb pm pd, .int .i64 t2.next])) := fun W H => by
        have S1 := HS.out.2.1.below H
        have hi := S1.2.2.2.2.1.rd S1.2.2.2.2.2.1
        rw [HTN.out] at hi
        refine (senter _ t ⟨kind, vol, arg, chunk⟩ W hi ⟨_, _, _, _, _, rfl, HS.out.2.2⟩).mono ?_
        rintro e w' ⟨u, rfl, hu, hcp⟩
        rw [HEE.out] at hu
        simp only at hu
        obtain ⟨pa, pl, pc, pb, pm, pd, rfl⟩ := hu.form
        rw [HEE.out]
        exact ⟨pa, pl, pc, pb, pm, pd, rfl, hu, hcp⟩
      have KK : Hid (∀ W, Below wr.heap.size wr W → (W.cell? ⟨zb, 0, none⟩ = some (.slice aa al ac) ∧ W.cell? ⟨zb, 1, none⟩ = some (.slice ba bl bc) ∧ W.cell? ⟨zb, 2, none⟩ = some (.int .i64 tn)) ∧ W.cell? ⟨b, off + k * 4, none⟩ = some (.int .i64 kind) ∧ W.cell? ⟨b, off + k * 4 + 1, none⟩ = some (.int .i64 vol) ∧ W.cell? ⟨b, off + k * 4 + 2, none⟩ = some (.int .i64 arg) ∧ W.cell? ⟨b, off + k * 4 + 3, none⟩ = some (.int .i64 chunk)) := fun W H => ⟨⟨(H.cell (show zb < wr.heap.size from ZBL.out)).trans hy0, (H.cell (show zb < wr.heap.size from ZBL.out)).trans hy1, (H.cell (show zb < wr.heap.size from ZBL.out)).trans hy2⟩, (H.cell (show b < wr.heap.size from hb)).trans c0, (H.cell (show b < wr.heap.size from hb)).trans c1, (H.cell (show b < wr.heap.size from hb)).trans c2, (H.cell (show b < wr.heap.size from hb)).trans c3⟩
      have S1d : Hid (Below wr.heap.size wr wr.drew) := (Below.refl _ _).drew
      have S1e : Hid (Below wr.heap.size wr (wr.alloc (.cells #[.slice none 0 0, .slice none 0 0, .int .i64 0] 36)).drew) := ((Below.refl _ _).alloc (Nat.le_refl _) _).drew
      clear hr hz4 y0 y1 y2 htn hE
      go_upto_region 5 with fail
      obtain ⟨wq, hwq⟩ : ∃ wq, wq = wr := ⟨_, rfl⟩
      subst hwq
      go_cut [8, 9] from 12 to 31 (fun s8 s9 V => s9 = .bool ok ∧ ∃ (c : Nat) (pa : Option Addr) (pl pc : Nat) (pb : Option Addr) (pm pd : Nat), s8 = .pointer (some ⟨c, 0, none⟩) ∧ Hid (NxV wq V c (.slice pa pl pc) (.slice pb pm pd) t2))
      case first =>
        go_region_held3 (fun w' => (w'.cell? ⟨zb, 0, none⟩ = some (.slice aa al ac) ∧ w'.cell? ⟨zb, 1, none⟩ = some (.slice ba bl bc) ∧ w'.cell? ⟨zb, 2, none⟩ = some (.int .i64 tn)) ∧ w'.cell? ⟨b, off + k * 4, none⟩ = some (.int .i64 kind) ∧ w'.cell? ⟨b, off + k * 4 + 1, none⟩ = some (.int .i64 vol) ∧ w'.cell? ⟨b, off + k * 4 + 2, none⟩ = some (.int .i64 arg) ∧ w'.cell? ⟨b, off + k * 4 + 3, none⟩ = some (.int .i64 chunk)) (first | exact KK.out _ S1d.out | exact KK.out _ S1e.out | exact KK.out _ S3.out | exact KK.out _ (S3.out.alloc S3.out.size _) | exact KK.out _ (bel3 S3.out (Nat.le_refl _) _ _ _)) (first
          | (go_at_call 18; (with_reducible refine Calls.mono (CE.out _ (by first | exact S1d.out | exact S1e.out)) ?_); rintro en x3 ⟨pa, pl, pc, pb, pm, pd, rfl, U3, P3⟩; have PP := hide P3; have S3 : Hid (Below wq.heap.size wq x3) := (by first | exact bel_tr S1d.out S1d.out.size U3.blw | exact bel_tr S1e.out S1e.out.size U3.blw); (try (have nc : Hid (x3.heap[wq.heap.size]? = some (.cells #[.slice none 0 0, .slice none 0 0, .int .i64 0] 36 (0, 0))) := (U3.blw.block _ (by simp)).trans (show (wq.alloc (.cells #[.slice none 0 0, .slice none 0 0, .int .i64 0] 36)).drew.heap[wq.heap.size]? = _ from heap_alloc_new wq _); have kc0 := cell_of_row _ _ 0 _ _ _ nc.out; have kc1 := cell_of_row _ _ 1 _ _ _ nc.out; have kc2 := cell_of_row _ _ 2 _ _ _ nc.out; have kf0 := frozen_of_row _ _ 0 _ _ nc.out; have kf1 := frozen_of_row _ _ 1 _ _ nc.out; have kf2 := frozen_of_row _ _ 2 _ _ nc.out)); have UU := hide U3; clear U3 P3))
        all_goals
          go_wp2_with fail
          go_meet
          case rel => first
            | exact ⟨rfl, _, _, _, _, _, _, _, rfl, hide (NxV.late S3.out UU.out S1d.out.size PP.out)⟩
            | exact ⟨rfl, _, _, _, _, _, _, _, rfl, hide (NxV.early S3.out UU.out nc.out (Nat.le_refl _) (by simp) PP.out)⟩
      case rest =>
        obtain ⟨hs9, c, pa, pl, pc, pb, pm, pd, hs8, NV⟩ := hcut
        subst hs9 hs8
        obtain ⟨V, hV⟩ : ∃ V, V = wc := ⟨_, rfl⟩
        subst hV
        clear CE KK S1d S1e hy0 hy1 hy2 c0 c1 c2 c3
        have S3 := hide (HS.out.2.1.below NV.out.2.2.1)
        obtain ⟨m, hm⟩ : ∃ m, t2.next = m := ⟨_, rfl⟩
        have HM := hide hm
        have NC := NV.out.1
        rw [hm] at NC
        have n0 := cell_of_row _ _ 0 _ _ _ NC
        have n1 := cell_of_row _ _ 1 _ _ _ NC
        have n2 := cell_of_row _ _ 2 _ _ _ NC
        have hz4 := S3.out.2.2.2.1
        rw [HTN.out] at hz4
        cases ok with
        | true =>
          have q0 := cell_of_row _ _ 0 _ _ _ hz4
          have q1 := cell_of_row _ _ 1 _ _ _ hz4
          have q2 := cell_of_row _ _ 2 _ _ _ hz4
          have g0 := frozen_of_row _ _ 0 _ _ hz4
          have g1 := frozen_of_row _ _ 1 _ _ hz4
          have g2 := frozen_of_row _ _ 2 _ _ hz4
          have NX : Hid (enterGo s (l.take (k + 1)) = some t2 ∧ EaSt w (((V.setCell ⟨zb, 0, none⟩ (.slice pa pl pc)).setCell ⟨zb, 1, none⟩ (.slice pb pm pd)).setCell ⟨zb, 2, none⟩ (.int .i64 m)) z zb (.slice va vl vc) (.slice ad len cap) (.int .i64 nx) (.slice pa pl pc) (.slice pb pm pd) t2 ∧ pl ≤ pc) := by
            refine ⟨by rw [go_snoc HS.out.1 HRK.out, HEE.out]; rfl, ?_, vcap_le NV.out.2.2.2⟩
            have := S3.out.take NV.out.2.1 ZBL.out HFE.out
            rw [HM.out] at this
            exact this
          clear hm hz4 HS S3 NV NC
          go_wp2
          go_roundw
          case rel => exact ⟨k + 1, _, pa, pl, pc, pb, pm, pd, by omega, by go_num, NX⟩
          case measure => simp [intOf]; omega
        | false =>
          have HE := hide (go_bad HS.out.1 HRK.out (by rw [HEE.out]))
          have x0 : V.cell? ⟨z, 0, none⟩ = some (.slice va vl vc) := cell_of_row _ _ 0 _ _ _ S3.out.2.1
          have x1 : V.cell? ⟨z, 1, none⟩ = some (.slice ad len cap) := cell_of_row _ _ 1 _ _ _ S3.out.2.1
          have x2 : V.cell? ⟨z, 2, none⟩ = some (.int .i64 nx) := cell_of_row _ _ 2 _ _ _ S3.out.2.1
          have CC := hide (scopy_in (HIN.out.below S3.out.1))
          have HZ4 : Hid (z + 1 < V.heap.size) := (Array.getElem?_eq_some_iff.1 S3.out.2.2.1).1
          have B4 := hide S3.out.1
          have R4 := hide S3.out.2.2.1
          clear hm hz4 HS S3 NV NC
          go_wp2_with fail
          refine CC.out.mono ?_
          rintro e w5 ⟨u5, rfl, hu5, -⟩
          obtain ⟨ga, gl, gc, gb, gm, gd, rfl⟩ := hu5.form
          rw [HNX.out]
          have R5 := (hu5.blw.block (z + 1) HZ4.out).trans R4.out
          have r0 := cell_of_row _ _ 0 _ _ _ R5
          have r1 := cell_of_row _ _ 1 _ _ _ R5
          have r2 := cell_of_row _ _ 2 _ _ _ R5
          have f0 := frozen_of_row _ _ 0 _ _ R5
          have f1 := frozen_of_row _ _ 1 _ _ R5
          have f2 := frozen_of_row _ _ 2 _ _ R5
          have FR := hide (sto_row3 (a := .slice ga gl gc) (b := .slice gb gm gd) (c := .int .i64 nx) R5)
          have FIN : Hid (EnOut w (enterAllS s l) (.returned (.tuple #[.agg #[.slice ga gl gc, .slice gb gm gd, .int .i64 nx], .bool false])) (((w5.setCell ⟨z + 1, 0, none⟩ (.slice ga gl gc)).setCell ⟨z + 1, 1, none⟩ (.slice gb gm gd)).setCell ⟨z + 1, 2, none⟩ (.int .i64 nx))) := by
            rw [HE.out]
            refine ⟨_, rfl, ?_⟩
            have := hu5.set3 (w0 := w) (a := .slice ga gl gc) (b := .slice gb gm gd) (c := .int .i64 nx) B4.out (g := z + 1) HZ4.out (by have := HZW.out; omega)
            rw [HNX.out] at this
            exact this
          clear hu5 R5 CC
          go_wp2
          exact bodyPost_ret (results_st2 (p := 4) (q := 5) rfl _ _ (z + 1) _ _ _ rfl FR.out) rfl FIN.out
    · have HE : Hid (enterAllS s l = (t, true)) := by
        have := HS.out.1
        rw [List.take_of_length_le (by have := HLN.out; omega)] at this
        exact go_all this
      obtain ⟨tn, htn⟩ : ∃ tn, t.next = tn := ⟨_, rfl⟩
      have S1 := hide HS.out.2.1
      have hz4 := S1.out.2.2.2.1
      rw [htn] at hz4
      have y0 := cell_of_row _ _ 0 _ _ _ hz4
      have y1 := cell_of_row _ _ 1 _ _ _ hz4
      have y2 := cell_of_row _ _ 2 _ _ _ hz4
      have hy0 : wr.cell? ⟨zb, 0, none⟩ = some (.slice aa al ac) := y0
      have hy1 : wr.cell? ⟨zb, 1, none⟩ = some (.slice ba bl bc) := y1
      have hy2 : wr.cell? ⟨zb, 2, none⟩ = some (.int .i64 tn) := y2
      have R5 := S1.out.2.2.1
      have r0 := cell_of_row _ _ 0 _ _ _ R5
      have r1 := cell_of_row _ _ 1 _ _ _ R5
      have r2 := cell_of_row _ _ 2 _ _ _ R5
      have f0 := frozen_of_row _ _ 0 _ _ R5
      have f1 := frozen_of_row _ _ 1 _ _ R5
      have f2 := frozen_of_row _ _ 2 _ _ R5
      have FR := hide (sto_row3 (a := .slice aa al ac) (b := .slice ba bl bc) (c := .int .i64 tn) R5)
      have FIN : Hid (EnOut w (enterAllS s l) (.returned (.tuple #[.agg #[.slice aa al ac, .slice ba bl bc, .int .i64 tn], .bool true])) (((wr.setCell ⟨z + 1, 0, none⟩ (.slice aa al ac)).setCell ⟨z + 1, 1, none⟩ (.slice ba bl bc)).setCell ⟨z + 1, 2, none⟩ (.int .i64 tn))) := by
        rw [HE.out]
        refine ⟨_, rfl, ?_⟩
        have hh := S1.out.2.2.2.2.1
        rw [htn] at hh
        exact hh.fin S1.out.1 (by have := HZW.out; omega) (by omega)
      clear HS S1 hz4 y0 y1 y2 R5 htn
      go_wp2
      exact bodyPost_ret (results_st2 (p := 4) (q := 5) rfl _ _ (z + 1) _ _ _ rfl FR.out) rfl FIN.out
end Go.Proofs.YtcnaahajaaifjacGreat
