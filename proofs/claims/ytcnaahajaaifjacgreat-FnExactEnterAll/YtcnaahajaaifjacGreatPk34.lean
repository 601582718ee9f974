/-
  OpS; ICopS
-/
import Derived.Test.YtcnaahajaaifjacGreatPk33
/-
  A store that the program works on.
-/
namespace Go.Proofs.YtcnaahajaaifjacGreat
open Go.RowKit
open Words

theorem sli_ne {lo hi n : Nat} {v : Value} {xs : List Value} {t t' : TypeId} {W : World} {i : Nat} {cs : Array Value} (h : Sli t lo hi v n xs W) (q : W.heap[i]? = some (.cells cs t' (0, 0))) (ht : t ≠ t') : v.ownBlock ≠ some i := by
  intro e
  obtain ⟨-, -, cs', q'⟩ := h.lt i e
  rw [q] at q'
  injection q' with q'
  injection q' with _ q'
  exact ht q'.symm
theorem Sli.other {lo hi n : Nat} {v u : Value} {xs : List Value} {t t' : TypeId} {W : World} {i j : Nat} {cs : Array Value} (h : Sli t lo hi v n xs W) (q : W.heap[i]? = some (.cells cs t' (0, 0))) (ht : t ≠ t') : Sli t lo hi v n xs (W.setCell ⟨i, j, none⟩ u) :=
  h.grown (grown_cell W i j u) (fun _ e e2 => by cases e2; exact sli_ne h q ht e)
theorem KIn.other {lo hi : Nat} {v u : Value} {rs : List Kw} {t' : TypeId} {W : World} {i j : Nat} {cs : Array Value} (h : KIn lo hi v rs W) (q : W.heap[i]? = some (.cells cs t' (0, 0))) (h1 : 84 ≠ t') (h2 : (3 : TypeId) ≠ t') : KIn lo hi v rs (W.setCell ⟨i, j, none⟩ u) :=
  ⟨h.1.other q h1, fun r hr => ⟨(h.2.1 r hr).1.other q h2, (h.2.1 r hr).2⟩, h.2.2⟩
theorem own_other {W : World} {B n i j size : Nat} {v u : Value} {xs : List Value} {t t' : TypeId} {cs : Array Value} (h : W.ownsRow B t size v n xs) (q : W.heap[i]? = some (.cells cs t' (0, 0))) (ht : t ≠ t') : (W.setCell ⟨i, j, none⟩ u).ownsRow B t size v n xs :=
  h.kept (grown_cell W i j u) (.inr (sli_ne (Sli.of h) q ht))

/-- Knots of a store that is worked on: those that came in, or new ones. -/
def KnH (w W : World) (kv : Value) (M : List Kn) : Prop :=
  ∃ ad len cap rs, kv = .slice ad len cap ∧ rs.map ktell = M ∧ len ≤ 1048578 ∧ (∀ r ∈ rs, r.2.2.length ≤ 1048576) ∧ (KnRd w ad len rs ∨ ∃ lo hi, w.heap.size ≤ lo ∧ hi ≤ W.heap.size ∧ KIn lo hi kv rs W ∧ rs.length = len)
theorem KnH.rd {w W : World} {kv : Value} {M : List Kn} (h : KnH w W kv M) (hb : Below w.heap.size w W) : ∃ ad len cap rs, kv = .slice ad len cap ∧ rs.map ktell = M ∧ len ≤ 1048578 ∧ (∀ r ∈ rs, r.2.2.length ≤ 1048576) ∧ KnRd W ad len rs := by
  obtain ⟨ad, len, cap, rs, rfl, h2, h3, h4, h5⟩ := h
  refine ⟨ad, len, cap, rs, rfl, h2, h3, h4, ?_⟩
  rcases h5 with h | ⟨lo, hi, q1, q2, q3, q4⟩
  · exact h.below hb
  · exact q3.rd q4 q2
theorem KnH.below {w W W' : World} {kv : Value} {M : List Kn} (h : KnH w W kv M) (hb : Below W.heap.size W W') : KnH w W' kv M := by
  obtain ⟨ad, len, cap, rs, rfl, h2, h3, h4, h5⟩ := h
  refine ⟨ad, len, cap, rs, rfl, h2, h3, h4, ?_⟩
  rcases h5 with h | ⟨lo, hi, q1, q2, q3, q4⟩
  · exact .inl h
  · have := hb.size
    exact .inr ⟨lo, hi, q1, by omega, KIn.loc _ _ _ _ _ _ (fun g g1 g2 => hb.block g (by omega)) q3, q4⟩
theorem KnH.other {w W : World} {kv u : Value} {M : List Kn} {t' : TypeId} {i j : Nat} {cs : Array Value} (h : KnH w W kv M) (q : W.heap[i]? = some (.cells cs t' (0, 0))) (h1 : 84 ≠ t') (h2 : (3 : TypeId) ≠ t') : KnH w (W.setCell ⟨i, j, none⟩ u) kv M := by
  obtain ⟨ad, len, cap, rs, rfl, h3, h4, h5, h6⟩ := h
  refine ⟨ad, len, cap, rs, rfl, h3, h4, h5, ?_⟩
  rcases h6 with h | ⟨lo, hi, q1, q2, q3, q4⟩
  · exact .inl h
  · exact .inr ⟨lo, hi, q1, by simpa [World.setCell] using q2, q3.other q h1 h2, q4⟩
theorem KnH.form {w W : World} {kv : Value} {M : List Kn} (h : KnH w W kv M) : ∃ ad len cap, kv = .slice ad len cap := by
  obtain ⟨ad, len, cap, rs, h, -⟩ := h
  exact ⟨_, _, _, h⟩

/-- Block p is a store that is worked on. -/
def OpS (w W : World) (p : Nat) (s : Sto) : Prop :=
  Below w.heap.size w W ∧ w.heap.size ≤ p ∧ ∃ kv vv, W.heap[p]? = some (.cells #[kv, vv, .int .i64 s.next] 96 (0, 0)) ∧ W.ownsRow w.heap.size 69 2 vv s.vols.length (vlcells s.vols) ∧ KnH w W kv s.kns
theorem OpS.below {w W W' : World} {p : Nat} {s : Sto} (h : OpS w W p s) (hb : Below W.heap.size W W') : OpS w W' p s := by
  obtain ⟨h1, h2, kv, vv, h3, h4, h5⟩ := h
  have hp := (Array.getElem?_eq_some_iff.1 h3).1
  exact ⟨h1.trans (hb.mono h1.size), h2, kv, vv, (hb.block p hp).trans h3, own_below h4 hb, h5.below hb⟩
theorem OpS.lt {w W : World} {p : Nat} {s : Sto} (h : OpS w W p s) : p < W.heap.size := by
  obtain ⟨-, -, kv, vv, h3, -⟩ := h
  exact (Array.getElem?_eq_some_iff.1 h3).1
/-- Its cells and what they hold. -/
theorem OpS.open {w W : World} {p : Nat} {s : Sto} (h : OpS w W p s) : ∃ ad len cap rs va vl vc, W.heap[p]? = some (.cells #[.slice ad len cap, .slice va vl vc, .int .i64 s.next] 96 (0, 0)) ∧ rs.map ktell = s.kns ∧ len ≤ 1048578 ∧ (∀ r ∈ rs, r.2.2.length ≤ 1048576) ∧ KnRd W ad len rs ∧ VlRow W va vl s.vols ∧ W.ownsRow w.heap.size 69 2 (.slice va vl vc) s.vols.length (vlcells s.vols) ∧ s.vols.length = vl ∧ KnH w W (.slice ad len cap) s.kns := by
  obtain ⟨h1, h2, kv, vv, h3, h4, h5⟩ := h
  obtain ⟨ad, len, cap, rs, rfl, e, h6, h7, h8⟩ := h5.rd h1
  obtain ⟨va, vc, rfl, hv⟩ := VlRow.of_own rfl h4
  exact ⟨ad, len, cap, rs, va, _, vc, h3, e, h6, h7, h8, hv, h4, rfl, h5⟩
theorem ops_cells {W : World} {p : Nat} {a b c : Value} (h : W.heap[p]? = some (.cells #[a, b, c] 96 (0, 0))) : W.cell? ⟨p, 0, none⟩ = some a ∧ W.cell? ⟨p, 1, none⟩ = some b ∧ W.cell? ⟨p, 2, none⟩ = some c ∧ W.frozen? ⟨p, 0, none⟩ = false ∧ W.frozen? ⟨p, 1, none⟩ = false ∧ W.frozen? ⟨p, 2, none⟩ = false :=
  ⟨cell_of_row _ _ 0 _ _ _ h, cell_of_row _ _ 1 _ _ _ h, cell_of_row _ _ 2 _ _ _ h, frozen_of_row _ _ 0 _ _ h, frozen_of_row _ _ 1 _ _ h, frozen_of_row _ _ 2 _ _ h⟩
/-- The volumes' row is another one, the knots stay. -/
theorem OpS.setVols {w W : World} {p : Nat} {s : Sto} (h : OpS w W p s) {vs : List (Int × Int)} {vv : Value} (ho : W.ownsRow w.heap.size 69 2 vv vs.length (vlcells vs)) : OpS w (W.setCell ⟨p, 1, none⟩ vv) p ⟨vs, s.kns, s.next⟩ := by
  obtain ⟨h1, h2, kv, vv0, h3, h4, h5⟩ := h
  exact ⟨h1.setCell (p := ⟨p, 1, none⟩) h2 _, h2, kv, vv, row_set h3 1 _, own_other ho h3 (by decide), h5.other h3 (by decide) (by decide)⟩
theorem OpS.setNext {w W : World} {p : Nat} {s : Sto} (h : OpS w W p s) (n : Int) : OpS w (W.setCell ⟨p, 2, none⟩ (.int .i64 n)) p ⟨s.vols, s.kns, n⟩ := by
  obtain ⟨h1, h2, kv, vv0, h3, h4, h5⟩ := h
  exact ⟨h1.setCell (p := ⟨p, 2, none⟩) h2 _, h2, kv, vv0, row_set h3 2 _, own_other h4 h3 (by decide), h5.other h3 (by decide) (by decide)⟩
theorem OpS.setKns {w W : World} {p : Nat} {s : Sto} (h : OpS w W p s) {kv : Value} {M : List Kn} (hk : KnH w W kv M) : OpS w (W.setCell ⟨p, 0, none⟩ kv) p ⟨s.vols, M, s.next⟩ := by
  obtain ⟨h1, h2, kv0, vv0, h3, h4, h5⟩ := h
  exact ⟨h1.setCell (p := ⟨p, 0, none⟩) h2 _, h2, kv, vv0, row_set h3 0 _, own_other h4 h3 (by decide), hk.other h3 (by decide) (by decide)⟩

set_option maxHeartbeats 1000000 in
set_option maxRecDepth 100000 in
theorem iopened (va : Option Addr) (vl vc : Nat) (ad : Option Addr) (len cap : Nat) (nx : Int) (vs : List (Int × Int)) (rs : List Kw) (w : World) (hvl : vl ≤ 1048576) (hl : len ≤ 1048578) (hll : ∀ r ∈ rs, r.2.2.length ≤ 1048576) (hvc : va = none → vc = 0) (h : VlRow w va vl vs) (hk : KnRd w ad len rs) :
    Calls Tryz.prog 43 #[.agg (SBox va vl vc ad len cap nx)] w fun e w' => ∃ p, e = .returned (.pointer (some ⟨p, 0, none⟩)) ∧ OpS w w' p ⟨vs, rs.map ktell, nx⟩ := by
  have HVL := hide h.1
  have BX := hide (sbox_at w (.slice va vl vc) (.slice ad len cap) (.int .i64 nx))
  have B0 : Hid (Below w.heap.size w (w.alloc (.cells #[.slice va vl vc, .slice ad len cap, .int .i64 nx] 36))) := (Below.refl _ _).alloc (Nat.le_refl _) _
  have VB := hide (show VlSl w (.slice va vl vc) vs from ⟨va, vc, by rw [h.1], hvc, by rw [h.1]; exact h⟩)
  have KB : Hid (KnH w w (.slice ad len cap) (rs.map ktell)) := ⟨ad, len, cap, rs, rfl, rfl, hl, hll, .inl hk⟩
  clear h hk hll hvc
  unfold SBox
  go_enter Tryz.func43, Tryz.ntmps43
  go_wp2_with fail
  have HZ := hide (show w.heap.size < (w.alloc (.cells #[.slice va vl vc, .slice ad len cap, .int .i64 nx] 36)).heap.size by simp)
  generalize w.alloc (.cells #[.slice va vl vc, .slice ad len cap, .int .i64 nx] 36) = wb at BX B0 HZ ⊢
  obtain ⟨z, hz⟩ : ∃ z, w.heap.size = z := ⟨_, rfl⟩
  rw [hz] at BX HZ ⊢
  have HZW := hide hz
  clear hz
  have KK : Hid (∀ W, Below wb.heap.size wb W → W.cell? ⟨z, 0, none⟩ = some (.slice va vl vc) ∧ W.cell? ⟨z, 1, none⟩ = some (.slice ad len cap) ∧ W.cell? ⟨z, 2, none⟩ = some (.int .i64 nx)) := fun W H => ⟨(H.cell (show z < wb.heap.size from HZ.out)).trans BX.out.1, (H.cell (show z < wb.heap.size from HZ.out)).trans BX.out.2.1, (H.cell (show z < wb.heap.size from HZ.out)).trans BX.out.2.2⟩
  have BD : Hid (Below wb.heap.size wb wb.drew) := (Below.refl _ _).drew
  have CL := hide (icl_vols (.slice va vl vc) vs wb.drew (by have := HVL.out; omega) (VB.out.below (B0.out.trans (BD.out.mono B0.out.size))))
  have KP := hide (KK.out _ BD.out)
  go_region_held3 (fun w' => w'.cell? ⟨z, 0, none⟩ = some (.slice va vl vc) ∧ w'.cell? ⟨z, 1, none⟩ = some (.slice ad len cap) ∧ w'.cell? ⟨z, 2, none⟩ = some (.int .i64 nx)) (first | exact KP.out | go_keep) ((go_at_call 41; (with_reducible refine Calls.mono CL.out ?_); rintro en w1 ⟨v1, rfl, o1, b1⟩; (obtain ⟨ua, uc, hv1, -⟩ := (Sli.of o1).form); subst hv1; have O1 := hide o1; have B1 := hide b1; clear KP; have KP := hide (KK.out _ (BD.out.trans (B1.out.mono BD.out.size))); clear o1 b1))
  have BE := hide ((B0.out.trans (BD.out.mono B0.out.size)).trans (B1.out.mono (B0.out.trans (BD.out.mono B0.out.size)).size))
  have BA : Hid (Below w1.heap.size w1 (w1.alloc (.cells #[.slice ad len cap, .slice ua vs.length uc, .int .i64 nx] 96))) := (Below.refl _ _).alloc (Nat.le_refl _) _
  have FIN : Hid (OpS w (w1.alloc (.cells #[.slice ad len cap, .slice ua vs.length uc, .int .i64 nx] 96)) w1.heap.size ⟨vs, rs.map ktell, nx⟩) := by
    have h1 := BE.out.size
    refine ⟨BE.out.trans (BA.out.mono h1), h1, _, _, heap_alloc_new w1 _, own_lower (own_below O1.out BA.out) (by have := B0.out.size; have := BD.out.size; omega), ?_⟩
    obtain ⟨ad', len', cap', rs', e1, e2, e3, e4, e5⟩ := KB.out
    refine ⟨ad', len', cap', rs', e1, e2, e3, e4, ?_⟩
    rcases e5 with e | ⟨lo, hi, q1, q2, q3, q4⟩
    · exact .inl e
    · have := BE.out.size
      have := BA.out.size
      exact .inr ⟨lo, hi, q1, by omega, KIn.loc _ _ _ _ _ _ (fun g g1 g2 => ((BE.out.trans (BA.out.mono h1)).block g (by omega))) q3, q4⟩
  go_wp2
  go_ret
  exact ⟨_, rfl, FIN.out⟩
end Go.Proofs.YtcnaahajaaifjacGreat

/-
  impl.copiedStore, closed.
-/
namespace Go.Proofs.YtcnaahajaaifjacGreat
open Go.RowKit
open Words

set_option maxHeartbeats 1000000 in
set_option maxRecDepth 100000 in
theorem icopS (va : Option Addr) (vl vc : Nat) (ad : Option Addr) (len cap : Nat) (nx : Int) (vs : List (Int × Int)) (rs : List Kw) (w : World) (hvl : vl ≤ 1048576) (hl : len ≤ 1048578) (hll : ∀ r ∈ rs, r.2.2.length ≤ 1048576) (hvc : va = none → vc = 0) (h : VlRow w va vl vs) (hk : KnRd w ad len rs) :
    Calls Tryz.prog 22 #[.agg (SBox va vl vc ad len cap nx)] w fun e w' => ∃ v, e = .returned v ∧ StOut w ⟨vs, rs.map ktell, nx⟩ v w' := by
  have HVL := hide h.1
  have HL := hide hll
  have T0 := hide (Tk.two w #[.slice va vl vc, .slice ad len cap, .int .i64 nx] #[.slice none 0 0, .slice none 0 0, .int .i64 0] 36 36)
  have VB := hide (show VlSl w (.slice va vl vc) vs from ⟨va, vc, by rw [h.1], hvc, by rw [h.1]; exact h⟩)
  have KB := hide hk
  clear h hk hll hvc
  unfold SBox
  go_enter Tryz.func22, Tryz.ntmps22
  go_wp2_with fail
  generalize (w.alloc (.cells #[.slice va vl vc, .slice ad len cap, .int .i64 nx] 36)).alloc (.cells #[.slice none 0 0, .slice none 0 0, .int .i64 0] 36) = wb at T0 ⊢
  have XR := hide (T0.out.get 0 rfl)
  have x0 : wb.cell? ⟨w.heap.size, 0, none⟩ = some (.slice va vl vc) := T0.out.at 1 0 rfl rfl
  have x1 : wb.cell? ⟨w.heap.size, 1, none⟩ = some (.slice ad len cap) := T0.out.at 1 1 rfl rfl
  have x2 : wb.cell? ⟨w.heap.size, 2, none⟩ = some (.int .i64 nx) := T0.out.at 1 2 rfl rfl
  have XB := hide (World.block_lt_of_cell? wb _ x0)
  have BW := hide T0.out.1
  obtain ⟨z, hz⟩ : ∃ z, w.heap.size = z := ⟨_, rfl⟩
  rw [hz] at x0 x1 x2 XB XR ⊢
  have HZW := hide hz
  clear hz
  have KK : Hid (∀ W, Below wb.heap.size wb W → W.cell? ⟨z, 0, none⟩ = some (.slice va vl vc) ∧ W.cell? ⟨z, 1, none⟩ = some (.slice ad len cap) ∧ W.cell? ⟨z, 2, none⟩ = some (.int .i64 nx)) := fun W H => ⟨(H.cell (show z < wb.heap.size from XB.out)).trans x0, (H.cell (show z < wb.heap.size from XB.out)).trans x1, (H.cell (show z < wb.heap.size from XB.out)).trans x2⟩
  have RR : Hid (∀ W, Below wb.heap.size wb W → W.heap[z + 1]? = some (.cells #[.slice none 0 0, .slice none 0 0, .int .i64 0] 36 (0, 0))) := fun W H => (H.block (z + 1) (Array.getElem?_eq_some_iff.1 XR.out).1).trans XR.out
  have RF : Hid (∀ W, Below wb.heap.size wb W → W.cell? ⟨z + 1, 0, none⟩ = some (.slice none 0 0) ∧ W.cell? ⟨z + 1, 1, none⟩ = some (.slice none 0 0) ∧ W.cell? ⟨z + 1, 2, none⟩ = some (.int .i64 0) ∧ W.frozen? ⟨z + 1, 0, none⟩ = false ∧ W.frozen? ⟨z + 1, 1, none⟩ = false ∧ W.frozen? ⟨z + 1, 2, none⟩ = false) := fun W H => by
    have h := RR.out W H
    exact ⟨cell_of_row _ _ 0 _ _ _ h, cell_of_row _ _ 1 _ _ _ h, cell_of_row _ _ 2 _ _ _ h, frozen_of_row _ _ 0 _ _ h, frozen_of_row _ _ 1 _ _ h, frozen_of_row _ _ 2 _ _ h⟩
  obtain ⟨r0, r1, r2, f0, f1, f2⟩ := RF.out wb (Below.refl _ _)
  have BC : Hid (Below wb.heap.size wb wb.drew) := (Below.refl _ _).drew
  have KP := hide (KK.out _ BC.out)
  have HZB : Hid (z + 1 < wb.heap.size) := (Array.getElem?_eq_some_iff.1 XR.out).1
  clear x0 x1 x2 XB
  have CA : Hid (∀ W, Below wb.heap.size wb W → Calls Tryz.prog 41 #[.slice va vl vc] W fun e w' => ∃ ua uc, e = .returned (.slice ua vl uc) ∧ Sli 69 W.heap.size w'.heap.size (.slice ua vl uc) vs.length (vlcells vs) w' ∧ Below W.heap.size W w') := fun W H => (icl_vols _ vs W (by have := HVL.out; omega) (VB.out.below (BW.out.trans (H.mono BW.out.size)))).mono (by
    rintro e w' ⟨v, rfl, o, b⟩
    obtain ⟨ua, uc, rfl, -⟩ := (Sli.of o).form
    exact ⟨ua, uc, by rw [HVL.out], by rw [← HVL.out]; exact Sli.of o, b⟩)
  have CK : Hid (∀ W, Below wb.heap.size wb W → Calls Tryz.prog 42 #[.agg #[.slice ad len cap]] W fun e w' => ∃ ka kn kc, e = .returned (.agg #[.slice ka kn kc]) ∧ Kns W.heap.size w'.heap.size (.slice ka kn kc) (rs.map ktell) w' ∧ Below W.heap.size W w') := fun W H => (icopied ad len cap rs W hl HL.out (KB.out.below (BW.out.trans (H.mono BW.out.size)))).mono (by
    rintro e w' ⟨v, rfl, uv, ss, rfl, ko, hss, b⟩
    obtain ⟨ka, kc, rfl⟩ := ko.form
    exact ⟨ka, _, kc, rfl, ⟨ss, hss, ko.kns⟩, b⟩)
  go_region_held3 (fun w' => w'.cell? ⟨z, 0, none⟩ = some (.slice va vl vc) ∧ w'.cell? ⟨z, 1, none⟩ = some (.slice ad len cap) ∧ w'.cell? ⟨z, 2, none⟩ = some (.int .i64 nx)) (first | exact KP.out | go_keep) (first
    | (go_at_call 41; (with_reducible refine Calls.mono (CA.out _ BC.out) ?_); rintro en w1 ⟨ua, uc, rfl, sl1, b1⟩; have SL1 := hide sl1; have B1 := hide b1; have BN := hide (BC.out.trans (b1.mono BC.out.size)); clear BC KP sl1 b1; have BC := BN; clear BN; have KP := hide (KK.out _ BC.out); clear r0 r1 r2 f0 f1 f2; (obtain ⟨r0, r1, r2, f0, f1, f2⟩ := RF.out _ BC.out))
    | (go_at_call 42; (with_reducible refine Calls.mono (CK.out _ BC.out) ?_); rintro en w2 ⟨ka, kn, kc, rfl, kn1, b2⟩; have KN2 := hide kn1; have B2 := hide b2; have BN := hide (BC.out.trans (b2.mono BC.out.size)); clear BC KP kn1 b2; have BC := BN; clear BN; have KP := hide (KK.out _ BC.out); clear r0 r1 r2 f0 f1 f2; (obtain ⟨r0, r1, r2, f0, f1, f2⟩ := RF.out _ BC.out)))
  have R3 := hide (sto_row3 (a := .slice ua vl uc) (b := .slice ka kn kc) (c := .int .i64 nx) (RR.out _ BC.out))
  have FIN : Hid (StOut w ⟨vs, rs.map ktell, nx⟩ (.agg #[.slice ua vl uc, .slice ka kn kc, .int .i64 nx]) (((w2.setCell ⟨z + 1, 0, none⟩ (.slice ua vl uc)).setCell ⟨z + 1, 1, none⟩ (.slice ka kn kc)).setCell ⟨z + 1, 2, none⟩ (.int .i64 nx))) := by
    have h1 := B1.out.size
    have h2 := B2.out.size
    have h3 := HZB.out
    have h4 := BW.out.size
    have h5 := HZW.out
    have hd : wb.drew.heap.size = wb.heap.size := rfl
    refine st_fin (s := ⟨vs, rs.map ktell, nx⟩) (by omega) (SL1.out.blw B2.out) KN2.out ⟨by omega, .inr (by omega)⟩ ⟨by omega, .inr (by omega)⟩ (by omega) (by omega) (.inl (Nat.le_refl _)) (BW.out.trans (BC.out.mono h4))
  go_wp2
  exact bodyPost_ret (results_cell_row rfl _ _ (z + 1) 36 _ (0, 0) _ rfl R3.out Tryz.underlying36 rfl infoSto) rfl ⟨_, rfl, FIN.out⟩
/-- A store that is worked on, swept: its knots are new. -/
def OpT (w W : World) (p : Nat) (s : Sto) : Prop :=
  Below w.heap.size w W ∧ w.heap.size ≤ p ∧ p < W.heap.size ∧ ∃ kv vv lo1 hi1 lo2 hi2, W.heap[p]? = some (.cells #[kv, vv, .int .i64 s.next] 96 (0, 0)) ∧ Sli 69 lo1 hi1 vv s.vols.length (vlcells s.vols) W ∧ Kns lo2 hi2 kv s.kns W ∧ w.heap.size ≤ lo1 ∧ hi1 ≤ W.heap.size ∧ w.heap.size ≤ lo2 ∧ hi2 ≤ W.heap.size ∧ (hi1 ≤ lo2 ∨ hi2 ≤ lo1)
set_option maxHeartbeats 1000000 in
set_option maxRecDepth 100000 in
theorem iclosed (p : Nat) (s : Sto) (w W : World) (h : OpT w W p s) :
    Calls Tryz.prog 48 #[.pointer (some ⟨p, 0, none⟩)] W fun e w' => ∃ v, e = .returned v ∧ StOut w s v w' ∧ Below W.heap.size W w' := by
  obtain ⟨h1, h2, h3, kv, vv, lo1, hi1, lo2, hi2, h4, h5, h6, h7, h8, h9, h10, h11⟩ := h
  obtain ⟨ua, uc, rfl, -⟩ := h5.form
  obtain ⟨ka, kc, rfl⟩ := h6.form
  obtain ⟨vn, hvn⟩ : ∃ vn, s.vols.length = vn := ⟨_, rfl⟩
  obtain ⟨kn, hkn⟩ : ∃ kn, s.kns.length = kn := ⟨_, rfl⟩
  obtain ⟨nx, hnx⟩ : ∃ nx, s.next = nx := ⟨_, rfl⟩
  rw [hvn, hkn, hnx] at h4
  have H5 := hide h5
  have H6 := hide h6
  have HN := hide hnx
  have HVN := hide hvn
  have HKN := hide hkn
  obtain ⟨c0, c1, c2, -⟩ := ops_cells h4
  have H1 := hide h1
  have HS := hide (show w.heap.size ≤ W.heap.size from h1.size)
  have HA := hide h11
  clear h1 h4 h5 h6 hnx hvn hkn h11
  go_enter Tryz.func48, Tryz.ntmps48
  go_wp2_with fail
  go_region
  have BE : Hid (Below W.heap.size W (W.alloc (.cells #[.slice ua vn uc, .slice ka kn kc, .int .i64 nx] 36)).drew) := ((Below.refl _ _).alloc (Nat.le_refl _) _).drew
  have R3 : Hid ((W.alloc (.cells #[.slice ua vn uc, .slice ka kn kc, .int .i64 nx] 36)).drew.heap[W.heap.size]? = some (.cells #[.slice ua vn uc, .slice ka kn kc, .int .i64 nx] 36 (0, 0))) := heap_alloc_new W _
  have FIN : Hid (StOut w s (.agg #[.slice ua vn uc, .slice ka kn kc, .int .i64 nx]) (W.alloc (.cells #[.slice ua vn uc, .slice ka kn kc, .int .i64 nx] 36)).drew) := by
    have h1 := BE.out.size
    have h5 := H5.out.blw BE.out
    have h6 := Kns.loc _ _ _ _ _ _ (fun q q1 q2 => BE.out.block q (by omega)) H6.out
    rw [HVN.out] at h5
    rw [HKN.out] at h6
    exact ⟨_, _, lo1, hi1, lo2, hi2, by rw [HN.out], by rw [HVN.out]; exact h5, h6, h7, by omega, h9, by omega, HA.out, H1.out.trans (BE.out.mono HS.out)⟩
  go_wp2
  exact bodyPost_ret (results_cell_row rfl _ _ W.heap.size 36 _ (0, 0) _ rfl R3.out Tryz.underlying36 rfl infoSto) rfl ⟨_, rfl, FIN.out, BE.out⟩
end Go.Proofs.YtcnaahajaaifjacGreat
