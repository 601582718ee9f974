/-
  OpS; ICopS; ILeafW; IArena
-/
import Derived.Test.YtcnaahajaaifjaaPq23
import Derived.Test.YtcnaahajaaifjaaPq32
import Derived.Test.YtcnaahajaaifjaaPq25
import Derived.Test.YtcnaahajaaifjaaPq24
import Derived.Deep.RegionHeld3
/-
  A store that the program works on.
-/
namespace Go.Proofs.Ytcnaahajaaifjaa
open Go.RowKit
open Words

theorem sli_ne {lo hi n : Nat} {v : Value} {xs : List Value} {t t' : TypeId} {W : World} {i : Nat} {cs : Array Value} (h : Sli t lo hi v n xs W) (q : W.heap[i]? = some (.cells cs t' (0, 0))) (ht : t ≠ t') : v.ownBlock ≠ some i := by
  intro e
  obtain ⟨-, -, cs', q'⟩ := h.lt i e
  rw [q] at q'
  injection q' with q'
  injection q' with _ q'
  exact ht q'.symm
theorem Sli.other {lo hi n : Nat} {v u : Value} {xs : List Value} {t t' : TypeId} {W : World} {i j : Nat} {cs : Array Value} (h : Sli t lo hi v n xs W) (q : W.heap[i]? = some (.cells cs t' (0, 0))) (ht : t ≠ t') : Sli t lo hi v n xs (W.setCell ⟨i, j, none⟩ u) :=
  h.grown (grown_cell W i j u) (fun _ e e2 => by cases e2; exact sli_ne h q ht e)
theorem KIn.other {lo hi : Nat} {v u : Value} {rs : List Kw} {t' : TypeId} {W : World} {i j : Nat} {cs : Array Value} (h : KIn lo hi v rs W) (q : W.heap[i]? = some (.cells cs t' (0, 0))) (h1 : 110 ≠ t') (h2 : (3 : TypeId) ≠ t') : KIn lo hi v rs (W.setCell ⟨i, j, none⟩ u) :=
  ⟨h.1.other q h1, fun r hr => ⟨(h.2.1 r hr).1.other q h2, (h.2.1 r hr).2⟩, h.2.2⟩
theorem own_other {W : World} {B n i j size : Nat} {v u : Value} {xs : List Value} {t t' : TypeId} {cs : Array Value} (h : W.ownsRow B t size v n xs) (q : W.heap[i]? = some (.cells cs t' (0, 0))) (ht : t ≠ t') : (W.setCell ⟨i, j, none⟩ u).ownsRow B t size v n xs :=
  h.kept (grown_cell W i j u) (.inr (sli_ne (Sli.of h) q ht))

/-- Knots of a store that is worked on: those that came in, or new ones. -/
def KnH (w W : World) (kv : Value) (M : List Kn) : Prop :=
  ∃ ad len cap rs, kv = .slice ad len cap ∧ rs.map ktell = M ∧ len ≤ 1048578 ∧ (∀ r ∈ rs, r.2.2.length ≤ 1048576) ∧ (KnRd w ad len rs ∨ ∃ lo hi, w.heap.size ≤ lo ∧ hi ≤ W.heap.size ∧ KIn lo hi kv rs W ∧ rs.length = len)
theorem KnH.rd {w W : World} {kv : Value} {M : List Kn} (h : KnH w W kv M) (hb : Below w.heap.size w W) : ∃ ad len cap rs, kv = .slice ad len cap ∧ rs.map ktell = M ∧ len ≤ 1048578 ∧ (∀ r ∈ rs, r.2.2.length ≤ 1048576) ∧ KnRd W ad len rs := by
  obtain ⟨ad, len, cap, rs, rfl, h2, h3, h4, h5⟩ := h
  refine ⟨ad, len, cap, rs, rfl, h2, h3, h4, ?_⟩
  rcases h5 with h | ⟨lo, hi, q1, q2, q3, q4⟩
  · exact h.below hb
  · exact q3.rd q4 q2
theorem KnH.below {w W W' : World} {kv : Value} {M : List Kn} (h : KnH w W kv M) (hb : Below W.heap.size W W') : KnH w W' kv M := by
  obtain ⟨ad, len, cap, rs, rfl, h2, h3, h4, h5⟩ := h
  refine ⟨ad, len, cap, rs, rfl, h2, h3, h4, ?_⟩
  rcases h5 with h | ⟨lo, hi, q1, q2, q3, q4⟩
  · exact .inl h
  · have := hb.size
    exact .inr ⟨lo, hi, q1, by omega, KIn.loc _ _ _ _ _ _ (fun g g1 g2 => hb.block g (by omega)) q3, q4⟩
theorem KnH.other {w W : World} {kv u : Value} {M : List Kn} {t' : TypeId} {i j : Nat} {cs : Array Value} (h : KnH w W kv M) (q : W.heap[i]? = some (.cells cs t' (0, 0))) (h1 : 110 ≠ t') (h2 : (3 : TypeId) ≠ t') : KnH w (W.setCell ⟨i, j, none⟩ u) kv M := by
  obtain ⟨ad, len, cap, rs, rfl, h3, h4, h5, h6⟩ := h
  refine ⟨ad, len, cap, rs, rfl, h3, h4, h5, ?_⟩
  rcases h6 with h | ⟨lo, hi, q1, q2, q3, q4⟩
  · exact .inl h
  · exact .inr ⟨lo, hi, q1, by simpa [World.setCell] using q2, q3.other q h1 h2, q4⟩
theorem KnH.form {w W : World} {kv : Value} {M : List Kn} (h : KnH w W kv M) : ∃ ad len cap, kv = .slice ad len cap := by
  obtain ⟨ad, len, cap, rs, h, -⟩ := h
  exact ⟨_, _, _, h⟩

/-- Block p is a store that is worked on. -/
def OpS (w W : World) (p : Nat) (s : Sto) : Prop :=
  Below w.heap.size w W ∧ w.heap.size ≤ p ∧ ∃ kv vv, W.heap[p]? = some (.cells #[kv, vv, .int .i64 s.next] 100 (0, 0)) ∧ W.ownsRow w.heap.size 49 2 vv s.vols.length (vlcells s.vols) ∧ KnH w W kv s.kns
theorem OpS.below {w W W' : World} {p : Nat} {s : Sto} (h : OpS w W p s) (hb : Below W.heap.size W W') : OpS w W' p s := by
  obtain ⟨h1, h2, kv, vv, h3, h4, h5⟩ := h
  have hp := (Array.getElem?_eq_some_iff.1 h3).1
  exact ⟨h1.trans (hb.mono h1.size), h2, kv, vv, (hb.block p hp).trans h3, own_below h4 hb, h5.below hb⟩
theorem OpS.lt {w W : World} {p : Nat} {s : Sto} (h : OpS w W p s) : p < W.heap.size := by
  obtain ⟨-, -, kv, vv, h3, -⟩ := h
  exact (Array.getElem?_eq_some_iff.1 h3).1
/-- Its cells and what they hold. -/
theorem OpS.open {w W : World} {p : Nat} {s : Sto} (h : OpS w W p s) : ∃ ad len cap rs va vl vc, W.heap[p]? = some (.cells #[.slice ad len cap, .slice va vl vc, .int .i64 s.next] 100 (0, 0)) ∧ rs.map ktell = s.kns ∧ len ≤ 1048578 ∧ (∀ r ∈ rs, r.2.2.length ≤ 1048576) ∧ KnRd W ad len rs ∧ VlRow W va vl s.vols ∧ W.ownsRow w.heap.size 49 2 (.slice va vl vc) s.vols.length (vlcells s.vols) ∧ s.vols.length = vl ∧ KnH w W (.slice ad len cap) s.kns := by
  obtain ⟨h1, h2, kv, vv, h3, h4, h5⟩ := h
  obtain ⟨ad, len, cap, rs, rfl, e, h6, h7, h8⟩ := h5.rd h1
  obtain ⟨va, vc, rfl, hv⟩ := VlRow.of_own rfl h4
  exact ⟨ad, len, cap, rs, va, _, vc, h3, e, h6, h7, h8, hv, h4, rfl, h5⟩
theorem ops_cells {W : World} {p : Nat} {a b c : Value} (h : W.heap[p]? = some (.cells #[a, b, c] 100 (0, 0))) : W.cell? ⟨p, 0, none⟩ = some a ∧ W.cell? ⟨p, 1, none⟩ = some b ∧ W.cell? ⟨p, 2, none⟩ = some c ∧ W.frozen? ⟨p, 0, none⟩ = false ∧ W.frozen? ⟨p, 1, none⟩ = false ∧ W.frozen? ⟨p, 2, none⟩ = false :=
  ⟨cell_of_row _ _ 0 _ _ _ h, cell_of_row _ _ 1 _ _ _ h, cell_of_row _ _ 2 _ _ _ h, frozen_of_row _ _ 0 _ _ h, frozen_of_row _ _ 1 _ _ h, frozen_of_row _ _ 2 _ _ h⟩
/-- The volumes' row is another one, the knots stay. -/
theorem OpS.setVols {w W : World} {p : Nat} {s : Sto} (h : OpS w W p s) {vs : List (Int × Int)} {vv : Value} (ho : W.ownsRow w.heap.size 49 2 vv vs.length (vlcells vs)) : OpS w (W.setCell ⟨p, 1, none⟩ vv) p ⟨vs, s.kns, s.next⟩ := by
  obtain ⟨h1, h2, kv, vv0, h3, h4, h5⟩ := h
  exact ⟨h1.setCell (p := ⟨p, 1, none⟩) h2 _, h2, kv, vv, row_set h3 1 _, own_other ho h3 (by decide), h5.other h3 (by decide) (by decide)⟩
theorem OpS.setNext {w W : World} {p : Nat} {s : Sto} (h : OpS w W p s) (n : Int) : OpS w (W.setCell ⟨p, 2, none⟩ (.int .i64 n)) p ⟨s.vols, s.kns, n⟩ := by
  obtain ⟨h1, h2, kv, vv0, h3, h4, h5⟩ := h
  exact ⟨h1.setCell (p := ⟨p, 2, none⟩) h2 _, h2, kv, vv0, row_set h3 2 _, own_other h4 h3 (by decide), h5.other h3 (by decide) (by decide)⟩
theorem OpS.setKns {w W : World} {p : Nat} {s : Sto} (h : OpS w W p s) {kv : Value} {M : List Kn} (hk : KnH w W kv M) : OpS w (W.setCell ⟨p, 0, none⟩ kv) p ⟨s.vols, M, s.next⟩ := by
  obtain ⟨h1, h2, kv0, vv0, h3, h4, h5⟩ := h
  exact ⟨h1.setCell (p := ⟨p, 0, none⟩) h2 _, h2, kv, vv0, row_set h3 0 _, own_other h4 h3 (by decide), hk.other h3 (by decide) (by decide)⟩

set_option maxHeartbeats 1000000 in
set_option maxRecDepth 100000 in
theorem iopened (va : Option Addr) (vl vc : Nat) (ad : Option Addr) (len cap : Nat) (nx : Int) (vs : List (Int × Int)) (rs : List Kw) (w : World) (hvl : vl ≤ 1048576) (hl : len ≤ 1048578) (hll : ∀ r ∈ rs, r.2.2.length ≤ 1048576) (hvc : va = none → vc = 0) (h : VlRow w va vl vs) (hk : KnRd w ad len rs) :
    Calls Try.prog 39 #[.agg (SBox va vl vc ad len cap nx)] w fun e w' => ∃ p, e = .returned (.pointer (some ⟨p, 0, none⟩)) ∧ OpS w w' p ⟨vs, rs.map ktell, nx⟩ := by
  have HVL := hide h.1
  have BX := hide (sbox_at w (.slice va vl vc) (.slice ad len cap) (.int .i64 nx))
  have B0 : Hid (Below w.heap.size w (w.alloc (.cells #[.slice va vl vc, .slice ad len cap, .int .i64 nx] 29))) := (Below.refl _ _).alloc (Nat.le_refl _) _
  have VB := hide (show VlSl w (.slice va vl vc) vs from ⟨va, vc, by rw [h.1], hvc, by rw [h.1]; exact h⟩)
  have KB : Hid (KnH w w (.slice ad len cap) (rs.map ktell)) := ⟨ad, len, cap, rs, rfl, rfl, hl, hll, .inl hk⟩
  clear h hk hll hvc
  unfold SBox
  go_enter Try.func39, Try.ntmps39
  go_wp2_with fail
  have HZ := hide (show w.heap.size < (w.alloc (.cells #[.slice va vl vc, .slice ad len cap, .int .i64 nx] 29)).heap.size by simp)
  generalize w.alloc (.cells #[.slice va vl vc, .slice ad len cap, .int .i64 nx] 29) = wb at BX B0 HZ ⊢
  obtain ⟨z, hz⟩ : ∃ z, w.heap.size = z := ⟨_, rfl⟩
  rw [hz] at BX HZ ⊢
  have HZW := hide hz
  clear hz
  have KK : Hid (∀ W, Below wb.heap.size wb W → W.cell? ⟨z, 0, none⟩ = some (.slice va vl vc) ∧ W.cell? ⟨z, 1, none⟩ = some (.slice ad len cap) ∧ W.cell? ⟨z, 2, none⟩ = some (.int .i64 nx)) := fun W H => ⟨(H.cell (show z < wb.heap.size from HZ.out)).trans BX.out.1, (H.cell (show z < wb.heap.size from HZ.out)).trans BX.out.2.1, (H.cell (show z < wb.heap.size from HZ.out)).trans BX.out.2.2⟩
  have BD : Hid (Below wb.heap.size wb wb.drew) := (Below.refl _ _).drew
  have CL := hide (icl_vols (.slice va vl vc) vs wb.drew (by have := HVL.out; omega) (VB.out.below (B0.out.trans (BD.out.mono B0.out.size))))
  have KP := hide (KK.out _ BD.out)
  go_region_held3 (fun w' => w'.cell? ⟨z, 0, none⟩ = some (.slice va vl vc) ∧ w'.cell? ⟨z, 1, none⟩ = some (.slice ad len cap) ∧ w'.cell? ⟨z, 2, none⟩ = some (.int .i64 nx)) (first | exact KP.out | go_keep) ((go_at_call 80; (with_reducible refine Calls.mono CL.out ?_); rintro en w1 ⟨v1, rfl, o1, b1⟩; (obtain ⟨ua, uc, hv1, -⟩ := (Sli.of o1).form); subst hv1; have O1 := hide o1; have B1 := hide b1; clear KP; have KP := hide (KK.out _ (BD.out.trans (B1.out.mono BD.out.size))); clear o1 b1))
  have BE := hide ((B0.out.trans (BD.out.mono B0.out.size)).trans (B1.out.mono (B0.out.trans (BD.out.mono B0.out.size)).size))
  have BA : Hid (Below w1.heap.size w1 (w1.alloc (.cells #[.slice ad len cap, .slice ua vs.length uc, .int .i64 nx] 100))) := (Below.refl _ _).alloc (Nat.le_refl _) _
  have FIN : Hid (OpS w (w1.alloc (.cells #[.slice ad len cap, .slice ua vs.length uc, .int .i64 nx] 100)) w1.heap.size ⟨vs, rs.map ktell, nx⟩) := by
    have h1 := BE.out.size
    refine ⟨BE.out.trans (BA.out.mono h1), h1, _, _, heap_alloc_new w1 _, own_lower (own_below O1.out BA.out) (by have := B0.out.size; have := BD.out.size; omega), ?_⟩
    obtain ⟨ad', len', cap', rs', e1, e2, e3, e4, e5⟩ := KB.out
    refine ⟨ad', len', cap', rs', e1, e2, e3, e4, ?_⟩
    rcases e5 with e | ⟨lo, hi, q1, q2, q3, q4⟩
    · exact .inl e
    · have := BE.out.size
      have := BA.out.size
      exact .inr ⟨lo, hi, q1, by omega, KIn.loc _ _ _ _ _ _ (fun g g1 g2 => ((BE.out.trans (BA.out.mono h1)).block g (by omega))) q3, q4⟩
  go_wp2
  go_ret
  exact ⟨_, rfl, FIN.out⟩
end Go.Proofs.Ytcnaahajaaifjaa

/-
  impl.copiedStore, closed.
-/
namespace Go.Proofs.Ytcnaahajaaifjaa
open Go.RowKit
open Words

set_option maxHeartbeats 1000000 in
set_option maxRecDepth 100000 in
theorem icopS (va : Option Addr) (vl vc : Nat) (ad : Option Addr) (len cap : Nat) (nx : Int) (vs : List (Int × Int)) (rs : List Kw) (w : World) (hvl : vl ≤ 1048576) (hl : len ≤ 1048578) (hll : ∀ r ∈ rs, r.2.2.length ≤ 1048576) (hvc : va = none → vc = 0) (h : VlRow w va vl vs) (hk : KnRd w ad len rs) :
    Calls Try.prog 42 #[.agg (SBox va vl vc ad len cap nx)] w fun e w' => ∃ v, e = .returned v ∧ StOut w ⟨vs, rs.map ktell, nx⟩ v w' := by
  have HVL := hide h.1
  have HL := hide hll
  have T0 := hide (Tk.two w #[.slice va vl vc, .slice ad len cap, .int .i64 nx] #[.slice none 0 0, .slice none 0 0, .int .i64 0] 29 29)
  have VB := hide (show VlSl w (.slice va vl vc) vs from ⟨va, vc, by rw [h.1], hvc, by rw [h.1]; exact h⟩)
  have KB := hide hk
  clear h hk hll hvc
  unfold SBox
  go_enter Try.func42, Try.ntmps42
  go_wp2_with fail
  generalize (w.alloc (.cells #[.slice va vl vc, .slice ad len cap, .int .i64 nx] 29)).alloc (.cells #[.slice none 0 0, .slice none 0 0, .int .i64 0] 29) = wb at T0 ⊢
  have XR := hide (T0.out.get 0 rfl)
  have x0 : wb.cell? ⟨w.heap.size, 0, none⟩ = some (.slice va vl vc) := T0.out.at 1 0 rfl rfl
  have x1 : wb.cell? ⟨w.heap.size, 1, none⟩ = some (.slice ad len cap) := T0.out.at 1 1 rfl rfl
  have x2 : wb.cell? ⟨w.heap.size, 2, none⟩ = some (.int .i64 nx) := T0.out.at 1 2 rfl rfl
  have XB := hide (World.block_lt_of_cell? wb _ x0)
  have BW := hide T0.out.1
  obtain ⟨z, hz⟩ : ∃ z, w.heap.size = z := ⟨_, rfl⟩
  rw [hz] at x0 x1 x2 XB XR ⊢
  have HZW := hide hz
  clear hz
  have KK : Hid (∀ W, Below wb.heap.size wb W → W.cell? ⟨z, 0, none⟩ = some (.slice va vl vc) ∧ W.cell? ⟨z, 1, none⟩ = some (.slice ad len cap) ∧ W.cell? ⟨z, 2, none⟩ = some (.int .i64 nx)) := fun W H => ⟨(H.cell (show z < wb.heap.size from XB.out)).trans x0, (H.cell (show z < wb.heap.size from XB.out)).trans x1, (H.cell (show z < wb.heap.size from XB.out)).trans x2⟩
  have RR : Hid (∀ W, Below wb.heap.size wb W → W.heap[z + 1]? = some (.cells #[.slice none 0 0, .slice none 0 0, .int .i64 0] 29 (0, 0))) := fun W H => (H.block (z + 1) (Array.getElem?_eq_some_iff.1 XR.out).1).trans XR.out
  have RF : Hid (∀ W, Below wb.heap.size wb W → W.cell? ⟨z + 1, 0, none⟩ = some (.slice none 0 0) ∧ W.cell? ⟨z + 1, 1, none⟩ = some (.slice none 0 0) ∧ W.cell? ⟨z + 1, 2, none⟩ = some (.int .i64 0) ∧ W.frozen? ⟨z + 1, 0, none⟩ = false ∧ W.frozen? ⟨z + 1, 1, none⟩ = false ∧ W.frozen? ⟨z + 1, 2, none⟩ = false) := fun W H => by
    have h := RR.out W H
    exact ⟨cell_of_row _ _ 0 _ _ _ h, cell_of_row _ _ 1 _ _ _ h, cell_of_row _ _ 2 _ _ _ h, frozen_of_row _ _ 0 _ _ h, frozen_of_row _ _ 1 _ _ h, frozen_of_row _ _ 2 _ _ h⟩
  obtain ⟨r0, r1, r2, f0, f1, f2⟩ := RF.out wb (Below.refl _ _)
  have BC : Hid (Below wb.heap.size wb wb.drew) := (Below.refl _ _).drew
  have KP := hide (KK.out _ BC.out)
  have HZB : Hid (z + 1 < wb.heap.size) := (Array.getElem?_eq_some_iff.1 XR.out).1
  clear x0 x1 x2 XB
  have CA : Hid (∀ W, Below wb.heap.size wb W → Calls Try.prog 80 #[.slice va vl vc] W fun e w' => ∃ ua uc, e = .returned (.slice ua vl uc) ∧ Sli 49 W.heap.size w'.heap.size (.slice ua vl uc) vs.length (vlcells vs) w' ∧ Below W.heap.size W w') := fun W H => (icl_vols _ vs W (by have := HVL.out; omega) (VB.out.below (BW.out.trans (H.mono BW.out.size)))).mono (by
    rintro e w' ⟨v, rfl, o, b⟩
    obtain ⟨ua, uc, rfl, -⟩ := (Sli.of o).form
    exact ⟨ua, uc, by rw [HVL.out], by rw [← HVL.out]; exact Sli.of o, b⟩)
  have CK : Hid (∀ W, Below wb.heap.size wb W → Calls Try.prog 84 #[.agg #[.slice ad len cap]] W fun e w' => ∃ ka kn kc, e = .returned (.agg #[.slice ka kn kc]) ∧ Kns W.heap.size w'.heap.size (.slice ka kn kc) (rs.map ktell) w' ∧ Below W.heap.size W w') := fun W H => (icopied ad len cap rs W hl HL.out (KB.out.below (BW.out.trans (H.mono BW.out.size)))).mono (by
    rintro e w' ⟨v, rfl, uv, ss, rfl, ko, hss, b⟩
    obtain ⟨ka, kc, rfl⟩ := ko.form
    exact ⟨ka, _, kc, rfl, ⟨ss, hss, ko.kns⟩, b⟩)
  go_region_held3 (fun w' => w'.cell? ⟨z, 0, none⟩ = some (.slice va vl vc) ∧ w'.cell? ⟨z, 1, none⟩ = some (.slice ad len cap) ∧ w'.cell? ⟨z, 2, none⟩ = some (.int .i64 nx)) (first | exact KP.out | go_keep) (first
    | (go_at_call 80; (with_reducible refine Calls.mono (CA.out _ BC.out) ?_); rintro en w1 ⟨ua, uc, rfl, sl1, b1⟩; have SL1 := hide sl1; have B1 := hide b1; have BN := hide (BC.out.trans (b1.mono BC.out.size)); clear BC KP sl1 b1; have BC := BN; clear BN; have KP := hide (KK.out _ BC.out); clear r0 r1 r2 f0 f1 f2; (obtain ⟨r0, r1, r2, f0, f1, f2⟩ := RF.out _ BC.out))
    | (go_at_call 84; (with_reducible refine Calls.mono (CK.out _ BC.out) ?_); rintro en w2 ⟨ka, kn, kc, rfl, kn1, b2⟩; have KN2 := hide kn1; have B2 := hide b2; have BN := hide (BC.out.trans (b2.mono BC.out.size)); clear BC KP kn1 b2; have BC := BN; clear BN; have KP := hide (KK.out _ BC.out); clear r0 r1 r2 f0 f1 f2; (obtain ⟨r0, r1, r2, f0, f1, f2⟩ := RF.out _ BC.out)))
  have R3 := hide (sto_row3 (a := .slice ua vl uc) (b := .slice ka kn kc) (c := .int .i64 nx) (RR.out _ BC.out))
  have FIN : Hid (StOut w ⟨vs, rs.map ktell, nx⟩ (.agg #[.slice ua vl uc, .slice ka kn kc, .int .i64 nx]) (((w2.setCell ⟨z + 1, 0, none⟩ (.slice ua vl uc)).setCell ⟨z + 1, 1, none⟩ (.slice ka kn kc)).setCell ⟨z + 1, 2, none⟩ (.int .i64 nx))) := by
    have h1 := B1.out.size
    have h2 := B2.out.size
    have h3 := HZB.out
    have h4 := BW.out.size
    have h5 := HZW.out
    have hd : wb.drew.heap.size = wb.heap.size := rfl
    refine st_fin (s := ⟨vs, rs.map ktell, nx⟩) (by omega) (SL1.out.blw B2.out) KN2.out ⟨by omega, .inr (by omega)⟩ ⟨by omega, .inr (by omega)⟩ (by omega) (by omega) (.inl (Nat.le_refl _)) (BW.out.trans (BC.out.mono h4))
  go_wp2
  exact bodyPost_ret (results_cell_row rfl _ _ (z + 1) 29 _ (0, 0) _ rfl R3.out Try.underlying29 rfl infoSto) rfl ⟨_, rfl, FIN.out⟩
/-- A store that is worked on, swept: its knots are new. -/
def OpT (w W : World) (p : Nat) (s : Sto) : Prop :=
  Below w.heap.size w W ∧ w.heap.size ≤ p ∧ p < W.heap.size ∧ ∃ kv vv lo1 hi1 lo2 hi2, W.heap[p]? = some (.cells #[kv, vv, .int .i64 s.next] 100 (0, 0)) ∧ Sli 49 lo1 hi1 vv s.vols.length (vlcells s.vols) W ∧ Kns lo2 hi2 kv s.kns W ∧ w.heap.size ≤ lo1 ∧ hi1 ≤ W.heap.size ∧ w.heap.size ≤ lo2 ∧ hi2 ≤ W.heap.size ∧ (hi1 ≤ lo2 ∨ hi2 ≤ lo1)
set_option maxHeartbeats 1000000 in
set_option maxRecDepth 100000 in
theorem iclosed (p : Nat) (s : Sto) (w W : World) (h : OpT w W p s) :
    Calls Try.prog 44 #[.pointer (some ⟨p, 0, none⟩)] W fun e w' => ∃ v, e = .returned v ∧ StOut w s v w' ∧ Below W.heap.size W w' := by
  obtain ⟨h1, h2, h3, kv, vv, lo1, hi1, lo2, hi2, h4, h5, h6, h7, h8, h9, h10, h11⟩ := h
  obtain ⟨ua, uc, rfl, -⟩ := h5.form
  obtain ⟨ka, kc, rfl⟩ := h6.form
  obtain ⟨vn, hvn⟩ : ∃ vn, s.vols.length = vn := ⟨_, rfl⟩
  obtain ⟨kn, hkn⟩ : ∃ kn, s.kns.length = kn := ⟨_, rfl⟩
  obtain ⟨nx, hnx⟩ : ∃ nx, s.next = nx := ⟨_, rfl⟩
  rw [hvn, hkn, hnx] at h4
  have H5 := hide h5
  have H6 := hide h6
  have HN := hide hnx
  have HVN := hide hvn
  have HKN := hide hkn
  obtain ⟨c0, c1, c2, -⟩ := ops_cells h4
  have H1 := hide h1
  have HS := hide (show w.heap.size ≤ W.heap.size from h1.size)
  have HA := hide h11
  clear h1 h4 h5 h6 hnx hvn hkn h11
  go_enter Try.func44, Try.ntmps44
  go_wp2_with fail
  go_region
  have BE : Hid (Below W.heap.size W (W.alloc (.cells #[.slice ua vn uc, .slice ka kn kc, .int .i64 nx] 29)).drew) := ((Below.refl _ _).alloc (Nat.le_refl _) _).drew
  have R3 : Hid ((W.alloc (.cells #[.slice ua vn uc, .slice ka kn kc, .int .i64 nx] 29)).drew.heap[W.heap.size]? = some (.cells #[.slice ua vn uc, .slice ka kn kc, .int .i64 nx] 29 (0, 0))) := heap_alloc_new W _
  have FIN : Hid (StOut w s (.agg #[.slice ua vn uc, .slice ka kn kc, .int .i64 nx]) (W.alloc (.cells #[.slice ua vn uc, .slice ka kn kc, .int .i64 nx] 29)).drew) := by
    have h1 := BE.out.size
    have h5 := H5.out.blw BE.out
    have h6 := Kns.loc _ _ _ _ _ _ (fun q q1 q2 => BE.out.block q (by omega)) H6.out
    rw [HVN.out] at h5
    rw [HKN.out] at h6
    exact ⟨_, _, lo1, hi1, lo2, hi2, by rw [HN.out], by rw [HVN.out]; exact h5, h6, h7, by omega, h9, by omega, HA.out, H1.out.trans (BE.out.mono HS.out)⟩
  go_wp2
  exact bodyPost_ret (results_cell_row rfl _ _ W.heap.size 29 _ (0, 0) _ rfl R3.out Try.underlying29 rfl infoSto) rfl ⟨_, rfl, FIN.out, BE.out⟩
end Go.Proofs.Ytcnaahajaaifjaa

/-
  impl's linked knots: a leaf with one more number.
-/
namespace Go.Proofs.Ytcnaahajaaifjaa
open Go.RowKit
open Words

theorem set4 (a b c d n : Int) (t : Nat) (h : t < 4) : True → (t = 0 ∧ [a, b, c, d].set t n = [n, b, c, d]) ∨ (t = 1 ∧ [a, b, c, d].set t n = [a, n, c, d]) ∨ (t = 2 ∧ [a, b, c, d].set t n = [a, b, n, d]) ∨ (t = 3 ∧ [a, b, c, d].set t n = [a, b, c, n]) := by
  intro _
  match t, h with
  | 0, _ => exact .inl ⟨rfl, rfl⟩
  | 1, _ => exact .inr (.inl ⟨rfl, rfl⟩)
  | 2, _ => exact .inr (.inr (.inl ⟨rfl, rfl⟩))
  | 3, _ => exact .inr (.inr (.inr ⟨rfl, rfl⟩))

set_option maxHeartbeats 2000000 in
set_option maxRecDepth 100000 in
theorem ileafWith (b : Nat) (x : Lk) (s : Nat) (n : Int) (old : List Int) (w : World) (hs : s ≤ 15) (h : LkAt w b x) (ho : (∃ k, k = s / 4 ∧ x.tos[k]? = some none ∧ old = [0, 0, 0, 0]) ∨ ∃ c y, x.tos[s / 4]? = some (some c) ∧ LkAt w c y ∧ y.nums = old) :
    Calls Try.prog 156 #[ptr b, .int .i64 s, .int .i64 n] w fun e w' => e = .returned (ptr w.heap.size) ∧ LkAt w' w.heap.size ⟨0, true, old.set (s % 4) n, [none, none, none, none], false⟩ ∧ Below w.heap.size w w' := by
  obtain ⟨q, hq⟩ : ∃ q, s / 4 = q := ⟨_, rfl⟩
  obtain ⟨t, ht⟩ : ∃ t, s % 4 = t := ⟨_, rfl⟩
  rw [hq] at ho
  rw [ht]
  have tq : (s : Int).tdiv 4 = (q : Int) := by rw [Int.tdiv_eq_ediv_of_nonneg (by omega)]; omega
  have tt : (s : Int).tmod 4 = (t : Int) := by rw [Int.tmod_eq_emod_of_nonneg (by omega)]; omega
  have tq2 : (s : Int) / 4 = (q : Int) := by omega
  have tt2 : (s : Int) % 4 = (t : Int) := by omega
  have q0 : (0 : Int) ≤ q := by omega
  have q4 : (q : Int) < 4 := by omega
  have t4 : t < 4 := by omega
  have hB : Below w.heap.size w (w.alloc (.cells #[.int .i64 0, .bool true, .int .i64 0, .int .i64 0, .int .i64 0, .int .i64 0, .pointer none, .pointer none, .pointer none, .pointer none, .bool false] 126)) := (Below.refl _ _).alloc (Nat.le_refl _) _
  rcases ho with ⟨k, rfl, hk, rfl⟩ | ⟨c, y, hk, hy, rfl⟩
  · have c1 := (h.blw hB).to hk
    have c2 : (w.alloc (.cells #[.int .i64 0, .bool true, .int .i64 0, .int .i64 0, .int .i64 0, .int .i64 0, .pointer none, .pointer none, .pointer none, .pointer none, .bool false] 126)).cell? ⟨b, 6 + k, none⟩ = some (.pointer none) := c1
    clear h hk hq ht hB c1
    unfold ptr
    rcases set4 0 0 0 0 n t t4 trivial with ⟨rfl, e⟩ | ⟨rfl, e⟩ | ⟨rfl, e⟩ | ⟨rfl, e⟩
    all_goals
      rw [e]
      clear e t4
      go_enter Try.func156, Try.ntmps156
      go_wp2
      go_ret
      exact ⟨rfl, ⟨heap_alloc_new w _, rfl, rfl⟩, (Below.refl _ _).alloc (Nat.le_refl _) _⟩
  · obtain ⟨n0, n1, n2, n3, hn⟩ := list4 hy.2.1
    have c1 := (h.blw hB).to hk
    have c2 : (w.alloc (.cells #[.int .i64 0, .bool true, .int .i64 0, .int .i64 0, .int .i64 0, .int .i64 0, .pointer none, .pointer none, .pointer none, .pointer none, .bool false] 126)).cell? ⟨b, 6 + q, none⟩ = some (.pointer (some ⟨c, 0, none⟩)) := c1
    have d0 := (hy.blw hB).num (k := 0) (n := n0) (by rw [hn]; rfl)
    have d1 := (hy.blw hB).num (k := 1) (n := n1) (by rw [hn]; rfl)
    have d2 := (hy.blw hB).num (k := 2) (n := n2) (by rw [hn]; rfl)
    have d3 := (hy.blw hB).num (k := 3) (n := n3) (by rw [hn]; rfl)
    simp only [Nat.reduceAdd] at d0 d1 d2 d3
    rw [hn]
    clear h hk hq ht hB c1 hy hn
    unfold ptr
    rcases set4 n0 n1 n2 n3 n t t4 trivial with ⟨rfl, e⟩ | ⟨rfl, e⟩ | ⟨rfl, e⟩ | ⟨rfl, e⟩
    all_goals
      rw [e]
      clear e t4
      go_enter Try.func156, Try.ntmps156
      go_wp2
      go_ret
      exact ⟨rfl, ⟨heap_alloc_new w _, rfl, rfl⟩, (Below.refl _ _).alloc (Nat.le_refl _) _⟩
end Go.Proofs.Ytcnaahajaaifjaa

/-
  impl's forests: the arena of a forest.
-/
namespace Go.Proofs.Ytcnaahajaaifjaa
open Go.RowKit
open Words

theorem KidsR.below {W W' : World} {x : Lk} {ks : List Int} (h : KidsR W x ks) (hb : Below W.heap.size W W') : KidsR W' x ks := by
  unfold KidsR at h ⊢
  split at h
  · rename_i hl
    rw [if_pos hl]
    exact h
  · rename_i hl
    rw [if_neg hl]
    refine ⟨h.1, fun k o ho => ?_⟩
    obtain ⟨p, hp, hc⟩ := h.2 k o ho
    refine ⟨p, hp, ?_⟩
    rcases hc with hc | ⟨c, e, hc, hl⟩
    · exact .inl hc
    · have := hb.size
      exact .inr ⟨c, e, (hb.cell (show c < W.heap.size from hl)).trans hc, by omega⟩
theorem KidsR.len {W : World} {x : Lk} {ks : List Int} (h : KidsR W x ks) (h4 : x.Four) : ks.length = 4 := by
  unfold KidsR at h
  split at h
  · rw [h]; exact h4.1
  · exact h.1
/-- The arena under way. -/
def ArSt (w W : World) (z n : Nat) (ss : List Kw) (zs : List Value) : Prop := W.heap[z]? = some (.cells #[.slice none 0 0] 27 (0, 0)) ∧ KFil W (z + 1) (.slice (some ⟨z + 1, 0, none⟩) n n) n ss zs ∧ Below z w W
theorem drop2 {R : List Value} {k n : Nat} (h : R.length = n * 2) (hk : k < n) : ∃ a b, R.drop (k * 2) = a :: b :: R.drop ((k + 1) * 2) := by
  refine ⟨R[k * 2], R[k * 2 + 1], ?_⟩
  rw [List.drop_eq_getElem_cons (by omega), List.drop_eq_getElem_cons (by omega)]
  rw [show k * 2 + 1 + 1 = (k + 1) * 2 by omega]

set_option maxHeartbeats 2000000 in
set_option maxRecDepth 100000 in
theorem iarena (fa : Option Addr) (n c : Nat) (bs : List Nat) (xs : List Lk) (L : List Kn) (w : World) (hn : n ≤ 1048600) (hr : PRow w fa n bs) (hf : FAt w bs xs) (hL : L.length = n) (hk : ∀ (i : Nat) (x : Lk) (y : Kn), xs[i]? = some x → L[i]? = some y → x.leaf = y.leaf ∧ KidsR w x y.kids) :
    Calls Try.prog 142 #[.slice fa n c] w fun e w' => ∃ v, e = .returned v ∧ KOut w L v w' := by
  obtain ⟨i0, hi, hz0, hz1, hz2⟩ := info_parts infoKn
  have R0 := hide (heap_alloc_new w (.cells #[.slice none 0 0] 27))
  have B0 : Hid (Below w.heap.size w (w.alloc (.cells #[.slice none 0 0] 27))) := (Below.refl _ _).alloc (Nat.le_refl _) _
  have HR := hide hr
  have HF := hide hf
  have HL := hide hL
  have HK := hide hk
  clear hr hf hL hk
  go_enter Try.func142, Try.ntmps142
  go_wp2_with (at_make; refine wpList_make_full _ rfl _ _ 25 rfl (w.heap.size + 1) 110 i0 (.agg #[.bool false, .slice none 0 0]) 2 Try.underlying25 hi hz0 hz1 .i64 .i64 _ _ n rfl rfl rfl rfl (by rw [hz2]; omega) (by unfold maxLen; omega) (by simp) ?_)
  intro w1 hown hgrow
  generalize (madeCells #[Value.bool false, Value.slice none 0 0] (n * 2)).toList = R at hown
  have HRL : Hid (R.length = n * 2) := hown.1
  have BG : Below (w.alloc (.cells #[.slice none 0 0] 27)).heap.size (w.alloc (.cells #[.slice none 0 0] 27)) w1 := (Below.refl _ _).grown hgrow (Nat.le_refl _) (fun k hk => by cases hk)
  have S0 : Hid (ArSt w w1 w.heap.size n [] R) := by
    refine ⟨(BG.block w.heap.size (by simp)).trans R0.out, ⟨by simpa [kncells] using hown, (fun _ h => by cases h), List.Pairwise.nil⟩, B0.out.trans (BG.mono B0.out.size)⟩
  obtain ⟨z, hz⟩ : ∃ z, w.heap.size = z := ⟨_, rfl⟩
  have HZ := hide hz
  rw [hz] at S0 ⊢
  clear hz hown hgrow BG R0 B0 hi hz0 hz1 hz2
  go_wp2
  go_loopw [12] (fun iv W => ∃ (k : Nat) (ss : List Kw), k ≤ n ∧ iv = .int .i64 k ∧ Hid (ss.length = k ∧ ss.map ktell = L.take k ∧ ArSt w W z n ss (R.drop (k * 2)))) (fun iv _ => n - (intOf iv).toNat)
  case atStart => exact ⟨0, [], Nat.zero_le _, rfl, rfl, by simp, by simpa using S0.out⟩
  case round =>
    obtain ⟨k, ss, hk, rfl, HS⟩ := hrel
    clear S0
    obtain ⟨hsl, hst, hca⟩ := HS.out
    have HSL := hide hsl
    have HST := hide hst
    have HC := hide hca
    clear HS hsl hst hca
    have HW : Hid (Below w.heap.size w wr) := by rw [hide HZ.out]; exact HC.out.2.2
    by_cases hlt : (k : Int) < n
    · obtain ⟨y, hy⟩ : ∃ y, L[k]? = some y := ⟨_, List.getElem?_eq_getElem (by have := HL.out; omega)⟩
      obtain ⟨x, hx⟩ : ∃ x, xs[k]? = some x := ⟨_, List.getElem?_eq_getElem (by have := HF.out.1; have := HR.out.1; omega)⟩
      obtain ⟨hlf, hkr⟩ := HK.out k x y hx hy
      obtain ⟨b, hb, hat⟩ := (HF.out.below HW.out).get hx
      obtain ⟨fg, rfl, -, hcf⟩ := (HR.out.below HW.out).at hb
      have hbz : b < z := by have := HF.out.2 k b x hb hx; rw [← HZ.out]; exact this.lt
      have k4 := hkr.len hat.2
      have C := hide (ikids b x y.kids wr hat (hkr.below HW.out))
      obtain ⟨k0, k1, k2, k3, hks⟩ := list4 k4
      have HAT := hide hat
      have k00 : (0 : Int) ≤ k := by omega
      obtain ⟨lf, hlfe⟩ : ∃ lf, y.leaf = lf := ⟨_, rfl⟩
      rw [hlfe] at hlf
      have hYE : y = ⟨lf, [k0, k1, k2, k3]⟩ := by cases y; simp only at hks hlfe; rw [hks, hlfe]
      have HY := hide hy
      rw [hYE] at HY
      rw [hks] at C
      have hlc := hat.leaf
      rw [hlf] at hlc
      obtain ⟨oa, ob, hd⟩ := drop2 HRL.out (show k < n by omega)
      have HF1 : Hid (KFil wr (z + 1) (.slice (some ⟨z + 1, 0, none⟩) n n) n ss (oa :: ob :: R.drop ((k + 1) * 2))) := by have := HC.out.2.1; rw [hd] at this; exact this
      have LC := hide hlc
      unfold ptr at hcf C
      clear hks k4 hkr hat hx hb hy hYE hlfe hd hlf hlc
      go_wp2_with fail
      refine C.out.mono ?_
      rintro e w2 ⟨rfl, b2⟩
      have HB2 := hide b2
      simp only [icells, List.map_cons, List.map_nil]
      have B3 : Hid (Below wr.heap.size wr (w2.alloc (.cells #[.int .i64 k0, .int .i64 k1, .int .i64 k2, .int .i64 k3] 123))) := b2.trans (((Below.refl _ _).alloc (Nat.le_refl _) _).mono b2.size)
      have hzw : z + 1 < wr.heap.size := (own_kind HF1.out.1 (z + 1) rfl).2.1
      have hw2 := b2.size
      have AR : Hid (ISl (w2.alloc (.cells #[.int .i64 k0, .int .i64 k1, .int .i64 k2, .int .i64 k3] 123)).drew (.slice (some ⟨w2.heap.size, 0, none⟩) 4 4) [k0, k1, k2, k3]) := by
        refine ⟨_, 4, rfl, (fun e => by cases e), rfl, by simp [maxLen], fun _ => ⟨w2.heap.size, 0, rfl, by show _ < (w2.alloc _).heap.size; simp, fun i t ht => ?_⟩⟩
        have := cell_of_row _ _ (0 + i) _ _ _ (heap_alloc_new w2 (.cells #[.int .i64 k0, .int .i64 k1, .int .i64 k2, .int .i64 k3] 123))
        refine Eq.trans this ?_
        rw [Nat.zero_add]
        match i, ht with
        | 0, ht | 1, ht | 2, ht | 3, ht => simp at ht; subst ht; rfl
      have C2 := hide (icl_ints (.slice (some ⟨w2.heap.size, 0, none⟩) 4 4) [k0, k1, k2, k3] (w2.alloc (.cells #[.int .i64 k0, .int .i64 k1, .int .i64 k2, .int .i64 k3] 123)).drew (by simp) AR.out)
      have lc3 : (w2.alloc (.cells #[.int .i64 k0, .int .i64 k1, .int .i64 k2, .int .i64 k3] 123)).cell? ⟨b, 1, none⟩ = some (.bool lf) := (B3.out.cell (show b < wr.heap.size by omega)).trans LC.out
      clear b2 C
      go_wp2_with fail
      generalize hw3 : w2.alloc (.cells #[.int .i64 k0, .int .i64 k1, .int .i64 k2, .int .i64 k3] 123) = w3 at B3 AR C2 lc3 ⊢
      have LK : Hid (∀ W, Below w3.drew.heap.size w3.drew W → W.cell? ⟨b, 1, none⟩ = some (.bool lf)) := fun W hW => (hW.cell (show b < w3.drew.heap.size by have := B3.out.size; show b < w3.heap.size; omega)).trans lc3
      have LS : Hid (∀ (W : World) (u v : Value), W.cell? ⟨b, 1, none⟩ = some (.bool lf) → ((W.setCell ⟨z + 1, k * 2, none⟩ u).setCell ⟨z + 1, k * 2 + 1, none⟩ v).cell? ⟨b, 1, none⟩ = some (.bool lf)) := fun W u v hW => by
        rw [World.cell?_setCell_other _ _ _ _ (fun e => by injection e; omega), World.cell?_setCell_other _ _ _ _ (fun e => by injection e; omega)]
        exact hW
      clear hw3
      go_region_held3 (fun w' => w'.cell? ⟨b, 1, none⟩ = some (.bool lf)) (first | go_keep | exact LK.out _ BB.out | exact LS.out _ _ _ (LK.out _ BB.out)) ((go_at_call 117; (with_reducible refine Calls.mono C2.out ?_); rintro en w4 ⟨nv, rfl, on, bb⟩; have BB := hide bb; have ON := hide on; (obtain ⟨na, nc, hnv, -⟩ := (Sli.of on).form); subst hnv; clear bb on; have HF4 := hide ((HF1.out.below B3.out).below (Below.drew (Below.refl _ _)) |>.below BB.out); have q0 := HF4.out.cell0 HSL.out; have q1 := HF4.out.cell1 HSL.out; have f0 := HF4.out.fr (k * 2); have f1 := HF4.out.fr (k * 2 + 1)))
      all_goals
        have hz4 : ((w4.setCell ⟨z + 1, k * 2, none⟩ (.bool lf)).setCell ⟨z + 1, k * 2 + 1, none⟩ (.slice na 4 nc)).heap.size = w4.heap.size := by simp [World.setCell]
        have NX : Hid (ArSt w ((w4.setCell ⟨z + 1, k * 2, none⟩ (.bool lf)).setCell ⟨z + 1, k * 2 + 1, none⟩ (.slice na 4 nc)) z n (ss ++ [(lf, .slice na 4 nc, [k0, k1, k2, k3])]) (R.drop ((k + 1) * 2))) := by
          have hb4 : Below wr.heap.size wr w4 := (B3.out.drew).trans (BB.out.mono B3.out.size)
          have hs3 := B3.out.size
          obtain ⟨-, -, cs, q⟩ := own_kind HF4.out.1 (z + 1) rfl
          obtain ⟨-, -, cs2, q2⟩ := own_kind (HF4.out.set (set_even HSL.out oa ob (.bool lf) _)).1 (z + 1) rfl
          refine ⟨row_set_ne (row_set_ne ((hb4.block z (by omega)).trans HC.out.1) (by omega) _ _) (by omega) _ _, ?_, ?_⟩
          · refine KFil.take (W0 := wr) HF1.out.lt (by omega) ((HF4.out.set (set_even HSL.out oa ob (.bool lf) _)).set (set_odd HSL.out _ _ _ _)) ?_ (by simp [maxLen])
            rw [hz4]
            exact (((Sli.of ON.out).dn (show wr.heap.size ≤ w3.drew.heap.size from hs3)).setK q).setK q2
          · exact ((HC.out.2.2.trans (hb4.mono (by omega))).setCell (p := ⟨z + 1, k * 2, none⟩) (by show z ≤ z + 1; omega) _).setCell (p := ⟨z + 1, k * 2 + 1, none⟩) (by show z ≤ z + 1; omega) _
        have NT : Hid ((ss ++ [(lf, Value.slice na 4 nc, [k0, k1, k2, k3])]).map ktell = L.take (k + 1)) := by
          show _ = _
          rw [List.map_append, HST.out, List.take_add_one, HY.out]
          rfl
        have NL : Hid ((ss ++ [(lf, Value.slice na 4 nc, [k0, k1, k2, k3])]).length = k + 1) := by show _ = _; rw [List.length_append, HSL.out]; rfl
        generalize (w4.setCell ⟨z + 1, k * 2, none⟩ (.bool lf)).setCell ⟨z + 1, k * 2 + 1, none⟩ (.slice na 4 nc) = w5 at NX ⊢
        generalize ss ++ [(lf, Value.slice na 4 nc, [k0, k1, k2, k3])] = ss2 at NX NT NL
        clear HC HF1 HF4 ON BB LK LS C2 AR B3 HY HAT LC q0 q1 f0 f1 HSL HST HB2
        go_wp2
        go_roundw
        case rel => exact ⟨k + 1, ss2, by omega, by go_num, NL.out, NT.out, NX.out⟩
        case measure => simp [intOf]; omega
    · have ek : k = n := by omega
      subst ek
      have KO : Hid (KOwn wr (z + 1) (.slice (some ⟨z + 1, 0, none⟩) k k) ss) := by
        have := HC.out.2.1
        rw [List.drop_eq_nil_of_le (by have := HRL.out; omega)] at this
        refine KFil.own ?_
        rw [HSL.out]
        exact this
      have r0 := cell_of_row _ _ 0 _ _ _ HC.out.1
      have f0 := frozen_of_row _ _ 0 _ _ HC.out.1
      have ET : Hid (ss.map ktell = L) := by
        show _ = _
        rw [HST.out, List.take_of_length_le (by have := HL.out; omega)]
      clear HR HF HK
      go_wp2
      refine bodyPost_ret (results_cell_row rfl _ _ z 27 _ (0, 0) _ rfl (row_set HC.out.1 0 (.slice (some ⟨z + 1, 0, none⟩) k k)) Try.underlying27 rfl infoArc) rfl ⟨_, rfl, .slice (some ⟨z + 1, 0, none⟩) k k, ss, rfl, ?_, ET.out, ?_⟩
      · rw [HZ.out]
        exact (KO.out.cellB (show z < z + 1 by omega) _ _).down (by omega)
      · rw [HZ.out]
        exact HC.out.2.2.setCell (p := ⟨z, 0, none⟩) (by show z ≤ z; omega) _
end Go.Proofs.Ytcnaahajaaifjaa
