/-
  ICopS; StH
-/
import Derived.Test.YtelhejamlmhagaaPk18
/-
  impl.copiedStore, closed.
-/
namespace Go.Proofs.Ytelhejamlmhagaa
open Go.RowKit
open Words

set_option maxHeartbeats 1000000 in
set_option maxRecDepth 100000 in
theorem icopS (va : Option Addr) (vl vc : Nat) (ad : Option Addr) (len cap : Nat) (nx : Int) (vs : List (Int × Int)) (rs : List Kw) (w : World) (hvl : vl ≤ 1048576) (hl : len ≤ 1048578) (hll : ∀ r ∈ rs, r.2.2.length ≤ 1048576) (hvc : va = none → vc = 0) (h : VlRow w va vl vs) (hk : KnRd w ad len rs) :
    Calls Try.prog 42 #[.agg (SBox va vl vc ad len cap nx)] w fun e w' => ∃ v, e = .returned v ∧ StOut w ⟨vs, rs.map ktell, nx⟩ v w' := by
  have HVL := hide h.1
  have HL := hide hll
  have T0 := hide (Tk.two w #[.slice va vl vc, .slice ad len cap, .int .i64 nx] #[.slice none 0 0, .slice none 0 0, .int .i64 0] 29 29)
  have VB := hide (show VlSl w (.slice va vl vc) vs from ⟨va, vc, by rw [h.1], hvc, by rw [h.1]; exact h⟩)
  have KB := hide hk
  clear h hk hll hvc
  unfold SBox
  go_enter Try.func42, Try.ntmps42
  go_wp2_with fail
  generalize (w.alloc (.cells #[.slice va vl vc, .slice ad len cap, .int .i64 nx] 29)).alloc (.cells #[.slice none 0 0, .slice none 0 0, .int .i64 0] 29) = wb at T0 ⊢
  have XR := hide (T0.out.get 0 rfl)
  have x0 : wb.cell? ⟨w.heap.size, 0, none⟩ = some (.slice va vl vc) := T0.out.at 1 0 rfl rfl
  have x1 : wb.cell? ⟨w.heap.size, 1, none⟩ = some (.slice ad len cap) := T0.out.at 1 1 rfl rfl
  have x2 : wb.cell? ⟨w.heap.size, 2, none⟩ = some (.int .i64 nx) := T0.out.at 1 2 rfl rfl
  have XB := hide (World.block_lt_of_cell? wb _ x0)
  have BW := hide T0.out.1
  obtain ⟨z, hz⟩ : ∃ z, w.heap.size = z := ⟨_, rfl⟩
  rw [hz] at x0 x1 x2 XB XR ⊢
  have HZW := hide hz
  clear hz
  have KK : Hid (∀ W, Below wb.heap.size wb W → W.cell? ⟨z, 0, none⟩ = some (.slice va vl vc) ∧ W.cell? ⟨z, 1, none⟩ = some (.slice ad len cap) ∧ W.cell? ⟨z, 2, none⟩ = some (.int .i64 nx)) := fun W H => ⟨(H.cell (show z < wb.heap.size from XB.out)).trans x0, (H.cell (show z < wb.heap.size from XB.out)).trans x1, (H.cell (show z < wb.heap.size from XB.out)).trans x2⟩
  have RR : Hid (∀ W, Below wb.heap.size wb W → W.heap[z + 1]? = some (.cells #[.slice none 0 0, .slice none 0 0, .int .i64 0] 29 (0, 0))) := fun W H => (H.block (z + 1) (Array.getElem?_eq_some_iff.1 XR.out).1).trans XR.out
  have RF : Hid (∀ W, Below wb.heap.size wb W → W.cell? ⟨z + 1, 0, none⟩ = some (.slice none 0 0) ∧ W.cell? ⟨z + 1, 1, none⟩ = some (.slice none 0 0) ∧ W.cell? ⟨z + 1, 2, none⟩ = some (.int .i64 0) ∧ W.frozen? ⟨z + 1, 0, none⟩ = false ∧ W.frozen? ⟨z + 1, 1, none⟩ = false ∧ W.frozen? ⟨z + 1, 2, none⟩ = false) := fun W H => by
    have h := RR.out W H
    exact ⟨cell_of_row _ _ 0 _ _ _ h, cell_of_row _ _ 1 _ _ _ h, cell_of_row _ _ 2 _ _ _ h, frozen_of_row _ _ 0 _ _ h, frozen_of_row _ _ 1 _ _ h, frozen_of_row _ _ 2 _ _ h⟩
  obtain ⟨r0, r1, r2, f0, f1, f2⟩ := RF.out wb (Below.refl _ _)
  have BC : Hid (Below wb.heap.size wb wb.drew) := (Below.refl _ _).drew
  have KP := hide (KK.out _ BC.out)
  have HZB : Hid (z + 1 < wb.heap.size) := (Array.getElem?_eq_some_iff.1 XR.out).1
  clear x0 x1 x2 XB
  have CA : Hid (∀ W, Below wb.heap.size wb W → Calls Try.prog 80 #[.slice va vl vc] W fun e w' => ∃ ua uc, e = .returned (.slice ua vl uc) ∧ Sli 49 W.heap.size w'.heap.size (.slice ua vl uc) vs.length (vlcells vs) w' ∧ Below W.heap.size W w') := fun W H => (icl_vols _ vs W (by have := HVL.out; omega) (VB.out.below (BW.out.trans (H.mono BW.out.size)))).mono (by
    rintro e w' ⟨v, rfl, o, b⟩
    obtain ⟨ua, uc, rfl, -⟩ := (Sli.of o).form
    exact ⟨ua, uc, by rw [HVL.out], by rw [← HVL.out]; exact Sli.of o, b⟩)
  have CK : Hid (∀ W, Below wb.heap.size wb W → Calls Try.prog 84 #[.agg #[.slice ad len cap]] W fun e w' => ∃ ka kn kc, e = .returned (.agg #[.slice ka kn kc]) ∧ Kns W.heap.size w'.heap.size (.slice ka kn kc) (rs.map ktell) w' ∧ Below W.heap.size W w') := fun W H => (icopied ad len cap rs W hl HL.out (KB.out.below (BW.out.trans (H.mono BW.out.size)))).mono (by
    rintro e w' ⟨v, rfl, uv, ss, rfl, ko, hss, b⟩
    obtain ⟨ka, kc, rfl⟩ := ko.form
    exact ⟨ka, _, kc, rfl, ⟨ss, hss, ko.kns⟩, b⟩)
  go_region_held3 (fun w' => w'.cell? ⟨z, 0, none⟩ = some (.slice va vl vc) ∧ w'.cell? ⟨z, 1, none⟩ = some (.slice ad len cap) ∧ w'.cell? ⟨z, 2, none⟩ = some (.int .i64 nx)) (first | exact KP.out | go_keep) (first
    | (go_at_call 80; (with_reducible refine Calls.mono (CA.out _ BC.out) ?_); rintro en w1 ⟨ua, uc, rfl, sl1, b1⟩; have SL1 := hide sl1; have B1 := hide b1; have BN := hide (BC.out.trans (b1.mono BC.out.size)); clear BC KP sl1 b1; have BC := BN; clear BN; have KP := hide (KK.out _ BC.out); clear r0 r1 r2 f0 f1 f2; (obtain ⟨r0, r1, r2, f0, f1, f2⟩ := RF.out _ BC.out))
    | (go_at_call 84; (with_reducible refine Calls.mono (CK.out _ BC.out) ?_); rintro en w2 ⟨ka, kn, kc, rfl, kn1, b2⟩; have KN2 := hide kn1; have B2 := hide b2; have BN := hide (BC.out.trans (b2.mono BC.out.size)); clear BC KP kn1 b2; have BC := BN; clear BN; have KP := hide (KK.out _ BC.out); clear r0 r1 r2 f0 f1 f2; (obtain ⟨r0, r1, r2, f0, f1, f2⟩ := RF.out _ BC.out)))
  have R3 := hide (sto_row3 (a := .slice ua vl uc) (b := .slice ka kn kc) (c := .int .i64 nx) (RR.out _ BC.out))
  have FIN : Hid (StOut w ⟨vs, rs.map ktell, nx⟩ (.agg #[.slice ua vl uc, .slice ka kn kc, .int .i64 nx]) (((w2.setCell ⟨z + 1, 0, none⟩ (.slice ua vl uc)).setCell ⟨z + 1, 1, none⟩ (.slice ka kn kc)).setCell ⟨z + 1, 2, none⟩ (.int .i64 nx))) := by
    have h1 := B1.out.size
    have h2 := B2.out.size
    have h3 := HZB.out
    have h4 := BW.out.size
    have h5 := HZW.out
    have hd : wb.drew.heap.size = wb.heap.size := rfl
    refine st_fin (s := ⟨vs, rs.map ktell, nx⟩) (by omega) (SL1.out.blw B2.out) KN2.out ⟨by omega, .inr (by omega)⟩ ⟨by omega, .inr (by omega)⟩ (by omega) (by omega) (.inl (Nat.le_refl _)) (BW.out.trans (BC.out.mono h4))
  go_wp2
  exact bodyPost_ret (results_cell_row rfl _ _ (z + 1) 29 _ (0, 0) _ rfl R3.out Try.underlying29 rfl infoSto) rfl ⟨_, rfl, FIN.out⟩

/-- A store that is worked on, swept: its knots are new. -/
def OpT (w W : World) (p : Nat) (s : Sto) : Prop :=
  Below w.heap.size w W ∧ w.heap.size ≤ p ∧ p < W.heap.size ∧ ∃ kv vv lo1 hi1 lo2 hi2, W.heap[p]? = some (.cells #[kv, vv, .int .i64 s.next] 100 (0, 0)) ∧ Sli 49 lo1 hi1 vv s.vols.length (vlcells s.vols) W ∧ Kns lo2 hi2 kv s.kns W ∧ w.heap.size ≤ lo1 ∧ hi1 ≤ W.heap.size ∧ w.heap.size ≤ lo2 ∧ hi2 ≤ W.heap.size ∧ (hi1 ≤ lo2 ∨ hi2 ≤ lo1)
set_option maxHeartbeats 1000000 in
set_option maxRecDepth 100000 in
theorem iclosed (p : Nat) (s : Sto) (w W : World) (h : OpT w W p s) :
    Calls Try.prog 44 #[.pointer (some ⟨p, 0, none⟩)] W fun e w' => ∃ v, e = .returned v ∧ StOut w s v w' ∧ Below W.heap.size W w' := by
  obtain ⟨h1, h2, h3, kv, vv, lo1, hi1, lo2, hi2, h4, h5, h6, h7, h8, h9, h10, h11⟩ := h
  obtain ⟨ua, uc, rfl, -⟩ := h5.form
  obtain ⟨ka, kc, rfl⟩ := h6.form
  obtain ⟨vn, hvn⟩ : ∃ vn, s.vols.length = vn := ⟨_, rfl⟩
  obtain ⟨kn, hkn⟩ : ∃ kn, s.kns.length = kn := ⟨_, rfl⟩
  obtain ⟨nx, hnx⟩ : ∃ nx, s.next = nx := ⟨_, rfl⟩
  rw [hvn, hkn, hnx] at h4
  have H5 := hide h5
  have H6 := hide h6
  have HN := hide hnx
  have HVN := hide hvn
  have HKN := hide hkn
  obtain ⟨c0, c1, c2, -⟩ := ops_cells h4
  have H1 := hide h1
  have HS := hide (show w.heap.size ≤ W.heap.size from h1.size)
  have HA := hide h11
  clear h1 h4 h5 h6 hnx hvn hkn h11
  go_enter Try.func44, Try.ntmps44
  go_wp2_with fail
  go_region
  have BE : Hid (Below W.heap.size W (W.alloc (.cells #[.slice ua vn uc, .slice ka kn kc, .int .i64 nx] 29)).drew) := ((Below.refl _ _).alloc (Nat.le_refl _) _).drew
  have R3 : Hid ((W.alloc (.cells #[.slice ua vn uc, .slice ka kn kc, .int .i64 nx] 29)).drew.heap[W.heap.size]? = some (.cells #[.slice ua vn uc, .slice ka kn kc, .int .i64 nx] 29 (0, 0))) := heap_alloc_new W _
  have FIN : Hid (StOut w s (.agg #[.slice ua vn uc, .slice ka kn kc, .int .i64 nx]) (W.alloc (.cells #[.slice ua vn uc, .slice ka kn kc, .int .i64 nx] 29)).drew) := by
    have h1 := BE.out.size
    have h5 := H5.out.blw BE.out
    have h6 := Kns.loc _ _ _ _ _ _ (fun q q1 q2 => BE.out.block q (by omega)) H6.out
    rw [HVN.out] at h5
    rw [HKN.out] at h6
    exact ⟨_, _, lo1, hi1, lo2, hi2, by rw [HN.out], by rw [HVN.out]; exact h5, h6, h7, by omega, h9, by omega, HA.out, H1.out.trans (BE.out.mono HS.out)⟩
  go_wp2
  exact bodyPost_ret (results_cell_row rfl _ _ W.heap.size 29 _ (0, 0) _ rfl R3.out Try.underlying29 rfl infoSto) rfl ⟨_, rfl, FIN.out, BE.out⟩
end Go.Proofs.Ytelhejamlmhagaa

/-
  A store in a variable: its rows lie apart from the variable.
-/
namespace Go.Proofs.Ytelhejamlmhagaa
open Go.RowKit
open Words

def StH (lo zb : Nat) (v : Value) (s : Sto) (V : World) : Prop := ∃ vv kv lo1 hi1 lo2 hi2, v = .agg #[vv, kv, .int .i64 s.next] ∧ Sli 49 lo1 hi1 vv s.vols.length (vlcells s.vols) V ∧ Kns lo2 hi2 kv s.kns V ∧ (lo ≤ lo1 ∧ (hi1 ≤ zb ∨ zb < lo1)) ∧ (lo ≤ lo2 ∧ (hi2 ≤ zb ∨ zb < lo2)) ∧ hi1 ≤ V.heap.size ∧ hi2 ≤ V.heap.size ∧ (hi1 ≤ lo2 ∨ hi2 ≤ lo1)
theorem StH.keep {lo zb : Nat} {v : Value} {s : Sto} {V V' : World} (h : StH lo zb v s V) (hq : ∀ g, lo ≤ g → g ≠ zb → g < V.heap.size → V'.heap[g]? = V.heap[g]?) (hz : V.heap.size ≤ V'.heap.size) : StH lo zb v s V' := by
  obtain ⟨vv, kv, lo1, hi1, lo2, hi2, e, h1, h2, h3, h4, h5, h6, h7⟩ := h
  refine ⟨vv, kv, lo1, hi1, lo2, hi2, e, ?_, ?_, h3, h4, by omega, by omega, h7⟩
  · exact Sli.loc _ _ _ _ _ _ V _ (fun g g1 g2 => hq g (by omega) (by omega) (by omega)) h1
  · exact Kns.loc _ _ _ _ V _ (fun g g1 g2 => hq g (by omega) (by omega) (by omega)) h2
theorem StH.below {lo zb : Nat} {v : Value} {s : Sto} {V V' : World} (h : StH lo zb v s V) (hb : Below V.heap.size V V') : StH lo zb v s V' := h.keep (fun g _ _ hg => hb.block g hg) hb.size
theorem StH.of {lo zb : Nat} {v : Value} {s : Sto} {w V : World} (h : StOut w s v V) (hlo : lo ≤ w.heap.size) (hzb : zb < w.heap.size ∨ V.heap.size ≤ zb) : StH lo zb v s V := by
  obtain ⟨vv, kv, lo1, hi1, lo2, hi2, e, h1, h2, h3, h4, h5, h6, h7, -⟩ := h
  exact ⟨vv, kv, lo1, hi1, lo2, hi2, e, h1, h2, ⟨by omega, by omega⟩, ⟨by omega, by omega⟩, h4, h6, h7⟩
/-- The variable is written. -/
theorem StH.set {lo zb k : Nat} {v u : Value} {s : Sto} {V : World} (h : StH lo zb v s V) : StH lo zb v s (V.setCell ⟨zb, k, none⟩ u) :=
  h.keep (fun g _ hg _ => Below.heap_setCell _ _ _ _ hg) (by simp [World.setCell])
theorem StH.form {lo zb : Nat} {v : Value} {s : Sto} {V : World} (h : StH lo zb v s V) : ∃ va vl vc ad len cap, v = .agg #[.slice va vl vc, .slice ad len cap, .int .i64 s.next] := by
  obtain ⟨vv, kv, lo1, hi1, lo2, hi2, rfl, h1, h2, -⟩ := h
  obtain ⟨va, vc, rfl, -⟩ := h1.form
  obtain ⟨ad, cap, rfl⟩ := h2.form
  exact ⟨_, _, _, _, _, _, rfl⟩
theorem StH.rd {lo zb : Nat} {v : Value} {s : Sto} {V : World} (h : StH lo zb v s V) (hf : s.Fit) : StIn V v s := by
  obtain ⟨vv, kv, lo1, hi1, lo2, hi2, rfl, h1, h2, h3, h4, h5, h6, h7⟩ := h
  obtain ⟨va, vc, rfl, h9, h10⟩ := VlSl.of h1 (by have := hf.1; unfold maxLen; omega) h5
  obtain ⟨ad, cap, rfl⟩ := h2.form
  obtain ⟨rs, e, hr⟩ := h2.rd rfl h6
  refine ⟨va, s.vols.length, vc, ad, s.kns.length, cap, rs, rfl, e.symm, hf.1, hf.2.1, fun r hr => ?_, h9, h10, hr⟩
  exact hf.2.2 (ktell r) (by rw [← e]; exact List.mem_map.2 ⟨r, hr, rfl⟩)
/-- It is answered by way of the cell g, below all. -/
theorem StH.fin {w V : World} {lo zb g : Nat} {a b : Value} {n : Int} {s : Sto} (h : StH lo zb (.agg #[a, b, .int .i64 n]) s V) (hb : Below w.heap.size w V) (hg : w.heap.size ≤ g) (hl : g < lo) : StOut w s (.agg #[a, b, .int .i64 n]) (((V.setCell ⟨g, 0, none⟩ a).setCell ⟨g, 1, none⟩ b).setCell ⟨g, 2, none⟩ (.int .i64 n)) := by
  obtain ⟨vv, kv, lo1, hi1, lo2, hi2, e, h1, h2, h3, h4, h5, h6, h7⟩ := h
  injection e with e
  injection e with e
  simp only [List.cons.injEq, and_true] at e
  obtain ⟨e1, e2, e3⟩ := e
  rw [e1, e2, e3]
  exact st_fin hg h1 h2 ⟨by omega, .inr (by omega)⟩ ⟨by omega, .inr (by omega)⟩ h5 h6 h7 hb
theorem fit_go {s t : Sto} {l : List Rc} (h : s.Fit) (e : enterGo s l = some t) : t.Fit := by
  induction l generalizing s with
  | nil => rw [enterGo] at e; cases e; exact h
  | cons r l ih =>
    rw [enterGo] at e
    split at e
    · exact ih (enter_fit h r) e
    · cases e
theorem go_snoc {s t : Sto} {l : List Rc} {k : Nat} {r : Rc} (h : enterGo s (l.take k) = some t) (hr : l[k]? = some r) : enterGo s (l.take (k + 1)) = if (enterS t r).2 = true then some (enterS t r).1 else none := by
  obtain ⟨h1, h2⟩ := List.getElem?_eq_some_iff.1 hr
  rw [List.take_succ_eq_append_getElem h1, h2, enterGo_app, h, Option.bind_some, enterGo]
  split <;> rfl
theorem go_bad {s t : Sto} {l : List Rc} {k : Nat} {r : Rc} (h : enterGo s (l.take k) = some t) (hr : l[k]? = some r) (hb : (enterS t r).2 = false) : enterAllS s l = (s, false) := by
  have e : enterGo s l = none := by
    conv => lhs; rw [← List.take_append_drop (k + 1) l]
    rw [enterGo_app, go_snoc h hr, if_neg (by rw [hb]; decide)]
    rfl
  rw [enterAllS, e]
theorem go_all {s t : Sto} {l : List Rc} (h : enterGo s l = some t) : enterAllS s l = (t, true) := by rw [enterAllS, h]
end Go.Proofs.Ytelhejamlmhagaa
