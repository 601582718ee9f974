/-
  IPutC; IRootsI; ISwpT
-/
import Derived.Test.YtcnaahajaaifjacGreatPk45
import Derived.Test.YtcnaahajaaifjacGreatPk14
import Derived.Test.YtcnaahajaaifjacGreatPk34
import Derived.Test.YtcnaahajaaifjacGreatPk37
import Derived.Test.YtcnaahajaaifjacGreatPk43
import Derived.Test.YtcnaahajaaifjacGreatPk26
/-
  putChunk.
-/
namespace Go.Proofs.YtcnaahajaaifjacGreat
open Go.RowKit
open Words

/-- A store into whose k'th volume a chunk is put. -/
def putS (s : Sto) (k : Nat) (v : Int × Int) (sec c : Int) : Sto := ⟨s.vols.set k (v.1, putR s.kns v.2 sec c), putL s.kns v.2 sec c, if s.next < c + 1 then c + 1 else s.next⟩
/-- What putChunk answers. -/
def PcOut (w : World) (p : Nat) (s : Sto) (id sec c : Int) (e : Ending) (w' : World) : Prop :=
  ((atV s.vols id = none ∨ c = 1000000000) ∧ MtOut w p false s e w') ∨ (c ≠ 1000000000 ∧ ∃ k v, atV s.vols id = some k ∧ s.vols[k]? = some v ∧ MtOut w p true (putS s k v sec c) e w')
set_option maxHeartbeats 2000000 in
set_option maxRecDepth 100000 in
theorem iputC (p : Nat) (s : Sto) (id sec c : Int) (w W : World) (hn : s.vols.length ≤ 1048576) (hkl : s.kns.length ≤ 1048576) (hk4 : ∀ r x, x ∈ putL s.kns r sec c → x.kids.length ≤ 1048576) (hc0 : 0 ≤ c) (hc1 : c ≤ 1000000000) (h : OpS w W p s) :
    Calls Tryz.prog 68 #[.pointer (some ⟨p, 0, none⟩), .int .i64 id, .int .i64 sec, .int .i64 c] W (PcOut w p s id sec c) := by
  obtain ⟨kv, vv, hd⟩ := h.d
  obtain ⟨va, vc, rfl, hv, hva⟩ := hd.open
  obtain ⟨n, hnn⟩ : ∃ n, s.vols.length = n := ⟨_, rfl⟩
  rw [hnn] at hv hva hd hn
  have HNN := hide hnn
  have HD := hide hd
  have HV := hide hv
  have CV := hide (ivolAt va n vc s.vols id W hn hv)
  obtain ⟨-, c1, -, -, f1, -⟩ := ops_cells hd.2.2.1
  have HK4 := hide hk4
  have HKL := hide hkl
  clear h hd hv hnn hk4 hkl
  go_enter Tryz.func68, Tryz.ntmps68
  go_wp2_with fail
  refine CV.out.mono ?_
  rintro e w0 ⟨rfl, rfl⟩
  clear CV
  cases ho : atV s.vols id with
  | none =>
    have FIN : Hid (PcOut w p s id sec c (.returned (.bool false)) w0) := .inl ⟨.inl ho, rfl, HD.out.s⟩
    have ev : volP va none = .pointer none := rfl
    rw [ev]
    go_wp2
    go_ret
    exact FIN.out
  | some k =>
    obtain ⟨v, hk, hid⟩ := atV_some ho
    obtain ⟨g, rfl⟩ := hva (by have := (List.getElem?_eq_some_iff.1 hk).1; have := HNN.out; omega)
    have ev : volP (some ⟨g, 0, none⟩) (some k) = .pointer (some ⟨g, k * 2, none⟩) := by simp [volP]
    rw [ev]
    clear ev
    by_cases hcm : c = 1000000000
    · have FIN : Hid (PcOut w p s id sec c (.returned (.bool false)) w0) := .inl ⟨.inr hcm, rfl, HD.out.s⟩
      have hcb : (c == 1000000000) = true := by simpa using hcm
      clear hcm hk hid ho
      go_wp2
      go_ret
      exact FIN.out
    · have hcb : (c == 1000000000) = false := by simpa using hcm
      have HCM := hide hcm
      have HK := hide hk
      have HO := hide ho
      have HOW := hide HD.out.2.2.2.1
      rw [HNN.out] at HOW
      have d1 : w0.cell? ⟨g, k * 2 + 1, none⟩ = some (.int .i64 v.2) := by
        rw [← addr_at]
        exact HOW.out.cells (g := g) rfl (k * 2 + 1) _ (vlcells_at _ k v hk 1 _ rfl)
      have BD : Hid (Below w0.heap.size w0 w0.drew) := (Below.refl _ _).drew
      have CP := hide (iputA p s kv (.slice (some ⟨g, 0, none⟩) n vc) v.2 sec c w w0.drew (HK4.out v.2) HKL.out (HD.out.below BD.out))
      have KD : w0.drew.cell? ⟨g, k * 2 + 1, none⟩ = some (.int .i64 v.2) := d1
      have hwc : IntKind.i64.wrap (c + 1) = c + 1 := by rw [IntKind.wrap_i64]; omega
      clear hcm hk hid ho
      go_wp2_with fail
      refine wp_region_lastC2 13 (S := fun w' => w'.cell? ⟨g, k * 2 + 1, none⟩ = some (.int .i64 v.2)) (by kernel_rfl) rfl (by kernel_rfl) KD (fun hHeld => ?_)
      simp only [List.dropLast_cons_cons, List.dropLast_singleton, List.length_cons, List.length_nil, Nat.reduceAdd]
      refine takeL 0 (v := ?_) rfl (by kernel_rfl) (by kernel_rfl) (by kernel_rfl) (fun _ _ _ h => h) (by rfl) (by assumption) ?_ ?_
      rotate_left 1
      · (intro w hSw; (try dsimp only at hSw); go_simp; all_goals with_reducible rfl)
      simp only [Act.put, List.setIfInBounds_toArray, List.set_cons_zero, List.set_cons_succ]
      refine takeL 1 (v := ?_) rfl (by kernel_rfl) (by kernel_rfl) (by kernel_rfl) (fun _ _ _ h => h) (by rfl) (by assumption) ?_ ?_
      rotate_left 1
      · (intro w hSw; (try dsimp only at hSw); go_simp; all_goals with_reducible rfl)
      simp only [Act.put, List.setIfInBounds_toArray, List.set_cons_zero, List.set_cons_succ]
      refine takeL 2 (v := ?_) rfl (by kernel_rfl) (by kernel_rfl) (by kernel_rfl) (fun _ _ _ h => h) (by rfl) (by assumption) ?_ ?_
      rotate_left 1
      · (intro w hSw; (try dsimp only at hSw); go_simp; all_goals with_reducible rfl)
      simp only [Act.put, List.setIfInBounds_toArray, List.set_cons_zero, List.set_cons_succ]
      refine takeL 3 (v := ?_) rfl (by kernel_rfl) (by kernel_rfl) (by kernel_rfl) (fun _ _ _ h => h) (by rfl) (by assumption) ?_ ?_
      rotate_left 1
      · (intro w hSw; (try dsimp only at hSw); go_simp; all_goals with_reducible rfl)
      simp only [Act.put, List.setIfInBounds_toArray, List.set_cons_zero, List.set_cons_succ]
      refine takeL 4 (v := ?_) rfl (by kernel_rfl) (by kernel_rfl) (by kernel_rfl) (fun _ _ _ h => h) (by rfl) (by assumption) ?_ ?_
      rotate_left 1
      · (intro w hSw; (try dsimp only at hSw); go_simp; all_goals with_reducible rfl)
      simp only [Act.put, List.setIfInBounds_toArray, List.set_cons_zero, List.set_cons_succ]
      refine takeL 5 (v := ?_) rfl (by kernel_rfl) (by kernel_rfl) (by kernel_rfl) (fun _ _ _ h => h) (by rfl) (by assumption) ?_ ?_
      rotate_left 1
      · (intro w hSw; (try dsimp only at hSw); go_simp; all_goals with_reducible rfl)
      simp only [Act.put, List.setIfInBounds_toArray, List.set_cons_zero, List.set_cons_succ]
      refine takeL 6 (v := ?_) rfl (by kernel_rfl) (by kernel_rfl) (by kernel_rfl) (fun _ _ _ h => h) (by rfl) (by assumption) ?_ ?_
      rotate_left 1
      · (intro w hSw; (try dsimp only at hSw); go_simp; all_goals with_reducible rfl)
      simp only [Act.put, List.setIfInBounds_toArray, List.set_cons_zero, List.set_cons_succ]
      refine takeL 7 (v := ?_) rfl (by kernel_rfl) (by kernel_rfl) (by kernel_rfl) (fun _ _ _ h => h) (by rfl) (by assumption) ?_ ?_
      rotate_left 1
      · (intro w hSw; (try dsimp only at hSw); go_simp; all_goals with_reducible rfl)
      simp only [Act.put, List.setIfInBounds_toArray, List.set_cons_zero, List.set_cons_succ]
      refine takeL 8 (v := ?_) rfl (by kernel_rfl) (by kernel_rfl) (by kernel_rfl) (fun _ _ _ h => h) (by rfl) (by assumption) ?_ ?_
      rotate_left 1
      · (intro w hSw; (try dsimp only at hSw); go_simp; all_goals with_reducible rfl)
      simp only [Act.put, List.setIfInBounds_toArray, List.set_cons_zero, List.set_cons_succ]
      refine takeL 9 (v := ?_) rfl (by kernel_rfl) (by kernel_rfl) (by kernel_rfl) (fun _ _ _ h => h) (by rfl) (by assumption) ?_ ?_
      rotate_left 1
      · (intro w hSw; (try dsimp only at hSw); go_simp; all_goals with_reducible rfl)
      simp only [Act.put, List.setIfInBounds_toArray, List.set_cons_zero, List.set_cons_succ]
      refine oneL 10 rfl (by kernel_rfl) (fun K hK => ?_)
      go_simp
      refine CP.out.mono ?_
      rintro en w2 ⟨kv', rfl, hd2⟩
      have HD2 := hide hd2
      have HOW2 := hide hd2.2.2.2.1
      simp only at HOW2
      rw [HNN.out] at HOW2
      have e1 : w2.cell? ⟨g, k * 2 + 1, none⟩ = some (.int .i64 v.2) := by
        rw [← addr_at]
        exact HOW2.out.cells (g := g) rfl (k * 2 + 1) _ (vlcells_at _ k v HK.out 1 _ rfl)
      have f2 : w2.frozen? ⟨g, k * 2 + 1, none⟩ = false := by
        obtain ⟨-, -, cs, q⟩ := own_kind HOW2.out g rfl
        exact frozen_of_row _ _ _ _ _ q
      refine hK.out _ _ e1 (fun hHeld2 => ?_)
      clear hK K hHeld
      have hHeld := hHeld2
      clear hHeld2
      (try simp only [Act.put, List.setIfInBounds_toArray, List.set_cons_zero, List.set_cons_succ])
      refine takeL 11 (v := ?_) rfl (by kernel_rfl) (by kernel_rfl) (by kernel_rfl) (fun _ _ _ h => h) (by rfl) (by assumption) ?_ ?_
      rotate_left 1
      · (intro w hSw; (try dsimp only at hSw); go_simp; all_goals with_reducible rfl)
      simp only [Act.put, List.setIfInBounds_toArray, List.set_cons_zero, List.set_cons_succ]
      refine takeL 12 (v := ?_) rfl (by kernel_rfl) (by kernel_rfl) (by kernel_rfl) (fun _ _ _ h => h) (by rfl) (by assumption) ?_ ?_
      rotate_left 1
      · (intro w hSw; (try dsimp only at hSw); go_simp; all_goals with_reducible rfl)
      simp only [Act.put, List.setIfInBounds_toArray, List.set_cons_zero, List.set_cons_succ]
      refine doneL (by kernel_rfl) (last_go ?_)
      clear hHeld CP hd2
      obtain ⟨q, hq⟩ : ∃ q, putR s.kns v.2 sec c = q := ⟨_, rfl⟩
      have HQ := hide hq
      rw [hq]
      clear hq
      have D3 : Hid (OpD w (w2.setCell ⟨g, k * 2 + 1, none⟩ (.int .i64 q)) p ⟨s.vols.set k (v.1, q), putL s.kns v.2 sec c, s.next⟩ kv' (.slice (some ⟨g, 0, none⟩) n vc)) := by
        have hh := HD2.out
        rw [← HNN.out] at hh ⊢
        exact hh.setRoot HK.out q
      obtain ⟨-, -, e3, -, -, f3⟩ := ops_cells D3.out.2.2.1
      simp only at e3
      obtain ⟨nx, hnx⟩ : ∃ nx, s.next = nx := ⟨_, rfl⟩
      have HNX := hide hnx
      rw [hnx] at e3
      clear hnx
      have FIN : Hid (∀ m, (if nx < c + 1 then c + 1 else nx) = m → PcOut w p s id sec c (.returned (.bool true)) ((w2.setCell ⟨g, k * 2 + 1, none⟩ (.int .i64 q)).setCell ⟨p, 2, none⟩ (.int .i64 m))) := fun m hm => by
        refine .inr ⟨HCM.out, k, v, HO.out, HK.out, rfl, ?_⟩
        have := (D3.out.setNext m).s
        rw [putS, HQ.out, HNX.out, hm]
        exact this
      by_cases hmx : nx < c + 1
      · have F2 := hide (FIN.out (c + 1) (if_pos hmx))
        go_wp2
        go_ret
        exact F2.out
      · have F2 := hide (FIN.out nx (if_neg hmx))
        go_wp2
        go_ret
        exact F2.out
end Go.Proofs.YtcnaahajaaifjacGreat

/-
  roots, of a store that is worked on.
-/
namespace Go.Proofs.YtcnaahajaaifjacGreat
open Go.RowKit
open Words

set_option maxHeartbeats 1000000 in
set_option maxRecDepth 100000 in
theorem irootsO (p : Nat) (s : Sto) (w W : World) (hn : s.vols.length ≤ 1048576) (h : OpS w W p s) :
    Calls Tryz.prog 70 #[.pointer (some ⟨p, 0, none⟩)] W (IOut W (rootsV s.vols)) := by
  obtain ⟨i0, hi, hz0, hz1, hz2⟩ := info_parts infoInt
  obtain ⟨ad, len, cap, rs, va, vl, vc, hc, e1, hl, hll, hk, hv, ho, hvl, hkh⟩ := h.open
  obtain ⟨c0, c1, c2, -⟩ := ops_cells hc
  have HO := hide h
  have HVL := hide hvl
  have HP := hide h.lt
  have HVR := hide hv
  rw [hvl] at hn
  clear h hc e1 hl hll hk hv ho hvl hkh c0 c2
  go_enter Tryz.func70, Tryz.ntmps70
  go_wp2_with (at_make; refine wpList_make_full _ rfl _ _ 81 rfl W.heap.size 3 i0 (.int .i64 0) 1 Tryz.underlying81 hi hz0 hz1 .i64 .i64 _ _ vl rfl rfl rfl rfl (by rw [hz2]; omega) (by unfold maxLen; omega) (by simp) ?_)
  intro w1 hown hgrow
  rw [toList_madeCells_one, icells_rep] at hown
  have B1 : Hid (Below W.heap.size W w1) := (Below.refl _ _).grown hgrow (Nat.le_refl _) (fun k hk => by cases hk)
  have O1 := hide hown
  have d1 := (B1.out.cell (show p < W.heap.size from HP.out)).trans c1
  have VR1 := hide (HVR.out.below B1.out)
  have P1 : Hid (p < w1.heap.size) := by have := B1.out.size; have := HP.out; show _ < _; omega
  have HG : Hid (W.heap.size < w1.heap.size) := (own_kind hown W.heap.size rfl).2.1
  clear hown hgrow hi hz0 hz1 hz2
  obtain ⟨g, hg⟩ : ∃ g, W.heap.size = g := ⟨_, rfl⟩
  have HGW := hide hg
  rw [hg] at O1 HG ⊢
  clear hg c1
  have ST : Hid (w1.ownsRow g 3 1 (.slice (some ⟨g, 0, none⟩) vl vl) vl (icells ((rootsV s.vols).take 0 ++ (List.replicate vl 0).drop 0)) ∧ Below W.heap.size W w1) := ⟨O1.out, B1.out⟩
  clear O1
  go_wp2_with fail
  go_loopw [17] (fun kv V => ∃ k : Nat, k ≤ vl ∧ kv = .int .i64 k ∧ Hid (V.ownsRow g 3 1 (.slice (some ⟨g, 0, none⟩) vl vl) vl (icells ((rootsV s.vols).take k ++ (List.replicate vl 0).drop k)) ∧ Below W.heap.size W V)) (fun kv _ => vl - (intOf kv).toNat)
  case atStart => exact ⟨0, Nat.zero_le _, rfl, ST⟩
  case round =>
    obtain ⟨k, hk, rfl, HS⟩ := hrel
    clear ST
    by_cases hlt : (k : Int) < vl
    · have hkv : k < vl := by omega
      obtain ⟨v, hv⟩ : ∃ v, s.vols[k]? = some v := ⟨_, List.getElem?_eq_getElem (by have := HVL.out; omega)⟩
      obtain ⟨b, off, e, hb, c0, c1⟩ := (HVR.out.below HS.out.2).at hv
      subst e
      have k0 : (0 : Int) ≤ k := by omega
      have oc : wr.cell? ⟨g, k, none⟩ = some (.int .i64 0) := by
        rw [← addr_at]
        refine HS.out.1.cells (g := g) rfl k _ (icells_get ?_)
        rw [part_at (by rw [rootsV, List.length_map, HVL.out]; exact hkv), List.getElem?_replicate, if_pos hkv]
      have of : wr.frozen? ⟨g, k, none⟩ = false := by
        obtain ⟨-, -, cs, q⟩ := own_kind HS.out.1 g rfl
        exact frozen_of_row _ _ k _ _ q
      obtain ⟨x0, x1⟩ := v
      simp only at c0 c1
      have hgw : g < wr.heap.size := (own_kind HS.out.1 g rfl).2.1
      have BA2 : Below wr.heap.size wr (wr.alloc (.cells #[.int .i64 x0, .int .i64 x1] 69)) := (Below.refl _ _).alloc (Nat.le_refl _) _
      have oc2 := (BA2.cell (show g < wr.heap.size from hgw)).trans oc
      have of2 := (BA2.frozen (p := ⟨g, k, none⟩) (show g < wr.heap.size from hgw)).trans of
      clear BA2
      have NX : Hid (((wr.setCell ⟨g, k, none⟩ (.int .i64 x1)).alloc (.cells #[.int .i64 x0, .int .i64 x1] 69)).ownsRow g 3 1 (.slice (some ⟨g, 0, none⟩) vl vl) vl (icells ((rootsV s.vols).take (k + 1) ++ (List.replicate vl 0).drop (k + 1))) ∧ Below W.heap.size W ((wr.setCell ⟨g, k, none⟩ (.int .i64 x1)).alloc (.cells #[.int .i64 x0, .int .i64 x1] 69))) := by
        have hg := HGW.out
        have h1 := fown_set HS.out.1 rfl k (.int .i64 x1)
        rw [icells_set, part_set (v := x1) (by rw [rootsV, List.getElem?_map, hv]; rfl) (by rw [rootsV, List.length_map, HVL.out]; simp)] at h1
        have h2 : Below W.heap.size W (wr.setCell ⟨g, k, none⟩ (.int .i64 x1)) := HS.out.2.setCell (p := ⟨g, k, none⟩) (by show _ ≤ g; omega) _
        exact ⟨own_below h1 ((Below.refl _ _).alloc (Nat.le_refl _) _), h2.alloc h2.size _⟩
      clear hv HS
      go_wp2
      go_roundw
      case rel => exact ⟨k + 1, by omega, by go_num, NX⟩
      case measure => simp [intOf]; omega
    · have ek : k = vl := by omega
      subst ek
      have FIN : Hid (wr.ownsRow W.heap.size 3 1 (.slice (some ⟨g, 0, none⟩) k k) (rootsV s.vols).length (icells (rootsV s.vols)) ∧ Below W.heap.size W wr) := by
        refine ⟨?_, HS.out.2⟩
        have h1 := HS.out.1
        have e : (rootsV s.vols).length = k := by rw [rootsV, List.length_map, HVL.out]
        rw [List.take_of_length_le (by omega)] at h1
        have e2 : (List.replicate k (0 : Int)).drop k = [] := by simp
        rw [e2, List.append_nil] at h1
        rw [e, HGW.out]
        exact h1
      clear HS
      go_wp2
      go_ret
      exact ⟨_, rfl, FIN.out.1, FIN.out.2⟩
end Go.Proofs.YtcnaahajaaifjacGreat

/-
  sweepTrees.
-/
namespace Go.Proofs.YtcnaahajaaifjacGreat
open Go.RowKit
open Words

/-- The roots under way. -/
def StS (w V : World) (p : Nat) (vs : List (Int × Int)) (K : List Kn) (nx : Int) (kv vv iv : Value) (R : List Int) (lo1 hi1 lo2 hi2 : Nat) : Prop :=
  Below w.heap.size w V ∧ V.heap[p]? = some (.cells #[kv, vv, .int .i64 nx] 96 (0, 0)) ∧ V.ownsRow w.heap.size 69 2 vv vs.length (vlcells vs) ∧ Kns lo1 hi1 kv K V ∧ Sli 3 lo2 hi2 iv R.length (icells R) V ∧ hi1 ≤ V.heap.size
theorem StS.root {w V : World} {p g k cap : Nat} {vs : List (Int × Int)} {K : List Kn} {nx : Int} {kv iv : Value} {R : List Int} {lo1 hi1 lo2 hi2 n : Nat} {v : Int × Int} (hn : vs.length = n) (h : StS w V p vs K nx kv (.slice (some ⟨g, 0, none⟩) n cap) iv R lo1 hi1 lo2 hi2) (hk : vs[k]? = some v) (r : Int) : StS w (V.setCell ⟨g, k * 2 + 1, none⟩ (.int .i64 r)) p (vs.set k (v.1, r)) K nx kv (.slice (some ⟨g, 0, none⟩) n cap) iv R lo1 hi1 lo2 hi2 := by
  obtain ⟨h1, h2, h3, h4, h5, h6⟩ := h
  rw [hn] at h3
  obtain ⟨q1, q2, cs, q3⟩ := own_kind h3 g rfl
  have hne : p ≠ g := fun e => by
    rw [e, q3] at h2
    injection h2 with h2
    injection h2 with _ h2
    simp at h2
  obtain ⟨rs, e, hx⟩ := h4
  refine ⟨h1.setCell (p := ⟨g, k * 2 + 1, none⟩) q1 _, row_set_ne h2 hne _ _, ?_, ⟨rs, e, hx.other q3 (by decide) (by decide)⟩, h5.other q3 (by decide), by simpa [World.setCell] using h6⟩
  have := fown_set h3 rfl (k * 2 + 1) (.int .i64 r)
  rw [vlcells_set hk] at this
  rw [List.length_set, hn]
  exact this
set_option maxHeartbeats 1000000 in
set_option maxRecDepth 100000 in
theorem isweepT (p : Nat) (s : Sto) (w W : World) (hn : s.vols.length ≤ 1048576) (h : OpS w W p s) :
    Calls Tryz.prog 47 #[.pointer (some ⟨p, 0, none⟩)] W fun e w' => e = .returned (.tuple #[]) ∧ OpT w w' p (sweptS s) := by
  obtain ⟨kv, vv, hd⟩ := h.d
  have HS := hide h
  have HD := hide hd
  have HP := hide h.lt
  have HN := hide hn
  have BD : Hid (Below W.heap.size W W.drew) := (Below.refl _ _).drew
  have CR := hide (irootsO p s w W.drew hn (h.below BD.out))
  obtain ⟨qs, hqs⟩ : ∃ qs, rootsV s.vols = qs := ⟨_, rfl⟩
  have HQ := hide hqs
  have HQL : Hid (qs.length = s.vols.length) := by show _ = _; rw [← hqs, rootsV, List.length_map]
  rw [hqs] at CR
  clear hqs h hd hn
  go_enter Tryz.func47, Tryz.ntmps47
  go_wp2_with fail
  go_region_held3 (fun _ => True) (trivial) (first
    | (go_at_call 70; (with_reducible refine Calls.mono CR.out ?_); rintro en w1 ⟨rv, rfl, ro, b1⟩; (obtain ⟨ra, rc, hrv, hra, hrow⟩ := ISl.of (Sli.of ro) (by have := HQL.out; have := HN.out; unfold maxLen; omega) (Nat.le_refl _)); subst hrv; have CW := hide (isweepA p s kv vv ra qs.length rc qs w w1 (by have := HQL.out; have := HN.out; omega) hra hrow (HD.out.below (BD.out.trans (b1.mono BD.out.size)))); have B1 := hide (BD.out.trans (b1.mono BD.out.size)); clear CR ro hra hrow b1)
    | (go_at_call 69; (with_reducible refine Calls.mono CW.out ?_); rintro en w2 ⟨kv', iv, lo1, hi1, lo2, hi2, rfl, b2, h2, o2, k2, s2, q1, q2, q3, q4⟩; (obtain ⟨ia, ic, hiv, -⟩ := s2.form); subst hiv; have ST : Hid (StS w w2 p s.vols (sweepL s.kns qs) s.next kv' vv (.slice ia (sweepR s.kns qs).length ic) (sweepR s.kns qs) lo1 hi1 lo2 hi2) := ⟨b2, h2, o2, k2, s2, q2⟩; clear b2 h2 o2 k2 s2 q2 CW))
  have HPN := hide HD.out.2.1
  have HVB : Hid (∀ g, vv.ownBlock = some g → g < lo1) := fun g hg => by
    have h1 := (HD.out.2.2.2.1.lt g hg).2
    have h2 := B1.out.size
    omega
  have HLO : Hid (w.heap.size ≤ lo1) := by
    have h1 := HD.out.1.size
    have h2 := B1.out.size
    show _ ≤ _
    omega
  have EK : Hid ((sweptS s).kns = sweepL s.kns qs ∧ (sweptS s).vols = List.zipWith (fun v r => (v.1, r)) s.vols (sweepR s.kns qs) ∧ (sweptS s).next = s.next) := by
    rw [← HQ.out]
    exact ⟨rfl, rfl, rfl⟩
  have HRL : Hid (s.vols.length = (sweepR s.kns qs).length) := by show _ = _; rw [swR_len]; exact HQL.out.symm
  obtain ⟨R, hR⟩ : ∃ R, sweepR s.kns qs = R := ⟨_, rfl⟩
  rw [hR] at ST EK HRL ⊢
  clear hR
  obtain ⟨n, hnn⟩ : ∃ n, R.length = n := ⟨_, rfl⟩
  have HNN := hide hnn
  rw [hnn] at HRL ST ⊢
  have hnb : n ≤ 1048576 := by have := HRL.out; have := HN.out; omega
  clear hnn
  obtain ⟨va, vc, hvv, -⟩ := (Sli.of ST.out.2.2.1).form
  subst hvv
  have ST0 : Hid (StS w w2 p (rtK s.vols R 0) (sweepL s.kns qs) s.next kv' (.slice va s.vols.length vc) (.slice ia n ic) R lo1 hi1 lo2 hi2) := by
    have e : rtK s.vols R 0 = s.vols := by simp [rtK]
    rw [e]
    exact ST.out
  rw [HRL.out] at ST0 HVB
  clear ST HS HD
  go_wp2_with fail
  go_loopw [11] (fun jv V => ∃ k : Nat, k ≤ n ∧ jv = .int .i64 k ∧ Hid (StS w V p (rtK s.vols R k) (sweepL s.kns qs) s.next kv' (.slice va n vc) (.slice ia n ic) R lo1 hi1 lo2 hi2 ∧ hi2 ≤ V.heap.size)) (fun jv _ => n - (intOf jv).toNat)
  case atStart => exact ⟨0, Nat.zero_le _, rfl, ST0.out, q4⟩
  case round =>
    obtain ⟨k, hk, rfl, HT⟩ := hrel
    clear ST0
    by_cases hlt : (k : Int) < n
    · obtain ⟨v, hv⟩ : ∃ v, s.vols[k]? = some v := ⟨_, List.getElem?_eq_getElem (by have := HRL.out; omega)⟩
      obtain ⟨r, hr⟩ : ∃ r, R[k]? = some r := ⟨_, List.getElem?_eq_getElem (by have := HNN.out; omega)⟩
      have hle : s.vols.length = R.length := by rw [HNN.out]; exact HRL.out
      have hat := rtK_at hle (show k < s.vols.length by have := HRL.out; omega)
      rw [hv] at hat
      have hlen := rtK_len s.vols R k hle (by have := HRL.out; omega)
      rw [HRL.out] at hlen
      obtain ⟨g, hva, hglo, hgl⟩ : ∃ g, va = some ⟨g, 0, none⟩ ∧ w.heap.size ≤ g ∧ g < wr.heap.size := by
        obtain ⟨va', vc', e, hh⟩ := (Sli.of HT.out.1.2.2.1).form
        injection e with e1 e2 e3
        obtain ⟨g, e4, e5, e6⟩ := hh (by rw [hlen]; omega)
        exact ⟨g, by rw [e1, e4], e5, e6⟩
      subst hva
      obtain ⟨-, c1, -, -⟩ := ops_cells HT.out.1.2.1
      have NX := hide (HT.out.1.root hlen hat r)
      rw [rtK_succ hle hv hr] at NX
      have HO := hide HT.out.1.2.2.1
      rw [hlen] at HO
      have oc : wr.cell? ⟨g, k * 2 + 1, none⟩ = some (.int .i64 v.2) := by
        rw [← addr_at]
        exact HO.out.cells (g := g) rfl _ _ (vlcells_at _ k v hat 1 _ rfl)
      have of : wr.frozen? ⟨g, k * 2 + 1, none⟩ = false := by
        obtain ⟨-, -, cs, q⟩ := own_kind HO.out g rfl
        exact frozen_of_row _ _ _ _ _ q
      have hsl := HT.out.1.2.2.2.2.1
      rw [HNN.out] at hsl
      obtain ⟨ig, hig⟩ : ∃ ig, ia = some ⟨ig, 0, none⟩ := by
        obtain ⟨ia', ic', e, hh⟩ := hsl.form
        injection e with e1 e2 e3
        obtain ⟨ig, e4, -⟩ := hh (by omega)
        exact ⟨ig, by rw [e1, e4]⟩
      subst hig
      have rc2 : wr.cell? ⟨ig, k, none⟩ = some (.int .i64 r) := hsl.flt.cell (icells_get hr)
      have HH : Hid (hi2 ≤ (wr.setCell ⟨g, k * 2 + 1, none⟩ (.int .i64 r)).heap.size) := by
        have := HT.out.2
        show _ ≤ _
        simpa [World.setCell] using this
      have k0 : (0 : Int) ≤ k := by omega
      clear hv hr hle hat hlen hsl HO HT
      go_wp2
      go_roundw
      case rel => exact ⟨k + 1, by omega, by go_num, NX.out, HH.out⟩
      case measure => simp [intOf]; omega
    · have ek : k = n := by omega
      subst ek
      have FIN : Hid (OpT w wr p (sweptS s)) := by
        have h := HT.out.1
        have hle : s.vols.length = R.length := by rw [HNN.out]; exact HRL.out
        have e : rtK s.vols R k = (sweptS s).vols := by rw [EK.out.2.1, ← rtK_all hle, HRL.out]
        rw [e] at h
        obtain ⟨h1, h2, h3, h4, h5, h6⟩ := h
        have h7 := (Array.getElem?_eq_some_iff.1 h2).1
        refine ⟨h1, HPN.out, h7, kv', .slice va k vc, ?_⟩
        rcases Sli.of h3 with ⟨e1, e2⟩ | ⟨g, cap, e1, e2, e3, e4⟩
        · refine ⟨w.heap.size, w.heap.size, lo1, hi1, by rw [EK.out.2.2]; exact h2, .inl ⟨e1, e2⟩, by rw [EK.out.1]; exact h4, Nat.le_refl _, h1.size, HLO.out, h6, .inl HLO.out⟩
        · have hg := HVB.out g (by rw [e1]; rfl)
          refine ⟨g, g + 1, lo1, hi1, by rw [EK.out.2.2]; exact h2, .inr ⟨g, cap, e1, Nat.le_refl _, by omega, e4⟩, by rw [EK.out.1]; exact h4, e2, by omega, HLO.out, h6, .inl (by omega)⟩
      clear HT
      go_wp2
      exact bodyPost_end (results_none rfl _ _ _) rfl ⟨rfl, FIN.out⟩
end Go.Proofs.YtcnaahajaaifjacGreat
