/-
  IPutA; IIdxF; IDel
-/
import Derived.Test.YtcnaahajaaifjacGreatPk34
import Derived.Test.YtcnaahajaaifjacGreatIPut
import Derived.Test.YtcnaahajaaifjacGreatISweep
import Derived.Test.YtcnaahajaaifjacGreatPk28
/-
  put and sweep, of an arena behind a pointer.
-/
namespace Go.Proofs.YtcnaahajaaifjacGreat
open Go.RowKit
open Words

/-- A store that is worked on, its two rows by name. -/
def OpD (w W : World) (p : Nat) (s : Sto) (kv vv : Value) : Prop :=
  Below w.heap.size w W ∧ w.heap.size ≤ p ∧ W.heap[p]? = some (.cells #[kv, vv, .int .i64 s.next] 96 (0, 0)) ∧ W.ownsRow w.heap.size 69 2 vv s.vols.length (vlcells s.vols) ∧ KnH w W kv s.kns
theorem OpS.d {w W : World} {p : Nat} {s : Sto} (h : OpS w W p s) : ∃ kv vv, OpD w W p s kv vv := by
  obtain ⟨h1, h2, kv, vv, h3⟩ := h
  exact ⟨kv, vv, h1, h2, h3⟩
theorem OpD.s {w W : World} {p : Nat} {s : Sto} {kv vv : Value} (h : OpD w W p s kv vv) : OpS w W p s := ⟨h.1, h.2.1, kv, vv, h.2.2⟩
theorem OpD.below {w W W' : World} {p : Nat} {s : Sto} {kv vv : Value} (h : OpD w W p s kv vv) (hb : Below W.heap.size W W') : OpD w W' p s kv vv := by
  obtain ⟨h1, h2, h3, h4, h5⟩ := h
  have hp := (Array.getElem?_eq_some_iff.1 h3).1
  exact ⟨h1.trans (hb.mono h1.size), h2, (hb.block p hp).trans h3, own_below h4 hb, h5.below hb⟩
theorem OpD.lt {w W : World} {p : Nat} {s : Sto} {kv vv : Value} (h : OpD w W p s kv vv) : p < W.heap.size := (Array.getElem?_eq_some_iff.1 h.2.2.1).1
theorem OpD.setKns {w W : World} {p : Nat} {s : Sto} {kv vv kv' : Value} {M : List Kn} (h : OpD w W p s kv vv) (hk : KnH w W kv' M) : OpD w (W.setCell ⟨p, 0, none⟩ kv') p ⟨s.vols, M, s.next⟩ kv' vv := by
  obtain ⟨h1, h2, h3, h4, h5⟩ := h
  exact ⟨h1.setCell (p := ⟨p, 0, none⟩) h2 _, h2, row_set h3 0 _, own_other h4 h3 (by decide), hk.other h3 (by decide) (by decide)⟩
theorem OpD.setVols {w W : World} {p : Nat} {s : Sto} {kv vv vv' : Value} {vs : List (Int × Int)} (h : OpD w W p s kv vv) (ho : W.ownsRow w.heap.size 69 2 vv' vs.length (vlcells vs)) : OpD w (W.setCell ⟨p, 1, none⟩ vv') p ⟨vs, s.kns, s.next⟩ kv vv' := by
  obtain ⟨h1, h2, h3, h4, h5⟩ := h
  exact ⟨h1.setCell (p := ⟨p, 1, none⟩) h2 _, h2, row_set h3 1 _, own_other ho h3 (by decide), h5.other h3 (by decide) (by decide)⟩
theorem OpD.setNext {w W : World} {p : Nat} {s : Sto} {kv vv : Value} (h : OpD w W p s kv vv) (n : Int) : OpD w (W.setCell ⟨p, 2, none⟩ (.int .i64 n)) p ⟨s.vols, s.kns, n⟩ kv vv := by
  obtain ⟨h1, h2, h3, h4, h5⟩ := h
  exact ⟨h1.setCell (p := ⟨p, 2, none⟩) h2 _, h2, row_set h3 2 _, own_other h4 h3 (by decide), h5.other h3 (by decide) (by decide)⟩
/-- A volume's root is written. -/
theorem OpD.setRoot {w W : World} {p g k cap : Nat} {s : Sto} {kv : Value} {v : Int × Int} (h : OpD w W p s kv (.slice (some ⟨g, 0, none⟩) s.vols.length cap)) (hk : s.vols[k]? = some v) (r : Int) : OpD w (W.setCell ⟨g, k * 2 + 1, none⟩ (.int .i64 r)) p ⟨s.vols.set k (v.1, r), s.kns, s.next⟩ kv (.slice (some ⟨g, 0, none⟩) s.vols.length cap) := by
  obtain ⟨h1, h2, h3, h4, h5⟩ := h
  obtain ⟨q1, q2, cs, q3⟩ := own_kind h4 g rfl
  have hne : p ≠ g := fun e => by
    rw [e, q3] at h3
    injection h3 with h3
    injection h3 with _ h3
    simp at h3
  refine ⟨h1.setCell (p := ⟨g, k * 2 + 1, none⟩) q1 _, h2, row_set_ne h3 hne _ _, ?_, h5.other q3 (by decide) (by decide)⟩
  have := fown_set h4 rfl (k * 2 + 1) (.int .i64 r)
  rw [vlcells_set hk] at this
  show World.ownsRow _ _ _ _ _ (s.vols.set k (v.1, r)).length _
  rw [List.length_set]
  exact this

theorem putL_len (L : List Kn) (r s n : Int) : (putL L r s n).length ≤ L.length + 2 := by
  unfold putL
  split <;> simp
/-- What put answers. -/
def PtOutA (w : World) (p : Nat) (s : Sto) (vv : Value) (r sec n : Int) (e : Ending) (w' : World) : Prop := ∃ kv', e = .returned (.int .i64 (putR s.kns r sec n)) ∧ OpD w w' p ⟨s.vols, putL s.kns r sec n, s.next⟩ kv' vv
set_option maxHeartbeats 1000000 in
set_option maxRecDepth 100000 in
theorem iputA (p : Nat) (s : Sto) (kv vv : Value) (r sec n : Int) (w W : World) (hk4 : ∀ x ∈ putL s.kns r sec n, x.kids.length ≤ 1048576) (hkl : s.kns.length ≤ 1048576) (h : OpD w W p s kv vv) :
    Calls Tryz.prog 87 #[.pointer (some ⟨p, 0, none⟩), .int .i64 r, .int .i64 sec, .int .i64 n] W (PtOutA w p s vv r sec n) := by
  obtain ⟨ad, len, cap, rs, rfl, hks, hl, hll, hrd⟩ := h.2.2.2.2.rd h.1
  obtain ⟨c0, -, -, f0, -⟩ := ops_cells h.2.2.1
  have HD := hide h
  have CP := hide (iput ad len cap rs r sec n W hl hll hrd)
  rw [hks] at CP
  obtain ⟨L', hL'⟩ : ∃ L', putL s.kns r sec n = L' := ⟨_, rfl⟩
  obtain ⟨r', hr'⟩ : ∃ r', putR s.kns r sec n = r' := ⟨_, rfl⟩
  have HLL : Hid (L'.length ≤ 1048578) := by show _ ≤ _; rw [← hL']; have := putL_len s.kns r sec n; omega
  have HK4 := hide hk4
  have HLE := hide hL'
  have HRE := hide hr'
  rw [hL', hr'] at CP
  rw [hL'] at HK4
  clear h hk4 hks hll hrd hL' hr'
  go_enter Tryz.func87, Tryz.ntmps87
  go_wp2_with fail
  refine CP.out.mono ?_
  rintro e w1 ⟨v1, rfl, uv, ss, rfl, ko, hss, b1⟩
  obtain ⟨ua, uc, rfl⟩ := ko.form
  have B1 := hide b1
  have HKO := hide ko
  have HSS := hide hss
  obtain ⟨un, hun⟩ : ∃ un, ss.length = un := ⟨_, rfl⟩
  rw [hun] at HKO ⊢
  have HUN := hide hun
  have d0 := (b1.cell (show p < W.heap.size from HD.out.lt)).trans c0
  have g0 := (b1.frozen (p := ⟨p, 0, none⟩) (show p < W.heap.size from HD.out.lt)).trans f0
  have hpw : p < w1.heap.size := by have := b1.size; have := HD.out.lt; omega
  have BA : Below w1.heap.size w1 (w1.alloc (.cells #[.slice ua un uc] 34)) := (Below.refl _ _).alloc (Nat.le_refl _) _
  have d1 := (BA.cell (show p < w1.heap.size from hpw)).trans d0
  have g1 := (BA.frozen (p := ⟨p, 0, none⟩) (show p < w1.heap.size from hpw)).trans g0
  have FIN : Hid (PtOutA w p s vv r sec n (.returned (.int .i64 r')) ((w1.setCell ⟨p, 0, none⟩ (.slice ua un uc)).alloc (.cells #[.slice ua un uc] 34))) := by
    have D1 := HD.out.below B1.out
    have kh : KnH w w1 (.slice ua un uc) L' := by
      refine ⟨ua, un, uc, ss, rfl, HSS.out, ?_, fun x hx => ?_, .inr ⟨W.heap.size, w1.heap.size, HD.out.1.size, Nat.le_refl _, HKO.out.kns, HUN.out⟩⟩
      · rw [← HUN.out, ← List.length_map (f := ktell), HSS.out]; exact HLL.out
      · exact HK4.out (ktell x) (by rw [← HSS.out]; exact List.mem_map.2 ⟨x, hx, rfl⟩)
    refine ⟨.slice ua un uc, by rw [HRE.out], ?_⟩
    rw [HLE.out]
    exact (D1.setKns kh).below ((Below.refl _ _).alloc (Nat.le_refl _) _)
  clear BA hun hss ko b1 c0 f0 CP
  go_wp2
  go_ret
  exact FIN.out
/-- What sweep answers. -/
def SpOut (w W : World) (p : Nat) (s : Sto) (vv : Value) (qs : List Int) (e : Ending) (w' : World) : Prop :=
  ∃ kv' iv lo1 hi1 lo2 hi2, e = .returned iv ∧ Below w.heap.size w w' ∧ w'.heap[p]? = some (.cells #[kv', vv, .int .i64 s.next] 96 (0, 0)) ∧ w'.ownsRow w.heap.size 69 2 vv s.vols.length (vlcells s.vols) ∧ Kns lo1 hi1 kv' (sweepL s.kns qs) w' ∧ Sli 3 lo2 hi2 iv (sweepR s.kns qs).length (icells (sweepR s.kns qs)) w' ∧ W.heap.size ≤ lo1 ∧ hi1 ≤ w'.heap.size ∧ W.heap.size ≤ lo2 ∧ hi2 ≤ w'.heap.size
set_option maxHeartbeats 1000000 in
set_option maxRecDepth 100000 in
theorem isweepA (p : Nat) (s : Sto) (kv vv : Value) (ra : Option Addr) (m rc : Nat) (qs : List Int) (w W : World) (hm : m ≤ 1048576) (hra : ra = none → rc = 0) (hq : IRow W ra m qs) (h : OpD w W p s kv vv) :
    Calls Tryz.prog 69 #[.pointer (some ⟨p, 0, none⟩), .slice ra m rc] W (SpOut w W p s vv qs) := by
  obtain ⟨ad, len, cap, rs, rfl, hks, hl, hll, hrd⟩ := h.2.2.2.2.rd h.1
  obtain ⟨c0, -, -, f0, -⟩ := ops_cells h.2.2.1
  have HD := hide h
  have CP := hide (isweep ad len cap rs ra m rc qs W hl hm hll hrd hra hq)
  rw [hks] at CP
  clear h hks hll hrd hq hra
  go_enter Tryz.func69, Tryz.ntmps69
  go_wp2_with fail
  refine CP.out.mono ?_
  rintro e w1 ⟨uv, iv, lo1, hi1, lo2, hi2, rfl, hkn, hsl, q1, q2, q3, q4, q5, b1⟩
  obtain ⟨ua, uc, rfl⟩ := hkn.form
  obtain ⟨ia, ic, rfl, -⟩ := hsl.form
  have B1 := hide b1
  have HKN := hide hkn
  have HSL := hide hsl
  obtain ⟨un, hun⟩ : ∃ un, (sweepL s.kns qs).length = un := ⟨_, rfl⟩
  obtain ⟨inn, hin⟩ : ∃ inn, (sweepR s.kns qs).length = inn := ⟨_, rfl⟩
  rw [hun] at HKN ⊢
  rw [hin]
  have HIN := hide hin
  have d0 := (b1.cell (show p < W.heap.size from HD.out.lt)).trans c0
  have g0 := (b1.frozen (p := ⟨p, 0, none⟩) (show p < W.heap.size from HD.out.lt)).trans f0
  have hpw : p < w1.heap.size := by have := b1.size; have := HD.out.lt; omega
  have BA : Below w1.heap.size w1 (w1.alloc (.cells #[.slice ua un uc] 34)) := (Below.refl _ _).alloc (Nat.le_refl _) _
  have d1 := (BA.cell (show p < w1.heap.size from hpw)).trans d0
  have g1 := (BA.frozen (p := ⟨p, 0, none⟩) (show p < w1.heap.size from hpw)).trans g0
  have FIN : Hid (SpOut w W p s vv qs (.returned (.slice ia inn ic)) ((w1.setCell ⟨p, 0, none⟩ (.slice ua un uc)).alloc (.cells #[.slice ua un uc] 34))) := by
    have D1 := HD.out.below B1.out
    have hz : (w1.setCell ⟨p, 0, none⟩ (.slice ua un uc)).heap.size = w1.heap.size := by simp [World.setCell]
    have bs := D1.1.setCell (p := ⟨p, 0, none⟩) D1.2.1 (.slice ua un uc)
    have b2 : Below (w1.setCell ⟨p, 0, none⟩ (.slice ua un uc)).heap.size (w1.setCell ⟨p, 0, none⟩ (.slice ua un uc)) ((w1.setCell ⟨p, 0, none⟩ (.slice ua un uc)).alloc (.cells #[.slice ua un uc] 34)) := (Below.refl _ _).alloc (Nat.le_refl _) _
    have hz2 := b2.size
    have far : ∀ q, W.heap.size ≤ q → q < w1.heap.size → ((w1.setCell ⟨p, 0, none⟩ (.slice ua un uc)).alloc (.cells #[.slice ua un uc] 34)).heap[q]? = w1.heap[q]? := fun q h1 h2 => (b2.block q (by omega)).trans (Below.heap_setCell _ _ _ _ (show q ≠ p by have := HD.out.lt; omega))
    refine ⟨_, _, lo1, hi1, lo2, hi2, rfl, bs.trans (b2.mono bs.size), (b2.block p (by omega)).trans (row_set D1.2.2.1 0 _), own_below (own_other D1.2.2.2.1 D1.2.2.1 (by decide)) b2, ?_, ?_, q1, by omega, q3, by omega⟩
    · exact Kns.loc _ _ _ _ _ _ (fun q h1 h2 => far q (by omega) (by omega)) HKN.out
    · have := Sli.loc _ _ _ _ _ _ w1 _ (fun q h1 h2 => far q (by omega) (by omega)) HSL.out
      rw [HIN.out] at this ⊢
      exact this
  clear BA hun hin hkn hsl b1 c0 f0 CP
  go_wp2
  go_ret
  exact FIN.out
end Go.Proofs.YtcnaahajaaifjacGreat

/-
  slices.IndexFunc, slices.DeleteFunc of volumes, with the program's own questions.
-/
namespace Go.Proofs.YtcnaahajaaifjacGreat
open Go.RowKit
open Words

/-- The first volume that a question takes. -/
def fstK (f : (Int × Int) → Bool) (l : List (Int × Int)) (k : Nat) : Prop := ∀ j v, j < k → l[j]? = some v → f v = false
/-- What IndexFunc answers. -/
def IxF (f : (Int × Int) → Bool) (l : List (Int × Int)) (e : Ending) : Prop := (∃ (k : Nat) (v : Int × Int), e = .returned (.int .i64 k) ∧ l[k]? = some v ∧ f v = true ∧ fstK f l k) ∨ (e = .returned (.int .i64 (-1)) ∧ fstK f l l.length)
set_option maxHeartbeats 1000000 in
set_option maxRecDepth 100000 in
theorem iindexF (F : Nat) (fv : Value) (fs : Array Value) (f : (Int × Int) → Bool) (va : Option Addr) (vl vc : Nat) (vs : List (Int × Int)) (w : World) (hfv : fv = .func (.func F) #[] fs) (hF : F = 83 ∨ F = 86) (cb : Nat) (hfs : fs = #[.pointer (some ⟨cb, 0, none⟩)]) (hvl : vl ≤ 1048576) (hv : VlRow w va vl vs)
    (hf : ∀ W x, Below w.heap.size w W → Calls Tryz.prog F #[.agg #[.int .i64 x.1, .int .i64 x.2], .pointer (some ⟨cb, 0, none⟩)] W fun e w' => e = .returned (.bool (f x)) ∧ Below W.heap.size W w') :
    Calls Tryz.prog 82 #[.slice va vl vc, fv] w fun e w' => IxF f vs e ∧ Below w.heap.size w w' := by
  subst hfv hfs
  have HV := hide hv
  have HVL := hide hv.1
  have HF := hide hf
  clear hv hf
  rcases hF with rfl | rfl
  all_goals
    go_enter Tryz.func82, Tryz.ntmps82
    go_wp2_with fail
    go_loopw [8] (fun kv W => ∃ k : Nat, k ≤ vl ∧ kv = .int .i64 k ∧ Hid (fstK f vs k ∧ Below w.heap.size w W)) (fun kv _ => vl - (intOf kv).toNat)
    case atStart => exact ⟨0, Nat.zero_le _, rfl, (fun j v hj => by omega), Below.refl _ _⟩
    case round =>
      obtain ⟨k, hk, rfl, HS⟩ := hrel
      by_cases hlt : (k : Int) < vl
      · obtain ⟨x, hx⟩ : ∃ x, vs[k]? = some x := ⟨_, List.getElem?_eq_getElem (by have := HVL.out; omega)⟩
        obtain ⟨b, off, e, hb, c0, c1⟩ := (HV.out.below HS.out.2).at hx
        subst e
        have k0 : (0 : Int) ≤ k := by omega
        have HX := hide hx
        have CF := hide (HF.out _ x HS.out.2)
        obtain ⟨x0, x1⟩ := x
        simp only at c0 c1 CF
        clear hx
        go_wp2_with fail
        refine CF.out.mono ?_
        rintro e w1 ⟨rfl, b1⟩
        have B1 := hide (HS.out.2.trans (b1.mono HS.out.2.size))
        clear b1 CF
        by_cases hfx : f (x0, x1) = true
        · rw [hfx]
          have FIN : Hid (IxF f vs (.returned (.int .i64 k))) := .inl ⟨k, _, rfl, HX.out, hfx, HS.out.1⟩
          go_wp2
          go_ret
          exact ⟨FIN.out, B1.out⟩
        · have hff : f (x0, x1) = false := by simpa using hfx
          rw [hff]
          have HS2 : Hid (fstK f vs (k + 1) ∧ Below w.heap.size w w1) := ⟨fun j v hj hv => by
            by_cases e : j = k
            · subst e
              have := HX.out
              rw [this] at hv
              cases hv
              exact hff
            · exact HS.out.1 j v (by omega) hv, B1.out⟩
          go_wp2
          go_roundw
          case rel => exact ⟨k + 1, by omega, by go_num, HS2⟩
          case measure => simp [intOf]; omega
      · have FIN : Hid (IxF f vs (.returned (.int .i64 (-1)))) := .inr ⟨rfl, by
          have := HS.out.1
          have e : k = vs.length := by have := HVL.out; omega
          rw [e] at this
          exact this⟩
        go_wp2
        go_ret
        exact ⟨FIN.out, HS.out.2⟩
set_option maxHeartbeats 400000 in
set_option maxRecDepth 100000 in
theorem iover (x : Int × Int) (cb : Nat) (id : Int) (w : World) (h : w.cell? ⟨cb, 0, none⟩ = some (.int .i64 id)) :
    Calls Tryz.prog 83 #[.agg #[.int .i64 x.1, .int .i64 x.2], .pointer (some ⟨cb, 0, none⟩)] w fun e w' => e = .returned (.bool (decide (id < x.1))) ∧ Below w.heap.size w w' := by
  obtain ⟨x0, x1⟩ := x
  have hl : cb < w.heap.size := World.block_lt_of_cell? w _ h
  have B0 : Hid (Below w.heap.size w (w.alloc (.cells #[.int .i64 x0, .int .i64 x1] 69))) := (Below.refl _ _).alloc (Nat.le_refl _) _
  have h2 := (B0.out.cell (show cb < w.heap.size from hl)).trans h
  by_cases hx : id < x0
  · go_enter Tryz.func83, Tryz.ntmps83
    go_wp2
    go_ret
    exact ⟨by rw [decide_eq_true (by omega)]; rfl, B0.out⟩
  · go_enter Tryz.func83, Tryz.ntmps83
    go_wp2
    go_ret
    exact ⟨by rw [decide_eq_false (by omega)]; rfl, B0.out⟩
set_option maxHeartbeats 400000 in
set_option maxRecDepth 100000 in
theorem ithat (x : Int × Int) (cb : Nat) (id : Int) (w : World) (h : w.cell? ⟨cb, 0, none⟩ = some (.int .i64 id)) :
    Calls Tryz.prog 86 #[.agg #[.int .i64 x.1, .int .i64 x.2], .pointer (some ⟨cb, 0, none⟩)] w fun e w' => e = .returned (.bool (decide (x.1 = id))) ∧ Below w.heap.size w w' := by
  obtain ⟨x0, x1⟩ := x
  have hl : cb < w.heap.size := World.block_lt_of_cell? w _ h
  have B0 : Hid (Below w.heap.size w (w.alloc (.cells #[.int .i64 x0, .int .i64 x1] 69))) := (Below.refl _ _).alloc (Nat.le_refl _) _
  have h2 := (B0.out.cell (show cb < w.heap.size from hl)).trans h
  by_cases hx : (x0 == id) = true
  · have e : x0 = id := by simpa using hx
    subst e
    go_enter Tryz.func86, Tryz.ntmps86
    go_wp2
    go_ret
    exact ⟨rfl, B0.out⟩
  · have e : ¬ x0 = id := by simpa using hx
    have hxf : (x0 == id) = false := by simpa using hx
    have E := hide e
    clear e hx
    go_enter Tryz.func86, Tryz.ntmps86
    go_wp2
    go_ret
    exact ⟨by rw [decide_eq_false E.out]; rfl, B0.out⟩
end Go.Proofs.YtcnaahajaaifjacGreat

/-
  slices.DeleteFunc of volumes.
-/
namespace Go.Proofs.YtcnaahajaaifjacGreat
open Go.RowKit
open Words

/-- A row whose k'th is taken out, m behind it moved. -/
def delK (l : List (Int × Int)) (k m : Nat) : List (Int × Int) := l.take k ++ ((l.drop (k + 1)).take m ++ l.drop (k + m))
theorem del_zero (l : List (Int × Int)) (k : Nat) : delK l k 0 = l := by simp [delK]
theorem del_len {l : List (Int × Int)} {k m : Nat} (h : k + 1 + m ≤ l.length) : (delK l k m).length = l.length := by simp [delK]; omega
theorem del_at {l : List (Int × Int)} {k m : Nat} (h : k + 1 + m < l.length) : (delK l k m)[k + 1 + m]? = l[k + 1 + m]? := by
  rw [delK, List.getElem?_append_right (by simp; omega), List.getElem?_append_right (by simp; omega), List.getElem?_drop]
  congr 1
  simp
  omega
theorem del_set {l : List (Int × Int)} {k m : Nat} {v : Int × Int} (hv : l[k + 1 + m]? = some v) : (delK l k m).set (k + m) v = delK l k (m + 1) := by
  obtain ⟨hl, e⟩ := List.getElem?_eq_some_iff.1 hv
  have h1 : (l.take k).length = k := by rw [List.length_take]; omega
  have h2 : ((l.drop (k + 1)).take m).length = m := by rw [List.length_take, List.length_drop]; omega
  rw [delK, delK, List.set_append_right _ _ (by omega), h1, List.set_append_right _ _ (by omega), h2, show k + m - k - m = 0 by omega, List.drop_eq_getElem_cons (show k + m < l.length by omega), List.set_cons_zero, List.take_succ_eq_append_getElem (by rw [List.length_drop]; omega)]
  rw [List.getElem_drop, List.append_assoc]
  simp only [List.cons_append, List.nil_append]
  rw [show k + m + 1 = k + (m + 1) by omega]
  congr 3
  rw [← e]
theorem del_end {l : List (Int × Int)} {k m : Nat} (h : k + 1 + m = l.length) : (delK l k m).take (k + m) = l.take k ++ l.drop (k + 1) := by
  have h2 : (l.drop (k + 1)).take m = l.drop (k + 1) := List.take_of_length_le (by rw [List.length_drop]; omega)
  rw [delK, h2, ← List.append_assoc, List.take_left' (by simp; omega)]
theorem vlcells_put2 {L : List (Int × Int)} {i : Nat} (hi : i < L.length) (a b : Int) : ((vlcells L).set (i * 2) (.int .i64 a)).set (i * 2 + 1) (.int .i64 b) = vlcells (L.set i (a, b)) := by
  induction L generalizing i with
  | nil => simp at hi
  | cons x L ih =>
    cases i with
    | zero => rfl
    | succ i =>
      have e : (i + 1) * 2 = i * 2 + 2 := by omega
      have e2 : (i + 1) * 2 + 1 = (i * 2 + 1) + 2 := by omega
      have := ih (i := i) (by simpa using hi)
      rw [e2, e, List.set_cons_succ, vlcells_cons, vlcells_cons, ← this]
      rfl
theorem vlcells_take (L : List (Int × Int)) (k : Nat) : (vlcells L).take (k * 2) = vlcells (L.take k) := by
  induction L generalizing k with
  | nil => simp [vlcells]
  | cons x L ih =>
    cases k with
    | zero => simp [vlcells]
    | succ k =>
      rw [show (k + 1) * 2 = k * 2 + 2 by omega, vlcells_cons, List.take_succ_cons, vlcells_cons, ← ih k]
      rfl
/-- What DeleteFunc holds. -/
def DlSt (W V : World) (lo g n c cb : Nat) (id : Int) (L : List (Int × Int)) : Prop := V.ownsRow lo 69 2 (.slice (some ⟨g, 0, none⟩) n c) n (vlcells L) ∧ W.grownBy V (some g) ∧ V.cell? ⟨cb, 0, none⟩ = some (.int .i64 id)
theorem DlSt.below {W V V' : World} {lo g n c cb : Nat} {id : Int} {L : List (Int × Int)} (h : DlSt W V lo g n c cb id L) (hb : Below V.heap.size V V') : DlSt W V' lo g n c cb id L := by
  obtain ⟨h1, h2, h3⟩ := h
  refine ⟨own_below h1 hb, ?_, (hb.cell (World.block_lt_of_cell? V _ h3)).trans h3⟩
  have hs := h2.size
  exact ⟨hb.os.trans h2.os, hb.tape.trans h2.tape, hb.output.trans h2.output, Nat.le_trans hs hb.size, fun i hi hne => (hb.block i (by omega)).trans (h2.block i hi hne)⟩
theorem cb_ne {V : World} {g cb : Nat} {cs : Array Value} {id : Int} {v : Value} (hg : V.heap[g]? = some (.cells cs 69 (0, 0))) (hc : V.heap[cb]? = some (.cells #[v] 3 (0, 0))) (_ : v = .int .i64 id) : cb ≠ g := fun e => by
  rw [e, hg] at hc
  injection hc with hc
  injection hc with _ hc
  simp at hc
set_option maxHeartbeats 1000000 in
set_option maxRecDepth 100000 in
theorem idelF (lo g n c cb k : Nat) (id : Int) (l : List (Int × Int)) (v : Int × Int) (W : World) (hn : l.length = n) (hn3 : n ≤ 1048576) (ho : W.ownsRow lo 69 2 (.slice (some ⟨g, 0, none⟩) n c) n (vlcells l)) (hcb : W.heap[cb]? = some (.cells #[.int .i64 id] 3 (0, 0))) (hk : l[k]? = some v) (hid : v.1 = id) (hone : ∀ j u, l[j]? = some u → u.1 = id → j = k) :
    Calls Tryz.prog 85 #[.slice (some ⟨g, 0, none⟩) n c, .func (.func 86) #[] #[.pointer (some ⟨cb, 0, none⟩)]] W fun e w' => ∃ c', e = .returned (.slice (some ⟨g, 0, none⟩) (n - 1) c') ∧ w'.ownsRow lo 69 2 (.slice (some ⟨g, 0, none⟩) (n - 1) c') (n - 1) (vlcells (l.take k ++ l.drop (k + 1))) ∧ W.grownBy w' (some g) := by
  obtain ⟨q1, q2, cs0, q3⟩ := own_kind ho g rfl
  have hcg : cb ≠ g := cb_ne q3 hcb rfl
  have hkl := (List.getElem?_eq_some_iff.1 hk).1
  have hcc : W.cell? ⟨cb, 0, none⟩ = some (.int .i64 id) := cell_of_row _ _ 0 _ _ _ hcb
  have hncap : n ≤ c ∧ c ≤ maxLen := by
    rcases ho.2 with ⟨e, -⟩ | ⟨g', cap, cur, e, -, -, h1, h2, -, -⟩
    · cases e
    · injection e with _ _ e
      subst e
      exact ⟨h1, h2⟩
  have hvr := VlRow.of_own hn ho
  obtain ⟨va', vc', e, hvr⟩ := hvr
  injection e with e1 e2 e3
  subst e1 e3
  have HO := hide ho
  have HCG := hide hcg
  have HONE := hide hone
  have HK := hide hk
  have HN := hide hn
  have HID := hide hid
  have CI := hide (iindexF 86 (.func (.func 86) #[] #[.pointer (some ⟨cb, 0, none⟩)]) _ (fun x => decide (x.1 = id)) (some ⟨g, 0, none⟩) n c l W rfl (.inr rfl) cb rfl hn3 hvr (fun W' x H => ithat x cb id W' ((H.cell (World.block_lt_of_cell? W _ hcc)).trans hcc)))
  have HCC := hide hcc
  have hc1 := hncap.1
  have hc2 := hncap.2
  unfold maxLen at hc2
  clear ho hcb hk hid hone hn hcc hvr e2 q1 q2 q3 hcg hncap
  go_enter Tryz.func85, Tryz.ntmps85
  go_wp2_with fail
  refine CI.out.mono ?_
  rintro e w1 ⟨hix, b1⟩
  obtain rfl : e = .returned (.int .i64 k) := by
    rcases hix with ⟨k', v', rfl, h1, h2, -⟩ | ⟨rfl, h1⟩
    · have := HONE.out k' v' h1 (by simpa using h2)
      rw [this]
    · have h2 := h1 k v (by have := HN.out; omega) HK.out
      have h3 : decide (v.1 = id) = false := h2
      rw [decide_eq_true HID.out] at h3
      cases h3
  have S1 : Hid (DlSt W w1 lo g n c cb id (delK l k 0)) := by
    rw [del_zero]
    exact (show DlSt W W lo g n c cb id l from ⟨HO.out, World.grownBy.refl _ _, HCC.out⟩).below b1
  clear hix b1 CI
  have k1 : ((k : Int) == -1) = false := by simp
  have hkn : k < n := by have := HN.out; omega
  go_wp2_with fail
  go_loopw [5, 6] (fun iv jv V => ∃ m : Nat, k + 1 + m ≤ n ∧ iv = .int .i64 (k + m : Nat) ∧ jv = .int .i64 (k + 1 + m : Nat) ∧ Hid (DlSt W V lo g n c cb id (delK l k m))) (fun _ jv _ => n - (intOf jv).toNat)
  case atStart => exact ⟨0, by omega, rfl, by go_num, S1⟩
  case round =>
    obtain ⟨m, hm, rfl, rfl, HS⟩ := hrel
    clear S1
    obtain ⟨i, hi⟩ : ∃ i, k + m = i := ⟨_, rfl⟩
    obtain ⟨j, hj⟩ : ∃ j, k + 1 + m = j := ⟨_, rfl⟩
    have HI := hide hi
    have HJ := hide hj
    rw [hj] at hm
    rw [hi, hj]
    have hij : i + 1 = j := by omega
    have HIJ := hide hij
    clear hi hj hij
    have hdl := del_len (l := l) (k := k) (m := m) (by rw [HJ.out, HN.out]; exact hm)
    rw [HN.out] at hdl
    have HDL := hide hdl
    by_cases hlt : (j : Int) < n
    · obtain ⟨x, hx⟩ : ∃ x, l[j]? = some x := ⟨_, List.getElem?_eq_getElem (by have := HN.out; omega)⟩
      have hat : (delK l k m)[j]? = some x := by
        rw [← HJ.out, del_at (by rw [HJ.out, HN.out]; omega), HJ.out]
        exact hx
      have hset : (delK l k m).set i x = delK l k (m + 1) := by
        rw [← HI.out]
        exact del_set (by rw [HJ.out]; exact hx)
      have hxid : ¬ x.1 = id := fun e => by
        have := HONE.out j x hx e
        have := HJ.out
        omega
      have c0 : wr.cell? ⟨g, j * 2, none⟩ = some (.int .i64 x.1) := by
        rw [← addr_at]
        exact HS.out.1.cells (g := g) rfl (j * 2) _ (by simpa using vlcells_at _ j x hat 0 _ rfl)
      have c1 : wr.cell? ⟨g, j * 2 + 1, none⟩ = some (.int .i64 x.2) := by
        rw [← addr_at]
        exact HS.out.1.cells (g := g) rfl (j * 2 + 1) _ (vlcells_at _ j x hat 1 _ rfl)
      have HAT := hide hset
      have HXI := hide hxid
      obtain ⟨x0, x1⟩ := x
      simp only at c0 c1
      have BA : Hid (Below wr.heap.size wr (wr.alloc (.cells #[.int .i64 x0, .int .i64 x1] 69))) := (Below.refl _ _).alloc (Nat.le_refl _) _
      have S2 := hide (HS.out.below BA.out)
      have j0 : (0 : Int) ≤ j := by omega
      have i0 : (0 : Int) ≤ i := by omega
      have iln : (i : Int) < n := by have := HIJ.out; omega
      have CF := hide (ithat (x0, x1) cb id _ S2.out.2.2)
      simp only at CF
      rw [decide_eq_false HXI.out] at CF
      clear hx hat hset hxid hdl
      go_wp2_with fail
      refine CF.out.mono ?_
      rintro e w2 ⟨rfl, b2⟩
      have S3 := hide (S2.out.below b2)
      have lb := hide (show wr.heap.size < w2.heap.size by have := b2.size; simp at this; omega)
      have e0 : w2.cell? ⟨wr.heap.size, 0, none⟩ = some (.int .i64 x0) := (b2.cell (show wr.heap.size < (wr.alloc (.cells #[.int .i64 x0, .int .i64 x1] 69)).heap.size by simp)).trans (cell_of_row _ _ 0 _ _ _ (heap_alloc_new wr _))
      have e1 : w2.cell? ⟨wr.heap.size, 1, none⟩ = some (.int .i64 x1) := (b2.cell (show wr.heap.size < (wr.alloc (.cells #[.int .i64 x0, .int .i64 x1] 69)).heap.size by simp)).trans (cell_of_row _ _ 1 _ _ _ (heap_alloc_new wr _))
      obtain ⟨y, hy⟩ : ∃ y, (delK l k m)[i]? = some y := ⟨_, List.getElem?_eq_getElem (by rw [HDL.out]; omega)⟩
      have d0 : w2.cell? ⟨g, i * 2, none⟩ = some (.int .i64 y.1) := by
        rw [← addr_at]
        exact S3.out.1.cells (g := g) rfl (i * 2) _ (by simpa using vlcells_at _ i y hy 0 _ rfl)
      have d1 : w2.cell? ⟨g, i * 2 + 1, none⟩ = some (.int .i64 y.2) := by
        rw [← addr_at]
        exact S3.out.1.cells (g := g) rfl (i * 2 + 1) _ (vlcells_at _ i y hy 1 _ rfl)
      obtain ⟨-, hgl, cs, q⟩ := own_kind S3.out.1 g rfl
      have f0 : w2.frozen? ⟨g, i * 2, none⟩ = false := frozen_of_row _ _ _ _ _ q
      have f1 : w2.frozen? ⟨g, i * 2 + 1, none⟩ = false := frozen_of_row _ _ _ _ _ q
      have NX : Hid (DlSt W ((w2.setCell ⟨g, i * 2, none⟩ (.int .i64 x0)).setCell ⟨g, i * 2 + 1, none⟩ (.int .i64 x1)) lo g n c cb id (delK l k (m + 1))) := by
        have h1 := fown_set (fown_set S3.out.1 rfl (i * 2) (.int .i64 x0)) rfl (i * 2 + 1) (.int .i64 x1)
        rw [vlcells_put2 (by rw [HDL.out]; omega), HAT.out] at h1
        have hg2 := S3.out.2.1
        refine ⟨h1, ⟨hg2.os, hg2.tape, hg2.output, by simpa [World.setCell] using hg2.size, fun t ht hne => ?_⟩, ?_⟩
        · have hne2 : t ≠ g := fun e => hne (by rw [e])
          exact ((Below.heap_setCell _ _ _ _ hne2).trans (Below.heap_setCell _ _ _ _ hne2)).trans (hg2.block t ht hne)
        · rw [World.cell?_setCell_other _ _ _ _ (fun e => by injection e with e; exact HCG.out e.symm), World.cell?_setCell_other _ _ _ _ (fun e => by injection e with e; exact HCG.out e.symm)]
          exact S3.out.2.2
      have hgn : wr.heap.size ≠ g := by
        have := (own_kind HS.out.1 g rfl).2.1
        omega
      clear hy q cs CF b2 S2 S3 HS BA c0 c1
      go_wp2
      go_roundw
      case rel => exact ⟨m + 1, by have := HJ.out; omega, by have := HI.out; go_num, by have := HJ.out; go_num, NX⟩
      case measure => simp [intOf]; omega
    · have ejn : j = n := by omega
      subst ejn
      have ein : i = j - 1 := by have := HIJ.out; omega
      obtain ⟨cur, hcur, hsz, htk⟩ : ∃ cur : Array Value, wr.heap[g]? = some (.cells cur 69 (0, 0)) ∧ cur.size = c * 2 ∧ cur.toList.take (j * 2) = vlcells (delK l k m) := by
        rcases HS.out.1.2 with ⟨e, -⟩ | ⟨g', cap, cur, e, -, h3, h4, h5, h6, h7⟩
        · cases e
        · injection e with e1 e2 e3
          injection e1 with e1
          injection e1 with e1
          subst e1 e3
          exact ⟨cur, h3, h6, h7⟩
      have sD : ∀ w', (Instr.slice 31 (.slice (some ⟨g, 0, none⟩) j c) (some (.int .i64 (i : Int))) none none).run Tryz.prog w' = .ok (.slice (some ⟨g, i * 2, none⟩) 1 (c - i)) w' := fun w' => by
        have := vdrop_run g 0 j c i w' (by omega)
        rw [if_neg (by omega), Nat.zero_add, show j - i = 1 by omega] at this
        exact this
      have sT := fun w' => vtake_run (some ⟨g, 0, none⟩) j c i w' (by omega)
      have HR := fun ty => run_clear_v wr ty g (i * 2) 1 (c - i) cur (by omega) hcur (by omega)
      have R2 : Hid ((wr.setRow g (lay cur.toList (i * 2) (List.replicate (1 * 2) (.int .i64 0))).toArray).heap[g]? = some (.cells (lay cur.toList (i * 2) (List.replicate (1 * 2) (.int .i64 0))).toArray 69 (0, 0))) := setRow_heap wr g cur _ _ _ hcur
      have FIN : Hid ((wr.setRow g (lay cur.toList (i * 2) (List.replicate (1 * 2) (.int .i64 0))).toArray).ownsRow lo 69 2 (.slice (some ⟨g, 0, none⟩) i c) i (vlcells (l.take k ++ l.drop (k + 1))) ∧ W.grownBy (wr.setRow g (lay cur.toList (i * 2) (List.replicate (1 * 2) (.int .i64 0))).toArray) (some g)) := by
        have hde := del_end (l := l) (k := k) (m := m) (by rw [HJ.out, HN.out])
        rw [HI.out] at hde
        have hlen : (l.take k ++ l.drop (k + 1)).length = i := by have := HN.out; simp; omega
        have hg2 := HS.out.2.1
        have hgr := setRow_grown wr g (lay cur.toList (i * 2) (List.replicate (1 * 2) (.int .i64 0))).toArray
        refine ⟨⟨by rw [vlcells_len, hlen], .inr ⟨g, c, _, rfl, (own_kind HS.out.1 g rfl).1, R2.out, by omega, by unfold maxLen; omega, ?_, ?_⟩⟩, ⟨hgr.os.trans hg2.os, hgr.tape.trans hg2.tape, hgr.output.trans hg2.output, Nat.le_trans hg2.size hgr.size, fun t ht hne => (hgr.block t (Nat.lt_of_lt_of_le ht hg2.size) hne).trans (hg2.block t ht hne)⟩⟩
        · rw [List.size_toArray, lay_len (by simp; omega)]
          simpa using hsz
        · rw [← hde, ← vlcells_take, ← htk]
          unfold lay
          rw [List.toList_toArray, List.take_left' (by simp; omega), List.take_take, Nat.min_eq_left (by omega)]
      have EI := hide ein.symm
      clear ein
      generalize wr.setRow g (lay cur.toList (i * 2) (List.replicate (1 * 2) (.int .i64 0))).toArray = we at HR R2 FIN
      clear hcur hsz htk HS
      go_wp2_with (at_builtin; refine wpList_clear_vr _ rfl _ 31 rfl _ rfl (HR _) ?_)
      go_ret
      exact ⟨c, by rw [EI.out]; rfl, by rw [EI.out]; exact FIN.out.1, FIN.out.2⟩
end Go.Proofs.YtcnaahajaaifjacGreat
