/-
  StoC; StsM; KnMkF
-/
import Derived.Test.YtcnaahajaaifjacGreatPk14
import Derived.Test.YtcnaahajaaifjacGreatPk15
import Derived.Test.YtcnaahajaaifjacGreatKnMk
import Derived.Deep.DeepCutAuto
import Derived.Deep.RegionHeld3
/-
  What the functions on stores do.
-/
namespace Go.Proofs.YtcnaahajaaifjacGreat
open Go.RowKit
open Words

/-- A store that came in: its volumes and knots can be read. -/
def StIn (w : World) (v : Value) (s : Sto) : Prop :=
  ∃ va vl vc ad len cap rs, v = .agg (SBox va vl vc ad len cap s.next) ∧ s.kns = rs.map ktell ∧ vl ≤ 1048576 ∧ len ≤ 1048576 ∧ (∀ r ∈ rs, r.2.2.length ≤ 1048576) ∧ (va = none → vc = 0) ∧ VlRow w va vl s.vols ∧ KnRd w ad len rs
theorem StIn.below {w w' : World} {v : Value} {s : Sto} (h : StIn w v s) (hb : Below w.heap.size w w') : StIn w' v s := by
  obtain ⟨va, vl, vc, ad, len, cap, rs, h1, h2, h3, h4, h5, h6, h7, h8⟩ := h
  exact ⟨va, vl, vc, ad, len, cap, rs, h1, h2, h3, h4, h5, h6, h7.below hb, h8.below hb⟩
/-- A store that is not too great. -/
def Words.Sto.Fit (s : Sto) : Prop := s.vols.length ≤ 1048576 ∧ s.kns.length ≤ 1048576 ∧ ∀ k ∈ s.kns, k.kids.length ≤ 1048576
theorem StIn.fit {w : World} {v : Value} {s : Sto} (h : StIn w v s) : s.Fit := by
  obtain ⟨va, vl, vc, ad, len, cap, rs, h1, h2, h3, h4, h5, h6, h7, h8⟩ := h
  refine ⟨by have := h7.1; omega, by rw [h2, List.length_map]; have := h8.1; omega, fun k hk => ?_⟩
  rw [h2] at hk
  obtain ⟨r, hr, rfl⟩ := List.mem_map.1 hk
  exact h5 r hr
theorem right_fit {s : Sto} (h : s.Right) : s.Fit := by
  refine ⟨by have := h.few; omega, by have := right_small h; omega, fun k hk => ?_⟩
  obtain ⟨i, hi, e⟩ := List.mem_iff_getElem.1 hk
  have := knB_len (arB_at h.ar (i := i) (x := k) (by rw [← e]; exact List.getElem?_eq_getElem hi))
  omega
theorem enter_fit {s : Sto} (h : s.Fit) (r : Rc) : (enterS s r).1.Fit := by
  by_cases hb : stoB s = true
  · exact right_fit (enter_right ((stoB_iff s).1 hb) r)
  · rw [enterS, if_neg (fun q => hb q.1)]; exact h
/-- What was answered can be read. -/
theorem StOut.rd {w w' : World} {v : Value} {s : Sto} (h : StOut w s v w') (hf : s.Fit) : StIn w' v s := by
  obtain ⟨vv, kv, lo1, hi1, lo2, hi2, rfl, h1, h2, h3, h4, h5, h6, h7, h8⟩ := h
  obtain ⟨va, vc, rfl, h9, h10⟩ := VlSl.of h1 (by have := hf.1; unfold maxLen; omega) h4
  obtain ⟨ad, cap, rfl⟩ := h2.form
  obtain ⟨rs, e, hr⟩ := h2.rd rfl h6
  refine ⟨va, s.vols.length, vc, ad, s.kns.length, cap, rs, rfl, e.symm, hf.1, hf.2.1, fun r hr => ?_, h9, h10, hr⟩
  exact hf.2.2 (ktell r) (by rw [← e]; exact List.mem_map.2 ⟨r, hr, rfl⟩)
theorem StOut.blw {w w' : World} {v : Value} {s : Sto} (h : StOut w s v w') : Below w.heap.size w w' := by
  obtain ⟨vv, kv, lo1, hi1, lo2, hi2, -, -, -, -, -, -, -, -, h⟩ := h
  exact h
/-- From an earlier world on. -/
theorem StOut.from {w0 w w' : World} {v : Value} {s : Sto} (h : StOut w s v w') (hb : Below w0.heap.size w0 w) : StOut w0 s v w' := by
  obtain ⟨vv, kv, lo1, hi1, lo2, hi2, e, h1, h2, h3, h4, h5, h6, h7, h8⟩ := h
  have := hb.size
  exact ⟨vv, kv, lo1, hi1, lo2, hi2, e, h1, h2, by omega, h4, by omega, h6, h7, hb.trans (h8.mono hb.size)⟩
theorem StOut.form {w w' : World} {v : Value} {s : Sto} (h : StOut w s v w') : ∃ va vl vc ad len cap, v = .agg #[.slice va vl vc, .slice ad len cap, .int .i64 s.next] := by
  obtain ⟨vv, kv, lo1, hi1, lo2, hi2, rfl, h1, h2, -⟩ := h
  obtain ⟨va, vc, rfl, -⟩ := h1.form
  obtain ⟨ad, cap, rfl⟩ := h2.form
  exact ⟨_, _, _, _, _, _, rfl⟩
/-- Later, where what came since w is kept. -/
theorem StOut.later {w w1 w2 : World} {v : Value} {s : Sto} (h : StOut w s v w1) (hq : ∀ g, w.heap.size ≤ g → g < w1.heap.size → w2.heap[g]? = w1.heap[g]?) (hz : w1.heap.size ≤ w2.heap.size) (hb : Below w.heap.size w w2) : StOut w s v w2 := by
  obtain ⟨vv, kv, lo1, hi1, lo2, hi2, e, h1, h2, h3, h4, h5, h6, h7, -⟩ := h
  refine ⟨vv, kv, lo1, hi1, lo2, hi2, e, ?_, ?_, h3, by omega, h5, by omega, h7, hb⟩
  · exact Sli.loc _ _ _ _ _ _ w1 _ (fun g g1 g2 => hq g (by omega) (by omega)) h1
  · exact Kns.loc _ _ _ _ w1 _ (fun g g1 g2 => hq g (by omega) (by omega)) h2
/-- .. laid into a cell that was there before. -/
theorem StOut.set {w0 w w1 : World} {v u : Value} {s : Sto} (h : StOut w s v w1) (hb : Below w0.heap.size w0 w) {g k : Nat} (hg : g < w.heap.size) (h0 : w0.heap.size ≤ g) : StOut w0 s v (w1.setCell ⟨g, k, none⟩ u) := by
  obtain ⟨vv, kv, lo1, hi1, lo2, hi2, e, h1, h2, h3, h4, h5, h6, h7, h8⟩ := h
  have hs := hb.size
  have hz : (w1.setCell ⟨g, k, none⟩ u).heap.size = w1.heap.size := by simp [World.setCell]
  have hq : ∀ q, w.heap.size ≤ q → (w1.setCell ⟨g, k, none⟩ u).heap[q]? = w1.heap[q]? := fun q q1 => Below.heap_setCell _ _ _ _ (show q ≠ g by omega)
  refine ⟨vv, kv, lo1, hi1, lo2, hi2, e, ?_, ?_, by omega, by omega, by omega, by omega, h7, ?_⟩
  · exact Sli.loc _ _ _ _ _ _ w1 _ (fun g g1 g2 => hq g (by omega)) h1
  · exact Kns.loc _ _ _ _ w1 _ (fun g g1 g2 => hq g (by omega)) h2
  · exact (hb.trans (h8.mono hs)).setCell (p := ⟨g, k, none⟩) h0 _
/-- .. three cells. -/
theorem StOut.set3 {w0 w w1 : World} {v a b c : Value} {s : Sto} (h : StOut w s v w1) (hb : Below w0.heap.size w0 w) {g : Nat} (hg : g < w.heap.size) (h0 : w0.heap.size ≤ g) : StOut w0 s v (((w1.setCell ⟨g, 0, none⟩ a).setCell ⟨g, 1, none⟩ b).setCell ⟨g, 2, none⟩ c) := by
  obtain ⟨vv, kv, lo1, hi1, lo2, hi2, e, h1, h2, h3, h4, h5, h6, h7, h8⟩ := h
  have hs := hb.size
  have hz : (((w1.setCell ⟨g, 0, none⟩ a).setCell ⟨g, 1, none⟩ b).setCell ⟨g, 2, none⟩ c).heap.size = w1.heap.size := by simp [World.setCell]
  have hq : ∀ q, w.heap.size ≤ q → (((w1.setCell ⟨g, 0, none⟩ a).setCell ⟨g, 1, none⟩ b).setCell ⟨g, 2, none⟩ c).heap[q]? = w1.heap[q]? := fun q q1 => (Below.heap_setCell _ _ _ _ (show q ≠ g by omega)).trans ((Below.heap_setCell _ _ _ _ (show q ≠ g by omega)).trans (Below.heap_setCell _ _ _ _ (show q ≠ g by omega)))
  refine ⟨vv, kv, lo1, hi1, lo2, hi2, e, ?_, ?_, by omega, by omega, by omega, by omega, h7, ?_⟩
  · exact Sli.loc _ _ _ _ _ _ w1 _ (fun g g1 g2 => hq g (by omega)) h1
  · exact Kns.loc _ _ _ _ w1 _ (fun g g1 g2 => hq g (by omega)) h2
  · exact (((hb.trans (h8.mono hs)).setCell (p := ⟨g, 0, none⟩) h0 _).setCell (p := ⟨g, 1, none⟩) h0 _).setCell (p := ⟨g, 2, none⟩) h0 _
theorem sto_row3 {w : World} {g : Nat} {x0 x1 x2 a b c : Value} (h : w.heap[g]? = some (.cells #[x0, x1, x2] 36 (0, 0))) : (((w.setCell ⟨g, 0, none⟩ a).setCell ⟨g, 1, none⟩ b).setCell ⟨g, 2, none⟩ c).heap[g]? = some (.cells #[a, b, c] 36 (0, 0)) := heap_setCell_same _ _ 2 _ _ _ (heap_setCell_same _ _ 1 _ _ _ (heap_setCell_same _ _ 0 _ _ _ h))

/-- A store laid into the result's cells. -/
theorem st_fin {w W : World} {z lo1 hi1 lo2 hi2 : Nat} {vv kv : Value} {s : Sto} (hz : w.heap.size ≤ z) (h1 : Sli 69 lo1 hi1 vv s.vols.length (vlcells s.vols) W) (h2 : Kns lo2 hi2 kv s.kns W) (a1 : w.heap.size ≤ lo1 ∧ (hi1 ≤ z ∨ z < lo1)) (a2 : w.heap.size ≤ lo2 ∧ (hi2 ≤ z ∨ z < lo2)) (a3 : hi1 ≤ W.heap.size) (a4 : hi2 ≤ W.heap.size) (a5 : hi1 ≤ lo2 ∨ hi2 ≤ lo1) (hb : Below w.heap.size w W) :
    StOut w s (.agg #[vv, kv, .int .i64 s.next]) (((W.setCell ⟨z, 0, none⟩ vv).setCell ⟨z, 1, none⟩ kv).setCell ⟨z, 2, none⟩ (.int .i64 s.next)) := by
  have hz2 : (((W.setCell ⟨z, 0, none⟩ vv).setCell ⟨z, 1, none⟩ kv).setCell ⟨z, 2, none⟩ (.int .i64 s.next)).heap.size = W.heap.size := by simp [World.setCell]
  have hq : ∀ q, q ≠ z → (((W.setCell ⟨z, 0, none⟩ vv).setCell ⟨z, 1, none⟩ kv).setCell ⟨z, 2, none⟩ (.int .i64 s.next)).heap[q]? = W.heap[q]? := fun q q1 => (Below.heap_setCell _ _ _ _ q1).trans ((Below.heap_setCell _ _ _ _ q1).trans (Below.heap_setCell _ _ _ _ q1))
  refine ⟨vv, kv, lo1, hi1, lo2, hi2, rfl, ?_, ?_, a1.1, by omega, a2.1, by omega, a5, ?_⟩
  · exact Sli.loc _ _ _ _ _ _ W _ (fun g g1 g2 => hq g (by omega)) h1
  · exact Kns.loc _ _ _ _ W _ (fun g g1 g2 => hq g (by omega)) h2
  · exact ((hb.setCell (p := ⟨z, 0, none⟩) hz _).setCell (p := ⟨z, 1, none⟩) hz _).setCell (p := ⟨z, 2, none⟩) hz _
/-- What an answer of a store and a yes or no is. -/
def EnOut (w : World) (p : Sto × Bool) (e : Ending) (w' : World) : Prop := ∃ u, e = .returned (.tuple #[u, .bool p.2]) ∧ StOut w p.1 u w'
def NewC (f : Nat) : Prop := ∀ w : World, Calls Tryz.prog f #[] w fun e w' => ∃ v, e = .returned v ∧ StOut w stoNew v w'
def OkC (f : Nat) : Prop := ∀ (v : Value) (s : Sto) (w : World), StIn w v s → Calls Tryz.prog f #[v] w fun e w' => e = .returned (.bool (stoB s)) ∧ Below w.heap.size w w'
def EnterC (f : Nat) : Prop := ∀ (v : Value) (s : Sto) (r : Rc) (w : World), StIn w v s → Calls Tryz.prog f #[v, .agg #[.int .i64 r.kind, .int .i64 r.vol, .int .i64 r.arg, .int .i64 r.chunk]] w (EnOut w (enterS s r))
/-- What answers a row of records. -/
def RcsOut (w : World) (l : List Rc) (e : Ending) (w' : World) : Prop := ∃ v, e = .returned v ∧ w'.ownsRow w.heap.size 52 4 v l.length (rccells (l.map Rc.tu)) ∧ Below w.heap.size w w'
def BaseC (f : Nat) : Prop := ∀ (v : Value) (s : Sto) (w : World), StIn w v s → Calls Tryz.prog f #[v] w (RcsOut w (baseS s))
def EnterAllC (f : Nat) : Prop := ∀ (v : Value) (s : Sto) (a : Option Addr) (n c : Nat) (l : List Rc) (w : World), n ≤ 1048576 * 32 → StIn w v s → RcRow w a n (l.map Rc.tu) → Calls Tryz.prog f #[v, .slice a n c] w (EnOut w (enterAllS s l))
def ChunkC (f : Nat) : Prop := ∀ (v : Value) (s : Sto) (vol sec : Int) (w : World), StIn w v s → Calls Tryz.prog f #[v, .int .i64 vol, .int .i64 sec] w fun e w' => e = .returned (.int .i64 (chunkS s vol sec)) ∧ Below w.heap.size w w'
def RefsC (f : Nat) : Prop := ∀ (v : Value) (s : Sto) (c : Int) (w : World), StIn w v s → Calls Tryz.prog f #[v, .int .i64 c] w fun e w' => e = .returned (.int .i64 (refsS s c : Nat)) ∧ Below w.heap.size w w'
def LiveC (f : Nat) : Prop := ∀ (v : Value) (s : Sto) (w : World), StIn w v s → Calls Tryz.prog f #[v] w (IOut w (liveS s))
def SameC (f : Nat) : Prop := ∀ (v : Value) (s : Sto) (u : Value) (t : Sto) (w : World), StIn w v s → StIn w u t → Calls Tryz.prog f #[v, u] w fun e w' => e = .returned (.bool (sameS s t)) ∧ Below w.heap.size w w'
end Go.Proofs.YtcnaahajaaifjacGreat

/-
  A store among what a law holds.
-/
namespace Go.Proofs.YtcnaahajaaifjacGreat
open Go.RowKit
open Words

/-- A store in blocks lo to hi. -/
def Sts (lo hi : Nat) (v : Value) (s : Sto) : World → Prop := fun W =>
  ∃ vv kv lo1 hi1 lo2 hi2, v = .agg #[vv, kv, .int .i64 s.next] ∧ Sli 69 lo1 hi1 vv s.vols.length (vlcells s.vols) W ∧ Kns lo2 hi2 kv s.kns W ∧ lo ≤ lo1 ∧ hi1 ≤ hi ∧ lo ≤ lo2 ∧ hi2 ≤ hi ∧ (hi1 ≤ lo2 ∨ hi2 ≤ lo1)
theorem Sts.loc (lo hi : Nat) (v : Value) (s : Sto) : Loc lo hi (Sts lo hi v s) := by
  rintro w w' hk ⟨vv, kv, lo1, hi1, lo2, hi2, e, h1, h2, h3, h4, h5, h6, h7⟩
  exact ⟨vv, kv, lo1, hi1, lo2, hi2, e, Sli.loc _ _ _ _ _ _ w w' (fun g g1 g2 => hk g (by omega) (by omega)) h1, Kns.loc _ _ _ _ w w' (fun g g1 g2 => hk g (by omega) (by omega)) h2, h3, h4, h5, h6, h7⟩
theorem StOut.sts {w w' : World} {v : Value} {s : Sto} (h : StOut w s v w') : Sts w.heap.size w'.heap.size v s w' := by
  obtain ⟨vv, kv, lo1, hi1, lo2, hi2, e, h1, h2, h3, h4, h5, h6, h7, -⟩ := h
  exact ⟨vv, kv, lo1, hi1, lo2, hi2, e, h1, h2, h3, h4, h5, h6, h7⟩
theorem Sts.rd {lo hi : Nat} {W : World} {v : Value} {s : Sto} (h : Sts lo hi v s W) (hf : s.Fit) (hh : hi ≤ W.heap.size) : StIn W v s := by
  obtain ⟨vv, kv, lo1, hi1, lo2, hi2, rfl, h1, h2, h3, h4, h5, h6, h7⟩ := h
  obtain ⟨va, vc, rfl, h9, h10⟩ := VlSl.of h1 (by have := hf.1; unfold maxLen; omega) (by omega)
  obtain ⟨ad, cap, rfl⟩ := h2.form
  obtain ⟨rs, e, hr⟩ := h2.rd rfl (by omega)
  refine ⟨va, s.vols.length, vc, ad, s.kns.length, cap, rs, rfl, e.symm, hf.1, hf.2.1, fun r hr => ?_, h9, h10, hr⟩
  exact hf.2.2 (ktell r) (by rw [← e]; exact List.mem_map.2 ⟨r, hr, rfl⟩)
theorem Sts.form {lo hi : Nat} {W : World} {v : Value} {s : Sto} (h : Sts lo hi v s W) : ∃ va vc ad cap, v = .agg #[.slice va s.vols.length vc, .slice ad s.kns.length cap, .int .i64 s.next] := by
  obtain ⟨vv, kv, lo1, hi1, lo2, hi2, rfl, h1, h2, -⟩ := h
  obtain ⟨va, vc, rfl, -⟩ := h1.form
  obtain ⟨ad, cap, rfl⟩ := h2.form
  exact ⟨_, _, _, _, rfl⟩
end Go.Proofs.YtcnaahajaaifjacGreat

/-
  Rows of knots: marked from any number on, and held.
-/
namespace Go.Proofs.YtcnaahajaaifjacGreat
open Go.RowKit
open Words

set_option maxHeartbeats 1000000 in
set_option maxRecDepth 100000 in
theorem markKns_from (k0 : Nat) (h0 : 0 < k0) (lo hi : Nat) (a : Value) (ys : List Vw) (w : World) (hl : ys.length ≤ 1048580) (hll : ∀ y ∈ ys, y.2.2.1 ≤ 1048576 ∧ y.2.2.2.length = y.2.2.1) (he : vend k0 ys ≤ 1000000000) (ha : VIn lo hi a ys w) :
    Calls Tryz.prog 51 #[a, .int .i64 (k0 : Int)] w fun e w' => e = .returned (.int .i64 ((vend k0 ys : Nat) : Int)) ∧ Hid (VIn lo hi a (vmk k0 ys) w') ∧ Hid (Kept2 w w' (Apt lo hi)) := by
  obtain ⟨ad, ca, rfl, a3⟩ := ha.1.form
  have A3 := hide a3
  have HA := hide ha
  have HLL := hide hll
  have HE := hide he
  clear a3 ha hll he
  obtain ⟨n, hn⟩ : ∃ n, ys.length = n := ⟨_, rfl⟩
  have HN := hide hn
  rw [hn] at hl A3 HA ⊢
  clear hn
  go_enter Tryz.func51, Tryz.ntmps51
  go_wp2
  go_loopw [1, 5] (fun kv iv wr => ∃ j p : Nat, j ≤ n ∧ iv = .int .i64 j ∧ kv = .int .i64 (p : Int) ∧ Hid (p = vend k0 (ys.take j)) ∧ Hid (VIn lo hi (.slice ad n ca) (vmk k0 (ys.take j) ++ ys.drop j) wr) ∧ Hid (Kept2 w wr (Apt lo hi))) (fun _ iv _ => n - (intOf iv).toNat)
  case atStart => exact ⟨0, k0, Nat.zero_le _, rfl, rfl, rfl, HA, Kept2.refl _ _⟩
  case round =>
    obtain ⟨j, p, hj, rfl, rfl, HP, HO, HW⟩ := hrel
    have hp0 : 0 < p := by have := vend_le (ys.take j) k0; have := HP.out; omega
    have hp1 : p ≤ 1000000000 := by have := vend_take ys k0 j; have := HP.out; have := HE.out; omega
    by_cases hlt : (j : Int) < n
    · obtain ⟨ga, e, g1, g2⟩ := A3.out (by omega)
      subst e
      have hjl : j < ys.length := by have := HN.out; omega
      obtain ⟨y, hy⟩ : ∃ y, ys[j]? = some y := ⟨_, List.getElem?_eq_getElem hjl⟩
      have hlm : (vmk k0 (ys.take j)).length = j := by rw [vmk_len, List.length_take]; omega
      have hms := vmk_set (k := k0) hy
      have hend := vend_succ (k := k0) hy
      rw [← HP.out] at hms hend
      obtain ⟨cur, hcur⟩ : ∃ cur, vmk k0 (ys.take j) ++ ys.drop j = cur := ⟨_, rfl⟩
      have hcl : cur.length = n := by rw [← hcur, List.length_append, hlm, List.length_drop, HN.out]; omega
      have hcj : cur[j]? = some y := by
        rw [← hcur, List.getElem?_append_right (by omega), hlm, Nat.sub_self, List.getElem?_drop, Nat.add_zero, hy]
      rw [hcur] at hms HO
      obtain ⟨hy1, hy2⟩ := HLL.out y (List.mem_of_getElem? hy)
      obtain ⟨x0, sv, m, xs⟩ := y
      simp only at hms hend hy1 hy2
      have HO1 := HO.out.1
      rw [hcl] at HO1
      have c0 : wr.cell? ⟨ga, j * 2, none⟩ = some (.bool x0) := HO1.flt.cell (vcells_at cur j _ hcj 0 _ rfl)
      have c1 : wr.cell? ⟨ga, j * 2 + 1, none⟩ = some sv := HO1.flt.cell (vcells_at cur j _ hcj 1 _ rfl)
      have f0 := HO1.flt.frozen (j * 2)
      have F2 := HO.out.flag hcl hcj (lfm p)
      simp only at F2
      have hc2 : (cur.set j (lfm p, sv, m, xs))[j]? = some (lfm p, sv, m, xs) := by rw [List.getElem?_set_self (by omega)]
      have LL := F2.2.1 _ (List.mem_of_getElem? hc2)
      simp only at LL
      obtain ⟨sa, sc, rfl, -⟩ := LL.form
      have K2 : Kept2 w (wr.setCell ⟨ga, j * 2, none⟩ (.bool (lfm p))) (Apt lo hi) := HW.out.trans (Kept2.grown (ok := Apt lo hi) (grown_cell wr ga (j * 2) (.bool (lfm p))) (fun i hi' hok => by cases hi'; exact hok ⟨g1, g2⟩))
      obtain ⟨W2, hW2⟩ : ∃ W2, wr.setCell ⟨ga, j * 2, none⟩ (.bool (lfm p)) = W2 := ⟨_, rfl⟩
      rw [hW2] at F2 LL K2
      have CM : Hid (Calls Tryz.prog 72 #[.slice sa m sc, .int .i64 ((p + 1 : Nat) : Int)] W2 fun e w' => e = .returned (.int .i64 ((p + 1 + m : Nat) : Int)) ∧ Hid (VIn lo hi (.slice (some ⟨ga, 0, none⟩) n ca) (vmk k0 (ys.take (j + 1)) ++ ys.drop (j + 1)) w') ∧ Hid (Kept2 w w' (Apt lo hi))) := by
        refine (markIs_any lo hi (.slice sa m sc) m (p + 1) xs W2 (by omega) hy2 (by omega) (by omega) LL).mono ?_
        rintro e w' ⟨rfl, hs, hk⟩
        refine ⟨rfl, ?_, ?_⟩
        · have F3 := F2.inner hc2 (mkFlat patI (p + 1) m) hk.out hs.out
          rw [List.set_set] at F3
          simp only at F3
          rw [hms] at F3
          exact F3
        · refine K2.trans ⟨hk.out.1, hk.out.2.1, hk.out.2.2.1, hk.out.2.2.2.1, fun i hi' hok => hk.out.2.2.2.2 i hi' (fun e => ?_)⟩
          have := LL.lt i e
          exact hok ⟨this.1, this.2.1⟩
      have HP2 : Hid (p + 1 + m = vend k0 (ys.take (j + 1))) := hend.symm
      have e1 : (p : Int) + 1 = ((p + 1 : Nat) : Int) := by omega
      have j0 : (0 : Int) ≤ j := by omega
      have HW2 := hide hW2
      clear hy hlm hms hend hcur hcl hcj hy1 hy2 HO1 F2 hc2 LL K2 HO HW HP hW2
      obtain ⟨p1, hp1'⟩ : ∃ p1, p + 1 = p1 := ⟨_, rfl⟩
      rw [hp1'] at e1 CM HP2
      have hb1 : p1 ≤ 1000000001 := by omega
      clear hp1'
      unfold lfm at HW2
      go_wp2_with fail
      rw [HW2.out]
      refine CM.out.mono ?_
      rintro e w5 ⟨rfl, HF5, HK5⟩
      clear CM HW2
      obtain ⟨p3, hp3⟩ : ∃ p3, p1 + m = p3 := ⟨_, rfl⟩
      rw [hp3] at HP2 ⊢
      clear hp3 c0 c1 f0
      go_wp2
      go_roundw
      case rel => exact ⟨j + 1, p3, by omega, by go_num, by first | rfl | go_num, HP2, HF5, HK5⟩
      case measure => simp [intOf]; omega
    · have hje : j = ys.length := by have := HN.out; omega
      have hO := HO.out
      rw [hje, List.drop_length, List.append_nil, List.take_length] at hO
      have hP := HP.out
      rw [hje, List.take_length] at hP
      have HO2 := hide hO
      have E : Hid ((p : Int) = ((vend k0 ys : Nat) : Int)) := by show _ = _; rw [hP]
      clear hO hje HO hP HP
      go_wp2
      go_ret
      exact ⟨congrArg (fun x => Ending.returned (.int .i64 x)) E.out, HO2, HW⟩
set_option maxHeartbeats 1000000 in
set_option maxRecDepth 100000 in
theorem heldKns_from (k0 : Nat) (h0 : 0 < k0) (lo hi : Nat) (a : Value) (ys : List Vw) (w : World) (hl : ys.length ≤ 1048580) (hll : ∀ y ∈ ys, y.2.2.1 ≤ 1048576) (he : vend k0 ys ≤ 1000000000) (ha : VIn lo hi a (vmk k0 ys) w) :
    Calls Tryz.prog 52 #[a, .int .i64 (k0 : Int)] w fun e w' => e = .returned (.int .i64 ((vend k0 ys : Nat) : Int)) ∧ Below w.heap.size w w' := by
  obtain ⟨ad, ca, rfl, a3⟩ := ha.1.form
  have A3 := hide a3
  have HA := hide ha
  have HLL := hide hll
  have HE := hide he
  clear a3 ha hll he
  obtain ⟨n, hn⟩ : ∃ n, ys.length = n := ⟨_, rfl⟩
  have HN := hide hn
  rw [vmk_len, hn] at A3 HA ⊢
  rw [hn] at hl
  clear hn
  go_enter Tryz.func52, Tryz.ntmps52
  go_wp2
  go_loopw [1, 5] (fun kv iv wr => ∃ j p : Nat, j ≤ n ∧ iv = .int .i64 j ∧ kv = .int .i64 (p : Int) ∧ Hid (p = vend k0 (ys.take j)) ∧ Hid (Below w.heap.size w wr)) (fun _ iv _ => n - (intOf iv).toNat)
  case atStart => exact ⟨0, k0, Nat.zero_le _, rfl, rfl, rfl, Below.refl _ _⟩
  case round =>
    obtain ⟨j, p, hj, rfl, rfl, HP, HW⟩ := hrel
    have hp0 : 0 < p := by have := vend_le (ys.take j) k0; have := HP.out; omega
    have hp1 : p ≤ 1000000000 := by have := vend_take ys k0 j; have := HP.out; have := HE.out; omega
    by_cases hlt : (j : Int) < n
    · obtain ⟨ga, e, g1, g2⟩ := A3.out (by omega)
      subst e
      have hjl : j < ys.length := by have := HN.out; omega
      obtain ⟨y, hy⟩ : ∃ y, ys[j]? = some y := ⟨_, List.getElem?_eq_getElem hjl⟩
      have hmj := vmk_at (k := k0) hy
      have hend := vend_succ (k := k0) hy
      rw [← HP.out] at hmj hend
      have hy1 := HLL.out y (List.mem_of_getElem? hy)
      obtain ⟨x0, sv, m, xs⟩ := y
      simp only at hmj hend hy1
      have HO1 := HA.out.1
      rw [vmk_len, HN.out] at HO1
      have GA := HO1.flt.below HW.out
      have c0 : wr.cell? ⟨ga, j * 2, none⟩ = some (.bool (lfm p)) := GA.cell (vcells_at _ j _ hmj 0 _ rfl)
      have c1 : wr.cell? ⟨ga, j * 2 + 1, none⟩ = some sv := GA.cell (vcells_at _ j _ hmj 1 _ rfl)
      have LL := HA.out.2.1 _ (List.mem_of_getElem? hmj)
      simp only at LL
      obtain ⟨sa, sc, rfl, -⟩ := LL.form
      have CM := hide (heldIs_any lo hi (.slice sa m sc) m (p + 1) wr (by omega) (by omega) (by omega) (LL.blw HW.out))
      have HP2 : Hid (p + 1 + m = vend k0 (ys.take (j + 1))) := hend.symm
      have e1 : (p : Int) + 1 = ((p + 1 : Nat) : Int) := by omega
      have j0 : (0 : Int) ≤ j := by omega
      clear hy hmj hend HO1 GA LL HP
      obtain ⟨p1, hp1'⟩ : ∃ p1, p + 1 = p1 := ⟨_, rfl⟩
      rw [hp1'] at e1 CM HP2
      have hb1 : p1 ≤ 1000000001 := by omega
      clear hp1'
      unfold lfm at c0
      have n0 : (((p : Int) % 3 == 0) != ((p : Int) % 3 == 0)) = false := by simp
      go_wp2_with fail
      refine CM.out.mono ?_
      rintro e w5 ⟨rfl, b5⟩
      have HW5 := hide (HW.out.trans (b5.mono HW.out.size))
      clear CM b5 HW
      obtain ⟨p3, hp3⟩ : ∃ p3, p1 + m = p3 := ⟨_, rfl⟩
      have m0 : ¬ ((p3 : Int) < 0) := by omega
      rw [hp3] at HP2 ⊢
      clear hp3 c0 c1
      go_wp2
      go_roundw
      case rel => exact ⟨j + 1, p3, by omega, by go_num, by first | rfl | go_num, HP2, HW5⟩
      case measure => simp [intOf]; omega
    · have hje : j = ys.length := by have := HN.out; omega
      have hP := HP.out
      rw [hje, List.take_length] at hP
      have E : Hid ((p : Int) = ((vend k0 ys : Nat) : Int)) := by show _ = _; rw [hP]
      clear hje hP HP
      go_wp2
      go_ret
      exact ⟨congrArg (fun x => Ending.returned (.int .i64 x)) E.out, HW.out⟩
end Go.Proofs.YtcnaahajaaifjacGreat
