/-
  StoC; SnewS; SEnv
-/
import Derived.Test.YtcnaahajaaifjaaPq10
import Derived.Test.YtcnaahajaaifjaaPq11
/-
  What the functions on stores do.
-/
namespace Go.Proofs.Ytcnaahajaaifjaa
open Go.RowKit
open Words

/-- A store that came in: its volumes and knots can be read. -/
def StIn (w : World) (v : Value) (s : Sto) : Prop :=
  ∃ va vl vc ad len cap rs, v = .agg (SBox va vl vc ad len cap s.next) ∧ s.kns = rs.map ktell ∧ vl ≤ 1048576 ∧ len ≤ 1048576 ∧ (∀ r ∈ rs, r.2.2.length ≤ 1048576) ∧ (va = none → vc = 0) ∧ VlRow w va vl s.vols ∧ KnRd w ad len rs
theorem StIn.below {w w' : World} {v : Value} {s : Sto} (h : StIn w v s) (hb : Below w.heap.size w w') : StIn w' v s := by
  obtain ⟨va, vl, vc, ad, len, cap, rs, h1, h2, h3, h4, h5, h6, h7, h8⟩ := h
  exact ⟨va, vl, vc, ad, len, cap, rs, h1, h2, h3, h4, h5, h6, h7.below hb, h8.below hb⟩
/-- A store that is not too great. -/
def Words.Sto.Fit (s : Sto) : Prop := s.vols.length ≤ 1048576 ∧ s.kns.length ≤ 1048576 ∧ ∀ k ∈ s.kns, k.kids.length ≤ 1048576
theorem StIn.fit {w : World} {v : Value} {s : Sto} (h : StIn w v s) : s.Fit := by
  obtain ⟨va, vl, vc, ad, len, cap, rs, h1, h2, h3, h4, h5, h6, h7, h8⟩ := h
  refine ⟨by have := h7.1; omega, by rw [h2, List.length_map]; have := h8.1; omega, fun k hk => ?_⟩
  rw [h2] at hk
  obtain ⟨r, hr, rfl⟩ := List.mem_map.1 hk
  exact h5 r hr
theorem right_fit {s : Sto} (h : s.Right) : s.Fit := by
  refine ⟨by have := h.few; omega, by have := right_small h; omega, fun k hk => ?_⟩
  obtain ⟨i, hi, e⟩ := List.mem_iff_getElem.1 hk
  have := knB_len (arB_at h.ar (i := i) (x := k) (by rw [← e]; exact List.getElem?_eq_getElem hi))
  omega
theorem enter_fit {s : Sto} (h : s.Fit) (r : Rc) : (enterS s r).1.Fit := by
  by_cases hb : stoB s = true
  · exact right_fit (enter_right ((stoB_iff s).1 hb) r)
  · rw [enterS, if_neg (fun q => hb q.1)]; exact h
/-- What was answered can be read. -/
theorem StOut.rd {w w' : World} {v : Value} {s : Sto} (h : StOut w s v w') (hf : s.Fit) : StIn w' v s := by
  obtain ⟨vv, kv, lo1, hi1, lo2, hi2, rfl, h1, h2, h3, h4, h5, h6, h7, h8⟩ := h
  obtain ⟨va, vc, rfl, h9, h10⟩ := VlSl.of h1 (by have := hf.1; unfold maxLen; omega) h4
  obtain ⟨ad, cap, rfl⟩ := h2.form
  obtain ⟨rs, e, hr⟩ := h2.rd rfl h6
  refine ⟨va, s.vols.length, vc, ad, s.kns.length, cap, rs, rfl, e.symm, hf.1, hf.2.1, fun r hr => ?_, h9, h10, hr⟩
  exact hf.2.2 (ktell r) (by rw [← e]; exact List.mem_map.2 ⟨r, hr, rfl⟩)
theorem StOut.blw {w w' : World} {v : Value} {s : Sto} (h : StOut w s v w') : Below w.heap.size w w' := by
  obtain ⟨vv, kv, lo1, hi1, lo2, hi2, -, -, -, -, -, -, -, -, h⟩ := h
  exact h
/-- From an earlier world on. -/
theorem StOut.from {w0 w w' : World} {v : Value} {s : Sto} (h : StOut w s v w') (hb : Below w0.heap.size w0 w) : StOut w0 s v w' := by
  obtain ⟨vv, kv, lo1, hi1, lo2, hi2, e, h1, h2, h3, h4, h5, h6, h7, h8⟩ := h
  have := hb.size
  exact ⟨vv, kv, lo1, hi1, lo2, hi2, e, h1, h2, by omega, h4, by omega, h6, h7, hb.trans (h8.mono hb.size)⟩
theorem StOut.form {w w' : World} {v : Value} {s : Sto} (h : StOut w s v w') : ∃ va vl vc ad len cap, v = .agg #[.slice va vl vc, .slice ad len cap, .int .i64 s.next] := by
  obtain ⟨vv, kv, lo1, hi1, lo2, hi2, rfl, h1, h2, -⟩ := h
  obtain ⟨va, vc, rfl, -⟩ := h1.form
  obtain ⟨ad, cap, rfl⟩ := h2.form
  exact ⟨_, _, _, _, _, _, rfl⟩
/-- Later, where what came since w is kept. -/
theorem StOut.later {w w1 w2 : World} {v : Value} {s : Sto} (h : StOut w s v w1) (hq : ∀ g, w.heap.size ≤ g → g < w1.heap.size → w2.heap[g]? = w1.heap[g]?) (hz : w1.heap.size ≤ w2.heap.size) (hb : Below w.heap.size w w2) : StOut w s v w2 := by
  obtain ⟨vv, kv, lo1, hi1, lo2, hi2, e, h1, h2, h3, h4, h5, h6, h7, -⟩ := h
  refine ⟨vv, kv, lo1, hi1, lo2, hi2, e, ?_, ?_, h3, by omega, h5, by omega, h7, hb⟩
  · exact Sli.loc _ _ _ _ _ _ w1 _ (fun g g1 g2 => hq g (by omega) (by omega)) h1
  · exact Kns.loc _ _ _ _ w1 _ (fun g g1 g2 => hq g (by omega) (by omega)) h2
/-- .. laid into a cell that was there before. -/
theorem StOut.set {w0 w w1 : World} {v u : Value} {s : Sto} (h : StOut w s v w1) (hb : Below w0.heap.size w0 w) {g k : Nat} (hg : g < w.heap.size) (h0 : w0.heap.size ≤ g) : StOut w0 s v (w1.setCell ⟨g, k, none⟩ u) := by
  obtain ⟨vv, kv, lo1, hi1, lo2, hi2, e, h1, h2, h3, h4, h5, h6, h7, h8⟩ := h
  have hs := hb.size
  have hz : (w1.setCell ⟨g, k, none⟩ u).heap.size = w1.heap.size := by simp [World.setCell]
  have hq : ∀ q, w.heap.size ≤ q → (w1.setCell ⟨g, k, none⟩ u).heap[q]? = w1.heap[q]? := fun q q1 => Below.heap_setCell _ _ _ _ (show q ≠ g by omega)
  refine ⟨vv, kv, lo1, hi1, lo2, hi2, e, ?_, ?_, by omega, by omega, by omega, by omega, h7, ?_⟩
  · exact Sli.loc _ _ _ _ _ _ w1 _ (fun g g1 g2 => hq g (by omega)) h1
  · exact Kns.loc _ _ _ _ w1 _ (fun g g1 g2 => hq g (by omega)) h2
  · exact (hb.trans (h8.mono hs)).setCell (p := ⟨g, k, none⟩) h0 _
/-- .. three cells. -/
theorem StOut.set3 {w0 w w1 : World} {v a b c : Value} {s : Sto} (h : StOut w s v w1) (hb : Below w0.heap.size w0 w) {g : Nat} (hg : g < w.heap.size) (h0 : w0.heap.size ≤ g) : StOut w0 s v (((w1.setCell ⟨g, 0, none⟩ a).setCell ⟨g, 1, none⟩ b).setCell ⟨g, 2, none⟩ c) := by
  obtain ⟨vv, kv, lo1, hi1, lo2, hi2, e, h1, h2, h3, h4, h5, h6, h7, h8⟩ := h
  have hs := hb.size
  have hz : (((w1.setCell ⟨g, 0, none⟩ a).setCell ⟨g, 1, none⟩ b).setCell ⟨g, 2, none⟩ c).heap.size = w1.heap.size := by simp [World.setCell]
  have hq : ∀ q, w.heap.size ≤ q → (((w1.setCell ⟨g, 0, none⟩ a).setCell ⟨g, 1, none⟩ b).setCell ⟨g, 2, none⟩ c).heap[q]? = w1.heap[q]? := fun q q1 => (Below.heap_setCell _ _ _ _ (show q ≠ g by omega)).trans ((Below.heap_setCell _ _ _ _ (show q ≠ g by omega)).trans (Below.heap_setCell _ _ _ _ (show q ≠ g by omega)))
  refine ⟨vv, kv, lo1, hi1, lo2, hi2, e, ?_, ?_, by omega, by omega, by omega, by omega, h7, ?_⟩
  · exact Sli.loc _ _ _ _ _ _ w1 _ (fun g g1 g2 => hq g (by omega)) h1
  · exact Kns.loc _ _ _ _ w1 _ (fun g g1 g2 => hq g (by omega)) h2
  · exact (((hb.trans (h8.mono hs)).setCell (p := ⟨g, 0, none⟩) h0 _).setCell (p := ⟨g, 1, none⟩) h0 _).setCell (p := ⟨g, 2, none⟩) h0 _
theorem sto_row3 {w : World} {g : Nat} {x0 x1 x2 a b c : Value} (h : w.heap[g]? = some (.cells #[x0, x1, x2] 29 (0, 0))) : (((w.setCell ⟨g, 0, none⟩ a).setCell ⟨g, 1, none⟩ b).setCell ⟨g, 2, none⟩ c).heap[g]? = some (.cells #[a, b, c] 29 (0, 0)) := heap_setCell_same _ _ 2 _ _ _ (heap_setCell_same _ _ 1 _ _ _ (heap_setCell_same _ _ 0 _ _ _ h))

/-- A store laid into the result's cells. -/
theorem st_fin {w W : World} {z lo1 hi1 lo2 hi2 : Nat} {vv kv : Value} {s : Sto} (hz : w.heap.size ≤ z) (h1 : Sli 49 lo1 hi1 vv s.vols.length (vlcells s.vols) W) (h2 : Kns lo2 hi2 kv s.kns W) (a1 : w.heap.size ≤ lo1 ∧ (hi1 ≤ z ∨ z < lo1)) (a2 : w.heap.size ≤ lo2 ∧ (hi2 ≤ z ∨ z < lo2)) (a3 : hi1 ≤ W.heap.size) (a4 : hi2 ≤ W.heap.size) (a5 : hi1 ≤ lo2 ∨ hi2 ≤ lo1) (hb : Below w.heap.size w W) :
    StOut w s (.agg #[vv, kv, .int .i64 s.next]) (((W.setCell ⟨z, 0, none⟩ vv).setCell ⟨z, 1, none⟩ kv).setCell ⟨z, 2, none⟩ (.int .i64 s.next)) := by
  have hz2 : (((W.setCell ⟨z, 0, none⟩ vv).setCell ⟨z, 1, none⟩ kv).setCell ⟨z, 2, none⟩ (.int .i64 s.next)).heap.size = W.heap.size := by simp [World.setCell]
  have hq : ∀ q, q ≠ z → (((W.setCell ⟨z, 0, none⟩ vv).setCell ⟨z, 1, none⟩ kv).setCell ⟨z, 2, none⟩ (.int .i64 s.next)).heap[q]? = W.heap[q]? := fun q q1 => (Below.heap_setCell _ _ _ _ q1).trans ((Below.heap_setCell _ _ _ _ q1).trans (Below.heap_setCell _ _ _ _ q1))
  refine ⟨vv, kv, lo1, hi1, lo2, hi2, rfl, ?_, ?_, a1.1, by omega, a2.1, by omega, a5, ?_⟩
  · exact Sli.loc _ _ _ _ _ _ W _ (fun g g1 g2 => hq g (by omega)) h1
  · exact Kns.loc _ _ _ _ W _ (fun g g1 g2 => hq g (by omega)) h2
  · exact ((hb.setCell (p := ⟨z, 0, none⟩) hz _).setCell (p := ⟨z, 1, none⟩) hz _).setCell (p := ⟨z, 2, none⟩) hz _
/-- What an answer of a store and a yes or no is. -/
def EnOut (w : World) (p : Sto × Bool) (e : Ending) (w' : World) : Prop := ∃ u, e = .returned (.tuple #[u, .bool p.2]) ∧ StOut w p.1 u w'
def NewC (f : Nat) : Prop := ∀ w : World, Calls Try.prog f #[] w fun e w' => ∃ v, e = .returned v ∧ StOut w stoNew v w'
def OkC (f : Nat) : Prop := ∀ (v : Value) (s : Sto) (w : World), StIn w v s → Calls Try.prog f #[v] w fun e w' => e = .returned (.bool (stoB s)) ∧ Below w.heap.size w w'
def EnterC (f : Nat) : Prop := ∀ (v : Value) (s : Sto) (r : Rc) (w : World), StIn w v s → Calls Try.prog f #[v, .agg #[.int .i64 r.kind, .int .i64 r.vol, .int .i64 r.arg, .int .i64 r.chunk]] w (EnOut w (enterS s r))
/-- What answers a row of records. -/
def RcsOut (w : World) (l : List Rc) (e : Ending) (w' : World) : Prop := ∃ v, e = .returned v ∧ w'.ownsRow w.heap.size 31 4 v l.length (rccells (l.map Rc.tu)) ∧ Below w.heap.size w w'
def BaseC (f : Nat) : Prop := ∀ (v : Value) (s : Sto) (w : World), StIn w v s → Calls Try.prog f #[v] w (RcsOut w (baseS s))
def EnterAllC (f : Nat) : Prop := ∀ (v : Value) (s : Sto) (a : Option Addr) (n c : Nat) (l : List Rc) (w : World), n ≤ 1048576 * 32 → StIn w v s → RcRow w a n (l.map Rc.tu) → Calls Try.prog f #[v, .slice a n c] w (EnOut w (enterAllS s l))
def ChunkC (f : Nat) : Prop := ∀ (v : Value) (s : Sto) (vol sec : Int) (w : World), StIn w v s → Calls Try.prog f #[v, .int .i64 vol, .int .i64 sec] w fun e w' => e = .returned (.int .i64 (chunkS s vol sec)) ∧ Below w.heap.size w w'
def RefsC (f : Nat) : Prop := ∀ (v : Value) (s : Sto) (c : Int) (w : World), StIn w v s → Calls Try.prog f #[v, .int .i64 c] w fun e w' => e = .returned (.int .i64 (refsS s c : Nat)) ∧ Below w.heap.size w w'
def LiveC (f : Nat) : Prop := ∀ (v : Value) (s : Sto) (w : World), StIn w v s → Calls Try.prog f #[v] w (IOut w (liveS s))
def SameC (f : Nat) : Prop := ∀ (v : Value) (s : Sto) (u : Value) (t : Sto) (w : World), StIn w v s → StIn w u t → Calls Try.prog f #[v, u] w fun e w' => e = .returned (.bool (sameS s t)) ∧ Below w.heap.size w w'
end Go.Proofs.Ytcnaahajaaifjaa

/-
  spec.StoreNew.
-/
namespace Go.Proofs.Ytcnaahajaaifjaa
open Go.RowKit
open Words

set_option maxHeartbeats 400000 in
set_option maxRecDepth 100000 in
theorem snewS : NewC 78 := by
  intro w
  have FIN : Hid (StOut w stoNew (.agg #[.slice none 0 0, .slice none 0 0, .int .i64 1]) (w.alloc (.cells #[.slice none 0 0, .slice none 0 0, .int .i64 1] 29))) := by
    have hb : Below w.heap.size w (w.alloc (.cells #[.slice none 0 0, .slice none 0 0, .int .i64 1] 29)) := (Below.refl _ _).alloc (Nat.le_refl _) _
    have hz := hb.size
    refine ⟨_, _, w.heap.size, w.heap.size, w.heap.size, w.heap.size, rfl, .inl ⟨rfl, rfl⟩, ⟨[], rfl, .inl ⟨rfl, rfl⟩, (fun _ h => by cases h), List.Pairwise.nil, by show (0 : Nat) ≤ _; omega⟩, Nat.le_refl _, hz, Nat.le_refl _, hz, .inl (Nat.le_refl _), hb⟩
  have R := hide (heap_alloc_new w (.cells #[.slice none 0 0, .slice none 0 0, .int .i64 1] 29))
  go_enter Try.func78, Try.ntmps78
  go_wp2
  exact bodyPost_ret (results_cell_row rfl _ _ w.heap.size 29 _ (0, 0) _ rfl R.out Try.underlying29 rfl infoSto) rfl ⟨_, rfl, FIN.out⟩
end Go.Proofs.Ytcnaahajaaifjaa

/-
  A store and a record as arguments, a store as the answer's cell: what stays while a call goes on.
-/
namespace Go.Proofs.Ytcnaahajaaifjaa
open Go.RowKit
open Words

def EnvS (w w0 : World) (z : Nat) (a b c : Value) (r : Rc) : Prop :=
  w.heap.size = z ∧ Below w.heap.size w w0 ∧ w0.heap[z]? = some (.cells #[a, b, c] 29 (0, 0)) ∧ w0.heap[z + 1]? = some (.cells #[.int .i64 r.kind, .int .i64 r.vol, .int .i64 r.arg, .int .i64 r.chunk] 31 (0, 0)) ∧ w0.heap[z + 1 + 1]? = some (.cells #[.slice none 0 0, .slice none 0 0, .int .i64 0] 29 (0, 0))
theorem EnvS.lt {w w0 : World} {z : Nat} {a b c : Value} {r : Rc} (h : EnvS w w0 z a b c r) : z + 1 + 1 < w0.heap.size := (Array.getElem?_eq_some_iff.1 h.2.2.2.2).1
theorem EnvS.on {w w0 W : World} {z : Nat} {a b c : Value} {r : Rc} (h : EnvS w w0 z a b c r) (H : Below w0.heap.size w0 W) : EnvS w W z a b c r := by
  have := h.lt
  obtain ⟨h1, h2, h3, h4, h5⟩ := h
  exact ⟨h1, h2.trans (H.mono h2.size), (H.block z (by omega)).trans h3, (H.block (z + 1) (by omega)).trans h4, (H.block (z + 1 + 1) this).trans h5⟩
theorem EnvS.sc {w W : World} {z : Nat} {a b c : Value} {r : Rc} (h : EnvS w W z a b c r) : W.cell? ⟨z, 0, none⟩ = some a ∧ W.cell? ⟨z, 1, none⟩ = some b ∧ W.cell? ⟨z, 2, none⟩ = some c :=
  ⟨cell_of_row _ _ 0 _ _ _ h.2.2.1, cell_of_row _ _ 1 _ _ _ h.2.2.1, cell_of_row _ _ 2 _ _ _ h.2.2.1⟩
theorem EnvS.rc {w W : World} {z : Nat} {a b c : Value} {r : Rc} (h : EnvS w W z a b c r) : W.cell? ⟨z + 1, 0, none⟩ = some (.int .i64 r.kind) ∧ W.cell? ⟨z + 1, 1, none⟩ = some (.int .i64 r.vol) ∧ W.cell? ⟨z + 1, 2, none⟩ = some (.int .i64 r.arg) ∧ W.cell? ⟨z + 1, 3, none⟩ = some (.int .i64 r.chunk) :=
  ⟨cell_of_row _ _ 0 _ _ _ h.2.2.2.1, cell_of_row _ _ 1 _ _ _ h.2.2.2.1, cell_of_row _ _ 2 _ _ _ h.2.2.2.1, cell_of_row _ _ 3 _ _ _ h.2.2.2.1⟩
theorem EnvS.rf {w W : World} {z : Nat} {a b c : Value} {r : Rc} (h : EnvS w W z a b c r) : W.cell? ⟨z + 1 + 1, 0, none⟩ = some (.slice none 0 0) ∧ W.cell? ⟨z + 1 + 1, 1, none⟩ = some (.slice none 0 0) ∧ W.cell? ⟨z + 1 + 1, 2, none⟩ = some (.int .i64 0) ∧ W.frozen? ⟨z + 1 + 1, 0, none⟩ = false ∧ W.frozen? ⟨z + 1 + 1, 1, none⟩ = false ∧ W.frozen? ⟨z + 1 + 1, 2, none⟩ = false :=
  ⟨cell_of_row _ _ 0 _ _ _ h.2.2.2.2, cell_of_row _ _ 1 _ _ _ h.2.2.2.2, cell_of_row _ _ 2 _ _ _ h.2.2.2.2, frozen_of_row _ _ 0 _ _ h.2.2.2.2, frozen_of_row _ _ 1 _ _ h.2.2.2.2, frozen_of_row _ _ 2 _ _ h.2.2.2.2⟩
/-- What an answer of a store and a yes or no is, its row of volumes with room for them. -/
def EnOut2 (w : World) (p : Sto × Bool) (e : Ending) (w' : World) : Prop := ∃ u, e = .returned (.tuple #[u, .bool p.2]) ∧ StOut w p.1 u w' ∧ VCap u
theorem EnOut2.out {w w' : World} {p : Sto × Bool} {e : Ending} (h : EnOut2 w p e w') : EnOut w p e w' := by
  obtain ⟨u, h1, h2, -⟩ := h
  exact ⟨u, h1, h2⟩
/-- A store that is answered by way of the answer's cells. -/
theorem EnvS.fin {w W w' : World} {z : Nat} {a b c u : Value} {r : Rc} {s : Sto} {p : Sto × Bool} {ok : Bool} (h : EnvS w W z a b c r) (he : p = (s, ok)) (hu : StOut W s u w') (hc : VCap u) : ∃ ua ul uc ub um ud, u = .agg #[.slice ua ul uc, .slice ub um ud, .int .i64 s.next] ∧ EnvS w w' z a b c r ∧ (((w'.setCell ⟨z + 1 + 1, 0, none⟩ (.slice ua ul uc)).setCell ⟨z + 1 + 1, 1, none⟩ (.slice ub um ud)).setCell ⟨z + 1 + 1, 2, none⟩ (.int .i64 s.next)).heap[z + 1 + 1]? = some (.cells #[.slice ua ul uc, .slice ub um ud, .int .i64 s.next] 29 (0, 0)) ∧ EnOut2 w p (.returned (.tuple #[.agg #[.slice ua ul uc, .slice ub um ud, .int .i64 s.next], .bool ok])) (((w'.setCell ⟨z + 1 + 1, 0, none⟩ (.slice ua ul uc)).setCell ⟨z + 1 + 1, 1, none⟩ (.slice ub um ud)).setCell ⟨z + 1 + 1, 2, none⟩ (.int .i64 s.next)) := by
  obtain ⟨ua, ul, uc, ub, um, ud, rfl⟩ := hu.form
  have h2 := h.on hu.blw
  refine ⟨ua, ul, uc, ub, um, ud, rfl, h2, sto_row3 h2.2.2.2.2, ?_⟩
  rw [he]
  have h3 := h.lt
  have h4 := h.1
  exact ⟨_, rfl, hu.set3 (w0 := w) h.2.1 (g := z + 1 + 1) h3 (by omega), hc⟩
/-- A store in a cell and a yes or no, answered. -/
theorem res_st2 {fn : Func} {p q : Tmp} (h : fn.results = #[.cell p 29, .tmp q]) (tmps : Array Value) (w : World) (g : Nat) (a b c : Value)
    (hp : tmps.getD p undef = .pointer (some ⟨g, 0, none⟩)) (hg : w.heap[g]? = some (.cells #[a, b, c] 29 (0, 0))) :
    (results fn tmps).run Try.prog w = .ok (.tuple #[.agg #[a, b, c], tmps.getD q undef]) w := by
  have hp' : tmps[p]?.getD undef = .pointer (some ⟨g, 0, none⟩) := by simpa using hp
  have hl := run_loadVar_row (P := Try.prog) w g 29 29 #[a, b, c] (0, 0) _ hg Try.underlying29 rfl infoSto
  simp [results, h, hp', asAddr, hl]
theorem scopy_in {v : Value} {s : Sto} {w : World} (h : StIn w v s) : Calls Try.prog 47 #[v] w fun e w' => ∃ u, e = .returned u ∧ StOut w s u w' ∧ VCap u := by
  obtain ⟨va, vl, vc, ad, len, cap, rs, rfl, hks, hvl, hl, hll, hvc, h, hk⟩ := h
  have := scopyS va vl vc ad len cap s.next s.vols rs w hvl (by omega) hll hvc h hk
  rw [← hks] at this
  exact this
theorem vfilter_take {l : List (Int × Int)} {k : Nat} {v : Int × Int} {f : Int × Int → Bool} (h : l[k]? = some v) : (l.take (k + 1)).filter f = (l.take k).filter f ++ (if f v = true then [v] else []) := by
  rw [List.take_add_one, h, List.filter_append]
  simp [List.filter_cons]
theorem vl_snoc (l : List (Int × Int)) (a b : Int) : vlcells l ++ [Value.int .i64 a, Value.int .i64 b] = vlcells (l ++ [(a, b)]) := by
  rw [vlcells_app]
  rfl
theorem vl_new (W : World) (a b : Int) : ∀ (j : Nat) (u : Value), [Value.int .i64 a, Value.int .i64 b][j]? = some u → (W.alloc (.cells #[.int .i64 a, .int .i64 b] 49)).cell? ((⟨W.heap.size, 0, none⟩ : Addr).add j) = some u := by
  intro j u hj
  rw [addr_at, cell_of_row _ _ j _ _ _ (heap_alloc_new W (.cells #[.int .i64 a, .int .i64 b] 49))]
  match j, hj with
  | 0, hj | 1, hj => simpa using hj
theorem vl_one (a b : Int) : ∀ u ∈ [Value.int .i64 a, Value.int .i64 b], u.oneCell' = true := by
  intro u hu
  simp at hu
  rcases hu with h | h <;> subst h <;> rfl
end Go.Proofs.Ytcnaahajaaifjaa
