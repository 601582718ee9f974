/-
  StoC; StH
-/
import Derived.Test.YtiicghepilbgfaaGreatDoorPk43
import Derived.Test.YtiicghepilbgfaaGreatDoorStoM5
/-
  What the functions on stores do.
-/
namespace Go.Proofs.YtiicghepilbgfaaGreatDoor
open Go.RowKit
open Words

/-- A store that came in: its volumes and knots can be read. -/
def StIn (w : World) (v : Value) (s : Sto) : Prop :=
  ∃ va vl vc ad len cap rs, v = .agg (SBox va vl vc ad len cap s.next) ∧ s.kns = rs.map ktell ∧ vl ≤ 1048576 ∧ len ≤ 1048576 ∧ (∀ r ∈ rs, r.2.2.length ≤ 1048576) ∧ (va = none → vc = 0) ∧ VlRow w va vl s.vols ∧ KnRd w ad len rs
theorem StIn.below {w w' : World} {v : Value} {s : Sto} (h : StIn w v s) (hb : Below w.heap.size w w') : StIn w' v s := by
  obtain ⟨va, vl, vc, ad, len, cap, rs, h1, h2, h3, h4, h5, h6, h7, h8⟩ := h
  exact ⟨va, vl, vc, ad, len, cap, rs, h1, h2, h3, h4, h5, h6, h7.below hb, h8.below hb⟩
/-- A store that is not too great. -/
def Words.Sto.Fit (s : Sto) : Prop := s.vols.length ≤ 1048576 ∧ s.kns.length ≤ 1048576 ∧ ∀ k ∈ s.kns, k.kids.length ≤ 1048576
theorem StIn.fit {w : World} {v : Value} {s : Sto} (h : StIn w v s) : s.Fit := by
  obtain ⟨va, vl, vc, ad, len, cap, rs, h1, h2, h3, h4, h5, h6, h7, h8⟩ := h
  refine ⟨by have := h7.1; omega, by rw [h2, List.length_map]; have := h8.1; omega, fun k hk => ?_⟩
  rw [h2] at hk
  obtain ⟨r, hr, rfl⟩ := List.mem_map.1 hk
  exact h5 r hr
theorem right_fit {s : Sto} (h : s.Right) : s.Fit := by
  refine ⟨by have := h.few; omega, by have := right_small h; omega, fun k hk => ?_⟩
  obtain ⟨i, hi, e⟩ := List.mem_iff_getElem.1 hk
  have := knB_len (arB_at h.ar (i := i) (x := k) (by rw [← e]; exact List.getElem?_eq_getElem hi))
  omega
theorem enter_fit {s : Sto} (h : s.Fit) (r : Rc) : (enterS s r).1.Fit := by
  by_cases hb : stoB s = true
  · exact right_fit (enter_right ((stoB_iff s).1 hb) r)
  · rw [enterS, if_neg (fun q => hb q.1)]; exact h
/-- What was answered can be read. -/
theorem StOut.rd {w w' : World} {v : Value} {s : Sto} (h : StOut w s v w') (hf : s.Fit) : StIn w' v s := by
  obtain ⟨vv, kv, lo1, hi1, lo2, hi2, rfl, h1, h2, h3, h4, h5, h6, h7, h8⟩ := h
  obtain ⟨va, vc, rfl, h9, h10⟩ := VlSl.of h1 (by have := hf.1; unfold maxLen; omega) h4
  obtain ⟨ad, cap, rfl⟩ := h2.form
  obtain ⟨rs, e, hr⟩ := h2.rd rfl h6
  refine ⟨va, s.vols.length, vc, ad, s.kns.length, cap, rs, rfl, e.symm, hf.1, hf.2.1, fun r hr => ?_, h9, h10, hr⟩
  exact hf.2.2 (ktell r) (by rw [← e]; exact List.mem_map.2 ⟨r, hr, rfl⟩)
theorem StOut.blw {w w' : World} {v : Value} {s : Sto} (h : StOut w s v w') : Below w.heap.size w w' := by
  obtain ⟨vv, kv, lo1, hi1, lo2, hi2, -, -, -, -, -, -, -, -, h⟩ := h
  exact h
/-- From an earlier world on. -/
theorem StOut.from {w0 w w' : World} {v : Value} {s : Sto} (h : StOut w s v w') (hb : Below w0.heap.size w0 w) : StOut w0 s v w' := by
  obtain ⟨vv, kv, lo1, hi1, lo2, hi2, e, h1, h2, h3, h4, h5, h6, h7, h8⟩ := h
  have := hb.size
  exact ⟨vv, kv, lo1, hi1, lo2, hi2, e, h1, h2, by omega, h4, by omega, h6, h7, hb.trans (h8.mono hb.size)⟩
theorem StOut.form {w w' : World} {v : Value} {s : Sto} (h : StOut w s v w') : ∃ va vl vc ad len cap, v = .agg #[.slice va vl vc, .slice ad len cap, .int .i64 s.next] := by
  obtain ⟨vv, kv, lo1, hi1, lo2, hi2, rfl, h1, h2, -⟩ := h
  obtain ⟨va, vc, rfl, -⟩ := h1.form
  obtain ⟨ad, cap, rfl⟩ := h2.form
  exact ⟨_, _, _, _, _, _, rfl⟩
/-- Later, where what came since w is kept. -/
theorem StOut.later {w w1 w2 : World} {v : Value} {s : Sto} (h : StOut w s v w1) (hq : ∀ g, w.heap.size ≤ g → g < w1.heap.size → w2.heap[g]? = w1.heap[g]?) (hz : w1.heap.size ≤ w2.heap.size) (hb : Below w.heap.size w w2) : StOut w s v w2 := by
  obtain ⟨vv, kv, lo1, hi1, lo2, hi2, e, h1, h2, h3, h4, h5, h6, h7, -⟩ := h
  refine ⟨vv, kv, lo1, hi1, lo2, hi2, e, ?_, ?_, h3, by omega, h5, by omega, h7, hb⟩
  · exact Sli.loc _ _ _ _ _ _ w1 _ (fun g g1 g2 => hq g (by omega) (by omega)) h1
  · exact Kns.loc _ _ _ _ w1 _ (fun g g1 g2 => hq g (by omega) (by omega)) h2
/-- .. laid into a cell that was there before. -/
theorem StOut.set {w0 w w1 : World} {v u : Value} {s : Sto} (h : StOut w s v w1) (hb : Below w0.heap.size w0 w) {g k : Nat} (hg : g < w.heap.size) (h0 : w0.heap.size ≤ g) : StOut w0 s v (w1.setCell ⟨g, k, none⟩ u) := by
  obtain ⟨vv, kv, lo1, hi1, lo2, hi2, e, h1, h2, h3, h4, h5, h6, h7, h8⟩ := h
  have hs := hb.size
  have hz : (w1.setCell ⟨g, k, none⟩ u).heap.size = w1.heap.size := by simp [World.setCell]
  have hq : ∀ q, w.heap.size ≤ q → (w1.setCell ⟨g, k, none⟩ u).heap[q]? = w1.heap[q]? := fun q q1 => Below.heap_setCell _ _ _ _ (show q ≠ g by omega)
  refine ⟨vv, kv, lo1, hi1, lo2, hi2, e, ?_, ?_, by omega, by omega, by omega, by omega, h7, ?_⟩
  · exact Sli.loc _ _ _ _ _ _ w1 _ (fun g g1 g2 => hq g (by omega)) h1
  · exact Kns.loc _ _ _ _ w1 _ (fun g g1 g2 => hq g (by omega)) h2
  · exact (hb.trans (h8.mono hs)).setCell (p := ⟨g, k, none⟩) h0 _
/-- .. three cells. -/
theorem StOut.set3 {w0 w w1 : World} {v a b c : Value} {s : Sto} (h : StOut w s v w1) (hb : Below w0.heap.size w0 w) {g : Nat} (hg : g < w.heap.size) (h0 : w0.heap.size ≤ g) : StOut w0 s v (((w1.setCell ⟨g, 0, none⟩ a).setCell ⟨g, 1, none⟩ b).setCell ⟨g, 2, none⟩ c) := by
  obtain ⟨vv, kv, lo1, hi1, lo2, hi2, e, h1, h2, h3, h4, h5, h6, h7, h8⟩ := h
  have hs := hb.size
  have hz : (((w1.setCell ⟨g, 0, none⟩ a).setCell ⟨g, 1, none⟩ b).setCell ⟨g, 2, none⟩ c).heap.size = w1.heap.size := by simp [World.setCell]
  have hq : ∀ q, w.heap.size ≤ q → (((w1.setCell ⟨g, 0, none⟩ a).setCell ⟨g, 1, none⟩ b).setCell ⟨g, 2, none⟩ c).heap[q]? = w1.heap[q]? := fun q q1 => (Below.heap_setCell _ _ _ _ (show q ≠ g by omega)).trans ((Below.heap_setCell _ _ _ _ (show q ≠ g by omega)).trans (Below.heap_setCell _ _ _ _ (show q ≠ g by omega)))
  refine ⟨vv, kv, lo1, hi1, lo2, hi2, e, ?_, ?_, by omega, by omega, by omega, by omega, h7, ?_⟩
  · exact Sli.loc _ _ _ _ _ _ w1 _ (fun g g1 g2 => hq g (by omega)) h1
  · exact Kns.loc _ _ _ _ w1 _ (fun g g1 g2 => hq g (by omega)) h2
  · exact (((hb.trans (h8.mono hs)).setCell (p := ⟨g, 0, none⟩) h0 _).setCell (p := ⟨g, 1, none⟩) h0 _).setCell (p := ⟨g, 2, none⟩) h0 _
theorem sto_row3 {w : World} {g : Nat} {x0 x1 x2 a b c : Value} (h : w.heap[g]? = some (.cells #[x0, x1, x2] 55 (0, 0))) : (((w.setCell ⟨g, 0, none⟩ a).setCell ⟨g, 1, none⟩ b).setCell ⟨g, 2, none⟩ c).heap[g]? = some (.cells #[a, b, c] 55 (0, 0)) := heap_setCell_same _ _ 2 _ _ _ (heap_setCell_same _ _ 1 _ _ _ (heap_setCell_same _ _ 0 _ _ _ h))

/-- A store laid into the result's cells. -/
theorem st_fin {w W : World} {z lo1 hi1 lo2 hi2 : Nat} {vv kv : Value} {s : Sto} (hz : w.heap.size ≤ z) (h1 : Sli 72 lo1 hi1 vv s.vols.length (vlcells s.vols) W) (h2 : Kns lo2 hi2 kv s.kns W) (a1 : w.heap.size ≤ lo1 ∧ (hi1 ≤ z ∨ z < lo1)) (a2 : w.heap.size ≤ lo2 ∧ (hi2 ≤ z ∨ z < lo2)) (a3 : hi1 ≤ W.heap.size) (a4 : hi2 ≤ W.heap.size) (a5 : hi1 ≤ lo2 ∨ hi2 ≤ lo1) (hb : Below w.heap.size w W) :
    StOut w s (.agg #[vv, kv, .int .i64 s.next]) (((W.setCell ⟨z, 0, none⟩ vv).setCell ⟨z, 1, none⟩ kv).setCell ⟨z, 2, none⟩ (.int .i64 s.next)) := by
  have hz2 : (((W.setCell ⟨z, 0, none⟩ vv).setCell ⟨z, 1, none⟩ kv).setCell ⟨z, 2, none⟩ (.int .i64 s.next)).heap.size = W.heap.size := by simp [World.setCell]
  have hq : ∀ q, q ≠ z → (((W.setCell ⟨z, 0, none⟩ vv).setCell ⟨z, 1, none⟩ kv).setCell ⟨z, 2, none⟩ (.int .i64 s.next)).heap[q]? = W.heap[q]? := fun q q1 => (Below.heap_setCell _ _ _ _ q1).trans ((Below.heap_setCell _ _ _ _ q1).trans (Below.heap_setCell _ _ _ _ q1))
  refine ⟨vv, kv, lo1, hi1, lo2, hi2, rfl, ?_, ?_, a1.1, by omega, a2.1, by omega, a5, ?_⟩
  · exact Sli.loc _ _ _ _ _ _ W _ (fun g g1 g2 => hq g (by omega)) h1
  · exact Kns.loc _ _ _ _ W _ (fun g g1 g2 => hq g (by omega)) h2
  · exact ((hb.setCell (p := ⟨z, 0, none⟩) hz _).setCell (p := ⟨z, 1, none⟩) hz _).setCell (p := ⟨z, 2, none⟩) hz _
/-- What an answer of a store and a yes or no is. -/
def EnOut (w : World) (p : Sto × Bool) (e : Ending) (w' : World) : Prop := ∃ u, e = .returned (.tuple #[u, .bool p.2]) ∧ StOut w p.1 u w'
def NewC (f : Nat) : Prop := ∀ w : World, Calls Tryz.prog f #[] w fun e w' => ∃ v, e = .returned v ∧ StOut w stoNew v w'
def OkC (f : Nat) : Prop := ∀ (v : Value) (s : Sto) (w : World), StIn w v s → Calls Tryz.prog f #[v] w fun e w' => e = .returned (.bool (stoB s)) ∧ Below w.heap.size w w'
def EnterC (f : Nat) : Prop := ∀ (v : Value) (s : Sto) (r : Rc) (w : World), StIn w v s → Calls Tryz.prog f #[v, .agg #[.int .i64 r.kind, .int .i64 r.vol, .int .i64 r.arg, .int .i64 r.chunk]] w (EnOut w (enterS s r))
/-- What answers a row of records. -/
def RcsOut (w : World) (l : List Rc) (e : Ending) (w' : World) : Prop := ∃ v, e = .returned v ∧ w'.ownsRow w.heap.size 190 4 v l.length (rccells (l.map Rc.tu)) ∧ Below w.heap.size w w'
def BaseC (f : Nat) : Prop := ∀ (v : Value) (s : Sto) (w : World), StIn w v s → Calls Tryz.prog f #[v] w (RcsOut w (baseS s))
def EnterAllC (f : Nat) : Prop := ∀ (v : Value) (s : Sto) (a : Option Addr) (n c : Nat) (l : List Rc) (w : World), n ≤ 1048576 * 32 → StIn w v s → RcRow w a n (l.map Rc.tu) → Calls Tryz.prog f #[v, .slice a n c] w (EnOut w (enterAllS s l))
def ChunkC (f : Nat) : Prop := ∀ (v : Value) (s : Sto) (vol sec : Int) (w : World), StIn w v s → Calls Tryz.prog f #[v, .int .i64 vol, .int .i64 sec] w fun e w' => e = .returned (.int .i64 (chunkS s vol sec)) ∧ Below w.heap.size w w'
def RefsC (f : Nat) : Prop := ∀ (v : Value) (s : Sto) (c : Int) (w : World), StIn w v s → Calls Tryz.prog f #[v, .int .i64 c] w fun e w' => e = .returned (.int .i64 (refsS s c : Nat)) ∧ Below w.heap.size w w'
def LiveC (f : Nat) : Prop := ∀ (v : Value) (s : Sto) (w : World), StIn w v s → Calls Tryz.prog f #[v] w (IOut w (liveS s))
def SameC (f : Nat) : Prop := ∀ (v : Value) (s : Sto) (u : Value) (t : Sto) (w : World), StIn w v s → StIn w u t → Calls Tryz.prog f #[v, u] w fun e w' => e = .returned (.bool (sameS s t)) ∧ Below w.heap.size w w'
end Go.Proofs.YtiicghepilbgfaaGreatDoor

/-
  A store in a variable: its rows lie apart from the variable.
-/
namespace Go.Proofs.YtiicghepilbgfaaGreatDoor
open Go.RowKit
open Words

def StH (lo zb : Nat) (v : Value) (s : Sto) (V : World) : Prop := ∃ vv kv lo1 hi1 lo2 hi2, v = .agg #[vv, kv, .int .i64 s.next] ∧ Sli 72 lo1 hi1 vv s.vols.length (vlcells s.vols) V ∧ Kns lo2 hi2 kv s.kns V ∧ (lo ≤ lo1 ∧ (hi1 ≤ zb ∨ zb < lo1)) ∧ (lo ≤ lo2 ∧ (hi2 ≤ zb ∨ zb < lo2)) ∧ hi1 ≤ V.heap.size ∧ hi2 ≤ V.heap.size ∧ (hi1 ≤ lo2 ∨ hi2 ≤ lo1)
theorem StH.keep {lo zb : Nat} {v : Value} {s : Sto} {V V' : World} (h : StH lo zb v s V) (hq : ∀ g, lo ≤ g → g ≠ zb → g < V.heap.size → V'.heap[g]? = V.heap[g]?) (hz : V.heap.size ≤ V'.heap.size) : StH lo zb v s V' := by
  obtain ⟨vv, kv, lo1, hi1, lo2, hi2, e, h1, h2, h3, h4, h5, h6, h7⟩ := h
  refine ⟨vv, kv, lo1, hi1, lo2, hi2, e, ?_, ?_, h3, h4, by omega, by omega, h7⟩
  · exact Sli.loc _ _ _ _ _ _ V _ (fun g g1 g2 => hq g (by omega) (by omega) (by omega)) h1
  · exact Kns.loc _ _ _ _ V _ (fun g g1 g2 => hq g (by omega) (by omega) (by omega)) h2
theorem StH.below {lo zb : Nat} {v : Value} {s : Sto} {V V' : World} (h : StH lo zb v s V) (hb : Below V.heap.size V V') : StH lo zb v s V' := h.keep (fun g _ _ hg => hb.block g hg) hb.size
theorem StH.of {lo zb : Nat} {v : Value} {s : Sto} {w V : World} (h : StOut w s v V) (hlo : lo ≤ w.heap.size) (hzb : zb < w.heap.size ∨ V.heap.size ≤ zb) : StH lo zb v s V := by
  obtain ⟨vv, kv, lo1, hi1, lo2, hi2, e, h1, h2, h3, h4, h5, h6, h7, -⟩ := h
  exact ⟨vv, kv, lo1, hi1, lo2, hi2, e, h1, h2, ⟨by omega, by omega⟩, ⟨by omega, by omega⟩, h4, h6, h7⟩
/-- The variable is written. -/
theorem StH.set {lo zb k : Nat} {v u : Value} {s : Sto} {V : World} (h : StH lo zb v s V) : StH lo zb v s (V.setCell ⟨zb, k, none⟩ u) :=
  h.keep (fun g _ hg _ => Below.heap_setCell _ _ _ _ hg) (by simp [World.setCell])
theorem StH.form {lo zb : Nat} {v : Value} {s : Sto} {V : World} (h : StH lo zb v s V) : ∃ va vl vc ad len cap, v = .agg #[.slice va vl vc, .slice ad len cap, .int .i64 s.next] := by
  obtain ⟨vv, kv, lo1, hi1, lo2, hi2, rfl, h1, h2, -⟩ := h
  obtain ⟨va, vc, rfl, -⟩ := h1.form
  obtain ⟨ad, cap, rfl⟩ := h2.form
  exact ⟨_, _, _, _, _, _, rfl⟩
theorem StH.rd {lo zb : Nat} {v : Value} {s : Sto} {V : World} (h : StH lo zb v s V) (hf : s.Fit) : StIn V v s := by
  obtain ⟨vv, kv, lo1, hi1, lo2, hi2, rfl, h1, h2, h3, h4, h5, h6, h7⟩ := h
  obtain ⟨va, vc, rfl, h9, h10⟩ := VlSl.of h1 (by have := hf.1; unfold maxLen; omega) h5
  obtain ⟨ad, cap, rfl⟩ := h2.form
  obtain ⟨rs, e, hr⟩ := h2.rd rfl h6
  refine ⟨va, s.vols.length, vc, ad, s.kns.length, cap, rs, rfl, e.symm, hf.1, hf.2.1, fun r hr => ?_, h9, h10, hr⟩
  exact hf.2.2 (ktell r) (by rw [← e]; exact List.mem_map.2 ⟨r, hr, rfl⟩)
/-- It is answered by way of the cell g, below all. -/
theorem StH.fin {w V : World} {lo zb g : Nat} {a b : Value} {n : Int} {s : Sto} (h : StH lo zb (.agg #[a, b, .int .i64 n]) s V) (hb : Below w.heap.size w V) (hg : w.heap.size ≤ g) (hl : g < lo) : StOut w s (.agg #[a, b, .int .i64 n]) (((V.setCell ⟨g, 0, none⟩ a).setCell ⟨g, 1, none⟩ b).setCell ⟨g, 2, none⟩ (.int .i64 n)) := by
  obtain ⟨vv, kv, lo1, hi1, lo2, hi2, e, h1, h2, h3, h4, h5, h6, h7⟩ := h
  injection e with e
  injection e with e
  simp only [List.cons.injEq, and_true] at e
  obtain ⟨e1, e2, e3⟩ := e
  rw [e1, e2, e3]
  exact st_fin hg h1 h2 ⟨by omega, .inr (by omega)⟩ ⟨by omega, .inr (by omega)⟩ h5 h6 h7 hb
theorem fit_go {s t : Sto} {l : List Rc} (h : s.Fit) (e : enterGo s l = some t) : t.Fit := by
  induction l generalizing s with
  | nil => rw [enterGo] at e; cases e; exact h
  | cons r l ih =>
    rw [enterGo] at e
    split at e
    · exact ih (enter_fit h r) e
    · cases e
theorem go_snoc {s t : Sto} {l : List Rc} {k : Nat} {r : Rc} (h : enterGo s (l.take k) = some t) (hr : l[k]? = some r) : enterGo s (l.take (k + 1)) = if (enterS t r).2 = true then some (enterS t r).1 else none := by
  obtain ⟨h1, h2⟩ := List.getElem?_eq_some_iff.1 hr
  rw [List.take_succ_eq_append_getElem h1, h2, enterGo_app, h, Option.bind_some, enterGo]
  split <;> rfl
theorem go_bad {s t : Sto} {l : List Rc} {k : Nat} {r : Rc} (h : enterGo s (l.take k) = some t) (hr : l[k]? = some r) (hb : (enterS t r).2 = false) : enterAllS s l = (s, false) := by
  have e : enterGo s l = none := by
    conv => lhs; rw [← List.take_append_drop (k + 1) l]
    rw [enterGo_app, go_snoc h hr, if_neg (by rw [hb]; decide)]
    rfl
  rw [enterAllS, e]
theorem go_all {s t : Sto} {l : List Rc} (h : enterGo s l = some t) : enterAllS s l = (t, true) := by rw [enterAllS, h]
end Go.Proofs.YtiicghepilbgfaaGreatDoor
