/-
  DrStoM; DrStoR
-/
import Derived.Test.YtcnaahajaaifjaaSEnter
import Derived.Test.YtcnaahajaaifjaaPq22
import Derived.Test.YtcnaahajaaifjaaStoM7
import Derived.Test.YtcnaahajaaifjaaPq27
/-
  A store under way in a draw: what it keeps.
-/
namespace Go.Proofs.Ytcnaahajaaifjaa
open Go.RowKit
open Words

/-- A store in the variable zb, all of it below G; the cursor p is older than all. -/
def SDr (x : Obj) (w W : World) (G zb p : Nat) (ad : Option Addr) (len cap : Nat) (a b : Value) (s : Sto) : Prop :=
  Drawn w W p ad len cap ∧ p < w.heap.size ∧ G ≤ W.heap.size ∧ (w.heap.size < zb ∧ zb < G) ∧ s.Drn ∧ VCap (.agg #[a, b, .int .i64 s.next]) ∧
    ∃ W0 : World, W0.heap.size = G ∧ (∀ q, w.heap.size ≤ q → q < G → W.heap[q]? = W0.heap[q]?) ∧ W0.heap[w.heap.size]? = some x ∧ W0.heap[zb]? = some (.cells #[a, b, .int .i64 s.next] 29 (0, 0)) ∧ StH (w.heap.size + 1) zb (.agg #[a, b, .int .i64 s.next]) s W0
section
variable {x : Obj} {w W : World} {G zb p : Nat} {ad : Option Addr} {len cap : Nat} {a b : Value} {s : Sto}
theorem SDr.go {W' : World} (h : SDr x w W G zb p ad len cap a b s) (d : Drawn W W' p ad len cap) : SDr x w W' G zb p ad len cap a b s := by
  obtain ⟨h1, h2, h3, h4, h5, h6, W0, h7, h8, h9⟩ := h
  have hs := d.1.size
  refine ⟨h1.trans d, h2, by omega, h4, h5, h6, W0, h7, fun q q1 q2 => ?_, h9⟩
  exact (d.1.block q (by omega) (fun e => by injection e with e; omega)).trans (h8 q q1 q2)
theorem SDr.bel {W' : World} (h : SDr x w W G zb p ad len cap a b s) (d : Below W.heap.size W W') : SDr x w W' G zb p ad len cap a b s := by
  obtain ⟨h1, h2, h3, h4, h5, h6, W0, h7, h8, h9⟩ := h
  have hs := d.size
  refine ⟨h1.below (d.mono h1.1.size) h2, h2, by omega, h4, h5, h6, W0, h7, fun q q1 q2 => ?_, h9⟩
  exact (d.block q (by omega)).trans (h8 q q1 q2)
/-- A cell that came later is written. -/
theorem SDr.wr {g k : Nat} (h : SDr x w W G zb p ad len cap a b s) (hg : G ≤ g) (u : Value) : SDr x w (W.setCell ⟨g, k, none⟩ u) G zb p ad len cap a b s := by
  obtain ⟨h1, h2, h3, h4, h5, h6, W0, h7, h8, h9⟩ := h
  have hz : (W.setCell ⟨g, k, none⟩ u).heap.size = W.heap.size := by simp [World.setCell]
  refine ⟨h1.below ((Below.refl w.heap.size W).setCell (p := ⟨g, k, none⟩) (by show w.heap.size ≤ g; omega) u) h2, h2, by omega, h4, h5, h6, W0, h7, fun q q1 q2 => ?_, h9⟩
  exact (Below.heap_setCell _ _ _ _ (show q ≠ g by omega)).trans (h8 q q1 q2)
theorem SDr.var (h : SDr x w W G zb p ad len cap a b s) : W.heap[zb]? = some (.cells #[a, b, .int .i64 s.next] 29 (0, 0)) := by
  obtain ⟨h1, h2, h3, h4, h5, h6, W0, h7, h8, h9, h10, h11⟩ := h
  exact (h8 zb (by omega) h4.2).trans h10
theorem SDr.res (h : SDr x w W G zb p ad len cap a b s) : W.heap[w.heap.size]? = some x := by
  obtain ⟨h1, h2, h3, h4, h5, h6, W0, h7, h8, h9, h10, h11⟩ := h
  exact (h8 w.heap.size (Nat.le_refl _) (by omega)).trans h9
theorem SDr.sth (h : SDr x w W G zb p ad len cap a b s) : StH (w.heap.size + 1) zb (.agg #[a, b, .int .i64 s.next]) s W := by
  obtain ⟨h1, h2, h3, h4, h5, h6, W0, h7, h8, h9, h10, h11⟩ := h
  exact h11.keep (fun g g1 g2 g3 => h8 g (by omega) (by omega)) (by omega)
theorem SDr.rd (h : SDr x w W G zb p ad len cap a b s) : StIn W (.agg #[a, b, .int .i64 s.next]) s := h.sth.rd (right_fit h.2.2.2.2.1.1)
theorem SDr.cells (h : SDr x w W G zb p ad len cap a b s) : W.cell? ⟨zb, 0, none⟩ = some a ∧ W.cell? ⟨zb, 1, none⟩ = some b ∧ W.cell? ⟨zb, 2, none⟩ = some (.int .i64 s.next) :=
  ⟨cell_of_row _ _ 0 _ _ _ h.var, cell_of_row _ _ 1 _ _ _ h.var, cell_of_row _ _ 2 _ _ _ h.var⟩
theorem SDr.forms (h : SDr x w W G zb p ad len cap a b s) : ∃ va vc kd kc, a = .slice va s.vols.length vc ∧ b = .slice kd s.kns.length kc ∧ VlRow W va s.vols.length s.vols := by
  obtain ⟨vv, kv, lo1, hi1, lo2, hi2, e, h1, h2, h3, h4, h5, h6, h7⟩ := h.sth
  injection e with e
  injection e with e
  simp only [List.cons.injEq, and_true] at e
  obtain ⟨e1, e2⟩ := e
  have hf := right_fit h.2.2.2.2.1.1
  obtain ⟨va, vc, e3, h9, h10⟩ := VlSl.of h1 (by have := hf.1; unfold maxLen; omega) h5
  obtain ⟨kd, kc, e4⟩ := h2.form
  exact ⟨va, vc, kd, kc, by rw [e1, e3], by rw [e2, e4], h10⟩
/-- A new block behind all. -/
theorem SDr.top (h : SDr x w W G zb p ad len cap a b s) : SDr x w W W.heap.size zb p ad len cap a b s := by
  obtain ⟨h1, h2, h3, h4, h5, h6, W0, h7, h8, h9, h10, h11⟩ := h
  refine ⟨h1, h2, Nat.le_refl _, ⟨h4.1, by omega⟩, h5, h6, W, rfl, fun _ _ _ => rfl, (h8 _ (Nat.le_refl _) (by omega)).trans h9, (h8 zb (by omega) h4.2).trans h10, ?_⟩
  exact h11.keep (fun g g1 g2 g3 => h8 g (by omega) (by omega)) (by omega)
/-- Another store is laid into the variable. -/
theorem SDr.put {V : World} {xv yv : Value} {t : Sto} (h : SDr x w W G zb p ad len cap a b s) (hu : StOut W t (.agg #[xv, yv, .int .i64 t.next]) V) (hc : VCap (.agg #[xv, yv, .int .i64 t.next])) (ht : t.Drn) : SDr x w (((V.setCell ⟨zb, 0, none⟩ xv).setCell ⟨zb, 1, none⟩ yv).setCell ⟨zb, 2, none⟩ (.int .i64 t.next)) V.heap.size zb p ad len cap xv yv t := by
  have h' := h.bel hu.blw
  have hs := hu.blw.size
  have hz : (((V.setCell ⟨zb, 0, none⟩ xv).setCell ⟨zb, 1, none⟩ yv).setCell ⟨zb, 2, none⟩ (.int .i64 t.next)).heap.size = V.heap.size := by simp [World.setCell]
  have hw := h.1.1.size
  have h4 := h.2.2.2.1
  have h3 := h.2.2.1
  have hb : Below w.heap.size V (((V.setCell ⟨zb, 0, none⟩ xv).setCell ⟨zb, 1, none⟩ yv).setCell ⟨zb, 2, none⟩ (.int .i64 t.next)) := (((Below.refl w.heap.size V).setCell (p := ⟨zb, 0, none⟩) (by show _ ≤ zb; omega) xv).setCell (p := ⟨zb, 1, none⟩) (by show _ ≤ zb; omega) yv).setCell (p := ⟨zb, 2, none⟩) (by show _ ≤ zb; omega) _
  have ho : StH (w.heap.size + 1) zb (.agg #[xv, yv, .int .i64 t.next]) t V := StH.of hu (by omega) (.inl (by omega))
  refine ⟨h'.1.below hb h.2.1, h.2.1, by omega, ⟨h4.1, by omega⟩, ht, hc, _, hz, fun _ _ _ => rfl, ?_, sto_row3 h'.var, ho.set.set.set⟩
  exact (Below.heap_setCell _ _ _ _ (show w.heap.size ≠ zb by omega)).trans ((Below.heap_setCell _ _ _ _ (show w.heap.size ≠ zb by omega)).trans ((Below.heap_setCell _ _ _ _ (show w.heap.size ≠ zb by omega)).trans h'.res))
end
/-- A store that was made just now, in a new variable. -/
theorem SDr.new {x : Obj} {w W V : World} {p : Nat} {ad : Option Addr} {len cap : Nat} {xv yv : Value} {t : Sto} (hp : p < w.heap.size) (hd : Drawn w W p ad len cap) (hr : W.heap[w.heap.size]? = some x) (hu : StOut W t (.agg #[xv, yv, .int .i64 t.next]) V) (hc : VCap (.agg #[xv, yv, .int .i64 t.next])) (ht : t.Drn) :
    SDr x w (V.alloc (.cells #[xv, yv, .int .i64 t.next] 29)) (V.heap.size + 1) V.heap.size p ad len cap xv yv t := by
  have hs := hu.blw.size
  have hw := hd.1.size
  have hz : (V.alloc (.cells #[xv, yv, .int .i64 t.next] 29)).heap.size = V.heap.size + 1 := by simp
  have hl := (Array.getElem?_eq_some_iff.1 hr).1
  have bA := (Below.refl V.heap.size V).alloc (Nat.le_refl _) (.cells #[xv, yv, .int .i64 t.next] 29)
  have bB : Below W.heap.size W (V.alloc (.cells #[xv, yv, .int .i64 t.next] 29)) := hu.blw.trans (bA.mono hs)
  have ho : StH (w.heap.size + 1) V.heap.size (.agg #[xv, yv, .int .i64 t.next]) t V := StH.of hu (by omega) (.inr (Nat.le_refl _))
  exact ⟨hd.below (bB.mono hw) hp, hp, by omega, ⟨by omega, by omega⟩, ht, hc, _, hz, fun _ _ _ => rfl, (bB.block _ hl).trans hr, heap_alloc_new V _, ho.below bA⟩
/-- What answers a drawn store. -/
def DStO (w : World) (p : Nat) (ad : Option Addr) (len cap : Nat) (e : Ending) (w' : World) : Prop :=
  ∃ u s, e = .returned u ∧ s.Drn ∧ VCap u ∧ Sts (w.heap.size + 1) w'.heap.size u s w' ∧ Drawn w w' p ad len cap ∧ w.heap.size < w'.heap.size
theorem SDr.fin {x : Obj} {w W : World} {G zb p : Nat} {ad : Option Addr} {len cap : Nat} {a b : Value} {s : Sto} (h : SDr x w W G zb p ad len cap a b s) : DStO w p ad len cap (.returned (.agg #[a, b, .int .i64 s.next])) (((W.setCell ⟨w.heap.size, 0, none⟩ a).setCell ⟨w.heap.size, 1, none⟩ b).setCell ⟨w.heap.size, 2, none⟩ (.int .i64 s.next)) := by
  have hz : (((W.setCell ⟨w.heap.size, 0, none⟩ a).setCell ⟨w.heap.size, 1, none⟩ b).setCell ⟨w.heap.size, 2, none⟩ (.int .i64 s.next)).heap.size = W.heap.size := by simp [World.setCell]
  have hb : Below w.heap.size W (((W.setCell ⟨w.heap.size, 0, none⟩ a).setCell ⟨w.heap.size, 1, none⟩ b).setCell ⟨w.heap.size, 2, none⟩ (.int .i64 s.next)) := (((Below.refl w.heap.size W).setCell (p := ⟨w.heap.size, 0, none⟩) (Nat.le_refl _) a).setCell (p := ⟨w.heap.size, 1, none⟩) (Nat.le_refl _) b).setCell (p := ⟨w.heap.size, 2, none⟩) (Nat.le_refl _) _
  have hq : ∀ q, q ≠ w.heap.size → (((W.setCell ⟨w.heap.size, 0, none⟩ a).setCell ⟨w.heap.size, 1, none⟩ b).setCell ⟨w.heap.size, 2, none⟩ (.int .i64 s.next)).heap[q]? = W.heap[q]? := fun q q1 => (Below.heap_setCell _ _ _ _ q1).trans ((Below.heap_setCell _ _ _ _ q1).trans (Below.heap_setCell _ _ _ _ q1))
  obtain ⟨vv, kv, lo1, hi1, lo2, hi2, e, h1, h2, h3, h4, h5, h6, h7⟩ := h.sth
  refine ⟨_, s, rfl, h.2.2.2.2.1, h.2.2.2.2.2.1, ⟨vv, kv, lo1, hi1, lo2, hi2, e, ?_, ?_, h3.1, by omega, h4.1, by omega, h7⟩, h.1.below hb h.2.1, by have := h.2.2.1; have := h.2.2.2.1; omega⟩
  · exact Sli.loc _ _ _ _ _ _ W _ (fun g g1 g2 => hq g (by omega)) h1
  · exact Kns.loc _ _ _ _ W _ (fun g g1 g2 => hq g (by omega)) h2
/-- A drawn store in a new variable. -/
theorem SDr.of {w W : World} {p : Nat} {ad : Option Addr} {len cap : Nat} {a b : Value} {s : Sto} (hp : p < w.heap.size) (hs : s.Drn) (hc : VCap (.agg #[a, b, .int .i64 s.next])) (h : Sts (w.heap.size + 1) W.heap.size (.agg #[a, b, .int .i64 s.next]) s W) (hd : Drawn w W p ad len cap) (hl : w.heap.size < W.heap.size) :
    ∃ x, SDr x w (W.alloc (.cells #[a, b, .int .i64 s.next] 29)) (W.heap.size + 1) W.heap.size p ad len cap a b s := by
  have bA := (Below.refl W.heap.size W).alloc (Nat.le_refl _) (.cells #[a, b, .int .i64 s.next] 29)
  have hz : (W.alloc (.cells #[a, b, .int .i64 s.next] 29)).heap.size = W.heap.size + 1 := by simp
  obtain ⟨vv, kv, lo1, hi1, lo2, hi2, e, h1, h2, h3, h4, h5, h6, h7⟩ := h
  refine ⟨W.heap[w.heap.size]'hl, hd.below (bA.mono hd.1.size) hp, hp, by omega, ⟨hl, by omega⟩, hs, hc, _, hz, fun _ _ _ => rfl, (bA.block _ hl).trans (Array.getElem?_eq_getElem hl), heap_alloc_new W _, vv, kv, lo1, hi1, lo2, hi2, e, ?_, ?_, ⟨h3, .inl h4⟩, ⟨h5, .inl h6⟩, by omega, by omega, h7⟩
  · exact Sli.loc _ _ _ _ _ _ W _ (fun g g1 g2 => bA.block g (by omega)) h1
  · exact Kns.loc _ _ _ _ W _ (fun g g1 g2 => bA.block g (by omega)) h2
end Go.Proofs.Ytcnaahajaaifjaa

/-
  A record beside a store under way in a draw.
-/
namespace Go.Proofs.Ytcnaahajaaifjaa
open Go.RowKit
open Words

theorem StOut.vcap {w w' : World} {v : Value} {s : Sto} (h : StOut w s v w') (hs : s.vols.length = 0) : VCap v := by
  obtain ⟨vv, kv, lo1, hi1, lo2, hi2, rfl, h1, -⟩ := h
  obtain ⟨a, c, rfl, -⟩ := h1.form
  exact ⟨_, _, _, _, _, rfl, by omega⟩
theorem StOut.vlen {w w' : World} {a : Option Addr} {n c : Nat} {k x : Value} {s : Sto} (h : StOut w s (.agg #[.slice a n c, k, x]) w') : n = s.vols.length := by
  obtain ⟨vv, kv, lo1, hi1, lo2, hi2, e, h1, -⟩ := h
  injection e with e
  injection e with e
  simp only [List.cons.injEq, and_true] at e
  obtain ⟨e, -⟩ := e
  obtain ⟨a', c', e2, -⟩ := h1.form
  rw [← e] at e2
  injection e2 with e3 e4 e5
theorem SDr.row {x : Obj} {w W : World} {G zb p n vc : Nat} {ad va : Option Addr} {len cap : Nat} {b : Value} {s : Sto} (h : SDr x w W G zb p ad len cap (.slice va n vc) b s) (hn : s.vols.length = n) : VlRow W va n s.vols := by
  obtain ⟨va', vc', kd, kc, e, -, hr⟩ := h.forms
  injection e with e1 e2 e3
  rw [← e1, hn] at hr
  exact hr
theorem drn_id {s : Sto} (h : s.Drn) (k : Nat) : (s.vols[k]?.getD (0, 0)).1 ≤ 3 := by
  cases e : s.vols[k]? with
  | none => show (0 : Int) ≤ 3; omega
  | some v => exact h.2.1 v (List.mem_of_getElem? e)
/-- .. and a record in the variable g. -/
def SRr (x : Obj) (w W : World) (G zb p g : Nat) (ad : Option Addr) (len cap : Nat) (a b : Value) (s : Sto) (r : Rc) : Prop :=
  SDr x w W G zb p ad len cap a b s ∧ G ≤ g ∧ W.heap[g]? = some (.cells #[.int .i64 r.kind, .int .i64 r.vol, .int .i64 r.arg, .int .i64 r.chunk] 31 (0, 0)) ∧ r.kind ≠ 1 ∧ r.vol ≤ 3 ∧ r.chunk ≤ 9
section
variable {x : Obj} {w W : World} {G zb p g : Nat} {ad : Option Addr} {len cap : Nat} {a b : Value} {s : Sto} {r : Rc}
theorem SRr.new (h : SDr x w W G zb p ad len cap a b s) (hr : RcDr r) : SRr x w (W.alloc (.cells #[.int .i64 r.kind, .int .i64 r.vol, .int .i64 r.arg, .int .i64 r.chunk] 31)) W.heap.size zb p W.heap.size ad len cap a b s r :=
  ⟨h.top.bel ((Below.refl _ _).alloc (Nat.le_refl _) _), Nat.le_refl _, heap_alloc_new W _, by have := hr.2.1; omega, hr.2.2.1, hr.2.2.2⟩
theorem SRr.lt (h : SRr x w W G zb p g ad len cap a b s r) : g < W.heap.size := (Array.getElem?_eq_some_iff.1 h.2.2.1).1
theorem SRr.go {W' : World} (h : SRr x w W G zb p g ad len cap a b s r) (d : Drawn W W' p ad len cap) : SRr x w W' G zb p g ad len cap a b s r := by
  have hl := h.lt
  have h1 := h.1.2.1
  have h2 := h.1.2.2.2.1
  have h3 := h.2.1
  exact ⟨h.1.go d, h.2.1, (d.1.block g hl (fun e => by injection e with e; omega)).trans h.2.2.1, h.2.2.2⟩
theorem SRr.bel {W' : World} (h : SRr x w W G zb p g ad len cap a b s r) (d : Below W.heap.size W W') : SRr x w W' G zb p g ad len cap a b s r :=
  ⟨h.1.bel d, h.2.1, (d.block g h.lt).trans h.2.2.1, h.2.2.2⟩
theorem SRr.rc (h : SRr x w W G zb p g ad len cap a b s r) : W.cell? ⟨g, 0, none⟩ = some (.int .i64 r.kind) ∧ W.cell? ⟨g, 1, none⟩ = some (.int .i64 r.vol) ∧ W.cell? ⟨g, 2, none⟩ = some (.int .i64 r.arg) ∧ W.cell? ⟨g, 3, none⟩ = some (.int .i64 r.chunk) :=
  ⟨cell_of_row _ _ 0 _ _ _ h.2.2.1, cell_of_row _ _ 1 _ _ _ h.2.2.1, cell_of_row _ _ 2 _ _ _ h.2.2.1, cell_of_row _ _ 3 _ _ _ h.2.2.1⟩
theorem SRr.rf (h : SRr x w W G zb p g ad len cap a b s r) : W.frozen? ⟨g, 0, none⟩ = false ∧ W.frozen? ⟨g, 1, none⟩ = false ∧ W.frozen? ⟨g, 2, none⟩ = false ∧ W.frozen? ⟨g, 3, none⟩ = false :=
  ⟨frozen_of_row _ _ 0 _ _ h.2.2.1, frozen_of_row _ _ 1 _ _ h.2.2.1, frozen_of_row _ _ 2 _ _ h.2.2.1, frozen_of_row _ _ 3 _ _ h.2.2.1⟩
/-- Another volume. -/
theorem SRr.vol {v : Int} (h : SRr x w W G zb p g ad len cap a b s r) (hv : v ≤ 3) : SRr x w (W.setCell ⟨g, 1, none⟩ (.int .i64 v)) G zb p g ad len cap a b s ⟨r.kind, v, r.arg, r.chunk⟩ :=
  ⟨h.1.wr h.2.1 _, h.2.1, heap_setCell_same _ _ 1 _ _ _ h.2.2.1, h.2.2.2.1, hv, h.2.2.2.2.2⟩
/-- Another record. -/
theorem SRr.put (h : SRr x w W G zb p g ad len cap a b s r) {q : Rc} (h1 : q.kind ≠ 1) (h2 : q.vol ≤ 3) (h3 : q.chunk ≤ 9) : SRr x w ((((W.setCell ⟨g, 0, none⟩ (.int .i64 q.kind)).setCell ⟨g, 1, none⟩ (.int .i64 q.vol)).setCell ⟨g, 2, none⟩ (.int .i64 q.arg)).setCell ⟨g, 3, none⟩ (.int .i64 q.chunk)) G zb p g ad len cap a b s q :=
  ⟨(((h.1.wr h.2.1 _).wr h.2.1 _).wr h.2.1 _).wr h.2.1 _, h.2.1, four_cs h.2.2.1, h1, h2, h3⟩
end
theorem sdr_below {xo : Obj} {w W : World} {G zb p B : Nat} {ad : Option Addr} {len cap : Nat} {a b : Value} {s : Sto} (hl : len ≤ 1048576) (hd : CodeIn w ad len B) (hB : B ≤ p) (n : Int) (n0 : 0 < n) (hn : n ≤ 1000000) (H : SDr xo w W G zb p ad len cap a b s) :
    Calls Try.prog 38 #[.pointer (some ⟨p, 0, none⟩), .int .i64 n] W fun e w' => ∃ x : Int, e = .returned (.int .i64 x) ∧ 0 ≤ x ∧ x < n ∧ Hid (SDr xo w w' G zb p ad len cap a b s) := by
  refine (below_any n p ad len cap B W (by omega) hl H.1.2 (H.1.code hd hB H.2.1) hB).mono ?_
  rintro e w' ⟨x, rfl, x0, x1, -, d⟩
  exact ⟨x, rfl, x0, x1 n0, H.go d⟩
theorem srr_below {xo : Obj} {w W : World} {G zb p g B : Nat} {ad : Option Addr} {len cap : Nat} {a b : Value} {s : Sto} {r : Rc} (hl : len ≤ 1048576) (hd : CodeIn w ad len B) (hB : B ≤ p) (n : Int) (n0 : 0 < n) (hn : n ≤ 1000000) (H : SRr xo w W G zb p g ad len cap a b s r) :
    Calls Try.prog 38 #[.pointer (some ⟨p, 0, none⟩), .int .i64 n] W fun e w' => ∃ x : Int, e = .returned (.int .i64 x) ∧ 0 ≤ x ∧ x < n ∧ Hid (SRr xo w w' G zb p g ad len cap a b s r) := by
  refine (below_any n p ad len cap B W (by omega) hl H.1.1.2 (H.1.1.code hd hB H.1.2.1) hB).mono ?_
  rintro e w' ⟨x, rfl, x0, x1, -, d⟩
  exact ⟨x, rfl, x0, x1 n0, H.go d⟩
theorem srr_once {xo : Obj} {w W : World} {G zb p g B : Nat} {ad : Option Addr} {len cap : Nat} {a b : Value} {s : Sto} {r : Rc} (hl : len ≤ 1048576) (hd : CodeIn w ad len B) (hB : B ≤ p) (n : Int) (hn : n ≤ 1000000) (H : SRr xo w W G zb p g ad len cap a b s r) :
    Calls Try.prog 37 #[.pointer (some ⟨p, 0, none⟩), .int .i64 n] W fun e w' => ∃ x : Bool, e = .returned (.bool x) ∧ Hid (SRr xo w w' G zb p g ad len cap a b s r) := by
  refine (once_any n p ad len cap B W (by omega) hl H.1.1.2 (H.1.1.code hd hB H.1.2.1) hB).mono ?_
  rintro e w' ⟨x, rfl, d⟩
  exact ⟨x, rfl, H.go d⟩
/-- What is read stays where the record's volume is written. -/
theorem keep_vol {xo : Obj} {w W : World} {G zb p g n vc vb vo : Nat} {ad : Option Addr} {len cap : Nat} {b : Value} {s : Sto} {r : Rc} {v : Int}
    (hN : SRr xo w (W.setCell ⟨g, 1, none⟩ (.int .i64 v)) G zb p g ad len cap (.slice (some ⟨vb, vo, none⟩) n vc) b s ⟨r.kind, v, r.arg, r.chunk⟩) (hn : s.vols.length = n) :
    (W.setCell ⟨g, 1, none⟩ (.int .i64 v)).cell? ⟨zb, 0, none⟩ = some (.slice (some ⟨vb, vo, none⟩) n vc) ∧ ∀ j : Nat, j < n → (W.setCell ⟨g, 1, none⟩ (.int .i64 v)).cell? ⟨vb, vo + j * 2, none⟩ = some (.int .i64 (s.vols[j]?.getD (0, 0)).1) := by
  refine ⟨hN.1.cells.1, fun j hj => ?_⟩
  have hj2 : j < s.vols.length := by rw [hn]; exact hj
  obtain ⟨b', o', e, -, q, -⟩ := (hN.1.row hn).at (List.getElem?_eq_getElem hj2)
  injection e with e
  injection e with e1 e2
  subst e1 e2
  rw [List.getElem?_eq_getElem hj2]
  exact q
end Go.Proofs.Ytcnaahajaaifjaa
