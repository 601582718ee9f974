/-
  RcRow; TreeC; StoC; StH; DvC
-/
import Derived.Test.YtfmnaidhfgmemaaGreatDoorPk10
import Derived.Test.YtfmnaidhfgmemaaGreatDoorPk0
import Derived.Test.YtfmnaidhfgmemaaGreatDoorPk1
import Derived.Test.YtfmnaidhfgmemaaGreatDoorPk26
import Derived.Test.YtfmnaidhfgmemaaGreatDoorPk9
import Derived.Test.YtfmnaidhfgmemaaGreatDoorPk24
import Derived.Test.YtfmnaidhfgmemaaGreatDoorPk17
namespace Go.Proofs.YtfmnaidhfgmemaaGreatDoor
open Go.RowKit
set_option maxRecDepth 100000
def RcRow (w : World) (a : Option Addr) (len : Nat) (ls : List (Int × Int × Int × Int)) : Prop :=
  ls.length = len ∧ len ≤ maxLen ∧ (∀ t ∈ ls, True) ∧ (0 < len → ∃ b off, a = some ⟨b, off, none⟩ ∧ b < w.heap.size ∧ ∀ i t, ls[i]? = some t → w.cell? ⟨b, off + i * 4, none⟩ = some (.int .i64 t.1) ∧ w.cell? ⟨b, off + i * 4 + 1, none⟩ = some (.int .i64 t.2.1) ∧ w.cell? ⟨b, off + i * 4 + 2, none⟩ = some (.int .i64 t.2.2.1) ∧ w.cell? ⟨b, off + i * 4 + 3, none⟩ = some (.int .i64 t.2.2.2))
theorem RcRow.below {w w' : World} {a : Option Addr} {len : Nat} {ls : List (Int × Int × Int × Int)} (h : RcRow w a len ls) (hb : Below w.heap.size w w') : RcRow w' a len ls := by
  obtain ⟨h1, h2, h3, h4⟩ := h
  refine ⟨h1, h2, h3, fun h0 => ?_⟩
  obtain ⟨b, off, e, hl, hc⟩ := h4 h0
  have hs := hb.size
  refine ⟨b, off, e, by omega, fun i t ht => ?_⟩
  obtain ⟨c0, c1, c2, c3⟩ := hc i t ht
  exact ⟨(hb.cell (show b < w.heap.size from hl)).trans c0, (hb.cell (show b < w.heap.size from hl)).trans c1, (hb.cell (show b < w.heap.size from hl)).trans c2, (hb.cell (show b < w.heap.size from hl)).trans c3⟩
theorem RcRow.at {w : World} {a : Option Addr} {len : Nat} {ls : List (Int × Int × Int × Int)} (h : RcRow w a len ls) {k : Nat} {t : Int × Int × Int × Int} (hk : ls[k]? = some t) :
    ∃ b off, a = some ⟨b, off, none⟩ ∧ b < w.heap.size ∧ w.cell? ⟨b, off + k * 4, none⟩ = some (.int .i64 t.1) ∧ w.cell? ⟨b, off + k * 4 + 1, none⟩ = some (.int .i64 t.2.1) ∧ w.cell? ⟨b, off + k * 4 + 2, none⟩ = some (.int .i64 t.2.2.1) ∧ w.cell? ⟨b, off + k * 4 + 3, none⟩ = some (.int .i64 t.2.2.2) := by
  obtain ⟨h1, -, -, h4⟩ := h
  have hl := (List.getElem?_eq_some_iff.1 hk).1
  obtain ⟨b, off, e, hb, hc⟩ := h4 (by omega)
  obtain ⟨c0, c1, c2, c3⟩ := hc k t hk
  exact ⟨b, off, e, hb, c0, c1, c2, c3⟩
theorem RcRow.of_own {w : World} {base : Nat} {v : Value} {n : Nat} {M : List (Int × Int × Int × Int)} (hn : M.length = n) (h : w.ownsRow base 90 4 v n (rccells M)) :
    ∃ a c, v = .slice a n c ∧ RcRow w a n M := by
  have hh := h
  obtain ⟨-, h2⟩ := hh
  rcases h2 with ⟨rfl, rfl⟩ | ⟨g, cap, cur, rfl, h3, h4, h5, h6, -, -⟩
  · exact ⟨none, 0, rfl, hn, by unfold maxLen; omega, by simp, fun h => by omega⟩
  · refine ⟨_, _, rfl, hn, by omega, by simp, fun _ => ⟨g, 0, rfl, (Array.getElem?_eq_some_iff.1 h4).1, fun i t hi => ?_⟩⟩
    have hc := fun j v hj => h.cells (g := g) rfl (i * 4 + j) v (rccells_at M i t hi j v hj)
    have ea : ∀ j, (⟨g, 0, none⟩ : Addr).add j = ⟨g, 0 + j, none⟩ := fun j => by simp only [Addr.add]; split <;> simp_all
    simp only [ea] at hc
    exact ⟨hc 0 _ rfl, by simpa [Nat.add_assoc] using hc 1 _ rfl, by simpa [Nat.add_assoc] using hc 2 _ rfl, by simpa [Nat.add_assoc] using hc 3 _ rfl⟩
end Go.Proofs.YtfmnaidhfgmemaaGreatDoor

namespace Go.Proofs.YtfmnaidhfgmemaaGreatDoor
open Go.RowKit
open Words
def AllC (f : Nat) : Prop := ∀ (ad : Option Addr) (len cap : Nat) (rs : List Kw) (r : Int) (w : World), len ≤ 1048578 → KnRd w ad len rs → Calls Tryz.prog f #[.agg #[.slice ad len cap], .int .i64 r] w (IOut w (allT (rs.map ktell) r))
theorem Kns.rd {W : World} {lo hi n c : Nat} {ad : Option Addr} {M : List Kn} (h : Kns lo hi (.slice ad n c) M W) (hn : M.length = n) (hh : hi ≤ W.heap.size) : ∃ rs, rs.map ktell = M ∧ KnRd W ad n rs := by
  obtain ⟨rs, e, hx⟩ := h
  exact ⟨rs, e, hx.rd (by rw [← hn, ← e, List.length_map]) hh⟩
end Go.Proofs.YtfmnaidhfgmemaaGreatDoor

namespace Go.Proofs.YtfmnaidhfgmemaaGreatDoor
open Go.RowKit
open Words
def StIn (w : World) (v : Value) (s : Sto) : Prop :=
  ∃ va vl vc ad len cap rs, v = .agg (SBox va vl vc ad len cap s.next) ∧ s.kns = rs.map ktell ∧ vl ≤ 1048576 ∧ len ≤ 1048576 ∧ (∀ r ∈ rs, r.2.2.length ≤ 1048576) ∧ (va = none → vc = 0) ∧ VlRow w va vl s.vols ∧ KnRd w ad len rs
theorem StIn.below {w w' : World} {v : Value} {s : Sto} (h : StIn w v s) (hb : Below w.heap.size w w') : StIn w' v s := by
  obtain ⟨va, vl, vc, ad, len, cap, rs, h1, h2, h3, h4, h5, h6, h7, h8⟩ := h
  exact ⟨va, vl, vc, ad, len, cap, rs, h1, h2, h3, h4, h5, h6, h7.below hb, h8.below hb⟩
def Words.Sto.Fit (s : Sto) : Prop := s.vols.length ≤ 1048576 ∧ s.kns.length ≤ 1048576 ∧ ∀ k ∈ s.kns, k.kids.length ≤ 1048576
theorem StOut.blw {w w' : World} {v : Value} {s : Sto} (h : StOut w s v w') : Below w.heap.size w w' := by
  obtain ⟨vv, kv, lo1, hi1, lo2, hi2, -, -, -, -, -, -, -, -, h⟩ := h
  exact h
theorem sto_row3 {w : World} {g : Nat} {x0 x1 x2 a b c : Value} (h : w.heap[g]? = some (.cells #[x0, x1, x2] 45 (0, 0))) : (((w.setCell ⟨g, 0, none⟩ a).setCell ⟨g, 1, none⟩ b).setCell ⟨g, 2, none⟩ c).heap[g]? = some (.cells #[a, b, c] 45 (0, 0)) := heap_setCell_same _ _ 2 _ _ _ (heap_setCell_same _ _ 1 _ _ _ (heap_setCell_same _ _ 0 _ _ _ h))
theorem st_fin {w W : World} {z lo1 hi1 lo2 hi2 : Nat} {vv kv : Value} {s : Sto} (hz : w.heap.size ≤ z) (h1 : Sli 97 lo1 hi1 vv s.vols.length (vlcells s.vols) W) (h2 : Kns lo2 hi2 kv s.kns W) (a1 : w.heap.size ≤ lo1 ∧ (hi1 ≤ z ∨ z < lo1)) (a2 : w.heap.size ≤ lo2 ∧ (hi2 ≤ z ∨ z < lo2)) (a3 : hi1 ≤ W.heap.size) (a4 : hi2 ≤ W.heap.size) (a5 : hi1 ≤ lo2 ∨ hi2 ≤ lo1) (hb : Below w.heap.size w W) :
    StOut w s (.agg #[vv, kv, .int .i64 s.next]) (((W.setCell ⟨z, 0, none⟩ vv).setCell ⟨z, 1, none⟩ kv).setCell ⟨z, 2, none⟩ (.int .i64 s.next)) := by
  have hz2 : (((W.setCell ⟨z, 0, none⟩ vv).setCell ⟨z, 1, none⟩ kv).setCell ⟨z, 2, none⟩ (.int .i64 s.next)).heap.size = W.heap.size := by simp [World.setCell]
  have hq : ∀ q, q ≠ z → (((W.setCell ⟨z, 0, none⟩ vv).setCell ⟨z, 1, none⟩ kv).setCell ⟨z, 2, none⟩ (.int .i64 s.next)).heap[q]? = W.heap[q]? := fun q q1 => (Below.heap_setCell _ _ _ _ q1).trans ((Below.heap_setCell _ _ _ _ q1).trans (Below.heap_setCell _ _ _ _ q1))
  refine ⟨vv, kv, lo1, hi1, lo2, hi2, rfl, ?_, ?_, a1.1, by omega, a2.1, by omega, a5, ?_⟩
  · exact Sli.loc _ _ _ _ _ _ W _ (fun g g1 g2 => hq g (by omega)) h1
  · exact Kns.loc _ _ _ _ W _ (fun g g1 g2 => hq g (by omega)) h2
  · exact ((hb.setCell (p := ⟨z, 0, none⟩) hz _).setCell (p := ⟨z, 1, none⟩) hz _).setCell (p := ⟨z, 2, none⟩) hz _
def RcsOut (w : World) (l : List Rc) (e : Ending) (w' : World) : Prop := ∃ v, e = .returned v ∧ w'.ownsRow w.heap.size 90 4 v l.length (rccells (l.map Rc.tu)) ∧ Below w.heap.size w w'
def BaseC (f : Nat) : Prop := ∀ (v : Value) (s : Sto) (w : World), StIn w v s → Calls Tryz.prog f #[v] w (RcsOut w (baseS s))
end Go.Proofs.YtfmnaidhfgmemaaGreatDoor

namespace Go.Proofs.YtfmnaidhfgmemaaGreatDoor
open Go.RowKit
open Words
end Go.Proofs.YtfmnaidhfgmemaaGreatDoor

namespace Go.Proofs.YtfmnaidhfgmemaaGreatDoor
open Go.RowKit
open Words
def DvIn (W : World) (v : Value) (d : Dv) : Prop := ∃ fv vv kv, v = .agg #[fv, vv, kv, .int .i64 d.store.next, .int .i64 d.seq, .int .i64 d.tx, .int .i64 d.base] ∧ RdB W fv d.flash ∧ Sml d.flash ∧ StIn W (.agg #[vv, kv, .int .i64 d.store.next]) d.store
theorem DvIn.below {W W' : World} {v : Value} {d : Dv} (h : DvIn W v d) (hb : Below W.heap.size W W') : DvIn W' v d := by
  obtain ⟨fv, vv, kv, e, h1, h2, h3⟩ := h
  exact ⟨fv, vv, kv, e, h1.below hb, h2, h3.below hb⟩
theorem stin_slices {W : World} {vv kv : Value} {n : Int} {s : Sto} (h : StIn W (.agg #[vv, kv, .int .i64 n]) s) : ∃ va vl vc ad len cap, vv = .slice va vl vc ∧ kv = .slice ad len cap ∧ n = s.next := by
  obtain ⟨va, vl, vc, ad, len, cap, rs, h1, -⟩ := h
  unfold SBox at h1
  injection h1 with h1
  injection h1 with h1
  simp only [List.cons.injEq, and_true, Value.int.injEq, true_and] at h1
  exact ⟨va, vl, vc, ad, len, cap, h1.1, h1.2.1, h1.2.2⟩
theorem DvIn.form {W : World} {v : Value} {d : Dv} (h : DvIn W v d) : ∃ fd fc va vl vc ad len cap, v = .agg #[.slice fd d.flash.length fc, .slice va vl vc, .slice ad len cap, .int .i64 d.store.next, .int .i64 d.seq, .int .i64 d.tx, .int .i64 d.base] ∧ RdB W (.slice fd d.flash.length fc) d.flash ∧ Sml d.flash ∧ StIn W (.agg #[.slice va vl vc, .slice ad len cap, .int .i64 d.store.next]) d.store := by
  obtain ⟨fv, vv, kv, e, h1, h2, h3⟩ := h
  obtain ⟨fd, fc, rfl⟩ := h1.form
  obtain ⟨va, vl, vc, ad, len, cap, rfl, rfl, -⟩ := stin_slices h3
  exact ⟨fd, fc, va, vl, vc, ad, len, cap, e, h1, h2, h3⟩
def DAt (W : World) (g : Nat) (a b c : Value) (n q t s : Int) : Prop := W.heap[g]? = some (.cells #[a, b, c, .int .i64 n, .int .i64 q, .int .i64 t, .int .i64 s] 47 (0, 0))
theorem DAt.below {w w' : World} {g : Nat} {a b c : Value} {n q t s : Int} (h : DAt w g a b c n q t s) (hb : Below w.heap.size w w') : DAt w' g a b c n q t s := (hb.block _ (Array.getElem?_eq_some_iff.1 h).1).trans h
theorem DAt.lt {w : World} {g : Nat} {a b c : Value} {n q t s : Int} (h : DAt w g a b c n q t s) : g < w.heap.size := (Array.getElem?_eq_some_iff.1 h).1
theorem DAt.cells {W : World} {g : Nat} {a b c : Value} {n q t s : Int} (h : DAt W g a b c n q t s) : W.cell? ⟨g, 0, none⟩ = some a ∧ W.cell? ⟨g, 1, none⟩ = some b ∧ W.cell? ⟨g, 2, none⟩ = some c ∧ W.cell? ⟨g, 3, none⟩ = some (.int .i64 n) ∧ W.cell? ⟨g, 4, none⟩ = some (.int .i64 q) ∧ W.cell? ⟨g, 5, none⟩ = some (.int .i64 t) ∧ W.cell? ⟨g, 6, none⟩ = some (.int .i64 s) :=
  ⟨cell_of_row _ _ 0 _ _ _ h, cell_of_row _ _ 1 _ _ _ h, cell_of_row _ _ 2 _ _ _ h, cell_of_row _ _ 3 _ _ _ h, cell_of_row _ _ 4 _ _ _ h, cell_of_row _ _ 5 _ _ _ h, cell_of_row _ _ 6 _ _ _ h⟩
theorem DAt.fr {W : World} {g : Nat} {a b c : Value} {n q t s : Int} (h : DAt W g a b c n q t s) (k : Nat) : W.frozen? ⟨g, k, none⟩ = false := frozen_of_row _ _ k _ _ h
theorem DAt.seq {W : World} {g : Nat} {a b c : Value} {n q t s : Int} (h : DAt W g a b c n q t s) (x : Int) : DAt (W.setCell ⟨g, 4, none⟩ (.int .i64 x)) g a b c n x t s := heap_setCell_same _ _ 4 _ _ _ h
theorem DAt.tx {W : World} {g : Nat} {a b c : Value} {n q t s : Int} (h : DAt W g a b c n q t s) (x : Int) : DAt (W.setCell ⟨g, 5, none⟩ (.int .i64 x)) g a b c n q x s := heap_setCell_same _ _ 5 _ _ _ h
theorem DAt.base {W : World} {g : Nat} {a b c : Value} {n q t s : Int} (h : DAt W g a b c n q t s) (x : Int) : DAt (W.setCell ⟨g, 6, none⟩ (.int .i64 x)) g a b c n q t x := heap_setCell_same _ _ 6 _ _ _ h
theorem DAt.store {W : World} {g : Nat} {a b c : Value} {n q t s : Int} (h : DAt W g a b c n q t s) (x y : Value) (m : Int) : DAt (((W.setCell ⟨g, 1, none⟩ x).setCell ⟨g, 2, none⟩ y).setCell ⟨g, 3, none⟩ (.int .i64 m)) g a x y m q t s := by
  have h1 : (W.setCell ⟨g, 1, none⟩ x).heap[g]? = some (.cells #[a, x, c, .int .i64 n, .int .i64 q, .int .i64 t, .int .i64 s] 47 (0, 0)) := heap_setCell_same _ _ 1 _ _ _ h
  generalize W.setCell ⟨g, 1, none⟩ x = W1 at h1 ⊢
  have h2 : (W1.setCell ⟨g, 2, none⟩ y).heap[g]? = some (.cells #[a, x, y, .int .i64 n, .int .i64 q, .int .i64 t, .int .i64 s] 47 (0, 0)) := heap_setCell_same _ _ 2 _ _ _ h1
  generalize W1.setCell ⟨g, 2, none⟩ y = W2 at h2 ⊢
  exact heap_setCell_same _ _ 3 _ _ _ h2
theorem DAt.far {W : World} {g h k : Nat} {a b c u : Value} {n q t s : Int} (e : DAt W g a b c n q t s) (hne : g ≠ h) : DAt (W.setCell ⟨h, k, none⟩ u) g a b c n q t s := (Below.heap_setCell _ _ _ _ hne).trans e
def put7 (W : World) (g : Nat) (a b c : Value) (n q t s : Int) : World := ((((((W.setCell ⟨g, 0, none⟩ a).setCell ⟨g, 1, none⟩ b).setCell ⟨g, 2, none⟩ c).setCell ⟨g, 3, none⟩ (.int .i64 n)).setCell ⟨g, 4, none⟩ (.int .i64 q)).setCell ⟨g, 5, none⟩ (.int .i64 t)).setCell ⟨g, 6, none⟩ (.int .i64 s)
theorem put7_other (W : World) (g : Nat) (a b c : Value) (n q t s : Int) {i : Nat} (h : i ≠ g) : (put7 W g a b c n q t s).heap[i]? = W.heap[i]? := by
  unfold put7
  rw [Below.heap_setCell _ ⟨g, 6, none⟩ _ _ h, Below.heap_setCell _ ⟨g, 5, none⟩ _ _ h, Below.heap_setCell _ ⟨g, 4, none⟩ _ _ h, Below.heap_setCell _ ⟨g, 3, none⟩ _ _ h, Below.heap_setCell _ ⟨g, 2, none⟩ _ _ h, Below.heap_setCell _ ⟨g, 1, none⟩ _ _ h, Below.heap_setCell _ ⟨g, 0, none⟩ _ _ h]
theorem put7_size (W : World) (g : Nat) (a b c : Value) (n q t s : Int) : (put7 W g a b c n q t s).heap.size = W.heap.size := by simp [put7, World.setCell]
theorem put7_below {B g : Nat} {w W : World} (a b c : Value) (n q t s : Int) (h : Below B w W) (hg : B ≤ g) : Below B w (put7 W g a b c n q t s) :=
  ((((((h.setCell (p := ⟨g, 0, none⟩) hg _).setCell (p := ⟨g, 1, none⟩) hg _).setCell (p := ⟨g, 2, none⟩) hg _).setCell (p := ⟨g, 3, none⟩) hg _).setCell (p := ⟨g, 4, none⟩) hg _).setCell (p := ⟨g, 5, none⟩) hg _).setCell (p := ⟨g, 6, none⟩) hg _
theorem put7_at {W : World} {g : Nat} {a0 b0 c0 : Value} {n0 q0 t0 s0 : Int} (h : DAt W g a0 b0 c0 n0 q0 t0 s0) (a b c : Value) (n q t s : Int) : DAt (put7 W g a b c n q t s) g a b c n q t s := by
  unfold put7
  have h0 : (W.setCell ⟨g, 0, none⟩ a).heap[g]? = some (.cells #[a, b0, c0, .int .i64 n0, .int .i64 q0, .int .i64 t0, .int .i64 s0] 47 (0, 0)) := heap_setCell_same _ _ 0 _ _ _ h
  generalize W.setCell ⟨g, 0, none⟩ a = W0 at h0 ⊢
  have h1 : DAt (((W0.setCell ⟨g, 1, none⟩ b).setCell ⟨g, 2, none⟩ c).setCell ⟨g, 3, none⟩ (.int .i64 n)) g a b c n q0 t0 s0 := DAt.store h0 b c n
  exact ((h1.seq q).tx t).base s
theorem infoDvS : (Tryz.prog.info? 47).map (·.size) = some 7 := by kernel_rfl
theorem results_dv1 {fn : Func} {p : Tmp} (h : fn.results = #[.cell p 47]) (tmps : Array Value) (w : World) (g : Nat) (a b c : Value) (n x t s : Int)
    (hp : tmps.getD p undef = .pointer (some ⟨g, 0, none⟩)) (hc : DAt w g a b c n x t s) :
    (results fn tmps).run Tryz.prog w = .ok (.agg #[a, b, c, .int .i64 n, .int .i64 x, .int .i64 t, .int .i64 s]) w := by
  have hp' : tmps[p]?.getD undef = .pointer (some ⟨g, 0, none⟩) := by simpa using hp
  have hl := run_loadVar_row (P := Tryz.prog) w g 47 47 _ _ _ hc Tryz.underlying47 rfl infoDvS
  simp [results, h, hp', asAddr, hl]
def Dv.Fit (d : Dv) : Prop := Sml d.flash ∧ d.store.Fit
end Go.Proofs.YtfmnaidhfgmemaaGreatDoor
