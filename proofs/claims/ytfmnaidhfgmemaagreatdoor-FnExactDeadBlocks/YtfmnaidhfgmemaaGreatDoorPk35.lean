/-
  HpMath; PlMath; PoMath; TxMath; TxMath2; StoM6; StoM7; DvM; Fla; SNext; SMay; SLeaf; SOk; SCopy; FPut; SProg; SBad; FBlk; Make4; SWipe; Same; CopyM; ISlices; ICopy; ISmall; INext; BkP; IBlk; IOk; IUse; After; IProg; AfterW; IWipe; StRd; StH; DvC; KnEq
-/
import Derived.Test.YtfmnaidhfgmemaaGreatDoorPk13
import Derived.Test.YtfmnaidhfgmemaaGreatDoorPk7
import Derived.Test.YtfmnaidhfgmemaaGreatDoorPk8
import Derived.Test.YtfmnaidhfgmemaaGreatDoorPk15
import Derived.Test.YtfmnaidhfgmemaaGreatDoorPk14
import Derived.Test.YtfmnaidhfgmemaaGreatDoorPk0
import Derived.Test.YtfmnaidhfgmemaaGreatDoorPk16
import Derived.Test.YtfmnaidhfgmemaaGreatDoorPk5
import Derived.Test.YtfmnaidhfgmemaaGreatDoorPk24
import Derived.Lib.SliceRun
import Derived.Deep.AppendLies
import Derived.Test.YtfmnaidhfgmemaaGreatDoorPk1
import Derived.Deep.RegionHeld3
namespace Go.Proofs.YtfmnaidhfgmemaaGreatDoor
end Go.Proofs.YtfmnaidhfgmemaaGreatDoor

namespace Go.Proofs.YtfmnaidhfgmemaaGreatDoor
end Go.Proofs.YtfmnaidhfgmemaaGreatDoor

namespace Go.Proofs.YtfmnaidhfgmemaaGreatDoor
end Go.Proofs.YtfmnaidhfgmemaaGreatDoor

namespace Go.Proofs.YtfmnaidhfgmemaaGreatDoor.Words
def pkStep (s : List (List Rc) × List Rc) (r : Rc) : List (List Rc) × List Rc :=
  if 90 < (recsL s.2).length + (recL r).length then (s.1 ++ [s.2], [r]) else (s.1, s.2 ++ [r])
def pk (l : List Rc) : List (List Rc) × List Rc := l.foldl pkStep ([], [])
end Go.Proofs.YtfmnaidhfgmemaaGreatDoor.Words

namespace Go.Proofs.YtfmnaidhfgmemaaGreatDoor.Words
end Go.Proofs.YtfmnaidhfgmemaaGreatDoor.Words

namespace Go.Proofs.YtfmnaidhfgmemaaGreatDoor
namespace Words
end Words
end Go.Proofs.YtfmnaidhfgmemaaGreatDoor

namespace Go.Proofs.YtfmnaidhfgmemaaGreatDoor
namespace Words
end Words
end Go.Proofs.YtfmnaidhfgmemaaGreatDoor

namespace Go.Proofs.YtfmnaidhfgmemaaGreatDoor
open Words Sums Pack
structure Dv where
  flash : List Bk
  store : Sto
  seq : Int
  tx : Int
  base : Int
end Go.Proofs.YtfmnaidhfgmemaaGreatDoor

namespace Go.Proofs.YtfmnaidhfgmemaaGreatDoor
open Go.RowKit
def Fla (lo hi : Nat) (v : Value) (bs : List Bk) : World → Prop := fun W => ∃ ss : List Rw, ss.map tellOf = bs ∧ FlashIn W lo hi v ss
theorem Fla.loc (lo hi : Nat) (v : Value) (bs : List Bk) : Loc lo hi (Fla lo hi v bs) := by
  rintro w w' hk ⟨ss, e, h⟩
  exact ⟨ss, e, h.kept hk⟩
theorem Fla.form {w : World} {lo hi : Nat} {v : Value} {bs : List Bk} (h : Fla lo hi v bs w) : ∃ ad cap, v = .slice ad bs.length cap ∧ (0 < bs.length → ∃ g, ad = some ⟨g, 0, none⟩ ∧ lo ≤ g ∧ g < hi) := by
  obtain ⟨ss, rfl, h⟩ := h
  obtain ⟨ad, cap, rfl, -, -, h3⟩ := frow_form h.1
  refine ⟨ad, cap, by simp, fun hp => ?_⟩
  obtain ⟨g, e, h4, -⟩ := h3 (by simpa using hp)
  subst e
  exact ⟨g, rfl, h4, h.2.1 g rfl⟩
theorem Fla.cells {w : World} {lo hi g n cap k : Nat} {bs : List Bk} {b : Bk} (h : Fla lo hi (.slice (some ⟨g, 0, none⟩) n cap) bs w) (hb : bs[k]? = some b) : w.cell? ⟨g, k * 3, none⟩ = some (.bool b.1) ∧ w.cell? ⟨g, k * 3 + 1, none⟩ = some (.int .i64 b.2.1) ∧ ∃ u, w.cell? ⟨g, k * 3 + 2, none⟩ = some u ∧ w.ownsRow lo 119 2 u b.2.2.length (lcells b.2.2) := by
  obtain ⟨ss, rfl, h⟩ := h
  rw [List.getElem?_map] at hb
  cases hr : ss[k]? with
  | none => rw [hr] at hb; cases hb
  | some r =>
    rw [hr] at hb
    cases hb
    have hn : n = ss.length := by
      obtain ⟨ad, c, e, -⟩ := frow_form h.1
      injection e
    subst hn
    obtain ⟨c1, c2, c3⟩ := kown_cells (k := k) (t := cellOf r) h.1 (by rw [List.getElem?_map, hr]; rfl)
    exact ⟨c1, c2, _, c3, (h.2.2.1 r (List.mem_of_getElem? hr)).1⟩
end Go.Proofs.YtfmnaidhfgmemaaGreatDoor

namespace Go.Proofs.YtfmnaidhfgmemaaGreatDoor
open Go.RowKit
end Go.Proofs.YtfmnaidhfgmemaaGreatDoor

namespace Go.Proofs.YtfmnaidhfgmemaaGreatDoor
open Go.RowKit
end Go.Proofs.YtfmnaidhfgmemaaGreatDoor

namespace Go.Proofs.YtfmnaidhfgmemaaGreatDoor
open Go.RowKit
end Go.Proofs.YtfmnaidhfgmemaaGreatDoor

namespace Go.Proofs.YtfmnaidhfgmemaaGreatDoor
open Go.RowKit
end Go.Proofs.YtfmnaidhfgmemaaGreatDoor

namespace Go.Proofs.YtfmnaidhfgmemaaGreatDoor
open Go.RowKit
end Go.Proofs.YtfmnaidhfgmemaaGreatDoor

namespace Go.Proofs.YtfmnaidhfgmemaaGreatDoor
open Go.RowKit
end Go.Proofs.YtfmnaidhfgmemaaGreatDoor

namespace Go.Proofs.YtfmnaidhfgmemaaGreatDoor
open Go.RowKit
end Go.Proofs.YtfmnaidhfgmemaaGreatDoor

namespace Go.Proofs.YtfmnaidhfgmemaaGreatDoor
open Go.RowKit
end Go.Proofs.YtfmnaidhfgmemaaGreatDoor

namespace Go.Proofs.YtfmnaidhfgmemaaGreatDoor
open Go.RowKit
end Go.Proofs.YtfmnaidhfgmemaaGreatDoor

namespace Go.Proofs.YtfmnaidhfgmemaaGreatDoor
open Go.RowKit
end Go.Proofs.YtfmnaidhfgmemaaGreatDoor

namespace Go.Proofs.YtfmnaidhfgmemaaGreatDoor
open Go.RowKit
end Go.Proofs.YtfmnaidhfgmemaaGreatDoor

namespace Go.Proofs.YtfmnaidhfgmemaaGreatDoor
end Go.Proofs.YtfmnaidhfgmemaaGreatDoor

namespace Go.Proofs.YtfmnaidhfgmemaaGreatDoor
open Go.RowKit
end Go.Proofs.YtfmnaidhfgmemaaGreatDoor

namespace Go.Proofs.YtfmnaidhfgmemaaGreatDoor
open Go.RowKit
end Go.Proofs.YtfmnaidhfgmemaaGreatDoor

namespace Go.Proofs.YtfmnaidhfgmemaaGreatDoor
open Go.RowKit
end Go.Proofs.YtfmnaidhfgmemaaGreatDoor

namespace Go.Proofs.YtfmnaidhfgmemaaGreatDoor
open Go.RowKit
end Go.Proofs.YtfmnaidhfgmemaaGreatDoor

namespace Go.Proofs.YtfmnaidhfgmemaaGreatDoor
open Go.RowKit
end Go.Proofs.YtfmnaidhfgmemaaGreatDoor

namespace Go.Proofs.YtfmnaidhfgmemaaGreatDoor
end Go.Proofs.YtfmnaidhfgmemaaGreatDoor

namespace Go.Proofs.YtfmnaidhfgmemaaGreatDoor
open Go.RowKit
end Go.Proofs.YtfmnaidhfgmemaaGreatDoor

namespace Go.Proofs.YtfmnaidhfgmemaaGreatDoor
open Go.RowKit
end Go.Proofs.YtfmnaidhfgmemaaGreatDoor

namespace Go.Proofs.YtfmnaidhfgmemaaGreatDoor
open Go.RowKit
end Go.Proofs.YtfmnaidhfgmemaaGreatDoor

namespace Go.Proofs.YtfmnaidhfgmemaaGreatDoor
open Go.RowKit
end Go.Proofs.YtfmnaidhfgmemaaGreatDoor

namespace Go.Proofs.YtfmnaidhfgmemaaGreatDoor
open Go.RowKit
end Go.Proofs.YtfmnaidhfgmemaaGreatDoor

namespace Go.Proofs.YtfmnaidhfgmemaaGreatDoor
open Go.RowKit
end Go.Proofs.YtfmnaidhfgmemaaGreatDoor

namespace Go.Proofs.YtfmnaidhfgmemaaGreatDoor
open Go.RowKit
end Go.Proofs.YtfmnaidhfgmemaaGreatDoor

namespace Go.Proofs.YtfmnaidhfgmemaaGreatDoor
open Go.RowKit
def RdB (w : World) (v : Value) (bs : List Bk) : Prop := ∃ rs : List Rw, rs.map tellOf = bs ∧ FlashRd w v rs
def Sml (bs : List Bk) : Prop := bs.length ≤ 1048576 ∧ ∀ r ∈ bs, r.2.2.length ≤ 1048576 ∧ ∀ t ∈ r.2.2, t.2.size ≤ 1048576
theorem RdB.below {w w' : World} {v : Value} {bs : List Bk} (h : RdB w v bs) (hb : Below w.heap.size w w') : RdB w' v bs := by
  obtain ⟨rs, e, h⟩ := h
  exact ⟨rs, e, h.below hb⟩
theorem RdB.form {w : World} {v : Value} {bs : List Bk} (h : RdB w v bs) : ∃ ad cap, v = .slice ad bs.length cap := by
  obtain ⟨rs, rfl, vd, vc, e, -⟩ := h
  exact ⟨vd, vc, by rw [e, List.length_map]⟩
theorem Fla.rdb {w : World} {lo hi : Nat} {v : Value} {bs : List Bk} (h : Fla lo hi v bs w) : RdB w v bs := by
  obtain ⟨ss, e, h⟩ := h
  exact ⟨ss, e, h.rd⟩
theorem RdB.lens {w : World} {v : Value} {bs : List Bk} (h : RdB w v bs) (hs : Sml bs) : ∃ rs : List Rw, rs.map tellOf = bs ∧ FlashRd w v rs ∧ rs.length ≤ 1048576 ∧ (∀ r ∈ rs, r.2.2.2.length ≤ 1048576) ∧ TxB rs := by
  obtain ⟨rs, rfl, h⟩ := h
  refine ⟨rs, rfl, h, by have := hs.1; rwa [List.length_map] at this, fun r hr => (hs.2 _ (List.mem_map_of_mem (f := tellOf) hr)).1, fun r hr t ht => (hs.2 _ (List.mem_map_of_mem (f := tellOf) hr)).2 t ht⟩
end Go.Proofs.YtfmnaidhfgmemaaGreatDoor

namespace Go.Proofs.YtfmnaidhfgmemaaGreatDoor
open Go.RowKit
open Words
end Go.Proofs.YtfmnaidhfgmemaaGreatDoor

namespace Go.Proofs.YtfmnaidhfgmemaaGreatDoor
open Go.RowKit
open Words
def DvIn (W : World) (v : Value) (d : Dv) : Prop := ∃ fv vv kv, v = .agg #[fv, vv, kv, .int .i64 d.store.next, .int .i64 d.seq, .int .i64 d.tx, .int .i64 d.base] ∧ RdB W fv d.flash ∧ Sml d.flash ∧ StIn W (.agg #[vv, kv, .int .i64 d.store.next]) d.store
theorem DvIn.below {W W' : World} {v : Value} {d : Dv} (h : DvIn W v d) (hb : Below W.heap.size W W') : DvIn W' v d := by
  obtain ⟨fv, vv, kv, e, h1, h2, h3⟩ := h
  exact ⟨fv, vv, kv, e, h1.below hb, h2, h3.below hb⟩
theorem stin_slices {W : World} {vv kv : Value} {n : Int} {s : Sto} (h : StIn W (.agg #[vv, kv, .int .i64 n]) s) : ∃ va vl vc ad len cap, vv = .slice va vl vc ∧ kv = .slice ad len cap ∧ n = s.next := by
  obtain ⟨va, vl, vc, ad, len, cap, rs, h1, -⟩ := h
  unfold SBox at h1
  injection h1 with h1
  injection h1 with h1
  simp only [List.cons.injEq, and_true, Value.int.injEq, true_and] at h1
  exact ⟨va, vl, vc, ad, len, cap, h1.1, h1.2.1, h1.2.2⟩
theorem DvIn.form {W : World} {v : Value} {d : Dv} (h : DvIn W v d) : ∃ fd fc va vl vc ad len cap, v = .agg #[.slice fd d.flash.length fc, .slice va vl vc, .slice ad len cap, .int .i64 d.store.next, .int .i64 d.seq, .int .i64 d.tx, .int .i64 d.base] ∧ RdB W (.slice fd d.flash.length fc) d.flash ∧ Sml d.flash ∧ StIn W (.agg #[.slice va vl vc, .slice ad len cap, .int .i64 d.store.next]) d.store := by
  obtain ⟨fv, vv, kv, e, h1, h2, h3⟩ := h
  obtain ⟨fd, fc, rfl⟩ := h1.form
  obtain ⟨va, vl, vc, ad, len, cap, rfl, rfl, -⟩ := stin_slices h3
  exact ⟨fd, fc, va, vl, vc, ad, len, cap, e, h1, h2, h3⟩
def DAt (W : World) (g : Nat) (a b c : Value) (n q t s : Int) : Prop := W.heap[g]? = some (.cells #[a, b, c, .int .i64 n, .int .i64 q, .int .i64 t, .int .i64 s] 47 (0, 0))
theorem DAt.below {w w' : World} {g : Nat} {a b c : Value} {n q t s : Int} (h : DAt w g a b c n q t s) (hb : Below w.heap.size w w') : DAt w' g a b c n q t s := (hb.block _ (Array.getElem?_eq_some_iff.1 h).1).trans h
theorem DAt.lt {w : World} {g : Nat} {a b c : Value} {n q t s : Int} (h : DAt w g a b c n q t s) : g < w.heap.size := (Array.getElem?_eq_some_iff.1 h).1
theorem DAt.cells {W : World} {g : Nat} {a b c : Value} {n q t s : Int} (h : DAt W g a b c n q t s) : W.cell? ⟨g, 0, none⟩ = some a ∧ W.cell? ⟨g, 1, none⟩ = some b ∧ W.cell? ⟨g, 2, none⟩ = some c ∧ W.cell? ⟨g, 3, none⟩ = some (.int .i64 n) ∧ W.cell? ⟨g, 4, none⟩ = some (.int .i64 q) ∧ W.cell? ⟨g, 5, none⟩ = some (.int .i64 t) ∧ W.cell? ⟨g, 6, none⟩ = some (.int .i64 s) :=
  ⟨cell_of_row _ _ 0 _ _ _ h, cell_of_row _ _ 1 _ _ _ h, cell_of_row _ _ 2 _ _ _ h, cell_of_row _ _ 3 _ _ _ h, cell_of_row _ _ 4 _ _ _ h, cell_of_row _ _ 5 _ _ _ h, cell_of_row _ _ 6 _ _ _ h⟩
theorem DAt.fr {W : World} {g : Nat} {a b c : Value} {n q t s : Int} (h : DAt W g a b c n q t s) (k : Nat) : W.frozen? ⟨g, k, none⟩ = false := frozen_of_row _ _ k _ _ h
theorem DAt.seq {W : World} {g : Nat} {a b c : Value} {n q t s : Int} (h : DAt W g a b c n q t s) (x : Int) : DAt (W.setCell ⟨g, 4, none⟩ (.int .i64 x)) g a b c n x t s := heap_setCell_same _ _ 4 _ _ _ h
theorem DAt.tx {W : World} {g : Nat} {a b c : Value} {n q t s : Int} (h : DAt W g a b c n q t s) (x : Int) : DAt (W.setCell ⟨g, 5, none⟩ (.int .i64 x)) g a b c n q x s := heap_setCell_same _ _ 5 _ _ _ h
theorem DAt.base {W : World} {g : Nat} {a b c : Value} {n q t s : Int} (h : DAt W g a b c n q t s) (x : Int) : DAt (W.setCell ⟨g, 6, none⟩ (.int .i64 x)) g a b c n q t x := heap_setCell_same _ _ 6 _ _ _ h
theorem DAt.store {W : World} {g : Nat} {a b c : Value} {n q t s : Int} (h : DAt W g a b c n q t s) (x y : Value) (m : Int) : DAt (((W.setCell ⟨g, 1, none⟩ x).setCell ⟨g, 2, none⟩ y).setCell ⟨g, 3, none⟩ (.int .i64 m)) g a x y m q t s := by
  have h1 : (W.setCell ⟨g, 1, none⟩ x).heap[g]? = some (.cells #[a, x, c, .int .i64 n, .int .i64 q, .int .i64 t, .int .i64 s] 47 (0, 0)) := heap_setCell_same _ _ 1 _ _ _ h
  generalize W.setCell ⟨g, 1, none⟩ x = W1 at h1 ⊢
  have h2 : (W1.setCell ⟨g, 2, none⟩ y).heap[g]? = some (.cells #[a, x, y, .int .i64 n, .int .i64 q, .int .i64 t, .int .i64 s] 47 (0, 0)) := heap_setCell_same _ _ 2 _ _ _ h1
  generalize W1.setCell ⟨g, 2, none⟩ y = W2 at h2 ⊢
  exact heap_setCell_same _ _ 3 _ _ _ h2
theorem DAt.far {W : World} {g h k : Nat} {a b c u : Value} {n q t s : Int} (e : DAt W g a b c n q t s) (hne : g ≠ h) : DAt (W.setCell ⟨h, k, none⟩ u) g a b c n q t s := (Below.heap_setCell _ _ _ _ hne).trans e
def put7 (W : World) (g : Nat) (a b c : Value) (n q t s : Int) : World := ((((((W.setCell ⟨g, 0, none⟩ a).setCell ⟨g, 1, none⟩ b).setCell ⟨g, 2, none⟩ c).setCell ⟨g, 3, none⟩ (.int .i64 n)).setCell ⟨g, 4, none⟩ (.int .i64 q)).setCell ⟨g, 5, none⟩ (.int .i64 t)).setCell ⟨g, 6, none⟩ (.int .i64 s)
theorem put7_other (W : World) (g : Nat) (a b c : Value) (n q t s : Int) {i : Nat} (h : i ≠ g) : (put7 W g a b c n q t s).heap[i]? = W.heap[i]? := by
  unfold put7
  rw [Below.heap_setCell _ ⟨g, 6, none⟩ _ _ h, Below.heap_setCell _ ⟨g, 5, none⟩ _ _ h, Below.heap_setCell _ ⟨g, 4, none⟩ _ _ h, Below.heap_setCell _ ⟨g, 3, none⟩ _ _ h, Below.heap_setCell _ ⟨g, 2, none⟩ _ _ h, Below.heap_setCell _ ⟨g, 1, none⟩ _ _ h, Below.heap_setCell _ ⟨g, 0, none⟩ _ _ h]
theorem put7_size (W : World) (g : Nat) (a b c : Value) (n q t s : Int) : (put7 W g a b c n q t s).heap.size = W.heap.size := by simp [put7, World.setCell]
theorem put7_below {B g : Nat} {w W : World} (a b c : Value) (n q t s : Int) (h : Below B w W) (hg : B ≤ g) : Below B w (put7 W g a b c n q t s) :=
  ((((((h.setCell (p := ⟨g, 0, none⟩) hg _).setCell (p := ⟨g, 1, none⟩) hg _).setCell (p := ⟨g, 2, none⟩) hg _).setCell (p := ⟨g, 3, none⟩) hg _).setCell (p := ⟨g, 4, none⟩) hg _).setCell (p := ⟨g, 5, none⟩) hg _).setCell (p := ⟨g, 6, none⟩) hg _
theorem put7_at {W : World} {g : Nat} {a0 b0 c0 : Value} {n0 q0 t0 s0 : Int} (h : DAt W g a0 b0 c0 n0 q0 t0 s0) (a b c : Value) (n q t s : Int) : DAt (put7 W g a b c n q t s) g a b c n q t s := by
  unfold put7
  have h0 : (W.setCell ⟨g, 0, none⟩ a).heap[g]? = some (.cells #[a, b0, c0, .int .i64 n0, .int .i64 q0, .int .i64 t0, .int .i64 s0] 47 (0, 0)) := heap_setCell_same _ _ 0 _ _ _ h
  generalize W.setCell ⟨g, 0, none⟩ a = W0 at h0 ⊢
  have h1 : DAt (((W0.setCell ⟨g, 1, none⟩ b).setCell ⟨g, 2, none⟩ c).setCell ⟨g, 3, none⟩ (.int .i64 n)) g a b c n q0 t0 s0 := DAt.store h0 b c n
  exact ((h1.seq q).tx t).base s
theorem infoDvS : (Tryz.prog.info? 47).map (·.size) = some 7 := by kernel_rfl
theorem results_dv1 {fn : Func} {p : Tmp} (h : fn.results = #[.cell p 47]) (tmps : Array Value) (w : World) (g : Nat) (a b c : Value) (n x t s : Int)
    (hp : tmps.getD p undef = .pointer (some ⟨g, 0, none⟩)) (hc : DAt w g a b c n x t s) :
    (results fn tmps).run Tryz.prog w = .ok (.agg #[a, b, c, .int .i64 n, .int .i64 x, .int .i64 t, .int .i64 s]) w := by
  have hp' : tmps[p]?.getD undef = .pointer (some ⟨g, 0, none⟩) := by simpa using hp
  have hl := run_loadVar_row (P := Tryz.prog) w g 47 47 _ _ _ hc Tryz.underlying47 rfl infoDvS
  simp [results, h, hp', asAddr, hl]
def Dv.Fit (d : Dv) : Prop := Sml d.flash ∧ d.store.Fit
end Go.Proofs.YtfmnaidhfgmemaaGreatDoor

namespace Go.Proofs.YtfmnaidhfgmemaaGreatDoor
open Go.RowKit
open Words
set_option maxHeartbeats 400000 in
set_option maxRecDepth 100000 in
theorem eqIs_same (a b : Value) (M : List Int) (n : Nat) (B1 C1 B2 C2 : Nat) (w : World) (hn : M.length = n) (hM : n ≤ 1000000000000000000) (ha : Sli 3 B1 C1 a n (icells M) w) (hb : Sli 3 B2 C2 b n (icells M) w) :
    Calls Tryz.prog 16 #[a, b] w fun e w' => e = .returned (.bool true) ∧ Below w.heap.size w w' := by
  obtain ⟨ad, capa, rfl, a3⟩ := ha.form
  obtain ⟨bd, capb, rfl, b3⟩ := hb.form
  have HSA := hide ha
  have HSB := hide hb
  have A3 := hide a3
  have B3 := hide b3
  have HN := hide hn
  clear ha hb a3 b3 hn
  go_enter Tryz.func16, Tryz.ntmps16
  go_wp2
  go_loopw [5] (fun iv wr => ∃ k : Nat, k ≤ n ∧ iv = .int .i64 k ∧ Hid (∃ q, wr = w.drewN q)) (fun iv _ => n - (intOf iv).toNat)
  case atStart => exact ⟨0, Nat.zero_le _, rfl, ⟨0, rfl⟩⟩
  case round =>
    obtain ⟨k, hk, rfl, HQ⟩ := hrel
    obtain ⟨q, hq⟩ := HQ.out
    subst hq
    clear HQ
    by_cases hlt : (k : Int) < n
    · obtain ⟨ga, e, -, -⟩ := A3.out (by omega)
      subst e
      obtain ⟨gb, e, -, -⟩ := B3.out (by omega)
      subst e
      obtain ⟨x, hx⟩ : ∃ x, M[k]? = some x := ⟨_, List.getElem?_eq_getElem (by have := HN.out; omega)⟩
      have c1 := HSA.out.flt.cell (icells_get hx)
      have c2 := HSB.out.flt.cell (icells_get hx)
      have hxx : (x != x) = false := by simp
      have k0 : (0 : Int) ≤ k := by omega
      clear hx
      go_wp2
      go_quiet (fail)
      go_wp2
      go_roundw
      case rel => exact ⟨k + 1, by omega, by go_num, ⟨_, rfl⟩⟩
      case measure => simp [intOf]; omega
    · go_wp2
      go_ret
      exact ⟨rfl, below_drewN (Below.refl _ _) _⟩
set_option maxHeartbeats 400000 in
set_option maxRecDepth 100000 in
theorem eqKn_same (x : Bool) (n : Nat) (a1 a2 : Option Addr) (c1 c2 : Nat) (ls : List Int) (B1 C1 B2 C2 : Nat) (w : World) (hn : ls.length = n) (hM : n ≤ 1000000000000000000) (h1 : Sli 3 B1 C1 (.slice a1 n c1) n (icells ls) w) (h2 : Sli 3 B2 C2 (.slice a2 n c2) n (icells ls) w) :
    Calls Tryz.prog 120 #[.agg #[.bool x, .slice a1 n c1], .agg #[.bool x, .slice a2 n c2]] w fun e w' => e = .returned (.bool true) ∧ Below w.heap.size w w' := by
  have e0 : (x != x) = false := by simp
  have HB : Hid (Below w.heap.size w ((w.alloc (.cells #[.bool x, .slice a1 n c1] 175)).alloc (.cells #[.bool x, .slice a2 n c2] 175))) := ((Below.refl _ _).alloc (Nat.le_refl _) _).alloc (by simp) _
  have C := hide (eqIs_same _ _ ls n B1 C1 B2 C2 _ hn hM (h1.blw HB.out) (h2.blw HB.out))
  clear h1 h2
  go_enter Tryz.func120, Tryz.ntmps120
  go_wp2_with fail
  refine C.out.mono ?_
  rintro e w1 ⟨rfl, b1⟩
  have HW := hide (HB.out.trans (b1.mono HB.out.size))
  clear b1 C HB
  go_wp2
  go_ret
  exact ⟨rfl, HW.out⟩
set_option maxHeartbeats 1000000 in
set_option maxRecDepth 100000 in
theorem eqKns_same (a b : Value) (rs ss : List Kw) (B1 C1 B2 C2 : Nat) (w : World) (hM : rs.length ≤ 1000000000000000000) (hll : ∀ r ∈ rs, r.2.2.length ≤ 1000000000000000000) (ha : KIn B1 C1 a rs w) (hb : KIn B2 C2 b ss w) (he : rs.map ktell = ss.map ktell) :
    Calls Tryz.prog 82 #[a, b] w fun e w' => e = .returned (.bool true) ∧ Below w.heap.size w w' := by
  have hls : rs.length = ss.length := by have := congrArg List.length he; simpa using this
  obtain ⟨ad, capa, rfl, a3⟩ := ha.1.form
  obtain ⟨bd, capb, rfl, b3⟩ := hb.1.form
  obtain ⟨n, hn⟩ : ∃ n, rs.length = n := ⟨_, rfl⟩
  have HN := hide hn
  have HSA := hide ha
  have HSB := hide hb
  have HE := hide he
  have HLL := hide hll
  rw [hn] at hls
  rw [← hls] at b3 HSB ⊢
  rw [hn] at hM a3 HSA ⊢
  have A3 := hide a3
  have B3 := hide b3
  have HLS := hide hls
  clear a3 b3 ha hb hn he hll hls
  go_enter Tryz.func82, Tryz.ntmps82
  go_wp2
  go_loopw [5] (fun iv wr => ∃ k : Nat, k ≤ n ∧ iv = .int .i64 k ∧ Hid (Below w.heap.size w wr)) (fun iv _ => n - (intOf iv).toNat)
  case atStart => exact ⟨0, Nat.zero_le _, rfl, Below.refl _ _⟩
  case round =>
    obtain ⟨k, hk, rfl, HW⟩ := hrel
    by_cases hlt : (k : Int) < n
    · obtain ⟨ga, e, _, _⟩ := A3.out (by omega)
      subst e
      obtain ⟨gb, e, _, _⟩ := B3.out (by omega)
      subst e
      have hkl : k < rs.length := by have := HN.out; omega
      have hkl2 : k < ss.length := by have := HLS.out; omega
      obtain ⟨r, hr⟩ : ∃ r, rs[k]? = some r := ⟨_, List.getElem?_eq_getElem hkl⟩
      obtain ⟨s, hs⟩ : ∃ s, ss[k]? = some s := ⟨_, List.getElem?_eq_getElem hkl2⟩
      have hrs : ktell r = ktell s := by
        have e := congrArg (fun l => l[k]?) HE.out
        simp only [List.getElem?_map, hr, hs, Option.map_some, Option.some.injEq] at e
        exact e
      have SA := (HSA.out.2.1 r (List.mem_of_getElem? hr)).1.blw HW.out
      have SB := (HSB.out.2.1 s (List.mem_of_getElem? hs)).1.blw HW.out
      have hlr := HLL.out r (List.mem_of_getElem? hr)
      have ha1 := HSA.out.1
      have hb1 := HSB.out.1
      rw [HN.out] at ha1
      rw [← HLS.out] at hb1
      have GA := ha1.flt.below HW.out
      have GB := hb1.flt.below HW.out
      clear ha1 hb1
      have c0 := GA.cell (kncells_at rs k _ hr 0 _ rfl)
      have c1 := GA.cell (kncells_at rs k _ hr 1 _ rfl)
      have d0 := GB.cell (kncells_at ss k _ hs 0 _ rfl)
      have d1 := GB.cell (kncells_at ss k _ hs 1 _ rfl)
      obtain ⟨rn, rv, rl⟩ := r
      obtain ⟨sn, sv, sl⟩ := s
      simp only [ktell, Kn.mk.injEq] at hrs
      obtain ⟨rfl, rfl⟩ := hrs
      simp only [Nat.add_zero] at SA SB c0 c1 d0 d1 hlr
      obtain ⟨m, hm⟩ : ∃ m, rl.length = m := ⟨_, rfl⟩
      rw [hm] at SA SB hlr
      obtain ⟨va, vc, rfl, -⟩ := SA.form
      obtain ⟨ua, uc, rfl, -⟩ := SB.form
      have CE := hide (eqKn_same rn m va ua vc uc rl _ _ _ _ wr.drew hm hlr (SA.blw (Below.refl _ _).drew) (SB.blw (Below.refl _ _).drew))
      have hsz := HW.out.size
      have k0 : (0 : Int) ≤ k := by omega
      have gaw : ga < wr.heap.size := World.block_lt_of_cell? wr _ c0
      have gbw : gb < wr.heap.size := World.block_lt_of_cell? wr _ d0
      clear hr hs hkl hkl2 GA GB SA SB hm
      go_wp2
      go_region_held3 (fun w' => w'.cell? ⟨ga, k * 2, none⟩ = some (.bool rn) ∧ w'.cell? ⟨ga, k * 2 + 1, none⟩ = some (.slice va m vc) ∧ w'.cell? ⟨gb, k * 2, none⟩ = some (.bool rn) ∧ w'.cell? ⟨gb, k * 2 + 1, none⟩ = some (.slice ua m uc)) (first | go_keep | exact ⟨(b1.cell (show ga < wr.drew.heap.size from gaw)).trans c0, (b1.cell (show ga < wr.drew.heap.size from gaw)).trans c1, (b1.cell (show gb < wr.drew.heap.size from gbw)).trans d0, (b1.cell (show gb < wr.drew.heap.size from gbw)).trans d1⟩) ((go_at_call 120; (with_reducible refine Calls.mono CE.out ?_); rintro en w1 ⟨rfl, b1⟩))
      all_goals
        have HW1 := hide (HW.out.drew.trans (b1.mono (show w.heap.size ≤ wr.drew.heap.size from hsz)))
        clear b1 CE HW c0 c1 d0 d1
        go_wp2
        go_roundw
        case rel => exact ⟨k + 1, by omega, by go_num, HW1⟩
        case measure => simp [intOf]; omega
    · go_wp2
      go_ret
      exact ⟨rfl, HW.out⟩
set_option maxHeartbeats 400000 in
set_option maxRecDepth 100000 in
theorem eqAr_same (a b : Value) (rs ss : List Kw) (B1 C1 B2 C2 : Nat) (w : World) (hM : rs.length ≤ 1000000000000000000) (hll : ∀ r ∈ rs, r.2.2.length ≤ 1000000000000000000) (ha : KIn B1 C1 a rs w) (hb : KIn B2 C2 b ss w) (he : rs.map ktell = ss.map ktell) (hC1 : C1 ≤ w.heap.size) (hC2 : C2 ≤ w.heap.size) :
    Calls Tryz.prog 53 #[.agg #[a], .agg #[b]] w fun e w' => e = .returned (.bool true) ∧ Below w.heap.size w w' := by
  obtain ⟨ad, capa, rfl, a3⟩ := ha.1.form
  obtain ⟨bd, capb, rfl, b3⟩ := hb.1.form
  have HB : Hid (Below w.heap.size w ((w.alloc (.cells #[.slice ad rs.length capa] 43)).alloc (.cells #[.slice bd ss.length capb] 43))) := ((Below.refl _ _).alloc (Nat.le_refl _) _).alloc (by simp) _
  have C := hide (eqKns_same _ _ rs ss B1 C1 B2 C2 _ hM hll (KIn.loc _ _ _ _ _ _ (fun i _ hi => HB.out.block i (by omega)) ha) (KIn.loc _ _ _ _ _ _ (fun i _ hi => HB.out.block i (by omega)) hb) he)
  obtain ⟨n, hn⟩ : ∃ n, rs.length = n := ⟨_, rfl⟩
  obtain ⟨m, hm⟩ : ∃ m, ss.length = m := ⟨_, rfl⟩
  rw [hn, hm] at C HB
  rw [hn, hm]
  clear ha hb a3 b3 hll hn hm he hM
  go_enter Tryz.func53, Tryz.ntmps53
  go_wp2_with fail
  refine C.out.mono ?_
  rintro e w1 ⟨rfl, b1⟩
  have HW := hide (HB.out.trans (b1.mono HB.out.size))
  clear b1 C HB
  go_wp2
  go_ret
  exact ⟨rfl, HW.out⟩
end Go.Proofs.YtfmnaidhfgmemaaGreatDoor
