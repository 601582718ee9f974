/-
  Devices in memory: in a block, as an answer, as an argument.
-/
import Derived.Test.YtiicghepilbgfaaGreatDoorPk22
import Derived.Test.YtiicghepilbgfaaGreatDoorPk36
import Derived.Test.YtiicghepilbgfaaGreatDoorPk44
import Derived.Test.YtiicghepilbgfaaGreatDoorPk30
namespace Go.Proofs.YtiicghepilbgfaaGreatDoor
open Go.RowKit
open Words

/-- A device that can be read. -/
def DvIn (W : World) (v : Value) (d : Dv) : Prop := ∃ fv vv kv, v = .agg #[fv, vv, kv, .int .i64 d.store.next, .int .i64 d.seq, .int .i64 d.tx, .int .i64 d.base] ∧ RdB W fv d.flash ∧ Sml d.flash ∧ StIn W (.agg #[vv, kv, .int .i64 d.store.next]) d.store
theorem DvIn.below {W W' : World} {v : Value} {d : Dv} (h : DvIn W v d) (hb : Below W.heap.size W W') : DvIn W' v d := by
  obtain ⟨fv, vv, kv, e, h1, h2, h3⟩ := h
  exact ⟨fv, vv, kv, e, h1.below hb, h2, h3.below hb⟩
theorem stin_slices {W : World} {vv kv : Value} {n : Int} {s : Sto} (h : StIn W (.agg #[vv, kv, .int .i64 n]) s) : ∃ va vl vc ad len cap, vv = .slice va vl vc ∧ kv = .slice ad len cap ∧ n = s.next := by
  obtain ⟨va, vl, vc, ad, len, cap, rs, h1, -⟩ := h
  unfold SBox at h1
  injection h1 with h1
  injection h1 with h1
  simp only [List.cons.injEq, and_true, Value.int.injEq, true_and] at h1
  exact ⟨va, vl, vc, ad, len, cap, h1.1, h1.2.1, h1.2.2⟩
theorem DvIn.form {W : World} {v : Value} {d : Dv} (h : DvIn W v d) : ∃ fd fc va vl vc ad len cap, v = .agg #[.slice fd d.flash.length fc, .slice va vl vc, .slice ad len cap, .int .i64 d.store.next, .int .i64 d.seq, .int .i64 d.tx, .int .i64 d.base] ∧ RdB W (.slice fd d.flash.length fc) d.flash ∧ Sml d.flash ∧ StIn W (.agg #[.slice va vl vc, .slice ad len cap, .int .i64 d.store.next]) d.store := by
  obtain ⟨fv, vv, kv, e, h1, h2, h3⟩ := h
  obtain ⟨fd, fc, rfl⟩ := h1.form
  obtain ⟨va, vl, vc, ad, len, cap, rfl, rfl, -⟩ := stin_slices h3
  exact ⟨fd, fc, va, vl, vc, ad, len, cap, e, h1, h2, h3⟩
/-- Block g has these seven cells. -/
def DAt (W : World) (g : Nat) (a b c : Value) (n q t s : Int) : Prop := W.heap[g]? = some (.cells #[a, b, c, .int .i64 n, .int .i64 q, .int .i64 t, .int .i64 s] 57 (0, 0))
theorem DAt.below {w w' : World} {g : Nat} {a b c : Value} {n q t s : Int} (h : DAt w g a b c n q t s) (hb : Below w.heap.size w w') : DAt w' g a b c n q t s := (hb.block _ (Array.getElem?_eq_some_iff.1 h).1).trans h
theorem DAt.lt {w : World} {g : Nat} {a b c : Value} {n q t s : Int} (h : DAt w g a b c n q t s) : g < w.heap.size := (Array.getElem?_eq_some_iff.1 h).1
theorem DAt.cells {W : World} {g : Nat} {a b c : Value} {n q t s : Int} (h : DAt W g a b c n q t s) : W.cell? ⟨g, 0, none⟩ = some a ∧ W.cell? ⟨g, 1, none⟩ = some b ∧ W.cell? ⟨g, 2, none⟩ = some c ∧ W.cell? ⟨g, 3, none⟩ = some (.int .i64 n) ∧ W.cell? ⟨g, 4, none⟩ = some (.int .i64 q) ∧ W.cell? ⟨g, 5, none⟩ = some (.int .i64 t) ∧ W.cell? ⟨g, 6, none⟩ = some (.int .i64 s) :=
  ⟨cell_of_row _ _ 0 _ _ _ h, cell_of_row _ _ 1 _ _ _ h, cell_of_row _ _ 2 _ _ _ h, cell_of_row _ _ 3 _ _ _ h, cell_of_row _ _ 4 _ _ _ h, cell_of_row _ _ 5 _ _ _ h, cell_of_row _ _ 6 _ _ _ h⟩
theorem DAt.fr {W : World} {g : Nat} {a b c : Value} {n q t s : Int} (h : DAt W g a b c n q t s) (k : Nat) : W.frozen? ⟨g, k, none⟩ = false := frozen_of_row _ _ k _ _ h
theorem DAt.seq {W : World} {g : Nat} {a b c : Value} {n q t s : Int} (h : DAt W g a b c n q t s) (x : Int) : DAt (W.setCell ⟨g, 4, none⟩ (.int .i64 x)) g a b c n x t s := heap_setCell_same _ _ 4 _ _ _ h
theorem DAt.tx {W : World} {g : Nat} {a b c : Value} {n q t s : Int} (h : DAt W g a b c n q t s) (x : Int) : DAt (W.setCell ⟨g, 5, none⟩ (.int .i64 x)) g a b c n q x s := heap_setCell_same _ _ 5 _ _ _ h
theorem DAt.base {W : World} {g : Nat} {a b c : Value} {n q t s : Int} (h : DAt W g a b c n q t s) (x : Int) : DAt (W.setCell ⟨g, 6, none⟩ (.int .i64 x)) g a b c n q t x := heap_setCell_same _ _ 6 _ _ _ h
theorem DAt.store {W : World} {g : Nat} {a b c : Value} {n q t s : Int} (h : DAt W g a b c n q t s) (x y : Value) (m : Int) : DAt (((W.setCell ⟨g, 1, none⟩ x).setCell ⟨g, 2, none⟩ y).setCell ⟨g, 3, none⟩ (.int .i64 m)) g a x y m q t s := by
  have h1 : (W.setCell ⟨g, 1, none⟩ x).heap[g]? = some (.cells #[a, x, c, .int .i64 n, .int .i64 q, .int .i64 t, .int .i64 s] 57 (0, 0)) := heap_setCell_same _ _ 1 _ _ _ h
  generalize W.setCell ⟨g, 1, none⟩ x = W1 at h1 ⊢
  have h2 : (W1.setCell ⟨g, 2, none⟩ y).heap[g]? = some (.cells #[a, x, y, .int .i64 n, .int .i64 q, .int .i64 t, .int .i64 s] 57 (0, 0)) := heap_setCell_same _ _ 2 _ _ _ h1
  generalize W1.setCell ⟨g, 2, none⟩ y = W2 at h2 ⊢
  exact heap_setCell_same _ _ 3 _ _ _ h2
theorem DAt.far {W : World} {g h k : Nat} {a b c u : Value} {n q t s : Int} (e : DAt W g a b c n q t s) (hne : g ≠ h) : DAt (W.setCell ⟨h, k, none⟩ u) g a b c n q t s := (Below.heap_setCell _ _ _ _ hne).trans e
/-- Seven cells are laid over block g. -/
def put7 (W : World) (g : Nat) (a b c : Value) (n q t s : Int) : World := ((((((W.setCell ⟨g, 0, none⟩ a).setCell ⟨g, 1, none⟩ b).setCell ⟨g, 2, none⟩ c).setCell ⟨g, 3, none⟩ (.int .i64 n)).setCell ⟨g, 4, none⟩ (.int .i64 q)).setCell ⟨g, 5, none⟩ (.int .i64 t)).setCell ⟨g, 6, none⟩ (.int .i64 s)
theorem put7_other (W : World) (g : Nat) (a b c : Value) (n q t s : Int) {i : Nat} (h : i ≠ g) : (put7 W g a b c n q t s).heap[i]? = W.heap[i]? := by
  unfold put7
  rw [Below.heap_setCell _ ⟨g, 6, none⟩ _ _ h, Below.heap_setCell _ ⟨g, 5, none⟩ _ _ h, Below.heap_setCell _ ⟨g, 4, none⟩ _ _ h, Below.heap_setCell _ ⟨g, 3, none⟩ _ _ h, Below.heap_setCell _ ⟨g, 2, none⟩ _ _ h, Below.heap_setCell _ ⟨g, 1, none⟩ _ _ h, Below.heap_setCell _ ⟨g, 0, none⟩ _ _ h]
theorem put7_size (W : World) (g : Nat) (a b c : Value) (n q t s : Int) : (put7 W g a b c n q t s).heap.size = W.heap.size := by simp [put7, World.setCell]
theorem put7_below {B g : Nat} {w W : World} (a b c : Value) (n q t s : Int) (h : Below B w W) (hg : B ≤ g) : Below B w (put7 W g a b c n q t s) :=
  ((((((h.setCell (p := ⟨g, 0, none⟩) hg _).setCell (p := ⟨g, 1, none⟩) hg _).setCell (p := ⟨g, 2, none⟩) hg _).setCell (p := ⟨g, 3, none⟩) hg _).setCell (p := ⟨g, 4, none⟩) hg _).setCell (p := ⟨g, 5, none⟩) hg _).setCell (p := ⟨g, 6, none⟩) hg _
theorem put7_at {W : World} {g : Nat} {a0 b0 c0 : Value} {n0 q0 t0 s0 : Int} (h : DAt W g a0 b0 c0 n0 q0 t0 s0) (a b c : Value) (n q t s : Int) : DAt (put7 W g a b c n q t s) g a b c n q t s := by
  unfold put7
  have h0 : (W.setCell ⟨g, 0, none⟩ a).heap[g]? = some (.cells #[a, b0, c0, .int .i64 n0, .int .i64 q0, .int .i64 t0, .int .i64 s0] 57 (0, 0)) := heap_setCell_same _ _ 0 _ _ _ h
  generalize W.setCell ⟨g, 0, none⟩ a = W0 at h0 ⊢
  have h1 : DAt (((W0.setCell ⟨g, 1, none⟩ b).setCell ⟨g, 2, none⟩ c).setCell ⟨g, 3, none⟩ (.int .i64 n)) g a b c n q0 t0 s0 := DAt.store h0 b c n
  exact ((h1.seq q).tx t).base s
theorem infoDvS : (Tryz.prog.info? 57).map (·.size) = some 7 := by kernel_rfl
theorem results_dv2 {fn : Func} {p q : Tmp} (h : fn.results = #[.cell p 57, .tmp q]) (tmps : Array Value) (w : World) (g : Nat) (a b c : Value) (n x t s : Int)
    (hp : tmps.getD p undef = .pointer (some ⟨g, 0, none⟩)) (hc : DAt w g a b c n x t s) :
    (results fn tmps).run Tryz.prog w = .ok (.tuple #[.agg #[a, b, c, .int .i64 n, .int .i64 x, .int .i64 t, .int .i64 s], tmps.getD q undef]) w := by
  have hp' : tmps[p]?.getD undef = .pointer (some ⟨g, 0, none⟩) := by simpa using hp
  have hl := run_loadVar_row (P := Tryz.prog) w g 57 57 _ _ _ hc Tryz.underlying57 rfl infoDvS
  simp [results, h, hp', asAddr, hl]
theorem results_dv1 {fn : Func} {p : Tmp} (h : fn.results = #[.cell p 57]) (tmps : Array Value) (w : World) (g : Nat) (a b c : Value) (n x t s : Int)
    (hp : tmps.getD p undef = .pointer (some ⟨g, 0, none⟩)) (hc : DAt w g a b c n x t s) :
    (results fn tmps).run Tryz.prog w = .ok (.agg #[a, b, c, .int .i64 n, .int .i64 x, .int .i64 t, .int .i64 s]) w := by
  have hp' : tmps[p]?.getD undef = .pointer (some ⟨g, 0, none⟩) := by simpa using hp
  have hl := run_loadVar_row (P := Tryz.prog) w g 57 57 _ _ _ hc Tryz.underlying57 rfl infoDvS
  simp [results, h, hp', asAddr, hl]
/-- A device whose memory lies in blocks from B on: its flash, its volumes, its knots, each apart. -/
def DvOwn (B : Nat) (v : Value) (d : Dv) (W : World) : Prop := ∃ fv vv kv lo hi lo1 hi1 lo2 hi2, v = .agg #[fv, vv, kv, .int .i64 d.store.next, .int .i64 d.seq, .int .i64 d.tx, .int .i64 d.base] ∧ Fla lo hi fv d.flash W ∧ Sli 72 lo1 hi1 vv d.store.vols.length (vlcells d.store.vols) W ∧ Kns lo2 hi2 kv d.store.kns W ∧ (B ≤ lo ∧ hi ≤ W.heap.size) ∧ (B ≤ lo1 ∧ hi1 ≤ W.heap.size) ∧ (B ≤ lo2 ∧ hi2 ≤ W.heap.size) ∧ (hi ≤ lo1 ∨ hi1 ≤ lo) ∧ (hi ≤ lo2 ∨ hi2 ≤ lo) ∧ (hi1 ≤ lo2 ∨ hi2 ≤ lo1)
theorem DvOwn.keep {B : Nat} {v : Value} {d : Dv} {V V' : World} (h : DvOwn B v d V) (hq : ∀ g, B ≤ g → g < V.heap.size → V'.heap[g]? = V.heap[g]?) (hz : V.heap.size ≤ V'.heap.size) : DvOwn B v d V' := by
  obtain ⟨fv, vv, kv, lo, hi, lo1, hi1, lo2, hi2, e, h1, h2, h3, h4, h5, h6, h7⟩ := h
  refine ⟨fv, vv, kv, lo, hi, lo1, hi1, lo2, hi2, e, ?_, ?_, ?_, ⟨h4.1, by omega⟩, ⟨h5.1, by omega⟩, ⟨h6.1, by omega⟩, h7⟩
  · exact Fla.loc _ _ _ _ V _ (fun g g1 g2 => hq g (by omega) (by omega)) h1
  · exact Sli.loc _ _ _ _ _ _ V _ (fun g g1 g2 => hq g (by omega) (by omega)) h2
  · exact Kns.loc _ _ _ _ V _ (fun g g1 g2 => hq g (by omega) (by omega)) h3
theorem DvOwn.below {B : Nat} {v : Value} {d : Dv} {V V' : World} (h : DvOwn B v d V) (hb : Below V.heap.size V V') : DvOwn B v d V' := h.keep (fun g _ hg => hb.block g hg) hb.size
theorem DvOwn.down {B B' : Nat} {v : Value} {d : Dv} {V : World} (h : DvOwn B v d V) (hb : B' ≤ B) : DvOwn B' v d V := by
  obtain ⟨fv, vv, kv, lo, hi, lo1, hi1, lo2, hi2, e, h1, h2, h3, h4, h5, h6, h7⟩ := h
  exact ⟨fv, vv, kv, lo, hi, lo1, hi1, lo2, hi2, e, h1, h2, h3, ⟨by omega, h4.2⟩, ⟨by omega, h5.2⟩, ⟨by omega, h6.2⟩, h7⟩
/-- A device that is not too great. -/
def Dv.Fit (d : Dv) : Prop := Sml d.flash ∧ d.store.Fit
theorem DvOwn.rd {B : Nat} {v : Value} {d : Dv} {V : World} (h : DvOwn B v d V) (hf : d.Fit) : DvIn V v d := by
  obtain ⟨fv, vv, kv, lo, hi, lo1, hi1, lo2, hi2, e, h1, h2, h3, h4, h5, h6, h7, h8, h9⟩ := h
  exact ⟨fv, vv, kv, e, h1.rdb, hf.1, StH.rd (lo := 0) (zb := V.heap.size) ⟨vv, kv, lo1, hi1, lo2, hi2, rfl, h2, h3, ⟨by omega, .inl h5.2⟩, ⟨by omega, .inl h6.2⟩, h5.2, h6.2, h9⟩ hf.2⟩
theorem DvOwn.form {B : Nat} {v : Value} {d : Dv} {V : World} (h : DvOwn B v d V) : ∃ fd fc va vl vc ad len cap, v = .agg #[.slice fd d.flash.length fc, .slice va vl vc, .slice ad len cap, .int .i64 d.store.next, .int .i64 d.seq, .int .i64 d.tx, .int .i64 d.base] := by
  obtain ⟨fv, vv, kv, lo, hi, lo1, hi1, lo2, hi2, e, h1, h2, h3, -⟩ := h
  obtain ⟨fd, fc, rfl, -⟩ := h1.form
  obtain ⟨va, vc, rfl, -⟩ := h2.form
  obtain ⟨ad, cap, rfl⟩ := h3.form
  exact ⟨_, _, _, _, _, _, _, _, e⟩
/-- Its cells are laid over block g, below all. -/
theorem DvOwn.put {B g : Nat} {v : Value} {d : Dv} {V : World} (h : DvOwn B v d V) (hg : g < B) (a b c : Value) (n q t s : Int) : DvOwn B v d (put7 V g a b c n q t s) :=
  h.keep (fun x x1 _ => put7_other _ _ _ _ _ _ _ _ _ (by omega)) (by rw [put7_size]; exact Nat.le_refl _)
/-- What answers a device and a yes. -/
def DvOut2 (w : World) (d : Dv) (ok : Bool) (e : Ending) (w' : World) : Prop := ∃ v, e = .returned (.tuple #[v, .bool ok]) ∧ DvOwn w.heap.size v d w' ∧ d.Fit ∧ Below w.heap.size w w'
def DvOut (w : World) (d : Dv) (e : Ending) (w' : World) : Prop := ∃ v, e = .returned v ∧ DvOwn w.heap.size v d w' ∧ d.Fit ∧ Below w.heap.size w w'
theorem small_nil : Sml [] := ⟨by simp, fun r hr => by cases hr⟩
theorem rdb_nil (W : World) : RdB W (.slice none 0 0) [] := ⟨[], rfl, none, 0, rfl, fun _ => rfl, fun k r h => by simp at h⟩
theorem stin_nil (W : World) : StIn W (.agg #[.slice none 0 0, .slice none 0 0, .int .i64 0]) ⟨[], [], 0⟩ :=
  ⟨none, 0, 0, none, 0, 0, [], rfl, rfl, by omega, by omega, (fun r hr => by cases hr), (fun _ => rfl), ⟨rfl, by unfold maxLen; omega, by simp, fun h => by omega⟩, ⟨rfl, by unfold maxLen; omega, by simp, fun h => by omega⟩⟩
theorem fla_nil (B : Nat) (W : World) : Fla B B (.slice none 0 0) [] W := ⟨[], rfl, World.ownsRow_nil _ _ _ _, fun g hg => by simp [Value.ownBlock] at hg, fun r hr => (by cases hr), by simp⟩
theorem kns_nil (B : Nat) (W : World) : Kns B B (.slice none 0 0) [] W := ⟨[], rfl, .inl ⟨rfl, rfl⟩, fun r hr => (by cases hr), by simp [KLone], Nat.zero_le _⟩
theorem dvown_none {B : Nat} (W : World) (hB : B ≤ W.heap.size) : DvOwn B (.agg #[.slice none 0 0, .slice none 0 0, .slice none 0 0, .int .i64 0, .int .i64 0, .int .i64 0, .int .i64 0]) noDv W :=
  ⟨_, _, _, B, B, B, B, B, B, rfl, fla_nil B W, .inl ⟨rfl, rfl⟩, kns_nil B W, ⟨by omega, hB⟩, ⟨by omega, hB⟩, ⟨by omega, hB⟩, .inl (by omega), .inl (by omega), .inl (by omega)⟩
theorem nodv_fit : noDv.Fit := ⟨small_nil, by decide, by decide, fun k hk => by cases hk⟩
theorem ok_small {bs : List Bk} (h : flOk bs = true) : Sml bs := by
  have h1 := h
  unfold flOk at h1
  rw [Bool.and_eq_true, decide_eq_true_eq] at h1
  refine ⟨by omega, fun r hr => ⟨by rw [ok_len4 h r hr]; omega, fun t ht => ?_⟩⟩
  have h2 := List.all_eq_true.1 h1.2 r hr
  unfold blkOk at h2
  rw [Bool.and_eq_true] at h2
  obtain ⟨k, hk⟩ := List.getElem?_of_mem ht
  have h3 := List.all_eq_true.1 h2.2 k (List.mem_range.2 (List.getElem?_eq_some_iff.1 hk).1)
  unfold leafAt at h3
  rw [hk] at h3
  have h4 : leafOk t = true := by
    cases hq : leafOk t with
    | true => rfl
    | false => simp [hq] at h3
  unfold leafOk at h4
  simp only [decide_eq_true_eq] at h4
  omega
end Go.Proofs.YtiicghepilbgfaaGreatDoor
