/-
  SPutM; SwC; Tk2
-/
import Derived.Test.YtcnaahajaaifjacGreatPk22
import Derived.Test.YtcnaahajaaifjacGreatKnCp
import Derived.Test.YtcnaahajaaifjacGreatPk15
import Derived.Test.YtcnaahajaaifjacGreatPk8
import Derived.Test.YtcnaahajaaifjacGreatPk0
import Derived.Test.YtcnaahajaaifjacGreatPk1
/-
  What spec.PutAt keeps while it puts: the cells of the new leaf and of the new root.
-/
namespace Go.Proofs.YtcnaahajaaifjacGreat
open Go.RowKit
open Words

/-- An arena in a cell and a number, answered. -/
theorem results_ar2 {fn : Func} {p q : Tmp} (h : fn.results = #[.cell p 34, .tmp q]) (tmps : Array Value) (w : World) (g : Nat) (v : Value)
    (hp : tmps.getD p undef = .pointer (some ⟨g, 0, none⟩)) (hg : w.heap[g]? = some (.cells #[v] 34 (0, 0))) :
    (results fn tmps).run Tryz.prog w = .ok (.tuple #[.agg #[v], tmps.getD q undef]) w := by
  have hp' : tmps[p]?.getD undef = .pointer (some ⟨g, 0, none⟩) := by simpa using hp
  have hl := run_loadVar_row (P := Tryz.prog) w g 34 34 #[v] (0, 0) _ hg Tryz.underlying34 rfl infoArc
  simp [results, h, hp', asAddr, hl]
/-- A cell of a struct is written: all that lie in other blocks stay. -/
theorem Tk.wcell {w wi : World} {hs hs' : List Hold} {lo hi b : Nat} {cs : Array Value} {t : TypeId} (h : Tk w wi hs) (n : Nat) (hn : hs[n]? = some (lo, hi, Cel b cs t)) (hb : w.heap.size ≤ b) (k : Nat) (u : Value) (hh : ∀ x ∈ hs', x ∈ hs ∧ (x.2.1 ≤ b ∨ b + 1 ≤ x.1)) :
    Tk w (wi.setCell ⟨b, k, none⟩ u) ((b, b + 1, Cel b (cs.setIfInBounds k u) t) :: hs') := by
  have hc : wi.heap[b]? = some (.cells cs t (0, 0)) := h.get n hn
  have hlt := (Array.getElem?_eq_some_iff.1 hc).1
  have hz : (wi.setCell ⟨b, k, none⟩ u).heap.size = wi.heap.size := by simp [World.setCell]
  refine ⟨h.1.setCell (p := ⟨b, k, none⟩) hb u, fun x hx => ?_⟩
  rcases List.mem_cons.1 hx with rfl | hx
  · exact ⟨by rw [hz]; exact hlt, Cel.loc _ _ _, row_set hc k u⟩
  · obtain ⟨hx1, hx2⟩ := hh x hx
    obtain ⟨h1, h2, h3⟩ := h.2 x hx1
    exact ⟨by rw [hz]; exact h1, h2, h2 wi _ (fun g g1 g2 => Below.heap_setCell _ _ _ _ (fun (e : g = b) => by omega)) h3⟩
/-- The same of a row. -/
theorem Tk.wflt {w wi : World} {hs hs' : List Hold} {lo hi b : Nat} {xs : List Value} {t : TypeId} (h : Tk w wi hs) (n : Nat) (hn : hs[n]? = some (lo, hi, Flt t b xs)) (hb : w.heap.size ≤ b) (k : Nat) (u : Value) (hh : ∀ x ∈ hs', x ∈ hs ∧ (x.2.1 ≤ b ∨ b + 1 ≤ x.1)) :
    Tk w (wi.setCell ⟨b, k, none⟩ u) ((b, b + 1, Flt t b (xs.set k u)) :: hs') := by
  have hf : Flt t b xs wi := h.get n hn
  obtain ⟨cs, hc, -⟩ := hf
  have hlt := (Array.getElem?_eq_some_iff.1 hc).1
  have hz : (wi.setCell ⟨b, k, none⟩ u).heap.size = wi.heap.size := by simp [World.setCell]
  refine ⟨h.1.setCell (p := ⟨b, k, none⟩) hb u, fun x hx => ?_⟩
  rcases List.mem_cons.1 hx with rfl | hx
  · exact ⟨by rw [hz]; exact hlt, Flt.loc _ _ _, Flt.set (h.get n hn) k u⟩
  · obtain ⟨hx1, hx2⟩ := hh x hx
    obtain ⟨h1, h2, h3⟩ := h.2 x hx1
    exact ⟨by rw [hz]; exact h1, h2, h2 wi _ (fun g g1 g2 => Below.heap_setCell _ _ _ _ (fun (e : g = b) => by omega)) h3⟩

theorem put_refused {l : List Kn} {r s n : Int} (h : putB l r s n = false) : putL l r s n = l ∧ putR l r s n = r := by simp [putL, putR, h]

theorem putout_no {w w' : World} {l : List Kn} {r s n : Int} {v : Value} (E : putL l r s n = l ∧ putR l r s n = r) (h : KOut w l v w') : PutOut w (putL l r s n) (putR l r s n) (.returned (.tuple #[v, .int .i64 r])) w' := by
  rw [E.1, E.2]
  exact ⟨_, rfl, h⟩

/-- Two more: their children lie in blocks that came since W0. -/
theorem KOwn.app2 {W0 W y : World} {B : Nat} {v u' : Value} {rs : List Kw} {r1 r2 : Kw} (h0 : KOwn W0 B v rs) (hb : Below W0.heap.size W0 W) (hB : B ≤ W0.heap.size) (hr1 : Sli 3 W0.heap.size W.heap.size r1.2.1 r1.2.2.length (icells r1.2.2) W) (hm1 : r1.2.2.length ≤ maxLen)
    (hr2 : Sli 3 W0.heap.size W.heap.size r2.2.1 r2.2.2.length (icells r2.2.2) W) (hm2 : r2.2.2.length ≤ maxLen) (h12 : ∀ g, r1.2.1.ownBlock = some g → r2.2.1.ownBlock ≠ some g)
    (hg : W.grownBy y v.ownBlock) (ho : y.ownsRow B 84 2 u' (rs ++ [r1, r2]).length (kncells (rs ++ [r1, r2]))) : KOwn y B u' (rs ++ [r1, r2]) := by
  have h := h0.below hb
  have hk := own_kind h.1
  have far : ∀ (t : Value) (g : Nat), v.ownBlock = some g → ∀ {lo hi n : Nat} {xs : List Value}, Sli 3 lo hi t n xs W → t.ownBlock ≠ some g := by
    intro t g hg lo hi n xs hs e
    obtain ⟨-, -, cs, q⟩ := hk g hg
    obtain ⟨-, -, cs', q'⟩ := hs.lt g e
    exact int_ne_kn q' q
  refine ⟨ho, ?_, ?_⟩
  · intro x hx
    rcases List.mem_append.1 hx with hx | hx
    · exact ⟨((h.2.1 x hx).1.grown hg (fun g e e2 => far _ g e2 (h.2.1 x hx).1 e)).up hg.size, (h.2.1 x hx).2⟩
    · simp only [List.mem_cons, List.not_mem_nil, or_false] at hx
      rcases hx with rfl | rfl
      · exact ⟨((hr1.grown hg (fun g e e2 => far _ g e2 hr1 e)).dn hB).up hg.size, hm1⟩
      · exact ⟨((hr2.grown hg (fun g e e2 => far _ g e2 hr2 e)).dn hB).up hg.size, hm2⟩
  · refine List.pairwise_append.2 ⟨h.2.2, ?_, ?_⟩
    · simp only [List.pairwise_cons, List.mem_singleton, forall_eq, List.not_mem_nil, false_implies, implies_true, and_true, List.Pairwise.nil]
      exact h12
    · intro a ha b hb2 g e1 e2
      have q1 := ((h0.2.1 a ha).1.lt g e1).2.1
      simp only [List.mem_cons, List.not_mem_nil, or_false] at hb2
      rcases hb2 with rfl | rfl
      · have q2 := (hr1.lt g e2).1
        omega
      · have q2 := (hr2.lt g e2).1
        omega
/-- The new leaf, the new root, and the arena's own cell. -/
abbrev PutH (g lb tb lk tk lc tc : Nat) (uv : Value) (LK TK : List Int) : List Hold :=
  [(tb, tb + 1, Cel tb #[.bool false, .slice (some ⟨tk, 0, none⟩) 4 tc] 84), (tk, tk + 1, Flt 3 tk (icells TK)), (lb, lb + 1, Cel lb #[.bool true, .slice (some ⟨lk, 0, none⟩) 4 lc] 84), (lk, lk + 1, Flt 3 lk (icells LK)), (g, g + 1, Cel g #[uv] 34)]
/-- They lie apart. -/
structure Apart5 (B g lb tb lk tk : Nat) : Prop where
  g0 : B ≤ g
  l0 : g < lk
  t0 : g < tk
  b0 : g < lb
  c0 : g < tb
  d1 : lk ≠ tk
  d2 : lk ≠ lb
  d3 : lk ≠ tb
  d4 : tk ≠ lb
  d5 : tk ≠ tb
  d6 : lb ≠ tb
theorem put_one {w1 x : World} {g lb tb lk tk lc tc t : Nat} {uv : Value} {LK TK : List Int} (U : Tk w1 x (PutH g lb tb lk tk lc tc uv LK TK)) (d : Apart5 w1.heap.size g lb tb lk tk) (n : Int) :
    Tk w1 (x.setCell ⟨lk, t, none⟩ (.int .i64 n)) (PutH g lb tb lk tk lc tc uv (LK.set t n) TK) := by
  obtain ⟨g0, l0, t0, b0, c0, d1, d2, d3, d4, d5, d6⟩ := d
  have V := U.wflt (hs' := [(tb, tb + 1, Cel tb #[.bool false, .slice (some ⟨tk, 0, none⟩) 4 tc] 84), (tk, tk + 1, Flt 3 tk (icells TK)), (lb, lb + 1, Cel lb #[.bool true, .slice (some ⟨lk, 0, none⟩) 4 lc] 84), (g, g + 1, Cel g #[uv] 34)]) 3 rfl (by omega) t (.int .i64 n) (fun y hy => by
    simp only [List.mem_cons, List.not_mem_nil, or_false] at hy
    rcases hy with rfl | rfl | rfl | rfl
    · exact ⟨by simp, by show tb + 1 ≤ lk ∨ lk + 1 ≤ tb; omega⟩
    · exact ⟨by simp, by show tk + 1 ≤ lk ∨ lk + 1 ≤ tk; omega⟩
    · exact ⟨by simp, by show lb + 1 ≤ lk ∨ lk + 1 ≤ lb; omega⟩
    · exact ⟨by simp, by show g + 1 ≤ lk ∨ lk + 1 ≤ g; omega⟩)
  rw [icells_set] at V
  exact V.drop (fun y hy => by
    simp only [List.mem_cons, List.not_mem_nil, or_false] at hy ⊢
    rcases hy with h | h | h | h | h <;> simp [h])
theorem put_two {w1 x : World} {g lb tb lk tk lc tc t : Nat} {uv : Value} {LK TK : List Int} (U : Tk w1 x (PutH g lb tb lk tk lc tc uv LK TK)) (d : Apart5 w1.heap.size g lb tb lk tk) (n : Int) :
    Tk w1 (x.setCell ⟨tk, t, none⟩ (.int .i64 n)) (PutH g lb tb lk tk lc tc uv LK (TK.set t n)) := by
  obtain ⟨g0, l0, t0, b0, c0, d1, d2, d3, d4, d5, d6⟩ := d
  have V := U.wflt (hs' := [(tb, tb + 1, Cel tb #[.bool false, .slice (some ⟨tk, 0, none⟩) 4 tc] 84), (lb, lb + 1, Cel lb #[.bool true, .slice (some ⟨lk, 0, none⟩) 4 lc] 84), (lk, lk + 1, Flt 3 lk (icells LK)), (g, g + 1, Cel g #[uv] 34)]) 1 rfl (by omega) t (.int .i64 n) (fun y hy => by
    simp only [List.mem_cons, List.not_mem_nil, or_false] at hy
    rcases hy with rfl | rfl | rfl | rfl
    · exact ⟨by simp, by show tb + 1 ≤ tk ∨ tk + 1 ≤ tb; omega⟩
    · exact ⟨by simp, by show lb + 1 ≤ tk ∨ tk + 1 ≤ lb; omega⟩
    · exact ⟨by simp, by show lk + 1 ≤ tk ∨ tk + 1 ≤ lk; omega⟩
    · exact ⟨by simp, by show g + 1 ≤ tk ∨ tk + 1 ≤ g; omega⟩)
  rw [icells_set] at V
  exact V.drop (fun y hy => by
    simp only [List.mem_cons, List.not_mem_nil, or_false] at hy ⊢
    rcases hy with h | h | h | h | h <;> simp [h])
/-- What the walk reads. -/
structure PutSee (x y y2 : World) (g lb tb lk tk lc tc t q : Nat) (uv : Value) : Prop where
  a1 : x.cell? ⟨lb, 1, none⟩ = some (.slice (some ⟨lk, 0, none⟩) 4 lc)
  a2 : ∃ u : Int, x.cell? ⟨lk, t, none⟩ = some (.int .i64 u)
  a3 : x.frozen? ⟨lk, t, none⟩ = false
  a4 : y.cell? ⟨tb, 1, none⟩ = some (.slice (some ⟨tk, 0, none⟩) 4 tc)
  a5 : y.cell? ⟨g, 0, none⟩ = some uv
  a6 : ∃ u : Int, y.cell? ⟨tk, q, none⟩ = some (.int .i64 u)
  a7 : y.frozen? ⟨tk, q, none⟩ = false
  a8 : y2.cell? ⟨g, 0, none⟩ = some uv
  b1 : y2.cell? ⟨lb, 0, none⟩ = some (.bool true)
  b2 : y2.cell? ⟨lb, 1, none⟩ = some (.slice (some ⟨lk, 0, none⟩) 4 lc)
  b3 : y2.cell? ⟨tb, 0, none⟩ = some (.bool false)
  b4 : y2.cell? ⟨tb, 1, none⟩ = some (.slice (some ⟨tk, 0, none⟩) 4 tc)
theorem put_cells {w1 x : World} {g lb tb lk tk lc tc t q : Nat} {uv : Value} {LK TK : List Int} (U : Tk w1 x (PutH g lb tb lk tk lc tc uv LK TK)) (d : Apart5 w1.heap.size g lb tb lk tk) (hLK : LK.length = 4) (hTK : TK.length = 4) (ht : t < 4) (hq : q < 4) (n m : Int) :
    PutSee x (x.setCell ⟨lk, t, none⟩ (.int .i64 n)) ((x.setCell ⟨lk, t, none⟩ (.int .i64 n)).setCell ⟨tk, q, none⟩ (.int .i64 m)) g lb tb lk tk lc tc t q uv ∧
    Tk w1 ((x.setCell ⟨lk, t, none⟩ (.int .i64 n)).setCell ⟨tk, q, none⟩ (.int .i64 m)) (PutH g lb tb lk tk lc tc uv (LK.set t n) (TK.set q m)) := by
  have V := put_one (t := t) U d n
  have V2 := put_two (t := q) V d m
  have hf : Flt 3 lk (icells LK) x := U.get 3 rfl
  have hf2 : Flt 3 tk (icells TK) (x.setCell ⟨lk, t, none⟩ (.int .i64 n)) := V.get 1 rfl
  exact ⟨⟨U.at 2 1 rfl rfl, ⟨_, hf.cell (icells_get (List.getElem?_eq_getElem (by omega)))⟩, hf.frozen t, V.at 0 1 rfl rfl, V.at 4 0 rfl rfl, ⟨_, hf2.cell (icells_get (List.getElem?_eq_getElem (by omega)))⟩, hf2.frozen q, V2.at 4 0 rfl rfl, V2.at 2 0 rfl rfl, V2.at 2 1 rfl rfl, V2.at 0 0 rfl rfl, V2.at 0 1 rfl rfl⟩, V2⟩
theorem kn2_new (W : World) {E : Nat} (hE : W.heap.size = E) (v u : Value) : ∀ (j : Nat) (x : Value), [Value.bool true, v, Value.bool false, u][j]? = some x → (W.alloc (.cells #[.bool true, v, .bool false, u] 84)).cell? ((⟨E, 0, none⟩ : Addr).add j) = some x := by
  subst hE
  intro j x hj
  match j, hj with
  | 0, hj | 1, hj | 2, hj | 3, hj =>
    simp at hj
    subst hj
    simp [Addr.add]
theorem kn2_one (a b : Option Addr) (n c m d : Nat) : ∀ u ∈ [Value.bool true, Value.slice a n c, Value.bool false, Value.slice b m d], u.oneCell' = true := by
  intro u hu
  simp at hu
  rcases hu with h | h | h | h <;> subst h <;> rfl
/-- Behind the append: what the two last steps need. -/
structure PutE (w : World) (z g : Nat) (u2 : Value) (L : List Kn) (y : World) : Prop where
  e1 : ∃ v, y.cell? ⟨g, 0, none⟩ = some v
  e2 : y.frozen? ⟨g, 0, none⟩ = false
  e3 : (y.setCell ⟨g, 0, none⟩ u2).cell? ⟨z + 1, 0, none⟩ = some (.slice none 0 0)
  e4 : (y.setCell ⟨g, 0, none⟩ u2).frozen? ⟨z + 1, 0, none⟩ = false
  e5 : (y.setCell ⟨g, 0, none⟩ u2).cell? ⟨g, 0, none⟩ = some u2
  e8 : ((y.setCell ⟨g, 0, none⟩ u2).setCell ⟨z + 1, 0, none⟩ u2).cell? ⟨g, 0, none⟩ = some u2
  e6 : ((y.setCell ⟨g, 0, none⟩ u2).setCell ⟨z + 1, 0, none⟩ u2).drew.heap[z + 1]? = some (.cells #[u2] 34 (0, 0))
  e7 : KOut w L (.agg #[u2]) ((y.setCell ⟨g, 0, none⟩ u2).setCell ⟨z + 1, 0, none⟩ u2).drew
theorem put_end {w w1 Y y : World} {z g lb tb lk tk lc tc B : Nat} {uv u2 : Value} {ss : List Kw} {LL TT : List Int} {L : List Kn} {hs : List Hold} (hz : w.heap.size = z) (T : Tk w w1 hs) (hT : hs[0]? = some (z + 1, z + 1 + 1, Cel (z + 1) #[.slice none 0 0] 34))
    (KO : KOwn w1 B uv ss) (hB : B = z + 1 + 1) (hB1 : B ≤ w1.heap.size) (V : Tk w1 Y (PutH g lb tb lk tk lc tc uv LL TT)) (d : Apart5 w1.heap.size g lb tb lk tk) (hLL : LL.length = 4) (hTT : TT.length = 4)
    (hL : L = ss.map ktell ++ [⟨true, LL⟩, ⟨false, TT⟩])
    (o2 : y.ownsRow B 84 2 u2 (ss.length + 2) (kncells ss ++ [.bool true, .slice (some ⟨lk, 0, none⟩) 4 lc, .bool false, .slice (some ⟨tk, 0, none⟩) 4 tc]))
    (g2 : (Y.alloc (.cells #[.bool true, .slice (some ⟨lk, 0, none⟩) 4 lc, .bool false, .slice (some ⟨tk, 0, none⟩) 4 tc] 84)).grownBy y uv.ownBlock) : PutE w z g u2 L y := by
  have BA : Below Y.heap.size Y (Y.alloc (.cells #[.bool true, .slice (some ⟨lk, 0, none⟩) 4 lc, .bool false, .slice (some ⟨tk, 0, none⟩) 4 tc] 84)) := (Below.refl _ _).alloc (Nat.le_refl _) _
  have V3 := V.below BA
  generalize Y.alloc (.cells #[.bool true, .slice (some ⟨lk, 0, none⟩) 4 lc, .bool false, .slice (some ⟨tk, 0, none⟩) 4 tc] 84) = Y3 at BA V3 g2
  have hgo := d.g0
  have hgl : g < Y3.heap.size := by have : g + 1 ≤ Y3.heap.size := V3.hi 4 rfl; omega
  have ob : ∀ k, uv.ownBlock = some k → B ≤ k ∧ k < w1.heap.size := fun k hk => own_block_lt KO.1 k hk
  have cg : y.heap[g]? = some (.cells #[uv] 34 (0, 0)) := (g2.block g hgl (fun e => by have := (ob g e.symm).2; omega)).trans (V3.get 4 rfl)
  have cz : y.heap[z + 1]? = some (.cells #[.slice none 0 0] 34 (0, 0)) := by
    refine (g2.block (z + 1) (by omega) (fun e => by have := (ob (z + 1) e.symm).1; omega)).trans ?_
    exact (V3.1.block (z + 1) (by omega)).trans (T.get 0 hT)
  have cz2 : (y.setCell ⟨g, 0, none⟩ u2).heap[z + 1]? = some (.cells #[.slice none 0 0] 34 (0, 0)) := row_set_ne cz (by omega) _ _
  have hE : KOwn y B u2 (ss ++ [(true, .slice (some ⟨lk, 0, none⟩) 4 lc, LL), (false, .slice (some ⟨tk, 0, none⟩) 4 tc, TT)]) := by
    have f1 : Flt 3 lk (icells LL) Y3 := V3.get 3 rfl
    have f2 : Flt 3 tk (icells TT) Y3 := V3.get 1 rfl
    have k1 : lk + 1 ≤ Y3.heap.size := V3.hi 3 rfl
    have k2 : tk + 1 ≤ Y3.heap.size := V3.hi 1 rfl
    have l0 := d.l0
    have t0 := d.t0
    refine KO.app2 V3.1 hB1 ?_ ?_ ?_ ?_ ?_ g2 ?_
    · exact Or.inr ⟨lk, lc, by simp only [hLL], by omega, by omega, f1⟩
    · simp only [hLL]; unfold maxLen; omega
    · exact Or.inr ⟨tk, tc, by simp only [hTT], by omega, by omega, f2⟩
    · simp only [hTT]; unfold maxLen; omega
    · intro k h1 h2
      have d1 := d.d1
      simp [Value.ownBlock] at h1 h2
      omega
    · rw [kncells_app, List.length_append]
      exact o2
  have hsz : w.heap.size ≤ Y3.heap.size := Nat.le_trans T.1.size V3.1.size
  have BW : Below w.heap.size w y := (T.1.trans (V3.1.mono T.1.size)).grown g2 hsz (fun k hk => by have := (ob k hk).1; omega)
  refine ⟨⟨_, cell_of_row _ _ 0 _ _ _ cg⟩, frozen_of_row _ _ 0 _ _ cg, cell_of_row _ _ 0 _ _ _ cz2, frozen_of_row _ _ 0 _ _ cz2, cell_of_row _ _ 0 _ _ _ (row_set cg 0 u2), cell_of_row _ _ 0 _ _ _ (row_set_ne (row_set cg 0 u2) (by omega) 0 u2), row_set cz2 0 u2, ?_⟩
  refine ⟨u2, ss ++ [(true, .slice (some ⟨lk, 0, none⟩) 4 lc, LL), (false, .slice (some ⟨tk, 0, none⟩) 4 tc, TT)], rfl, ?_, ?_, ?_⟩
  · exact (((hE.cell cg 0 u2).cell cz2 0 u2).below (Below.refl _ _).drew).down (by omega)
  · rw [hL, List.map_append]
    rfl
  · exact ((BW.setCell (p := ⟨g, 0, none⟩) (by show w.heap.size ≤ g; omega) _).setCell (p := ⟨z + 1, 0, none⟩) (by show w.heap.size ≤ z + 1; omega) _).drew
theorem put_yes {w w' : World} {l l' : List Kn} {r n m : Int} {sn : Nat} {A B : Kn} {v : Value} (h : putB l r (sn : Int) n = true) (e : putLf l r sn n = A ∧ putTop l r sn = B) (hm : m = (l.length : Int) + 1) (hl : l' = l) (k : KOut w (l' ++ [A, B]) v w') :
    PutOut w (putL l r (sn : Int) n) (putR l r (sn : Int) n) (.returned (.tuple #[v, .int .i64 m])) w' := by
  obtain ⟨rfl, rfl⟩ := e
  subst hl hm
  rw [putL, putR, if_pos h, if_pos h, Int.toNat_natCast]
  exact ⟨_, rfl, k⟩
theorem row_empty (X : World) {E : Nat} (hE : X.heap.size = E) : (X.alloc (.cells #[] 3)).ownsRow E 3 1 (.slice (some ⟨E, 0, none⟩) 0 0) 0 [] := by
  subst hE
  exact ⟨rfl, .inr ⟨X.heap.size, 0, #[], rfl, Nat.le_refl _, heap_alloc_new X _, Nat.le_refl _, by unfold maxLen; omega, rfl, rfl⟩⟩
/-- A row of children, copied into a block of its own. -/
theorem put_row {w1 X w7 : World} {hs : List Hold} {E : Nat} {v : Value} {ls : List Int} (U : Tk w1 X hs) (hE : X.heap.size = E) (o1 : w7.ownsRow E 3 1 v 4 (icells ls)) (g1 : (X.alloc (.cells #[] 3)).grownBy w7 (some E)) :
    ∃ tk c, v = .slice (some ⟨tk, 0, none⟩) 4 c ∧ E ≤ tk ∧ Tk w1 w7 ((tk, tk + 1, Flt 3 tk (icells ls)) :: hs) := by
  obtain ⟨va, vc, hv1, hva⟩ := (Sli.of o1).form
  obtain ⟨tk, rfl, h1, h2⟩ := hva (by omega)
  subst hv1
  have B : Below X.heap.size X w7 := ((Below.refl X.heap.size X).alloc (Nat.le_refl _) _).grown g1 ((Below.refl X.heap.size X).alloc (Nat.le_refl _) _).size (fun k hk => by cases hk; omega)
  exact ⟨tk, vc, rfl, h1, (U.below B).put h2 (Flt.loc _ _ _) (Sli.of o1).flt⟩
theorem put_top {w1 x : World} {g lb tb lk tk tk0 lc tc tc0 : Nat} {uv : Value} {LK TK TK0 : List Int} (U : Tk w1 x ((tk, tk + 1, Flt 3 tk (icells TK)) :: PutH g lb tb lk tk0 lc tc0 uv LK TK0)) (d : Apart5 w1.heap.size g lb tb lk tk) :
    x.cell? ⟨tb, 1, none⟩ = some (.slice (some ⟨tk0, 0, none⟩) 4 tc0) ∧ x.frozen? ⟨tb, 1, none⟩ = false ∧ Tk w1 (x.setCell ⟨tb, 1, none⟩ (.slice (some ⟨tk, 0, none⟩) 4 tc)) (PutH g lb tb lk tk lc tc uv LK TK) := by
  obtain ⟨g0, l0, t0, b0, c0, d1, d2, d3, d4, d5, d6⟩ := d
  have V := U.wcell (hs' := [(tk, tk + 1, Flt 3 tk (icells TK)), (lb, lb + 1, Cel lb #[.bool true, .slice (some ⟨lk, 0, none⟩) 4 lc] 84), (lk, lk + 1, Flt 3 lk (icells LK)), (g, g + 1, Cel g #[uv] 34)]) 1 rfl (by omega) 1 (.slice (some ⟨tk, 0, none⟩) 4 tc) (fun y hy => by
    simp only [List.mem_cons, List.not_mem_nil, or_false] at hy
    rcases hy with rfl | rfl | rfl | rfl
    · exact ⟨by simp, by show tk + 1 ≤ tb ∨ tb + 1 ≤ tk; omega⟩
    · exact ⟨by simp, by show lb + 1 ≤ tb ∨ tb + 1 ≤ lb; omega⟩
    · exact ⟨by simp, by show lk + 1 ≤ tb ∨ tb + 1 ≤ lk; omega⟩
    · exact ⟨by simp, by show g + 1 ≤ tb ∨ tb + 1 ≤ g; omega⟩)
  exact ⟨U.at 1 1 rfl rfl, U.fr 1 1 rfl, V⟩
theorem put_leaf {w1 x : World} {g lb tb lk lk0 tk lc tc lc0 : Nat} {uv : Value} {LK TK LK0 : List Int} (U : Tk w1 x ((lk, lk + 1, Flt 3 lk (icells LK)) :: PutH g lb tb lk0 tk lc0 tc uv LK0 TK)) (d : Apart5 w1.heap.size g lb tb lk tk) :
    x.cell? ⟨lb, 1, none⟩ = some (.slice (some ⟨lk0, 0, none⟩) 4 lc0) ∧ x.frozen? ⟨lb, 1, none⟩ = false ∧ Tk w1 (x.setCell ⟨lb, 1, none⟩ (.slice (some ⟨lk, 0, none⟩) 4 lc)) (PutH g lb tb lk tk lc tc uv LK TK) := by
  obtain ⟨g0, l0, t0, b0, c0, d1, d2, d3, d4, d5, d6⟩ := d
  have V := U.wcell (hs' := [(tb, tb + 1, Cel tb #[.bool false, .slice (some ⟨tk, 0, none⟩) 4 tc] 84), (tk, tk + 1, Flt 3 tk (icells TK)), (lk, lk + 1, Flt 3 lk (icells LK)), (g, g + 1, Cel g #[uv] 34)]) 3 rfl (by omega) 1 (.slice (some ⟨lk, 0, none⟩) 4 lc) (fun y hy => by
    simp only [List.mem_cons, List.not_mem_nil, or_false] at hy
    rcases hy with rfl | rfl | rfl | rfl
    · exact ⟨by simp, by show tb + 1 ≤ lb ∨ lb + 1 ≤ tb; omega⟩
    · exact ⟨by simp, by show tk + 1 ≤ lb ∨ lb + 1 ≤ tk; omega⟩
    · exact ⟨by simp, by show lk + 1 ≤ lb ∨ lb + 1 ≤ lk; omega⟩
    · exact ⟨by simp, by show g + 1 ≤ lb ∨ lb + 1 ≤ g; omega⟩)
  exact ⟨U.at 3 1 rfl rfl, U.fr 3 1 rfl, V.drop (fun y hy => by
    simp only [List.mem_cons, List.not_mem_nil, or_false] at hy ⊢
    rcases hy with h | h | h | h | h <;> simp [h])⟩
end Go.Proofs.YtcnaahajaaifjacGreat

/-
  What a SweepArena does.
-/
namespace Go.Proofs.YtcnaahajaaifjacGreat
open Go.RowKit
open Words

/-- What a sweep answers: an arena and roots, in blocks apart. -/
def SweepOut (w : World) (L : List Kn) (R : List Int) (e : Ending) (w' : World) : Prop :=
  ∃ uv iv lo1 hi1 lo2 hi2, e = .returned (.tuple #[.agg #[uv], iv]) ∧ Kns lo1 hi1 uv L w' ∧ Sli 3 lo2 hi2 iv R.length (icells R) w' ∧ w.heap.size ≤ lo1 ∧ hi1 ≤ w'.heap.size ∧ w.heap.size ≤ lo2 ∧ hi2 ≤ w'.heap.size ∧ (hi1 ≤ lo2 ∨ hi2 ≤ lo1) ∧ Below w.heap.size w w'
def SweepC (f : Nat) : Prop := ∀ (ad : Option Addr) (len cap : Nat) (rs : List Kw) (ra : Option Addr) (m rc : Nat) (qs : List Int) (w : World), len ≤ 1048578 → m ≤ 1048576 → (∀ r ∈ rs, r.2.2.length ≤ 1048576) → KnRd w ad len rs → (ra = none → rc = 0) → IRow w ra m qs →
  Calls Tryz.prog f #[.agg #[.slice ad len cap], .slice ra m rc] w (SweepOut w (sweepL (rs.map ktell) qs) (sweepR (rs.map ktell) qs))
end Go.Proofs.YtcnaahajaaifjacGreat

/-
  What a law holds: a cell of a row is written, a row grows.
-/
namespace Go.Proofs.YtcnaahajaaifjacGreat
open Go.RowKit

/-- A cell of one of them is written. -/
theorem Tk.fset {w wi : World} {hs hs' : List Hold} {t : TypeId} {g : Nat} {xs : List Value} (T : Tk w wi hs) (n : Nat) (hn : hs[n]? = some (g, g + 1, Flt t g xs)) (hg : w.heap.size ≤ g) (k : Nat) (u : Value) (hh : ∀ x ∈ hs', x ∈ hs ∧ (x.2.1 ≤ g ∨ g + 1 ≤ x.1)) : Tk w (wi.setCell ⟨g, k, none⟩ u) ((g, g + 1, Flt t g (xs.set k u)) :: hs') := by
  refine T.touch ⟨rfl, rfl, rfl, by simp [World.setCell], fun i _ hi => ?_⟩ hg (T.hi n hn) (Flt.loc _ _ _) ((T.get n hn).set k u) hh
  exact Below.heap_setCell _ _ _ _ (show i ≠ g by unfold Apt at hi; omega)
/-- What hangs on blocks below B stays where a row from B on grows. -/
theorem Tk.grownB {w wi y : World} {hs : List Hold} {row : Option Nat} {B : Nat} (T : Tk w wi hs) (hg : wi.grownBy y row) (hr : ∀ q, row = some q → B ≤ q) (hB : w.heap.size ≤ B) (hh : ∀ x ∈ hs, x.2.1 ≤ B) : Tk w y hs := by
  refine ⟨T.1.grown hg T.1.size (fun q hq => Nat.le_trans hB (hr q hq)), fun x hx => ?_⟩
  obtain ⟨h1, h2, h3⟩ := T.2 x hx
  have := hh x hx
  have := hg.size
  exact ⟨by omega, h2, h2 wi y (fun q q1 q2 => hg.block q (by omega) (fun e => by have := hr q e.symm; omega)) h3⟩
theorem Sli.setAt {t : TypeId} {lo hi n g cap : Nat} {xs : List Value} {w : World} (h : Sli t lo hi (.slice (some ⟨g, 0, none⟩) n cap) n xs w) (k : Nat) (u : Value) : Sli t lo hi (.slice (some ⟨g, 0, none⟩) n cap) n (xs.set k u) (w.setCell ⟨g, k, none⟩ u) := by
  have hl := h.lt g rfl
  exact .inr ⟨g, cap, rfl, hl.1, hl.2.1, h.flt.set k u⟩
end Go.Proofs.YtcnaahajaaifjacGreat
