/-
  OwnC; SliL; TrMath; KnN
-/
import Derived.Test.YtfmnaidhfgmemaaGreatDoorPk0
import Derived.Deep.MidRow
namespace Go.Proofs.YtfmnaidhfgmemaaGreatDoor
open Go.RowKit
theorem row_set {w : World} {g : Nat} {cs : Array Value} {t : TypeId} (h : w.heap[g]? = some (.cells cs t (0, 0))) (i : Nat) (u : Value) : (w.setCell ⟨g, i, none⟩ u).heap[g]? = some (.cells (cs.setIfInBounds i u) t (0, 0)) := by
  rw [setCell_eq_setRow w g i cs t (0, 0) u h]
  exact setRow_heap w g cs _ t _ h
theorem row_set_ne {w : World} {g g' : Nat} {o : Obj} (h : w.heap[g]? = some o) (hn : g ≠ g') (i : Nat) (u : Value) : (w.setCell ⟨g', i, none⟩ u).heap[g]? = some o := (Below.heap_setCell _ _ _ _ hn).trans h
theorem own_down {w : World} {B B' : Nat} {e : TypeId} {size n : Nat} {v : Value} {xs : List Value} (h : w.ownsRow B e size v n xs) (hb : B' ≤ B) : w.ownsRow B' e size v n xs := by
  obtain ⟨h1, h2⟩ := h
  refine ⟨h1, ?_⟩
  rcases h2 with h | ⟨g, cap, cur, rfl, a2, a3⟩
  · exact .inl h
  · exact .inr ⟨g, cap, cur, rfl, by omega, a3⟩
theorem own_cell {w : World} {B : Nat} {e : TypeId} {size n : Nat} {v : Value} {xs : List Value} (h : w.ownsRow B e size v n xs) {g : Nat} (hg : g < B) (i : Nat) (u : Value) : (w.setCell ⟨g, i, none⟩ u).ownsRow B e size v n xs := by
  obtain ⟨h1, h2⟩ := h
  refine ⟨h1, ?_⟩
  rcases h2 with h | ⟨g', cap, cur, rfl, a2, a3, a4⟩
  · exact .inl h
  · exact .inr ⟨g', cap, cur, rfl, a2, row_set_ne a3 (by omega) _ _, a4⟩
theorem own_block_lt {w : World} {B : Nat} {e : TypeId} {size n : Nat} {v : Value} {xs : List Value} (h : w.ownsRow B e size v n xs) : ∀ g, v.ownBlock = some g → B ≤ g ∧ g < w.heap.size := by
  intro g hg
  exact h.lt g hg
theorem fown_set {w : World} {base : Nat} {e : TypeId} {size n : Nat} {v : Value} {xs : List Value} {g cap : Nat} (h : w.ownsRow base e size v n xs) (hv : v = .slice (some ⟨g, 0, none⟩) n cap) (k : Nat) (u : Value) :
    (w.setCell ⟨g, k, none⟩ u).ownsRow base e size v n (xs.set k u) := by
  obtain ⟨h1, h2⟩ := h
  refine ⟨by simpa using h1, ?_⟩
  rcases h2 with ⟨h3, -⟩ | ⟨g', cap', cur, h3, h4, h5, h6, h7, h8, h9⟩
  · rw [hv] at h3; cases h3
  · right
    have hg : g' = g := by rw [hv] at h3; injection h3 with a; simp at a; exact a.symm
    subst hg
    refine ⟨g', cap', cur.setIfInBounds k u, h3, h4, ?_, h6, h7, by simpa using h8, ?_⟩
    · rw [setCell_eq_setRow w g' k cur e (0, 0) u h5]
      exact setRow_heap w g' cur _ e _ h5
    · rw [Array.toList_setIfInBounds, List.take_set, h9]
theorem grown_cell (w : World) (g k : Nat) (u : Value) : w.grownBy (w.setCell ⟨g, k, none⟩ u) (some g) :=
  ⟨rfl, rfl, rfl, by simp [World.setCell], fun i _ hi => Below.heap_setCell _ _ _ _ (fun e => hi (by rw [e]))⟩
end Go.Proofs.YtfmnaidhfgmemaaGreatDoor

namespace Go.Proofs.YtfmnaidhfgmemaaGreatDoor
open Go.RowKit
theorem Sli.up {t : TypeId} {lo hi hi' n : Nat} {v : Value} {xs : List Value} {w : World} (h : Sli t lo hi v n xs w) (hh : hi ≤ hi') : Sli t lo hi' v n xs w := by
  rcases h with h | ⟨g, cap, e, h1, h2, h3⟩
  · exact .inl h
  · exact .inr ⟨g, cap, e, h1, by omega, h3⟩
theorem Sli.dn {t : TypeId} {lo lo' hi n : Nat} {v : Value} {xs : List Value} {w : World} (h : Sli t lo hi v n xs w) (hh : lo' ≤ lo) : Sli t lo' hi v n xs w := by
  rcases h with h | ⟨g, cap, e, h1, h2, h3⟩
  · exact .inl h
  · exact .inr ⟨g, cap, e, by omega, h2, h3⟩
theorem Sli.blw {t : TypeId} {lo hi n : Nat} {v : Value} {xs : List Value} {w w' : World} (h : Sli t lo hi v n xs w) (hb : Below w.heap.size w w') : Sli t lo hi v n xs w' := by
  rcases h with h | ⟨g, cap, e, h1, h2, h3⟩
  · exact .inl h
  · exact .inr ⟨g, cap, e, h1, h2, h3.below hb⟩
theorem Sli.lt {t : TypeId} {lo hi n : Nat} {v : Value} {xs : List Value} {w : World} (h : Sli t lo hi v n xs w) : ∀ g, v.ownBlock = some g → lo ≤ g ∧ g < hi ∧ ∃ cs, w.heap[g]? = some (.cells cs t (0, 0)) := by
  intro g hg
  rcases h with ⟨rfl, -⟩ | ⟨g', cap, rfl, h1, h2, cs, h3, -⟩
  · cases hg
  · simp only [Value.ownBlock, Option.some.injEq] at hg
    subst hg
    exact ⟨h1, h2, cs, h3⟩
theorem Sli.grown {t : TypeId} {lo hi n : Nat} {v : Value} {xs : List Value} {w y : World} {row : Option Nat} (h : Sli t lo hi v n xs w) (hg : w.grownBy y row) (hr : ∀ g, v.ownBlock = some g → row ≠ some g) : Sli t lo hi v n xs y := by
  rcases h with h | ⟨g, cap, rfl, h1, h2, cs, h3, h4⟩
  · exact .inl h
  · exact .inr ⟨g, cap, rfl, h1, h2, cs, (hg.block g (Array.getElem?_eq_some_iff.1 h3).1 (fun e => hr g rfl e.symm)).trans h3, h4⟩
theorem own_kind {w : World} {B : Nat} {e : TypeId} {size n : Nat} {v : Value} {xs : List Value} (h : w.ownsRow B e size v n xs) : ∀ g, v.ownBlock = some g → B ≤ g ∧ g < w.heap.size ∧ ∃ cs, w.heap[g]? = some (.cells cs e (0, 0)) := by
  intro g hg
  obtain ⟨h1, h2⟩ := h.lt g hg
  rcases h.2 with ⟨rfl, -⟩ | ⟨g', cap, cur, rfl, -, q, -⟩
  · cases hg
  · simp only [Value.ownBlock, Option.some.injEq] at hg
    subst hg
    exact ⟨h1, h2, _, q⟩
end Go.Proofs.YtfmnaidhfgmemaaGreatDoor

namespace Go.Proofs.YtfmnaidhfgmemaaGreatDoor
namespace Words
structure Kn where
  leaf : Bool
  kids : List Int
def knLeaf (l : List Kn) (n : Int) : Bool := match l[n.toNat]? with
  | some y => y.leaf
  | none => false
def kidB (l : List Kn) (i : Nat) (lf : Bool) (n : Int) : Bool := if lf then decide (0 ≤ n) else (decide (n = -1) || (decide (0 ≤ n) && decide (n < i) && knLeaf l n))
def knB (l : List Kn) (i : Nat) (x : Kn) : Bool := decide (x.kids.length = 4) && x.kids.all (kidB l i x.leaf)
def arK (l : List Kn) : Nat → Bool
  | 0 => true
  | k + 1 => arK l k && (match l[k]? with | some x => knB l k x | none => true)
def arB (l : List Kn) : Bool := arK l l.length
theorem arK_succ {l : List Kn} {k : Nat} {x : Kn} (h : l[k]? = some x) : arK l (k + 1) = (arK l k && knB l k x) := by rw [arK, h]
theorem arK_le {l : List Kn} {j k : Nat} (h : j ≤ k) (hk : arK l k = true) : arK l j = true := by
  induction k with
  | zero => have : j = 0 := by omega
            subst this; exact hk
  | succ k ih =>
    rw [arK, Bool.and_eq_true] at hk
    by_cases e : j = k + 1
    · subst e; rw [arK, Bool.and_eq_true]; exact hk
    · exact ih (by omega) hk.1
theorem arB_at {l : List Kn} (h : arB l = true) {i : Nat} {x : Kn} (hi : l[i]? = some x) : knB l i x = true := by
  have hl := (List.getElem?_eq_some_iff.1 hi).1
  have := arK_le (show i + 1 ≤ l.length by omega) h
  rw [arK_succ hi, Bool.and_eq_true] at this
  exact this.2
theorem arB_bad {l : List Kn} {i : Nat} {x : Kn} (hi : l[i]? = some x) (hx : knB l i x = false) : arB l = false := by
  cases h : arB l with
  | false => rfl
  | true => rw [arB_at h hi] at hx; cases hx
theorem knB_bad {l : List Kn} {i k : Nat} {x : Kn} {n : Int} (hk : x.kids[k]? = some n) (hn : kidB l i x.leaf n = false) : knB l i x = false := by
  cases h : knB l i x with
  | false => rfl
  | true =>
    rw [knB, Bool.and_eq_true, List.all_eq_true] at h
    rw [h.2 n (List.mem_of_getElem? hk)] at hn
    cases hn
theorem knB_len {l : List Kn} {i : Nat} {x : Kn} (h : knB l i x = true) : x.kids.length = 4 := by
  rw [knB, Bool.and_eq_true] at h
  simpa using h.1
theorem knB_kid {l : List Kn} {i k : Nat} {x : Kn} {n : Int} (h : knB l i x = true) (hk : x.kids[k]? = some n) : kidB l i x.leaf n = true := by
  rw [knB, Bool.and_eq_true, List.all_eq_true] at h
  exact h.2 n (List.mem_of_getElem? hk)
theorem knLeaf_some {l : List Kn} {n : Int} {y : Kn} (h : l[n.toNat]? = some y) : knLeaf l n = y.leaf := by rw [knLeaf, h]
theorem knLeaf_lt {l : List Kn} {n : Int} (h : knLeaf l n = true) : ∃ y, l[n.toNat]? = some y ∧ y.leaf = true := by
  rw [knLeaf] at h
  split at h
  · rename_i y hy; exact ⟨y, hy, h⟩
  · cases h
def rootB (l : List Kn) (r : Int) : Bool := decide (r = -1) || (decide (0 ≤ r) && decide (r < l.length) && !knLeaf l r)
theorem rootB_pos {l : List Kn} {r : Int} (h : rootB l r = true) (h0 : 0 ≤ r) : ∃ x, l[r.toNat]? = some x ∧ x.leaf = false := by
  unfold rootB at h
  simp only [Bool.or_eq_true, Bool.and_eq_true, decide_eq_true_eq, Bool.not_eq_true'] at h
  rcases h with h | ⟨⟨h1, h2⟩, h3⟩
  · omega
  · refine ⟨_, List.getElem?_eq_getElem (show r.toNat < l.length by omega), ?_⟩
    rw [knLeaf_some (List.getElem?_eq_getElem (show r.toNat < l.length by omega))] at h3
    exact h3
def kidAt (l : List Kn) (r : Int) (k : Nat) : Int := ((l[r.toNat]?).bind (fun x => x.kids[k]?)).getD 0
theorem kidAt_some {l : List Kn} {r : Int} {k : Nat} {x : Kn} {n : Int} (h : l[r.toNat]? = some x) (hk : x.kids[k]? = some n) : kidAt l r k = n := by
  rw [kidAt, h, Option.bind_some, hk, Option.getD_some]
def getP (l : List Kn) (r : Int) (s : Nat) : Int := if r < 0 then 0 else if kidAt l r (s / 4) < 0 then 0 else kidAt l (kidAt l r (s / 4)) (s % 4)
def askB (l : List Kn) (r s : Int) : Bool := arB l && rootB l r && (decide (0 ≤ s) && decide (s ≤ 15))
def getT (l : List Kn) (r s : Int) : Int := if askB l r s then getP l r s.toNat else 0
def allT (l : List Kn) (r : Int) : List Int := (List.range 16).map (fun s : Nat => getT l r s)
theorem inner_kid {l : List Kn} (h : arB l = true) {r : Int} {x : Kn} (hx : l[r.toNat]? = some x) (hl : x.leaf = false) {k : Nat} (hk : k < 4) : ∃ n, x.kids[k]? = some n ∧ (n = -1 ∨ 0 ≤ n ∧ n < r.toNat ∧ ∃ y, l[n.toNat]? = some y ∧ y.leaf = true ∧ y.kids.length = 4) := by
  have hb := arB_at h hx
  have h4 := knB_len hb
  refine ⟨_, List.getElem?_eq_getElem (by omega), ?_⟩
  have hn := knB_kid hb (List.getElem?_eq_getElem (show k < x.kids.length by omega))
  rw [kidB, hl] at hn
  simp only [Bool.false_eq_true, if_false, Bool.or_eq_true, Bool.and_eq_true, decide_eq_true_eq] at hn
  rcases hn with hn | ⟨⟨h1, h2⟩, h3⟩
  · exact .inl hn
  · obtain ⟨y, hy, hyl⟩ := knLeaf_lt h3
    exact .inr ⟨h1, h2, y, hy, hyl, knB_len (arB_at h hy)⟩
theorem leaf_kid {l : List Kn} (h : arB l = true) {i : Nat} {x : Kn} (hx : l[i]? = some x) (hl : x.leaf = true) {k : Nat} (hk : k < 4) : ∃ n, x.kids[k]? = some n ∧ 0 ≤ n := by
  have hb := arB_at h hx
  have h4 := knB_len hb
  refine ⟨_, List.getElem?_eq_getElem (by omega), ?_⟩
  have hn := knB_kid hb (List.getElem?_eq_getElem (show k < x.kids.length by omega))
  rw [kidB, hl] at hn
  simpa using hn
def putLf (l : List Kn) (r : Int) (s : Nat) (n : Int) : Kn := ⟨true, ((if r < 0 then [0, 0, 0, 0] else if kidAt l r (s / 4) < 0 then [0, 0, 0, 0] else ((l[(kidAt l r (s / 4)).toNat]?).map Kn.kids).getD [])).set (s % 4) n⟩
def putTop (l : List Kn) (r : Int) (s : Nat) : Kn := ⟨false, (if r < 0 then [-1, -1, -1, -1] else ((l[r.toNat]?).map Kn.kids).getD []).set (s / 4) (l.length : Int)⟩
end Words
end Go.Proofs.YtfmnaidhfgmemaaGreatDoor

namespace Go.Proofs.YtfmnaidhfgmemaaGreatDoor
open Go.RowKit
open Words
theorem infoKn : (Tryz.prog.info? 175).map (fun i => (i.zero, i.size, i.bytes)) = some (some (.agg #[.bool false, .slice none 0 0]), 2, 32) := by kernel_rfl
theorem infoKnz : (Tryz.prog.info? 175).map (·.size) = some 2 := by kernel_rfl
abbrev Kw := Bool × Value × List Int
def kncell (t : Kw) : List Value := [.bool t.1, t.2.1]
def kncells (l : List Kw) : List Value := l.flatMap kncell
def ktell (t : Kw) : Kn := ⟨t.1, t.2.2⟩
theorem kncells_len (l : List Kw) : (kncells l).length = l.length * 2 := by
  induction l with
  | nil => rfl
  | cons t l ih => simp [kncells, kncell] at ih ⊢; omega
theorem kncells_app (a b : List Kw) : kncells (a ++ b) = kncells a ++ kncells b := by simp [kncells]
theorem kncells_cons (t : Kw) (l : List Kw) : kncells (t :: l) = kncell t ++ kncells l := by simp [kncells]
theorem kncells_at (l : List Kw) (k : Nat) (t : Kw) (h : l[k]? = some t) (j : Nat) (v : Value) (hj : (kncell t)[j]? = some v) : (kncells l)[k * 2 + j]? = some v := by
  have hlt : j < 2 := (List.getElem?_eq_some_iff.1 hj).1
  induction l generalizing k with
  | nil => simp at h
  | cons a l ih =>
    rw [kncells_cons]
    cases k with
    | zero =>
      simp at h
      subst h
      rw [List.getElem?_append_left (by show _ < 2; omega), Nat.zero_mul, Nat.zero_add]
      exact hj
    | succ k =>
      rw [List.getElem?_append_right (by show 2 ≤ _; omega), show (k + 1) * 2 + j - (kncell a).length = k * 2 + j by show _ - 2 = _; omega]
      exact ih k (by simpa using h)
def IRow (w : World) (a : Option Addr) (len : Nat) (ls : List Int) : Prop :=
  ls.length = len ∧ len ≤ maxLen ∧ (0 < len → ∃ b off, a = some ⟨b, off, none⟩ ∧ b < w.heap.size ∧ ∀ i t, ls[i]? = some t → w.cell? ⟨b, off + i, none⟩ = some (.int .i64 t))
theorem IRow.below {w w' : World} {a : Option Addr} {len : Nat} {ls : List Int} (h : IRow w a len ls) (hb : Below w.heap.size w w') : IRow w' a len ls := by
  obtain ⟨h1, h2, h4⟩ := h
  refine ⟨h1, h2, fun h0 => ?_⟩
  obtain ⟨b, off, e, hl, hc⟩ := h4 h0
  have hs := hb.size
  exact ⟨b, off, e, by omega, fun i t ht => (hb.cell (show b < w.heap.size from hl)).trans (hc i t ht)⟩
theorem IRow.at {w : World} {a : Option Addr} {len : Nat} {ls : List Int} (h : IRow w a len ls) {k : Nat} {t : Int} (hk : ls[k]? = some t) :
    ∃ b off, a = some ⟨b, off, none⟩ ∧ b < w.heap.size ∧ w.cell? ⟨b, off + k, none⟩ = some (.int .i64 t) := by
  obtain ⟨h1, -, h4⟩ := h
  have hl := (List.getElem?_eq_some_iff.1 hk).1
  obtain ⟨b, off, e, hb, hc⟩ := h4 (by omega)
  exact ⟨b, off, e, hb, hc k t hk⟩
theorem icells_get {l : List Int} {k : Nat} {x : Int} (h : l[k]? = some x) : (icells l)[k]? = some (.int .i64 x) := by
  obtain ⟨h1, h2⟩ := List.getElem?_eq_some_iff.1 h
  rw [icells_at l k h1, h2]
def ISl (W : World) (v : Value) (ls : List Int) : Prop := ∃ a c, v = .slice a ls.length c ∧ (a = none → c = 0) ∧ IRow W a ls.length ls
theorem ISl.below {W W' : World} {v : Value} {ls : List Int} (h : ISl W v ls) (b : Below W.heap.size W W') : ISl W' v ls := by
  obtain ⟨a, c, e, h1, h2⟩ := h
  exact ⟨a, c, e, h1, h2.below b⟩
theorem ISl.of {lo hi : Nat} {v : Value} {ls : List Int} {W : World} (h : Sli 3 lo hi v ls.length (icells ls) W) (hm : ls.length ≤ maxLen) (hh : hi ≤ W.heap.size) : ISl W v ls := by
  rcases h with ⟨rfl, h0⟩ | ⟨g, cap, rfl, h1, h2, h3⟩
  · exact ⟨none, 0, by rw [h0], fun _ => rfl, rfl, hm, fun h => by omega⟩
  · refine ⟨_, _, rfl, (fun e => by cases e), rfl, hm, fun _ => ⟨g, 0, rfl, by omega, fun i t hi => ?_⟩⟩
    simpa using h3.cell (icells_get hi)
def KnRd (W : World) (ad : Option Addr) (len : Nat) (rs : List Kw) : Prop :=
  rs.length = len ∧ len ≤ maxLen ∧ (∀ r ∈ rs, ISl W r.2.1 r.2.2) ∧ (0 < len → ∃ b off, ad = some ⟨b, off, none⟩ ∧ b < W.heap.size ∧ ∀ i r, rs[i]? = some r → W.cell? ⟨b, off + i * 2, none⟩ = some (.bool r.1) ∧ W.cell? ⟨b, off + i * 2 + 1, none⟩ = some r.2.1)
theorem KnRd.below {W W' : World} {ad : Option Addr} {len : Nat} {rs : List Kw} (h : KnRd W ad len rs) (hb : Below W.heap.size W W') : KnRd W' ad len rs := by
  obtain ⟨h1, h2, h3, h4⟩ := h
  refine ⟨h1, h2, fun r hr => (h3 r hr).below hb, fun h0 => ?_⟩
  obtain ⟨b, off, e, hl, hc⟩ := h4 h0
  have hs := hb.size
  refine ⟨b, off, e, by omega, fun i t ht => ?_⟩
  obtain ⟨c0, c1⟩ := hc i t ht
  exact ⟨(hb.cell (show b < W.heap.size from hl)).trans c0, (hb.cell (show b < W.heap.size from hl)).trans c1⟩
theorem KnRd.at {W : World} {ad : Option Addr} {len : Nat} {rs : List Kw} (h : KnRd W ad len rs) {k : Nat} {r : Kw} (hk : rs[k]? = some r) :
    ∃ b off, ad = some ⟨b, off, none⟩ ∧ b < W.heap.size ∧ W.cell? ⟨b, off + k * 2, none⟩ = some (.bool r.1) ∧ W.cell? ⟨b, off + k * 2 + 1, none⟩ = some r.2.1 := by
  obtain ⟨h1, -, -, h4⟩ := h
  have hl := (List.getElem?_eq_some_iff.1 hk).1
  obtain ⟨b, off, e, hb, hc⟩ := h4 (by omega)
  obtain ⟨c0, c1⟩ := hc k r hk
  exact ⟨b, off, e, hb, c0, c1⟩
theorem KnRd.cell {W : World} {b off len : Nat} {rs : List Kw} (h : KnRd W (some ⟨b, off, none⟩) len rs) {k : Nat} {r : Kw} (hk : rs[k]? = some r) :
    W.cell? ⟨b, off + k * 2, none⟩ = some (.bool r.1) ∧ W.cell? ⟨b, off + k * 2 + 1, none⟩ = some r.2.1 := by
  obtain ⟨b', off', e, -, c0, c1⟩ := h.at hk
  injection e with e
  injection e with e1 e2
  subst e1 e2
  exact ⟨c0, c1⟩
theorem KnRd.adr {W : World} {ad : Option Addr} {len : Nat} {rs : List Kw} (h : KnRd W ad len rs) (h0 : 0 < len) : ∃ b off, ad = some ⟨b, off, none⟩ ∧ b < W.heap.size := by
  obtain ⟨b, off, e, hb, -⟩ := h.2.2.2 h0
  exact ⟨b, off, e, hb⟩
def KLone (rs : List Kw) : Prop := rs.Pairwise (fun a b => ∀ g, a.2.1.ownBlock = some g → b.2.1.ownBlock ≠ some g)
def KOwn (W : World) (B : Nat) (v : Value) (rs : List Kw) : Prop :=
  W.ownsRow B 175 2 v rs.length (kncells rs) ∧ (∀ r ∈ rs, Sli 3 B W.heap.size r.2.1 r.2.2.length (icells r.2.2) W ∧ r.2.2.length ≤ maxLen) ∧ KLone rs
def KIn (lo hi : Nat) (v : Value) (rs : List Kw) (W : World) : Prop :=
  Sli 175 lo hi v rs.length (kncells rs) W ∧ (∀ r ∈ rs, Sli 3 lo hi r.2.1 r.2.2.length (icells r.2.2) W ∧ r.2.2.length ≤ maxLen) ∧ KLone rs ∧ rs.length ≤ maxLen
def Kns (lo hi : Nat) (v : Value) (M : List Kn) : World → Prop := fun W => ∃ rs : List Kw, rs.map ktell = M ∧ KIn lo hi v rs W
theorem int_ne_kn {w : World} {g : Nat} {cs cs' : Array Value} (h : w.heap[g]? = some (.cells cs 3 (0, 0))) (h' : w.heap[g]? = some (.cells cs' 175 (0, 0))) : False := by
  rw [h] at h'
  injection h' with h'
  injection h' with _ h'
  simp at h'
theorem KOwn.down {W : World} {B B' : Nat} {v : Value} {rs : List Kw} (h : KOwn W B v rs) (hB : B' ≤ B) : KOwn W B' v rs :=
  ⟨own_lower h.1 hB, fun r hr => ⟨(h.2.1 r hr).1.dn hB, (h.2.1 r hr).2⟩, h.2.2⟩
theorem KOwn.len {W : World} {B : Nat} {v : Value} {rs : List Kw} (h : KOwn W B v rs) : rs.length ≤ maxLen := by
  rcases h.1.2 with ⟨rfl, h0⟩ | ⟨g, cap, cur, rfl, -, -, h1, h2, -⟩
  · rw [h0]; unfold maxLen; omega
  · omega
theorem KOwn.kns {W : World} {B : Nat} {v : Value} {rs : List Kw} (h : KOwn W B v rs) : KIn B W.heap.size v rs W := ⟨Sli.of h.1, h.2.1, h.2.2, h.len⟩
theorem KIn.rd {W : World} {lo hi c : Nat} {ad : Option Addr} {n : Nat} {rs : List Kw} (h : KIn lo hi (.slice ad n c) rs W) (hn : rs.length = n) (hh : hi ≤ W.heap.size) : KnRd W ad n rs := by
  obtain ⟨h1, h2, h3, h4⟩ := h
  refine ⟨hn, by omega, fun r hr => ISl.of (h2 r hr).1 (h2 r hr).2 hh, fun h0 => ?_⟩
  rcases h1 with ⟨e, q⟩ | ⟨g, cap, e, q1, q2, q3⟩
  · omega
  · injection e with e1 e2 e3
    refine ⟨g, 0, e1, by omega, fun i r hi => ?_⟩
    have hc := fun j v hj => q3.cell (kncells_at rs i r hi j v hj)
    refine ⟨?_, ?_⟩
    · simpa using hc 0 _ rfl
    · simpa using hc 1 _ rfl
theorem KIn.loc (lo hi : Nat) (v : Value) (rs : List Kw) : Loc lo hi (KIn lo hi v rs) := by
  intro w w' hk h
  exact ⟨Sli.loc _ _ _ _ _ _ w w' hk h.1, fun r hr => ⟨Sli.loc _ _ _ _ _ _ w w' hk (h.2.1 r hr).1, (h.2.1 r hr).2⟩, h.2.2⟩
theorem Kns.loc (lo hi : Nat) (v : Value) (M : List Kn) : Loc lo hi (Kns lo hi v M) := by
  rintro w w' hk ⟨rs, h1, h2⟩
  exact ⟨rs, h1, KIn.loc _ _ _ _ w w' hk h2⟩
theorem Kns.form {W : World} {lo hi : Nat} {v : Value} {M : List Kn} (h : Kns lo hi v M W) : ∃ ad c, v = .slice ad M.length c := by
  obtain ⟨rs, rfl, h1, -⟩ := h
  obtain ⟨ad, c, e, -⟩ := h1.form
  exact ⟨ad, c, by rw [e]; simp⟩
theorem ar_ne {lo hi n : Nat} {v : Value} {xs : List Value} {t : TypeId} {W : World} {i : Nat} {cs : Array Value} (h : Sli t lo hi v n xs W) (q : W.heap[i]? = some (.cells cs 43 (0, 0))) (ht : t ≠ 43) : v.ownBlock ≠ some i := by
  intro e
  obtain ⟨-, -, cs', q'⟩ := h.lt i e
  rw [q] at q'
  injection q' with q'
  injection q' with _ q'
  exact ht q'.symm
theorem KOwn.cell {W : World} {B i : Nat} {v : Value} {rs : List Kw} {cs : Array Value} (h : KOwn W B v rs) (q : W.heap[i]? = some (.cells cs 43 (0, 0))) (j : Nat) (u : Value) : KOwn (W.setCell ⟨i, j, none⟩ u) B v rs := by
  have hg := grown_cell W i j u
  refine ⟨h.1.kept hg (.inr ?_), fun r hr => ⟨((h.2.1 r hr).1.grown hg (fun g e e2 => ?_)).up hg.size, (h.2.1 r hr).2⟩, h.2.2⟩
  · exact ar_ne (Sli.of h.1) q (by decide)
  · cases e2; exact ar_ne (h.2.1 r hr).1 q (by decide) e
end Go.Proofs.YtfmnaidhfgmemaaGreatDoor
