/-
  ScC; CeVl; VlRow; SliL; TrMath
-/
import Derived.Test.YtfmnaidhfgmemaaGreatDoorPk22
import Derived.Test.YtfmnaidhfgmemaaGreatDoorSScan
import Derived.Test.YtfmnaidhfgmemaaGreatDoorPk0
import Derived.Test.YtfmnaidhfgmemaaGreatDoorPk4
namespace Go.Proofs.YtfmnaidhfgmemaaGreatDoor
open Go.RowKit
open Words Sums
def ScOut (w : World) (bs : List Bk) (e : Ending) (w' : World) : Prop :=
  ∃ (ad : Option Addr) (cap : Nat), e = .returned (.slice ad (scanF bs).length cap) ∧ FdRd w' ad (scanF bs).length (scanF bs) ∧ (scanF bs).length ≤ 1099511627776 ∧ Below w.heap.size w w'
theorem scOut {w w' : World} {rs : List Rw} {e : Ending} (hl : rs.length ≤ 1048576) (hll : ∀ r ∈ rs, r.2.2.2.length ≤ 1048576) (h : ∃ u M, e = .returned u ∧ Asc M ∧ Akin (founds (rs.map tellOf) rs.length) M ∧ FRes w' w.heap.size u M ∧ Below w.heap.size w w') : ScOut w (rs.map tellOf) e w' := by
  obtain ⟨u, M, rfl, h1, h2, h3, h4⟩ := h
  have e1 : M = scanF (rs.map tellOf) := scanF_is h1 (by rw [List.length_map]; exact h2)
  obtain ⟨ad, cap, rfl, h5, -⟩ := h3.rd
  subst e1
  refine ⟨ad, cap, rfl, h5, ?_, h4⟩
  refine Nat.le_trans (scan_count (rs.map tellOf) 1048576 (fun b hb => ?_)) ?_
  · obtain ⟨r, hr, rfl⟩ := List.mem_map.1 hb
    exact hll r hr
  · rw [List.length_map]
    exact Nat.le_trans (Nat.mul_le_mul_right _ hl) (by decide)
theorem sscanO (v : Value) (rs : List Rw) (w : World) (hl : rs.length ≤ 1048576) (hll : ∀ r ∈ rs, r.2.2.2.length ≤ 1048576) (htx : TxB rs) (ha : FlashRd w v rs) : Calls Tryz.prog 33 #[.agg #[v]] w (ScOut w (rs.map tellOf)) :=
  (sscan_rd v rs w hl hll htx ha).mono (fun _ _ h => scOut hl hll h)
theorem iscanO (v : Value) (rs : List Rw) (w : World) (hl : rs.length ≤ 1048576) (hll : ∀ r ∈ rs, r.2.2.2.length ≤ 1048576) (htx : TxB rs) (ha : FlashRd w v rs) (ht : HalvIn w) : Calls Tryz.prog 124 #[.agg #[v]] w (ScOut w (rs.map tellOf)) :=
  (iscan_rd v rs w hl hll htx ha ht).mono (fun _ _ h => scOut hl hll h)
end Go.Proofs.YtfmnaidhfgmemaaGreatDoor

namespace Go.Proofs.YtfmnaidhfgmemaaGreatDoor
open Go.RowKit
def vlcell (t : Int × Int) : List Value := [.int .i64 t.1, .int .i64 t.2]
def vlcells (l : List (Int × Int)) : List Value := l.flatMap vlcell
theorem vlcells_len (l : List (Int × Int)) : (vlcells l).length = l.length * 2 := by
  induction l with
  | nil => rfl
  | cons t l ih => simp [vlcells, vlcell] at ih ⊢; omega
theorem vlcells_app (a b : List (Int × Int)) : vlcells (a ++ b) = vlcells a ++ vlcells b := by simp [vlcells]
theorem vlcells_cons (t : Int × Int) (l : List (Int × Int)) : vlcells (t :: l) = vlcell t ++ vlcells l := by simp [vlcells]
theorem vlcells_at (l : List (Int × Int)) (k : Nat) (t : Int × Int) (h : l[k]? = some t) (j : Nat) (v : Value) (hj : (vlcell t)[j]? = some v) : (vlcells l)[k * 2 + j]? = some v := by
  have hlt : j < 2 := (List.getElem?_eq_some_iff.1 hj).1
  induction l generalizing k with
  | nil => simp at h
  | cons a l ih =>
    rw [vlcells_cons]
    cases k with
    | zero =>
      simp at h
      subst h
      rw [List.getElem?_append_left (by show _ < 2; omega), Nat.zero_mul, Nat.zero_add]
      exact hj
    | succ k =>
      rw [List.getElem?_append_right (by show 2 ≤ _; omega), show (k + 1) * 2 + j - (vlcell a).length = k * 2 + j by show _ - 2 = _; omega]
      exact ih k (by simpa using h)
theorem infoVl : (Tryz.prog.info? 97).map (fun i => (i.zero, i.size, i.bytes)) = some (some (.agg #[.int .i64 0, .int .i64 0]), 2, 16) := by kernel_rfl
theorem infoVlz : (Tryz.prog.info? 97).map (·.size) = some 2 := by kernel_rfl
end Go.Proofs.YtfmnaidhfgmemaaGreatDoor

namespace Go.Proofs.YtfmnaidhfgmemaaGreatDoor
open Go.RowKit
set_option maxRecDepth 100000
def VlRow (w : World) (a : Option Addr) (len : Nat) (ls : List (Int × Int)) : Prop :=
  ls.length = len ∧ len ≤ maxLen ∧ (∀ t ∈ ls, True) ∧ (0 < len → ∃ b off, a = some ⟨b, off, none⟩ ∧ b < w.heap.size ∧ ∀ i t, ls[i]? = some t → w.cell? ⟨b, off + i * 2, none⟩ = some (.int .i64 t.1) ∧ w.cell? ⟨b, off + i * 2 + 1, none⟩ = some (.int .i64 t.2))
theorem VlRow.below {w w' : World} {a : Option Addr} {len : Nat} {ls : List (Int × Int)} (h : VlRow w a len ls) (hb : Below w.heap.size w w') : VlRow w' a len ls := by
  obtain ⟨h1, h2, h3, h4⟩ := h
  refine ⟨h1, h2, h3, fun h0 => ?_⟩
  obtain ⟨b, off, e, hl, hc⟩ := h4 h0
  have hs := hb.size
  refine ⟨b, off, e, by omega, fun i t ht => ?_⟩
  obtain ⟨c0, c1⟩ := hc i t ht
  exact ⟨(hb.cell (show b < w.heap.size from hl)).trans c0, (hb.cell (show b < w.heap.size from hl)).trans c1⟩
theorem VlRow.at {w : World} {a : Option Addr} {len : Nat} {ls : List (Int × Int)} (h : VlRow w a len ls) {k : Nat} {t : Int × Int} (hk : ls[k]? = some t) :
    ∃ b off, a = some ⟨b, off, none⟩ ∧ b < w.heap.size ∧ w.cell? ⟨b, off + k * 2, none⟩ = some (.int .i64 t.1) ∧ w.cell? ⟨b, off + k * 2 + 1, none⟩ = some (.int .i64 t.2) := by
  obtain ⟨h1, -, -, h4⟩ := h
  have hl := (List.getElem?_eq_some_iff.1 hk).1
  obtain ⟨b, off, e, hb, hc⟩ := h4 (by omega)
  obtain ⟨c0, c1⟩ := hc k t hk
  exact ⟨b, off, e, hb, c0, c1⟩
end Go.Proofs.YtfmnaidhfgmemaaGreatDoor

namespace Go.Proofs.YtfmnaidhfgmemaaGreatDoor
open Go.RowKit
theorem Sli.up {t : TypeId} {lo hi hi' n : Nat} {v : Value} {xs : List Value} {w : World} (h : Sli t lo hi v n xs w) (hh : hi ≤ hi') : Sli t lo hi' v n xs w := by
  rcases h with h | ⟨g, cap, e, h1, h2, h3⟩
  · exact .inl h
  · exact .inr ⟨g, cap, e, h1, by omega, h3⟩
theorem Sli.dn {t : TypeId} {lo lo' hi n : Nat} {v : Value} {xs : List Value} {w : World} (h : Sli t lo hi v n xs w) (hh : lo' ≤ lo) : Sli t lo' hi v n xs w := by
  rcases h with h | ⟨g, cap, e, h1, h2, h3⟩
  · exact .inl h
  · exact .inr ⟨g, cap, e, by omega, h2, h3⟩
theorem Sli.blw {t : TypeId} {lo hi n : Nat} {v : Value} {xs : List Value} {w w' : World} (h : Sli t lo hi v n xs w) (hb : Below w.heap.size w w') : Sli t lo hi v n xs w' := by
  rcases h with h | ⟨g, cap, e, h1, h2, h3⟩
  · exact .inl h
  · exact .inr ⟨g, cap, e, h1, h2, h3.below hb⟩
theorem Sli.lt {t : TypeId} {lo hi n : Nat} {v : Value} {xs : List Value} {w : World} (h : Sli t lo hi v n xs w) : ∀ g, v.ownBlock = some g → lo ≤ g ∧ g < hi ∧ ∃ cs, w.heap[g]? = some (.cells cs t (0, 0)) := by
  intro g hg
  rcases h with ⟨rfl, -⟩ | ⟨g', cap, rfl, h1, h2, cs, h3, -⟩
  · cases hg
  · simp only [Value.ownBlock, Option.some.injEq] at hg
    subst hg
    exact ⟨h1, h2, cs, h3⟩
theorem Sli.grown {t : TypeId} {lo hi n : Nat} {v : Value} {xs : List Value} {w y : World} {row : Option Nat} (h : Sli t lo hi v n xs w) (hg : w.grownBy y row) (hr : ∀ g, v.ownBlock = some g → row ≠ some g) : Sli t lo hi v n xs y := by
  rcases h with h | ⟨g, cap, rfl, h1, h2, cs, h3, h4⟩
  · exact .inl h
  · exact .inr ⟨g, cap, rfl, h1, h2, cs, (hg.block g (Array.getElem?_eq_some_iff.1 h3).1 (fun e => hr g rfl e.symm)).trans h3, h4⟩
theorem own_kind {w : World} {B : Nat} {e : TypeId} {size n : Nat} {v : Value} {xs : List Value} (h : w.ownsRow B e size v n xs) : ∀ g, v.ownBlock = some g → B ≤ g ∧ g < w.heap.size ∧ ∃ cs, w.heap[g]? = some (.cells cs e (0, 0)) := by
  intro g hg
  obtain ⟨h1, h2⟩ := h.lt g hg
  rcases h.2 with ⟨rfl, -⟩ | ⟨g', cap, cur, rfl, -, q, -⟩
  · cases hg
  · simp only [Value.ownBlock, Option.some.injEq] at hg
    subst hg
    exact ⟨h1, h2, _, q⟩
end Go.Proofs.YtfmnaidhfgmemaaGreatDoor

namespace Go.Proofs.YtfmnaidhfgmemaaGreatDoor
namespace Words
structure Kn where
  leaf : Bool
  kids : List Int
def knLeaf (l : List Kn) (n : Int) : Bool := match l[n.toNat]? with
  | some y => y.leaf
  | none => false
def kidB (l : List Kn) (i : Nat) (lf : Bool) (n : Int) : Bool := if lf then decide (0 ≤ n) else (decide (n = -1) || (decide (0 ≤ n) && decide (n < i) && knLeaf l n))
def knB (l : List Kn) (i : Nat) (x : Kn) : Bool := decide (x.kids.length = 4) && x.kids.all (kidB l i x.leaf)
def arK (l : List Kn) : Nat → Bool
  | 0 => true
  | k + 1 => arK l k && (match l[k]? with | some x => knB l k x | none => true)
def arB (l : List Kn) : Bool := arK l l.length
theorem arK_succ {l : List Kn} {k : Nat} {x : Kn} (h : l[k]? = some x) : arK l (k + 1) = (arK l k && knB l k x) := by rw [arK, h]
theorem arK_le {l : List Kn} {j k : Nat} (h : j ≤ k) (hk : arK l k = true) : arK l j = true := by
  induction k with
  | zero => have : j = 0 := by omega
            subst this; exact hk
  | succ k ih =>
    rw [arK, Bool.and_eq_true] at hk
    by_cases e : j = k + 1
    · subst e; rw [arK, Bool.and_eq_true]; exact hk
    · exact ih (by omega) hk.1
theorem arB_at {l : List Kn} (h : arB l = true) {i : Nat} {x : Kn} (hi : l[i]? = some x) : knB l i x = true := by
  have hl := (List.getElem?_eq_some_iff.1 hi).1
  have := arK_le (show i + 1 ≤ l.length by omega) h
  rw [arK_succ hi, Bool.and_eq_true] at this
  exact this.2
theorem arB_bad {l : List Kn} {i : Nat} {x : Kn} (hi : l[i]? = some x) (hx : knB l i x = false) : arB l = false := by
  cases h : arB l with
  | false => rfl
  | true => rw [arB_at h hi] at hx; cases hx
theorem knB_bad {l : List Kn} {i k : Nat} {x : Kn} {n : Int} (hk : x.kids[k]? = some n) (hn : kidB l i x.leaf n = false) : knB l i x = false := by
  cases h : knB l i x with
  | false => rfl
  | true =>
    rw [knB, Bool.and_eq_true, List.all_eq_true] at h
    rw [h.2 n (List.mem_of_getElem? hk)] at hn
    cases hn
theorem knB_len {l : List Kn} {i : Nat} {x : Kn} (h : knB l i x = true) : x.kids.length = 4 := by
  rw [knB, Bool.and_eq_true] at h
  simpa using h.1
theorem knB_kid {l : List Kn} {i k : Nat} {x : Kn} {n : Int} (h : knB l i x = true) (hk : x.kids[k]? = some n) : kidB l i x.leaf n = true := by
  rw [knB, Bool.and_eq_true, List.all_eq_true] at h
  exact h.2 n (List.mem_of_getElem? hk)
theorem knLeaf_some {l : List Kn} {n : Int} {y : Kn} (h : l[n.toNat]? = some y) : knLeaf l n = y.leaf := by rw [knLeaf, h]
theorem knLeaf_lt {l : List Kn} {n : Int} (h : knLeaf l n = true) : ∃ y, l[n.toNat]? = some y ∧ y.leaf = true := by
  rw [knLeaf] at h
  split at h
  · rename_i y hy; exact ⟨y, hy, h⟩
  · cases h
def rootB (l : List Kn) (r : Int) : Bool := decide (r = -1) || (decide (0 ≤ r) && decide (r < l.length) && !knLeaf l r)
theorem rootB_pos {l : List Kn} {r : Int} (h : rootB l r = true) (h0 : 0 ≤ r) : ∃ x, l[r.toNat]? = some x ∧ x.leaf = false := by
  unfold rootB at h
  simp only [Bool.or_eq_true, Bool.and_eq_true, decide_eq_true_eq, Bool.not_eq_true'] at h
  rcases h with h | ⟨⟨h1, h2⟩, h3⟩
  · omega
  · refine ⟨_, List.getElem?_eq_getElem (show r.toNat < l.length by omega), ?_⟩
    rw [knLeaf_some (List.getElem?_eq_getElem (show r.toNat < l.length by omega))] at h3
    exact h3
def kidAt (l : List Kn) (r : Int) (k : Nat) : Int := ((l[r.toNat]?).bind (fun x => x.kids[k]?)).getD 0
theorem kidAt_some {l : List Kn} {r : Int} {k : Nat} {x : Kn} {n : Int} (h : l[r.toNat]? = some x) (hk : x.kids[k]? = some n) : kidAt l r k = n := by
  rw [kidAt, h, Option.bind_some, hk, Option.getD_some]
def getP (l : List Kn) (r : Int) (s : Nat) : Int := if r < 0 then 0 else if kidAt l r (s / 4) < 0 then 0 else kidAt l (kidAt l r (s / 4)) (s % 4)
def askB (l : List Kn) (r s : Int) : Bool := arB l && rootB l r && (decide (0 ≤ s) && decide (s ≤ 15))
def getT (l : List Kn) (r s : Int) : Int := if askB l r s then getP l r s.toNat else 0
def allT (l : List Kn) (r : Int) : List Int := (List.range 16).map (fun s : Nat => getT l r s)
theorem inner_kid {l : List Kn} (h : arB l = true) {r : Int} {x : Kn} (hx : l[r.toNat]? = some x) (hl : x.leaf = false) {k : Nat} (hk : k < 4) : ∃ n, x.kids[k]? = some n ∧ (n = -1 ∨ 0 ≤ n ∧ n < r.toNat ∧ ∃ y, l[n.toNat]? = some y ∧ y.leaf = true ∧ y.kids.length = 4) := by
  have hb := arB_at h hx
  have h4 := knB_len hb
  refine ⟨_, List.getElem?_eq_getElem (by omega), ?_⟩
  have hn := knB_kid hb (List.getElem?_eq_getElem (show k < x.kids.length by omega))
  rw [kidB, hl] at hn
  simp only [Bool.false_eq_true, if_false, Bool.or_eq_true, Bool.and_eq_true, decide_eq_true_eq] at hn
  rcases hn with hn | ⟨⟨h1, h2⟩, h3⟩
  · exact .inl hn
  · obtain ⟨y, hy, hyl⟩ := knLeaf_lt h3
    exact .inr ⟨h1, h2, y, hy, hyl, knB_len (arB_at h hy)⟩
theorem leaf_kid {l : List Kn} (h : arB l = true) {i : Nat} {x : Kn} (hx : l[i]? = some x) (hl : x.leaf = true) {k : Nat} (hk : k < 4) : ∃ n, x.kids[k]? = some n ∧ 0 ≤ n := by
  have hb := arB_at h hx
  have h4 := knB_len hb
  refine ⟨_, List.getElem?_eq_getElem (by omega), ?_⟩
  have hn := knB_kid hb (List.getElem?_eq_getElem (show k < x.kids.length by omega))
  rw [kidB, hl] at hn
  simpa using hn
def putLf (l : List Kn) (r : Int) (s : Nat) (n : Int) : Kn := ⟨true, ((if r < 0 then [0, 0, 0, 0] else if kidAt l r (s / 4) < 0 then [0, 0, 0, 0] else ((l[(kidAt l r (s / 4)).toNat]?).map Kn.kids).getD [])).set (s % 4) n⟩
def putTop (l : List Kn) (r : Int) (s : Nat) : Kn := ⟨false, (if r < 0 then [-1, -1, -1, -1] else ((l[r.toNat]?).map Kn.kids).getD []).set (s / 4) (l.length : Int)⟩
end Words
end Go.Proofs.YtfmnaidhfgmemaaGreatDoor
