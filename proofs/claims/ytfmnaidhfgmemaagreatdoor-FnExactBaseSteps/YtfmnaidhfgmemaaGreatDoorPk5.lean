/-
  TrMath; TrMath2; TrMath3; TrMath4; SwMath; StoM; StoM2; StoM3; StoM4; StoM5; StoM6; StoM7; DvM; BkP; FRP; DvM2; DvM3; DvM4
-/
import Derived.Test.YtfmnaidhfgmemaaGreatDoorPk0
import Derived.Test.YtfmnaidhfgmemaaGreatDoorPk4
namespace Go.Proofs.YtfmnaidhfgmemaaGreatDoor
namespace Words
structure Kn where
  leaf : Bool
  kids : List Int
def knLeaf (l : List Kn) (n : Int) : Bool := match l[n.toNat]? with
  | some y => y.leaf
  | none => false
def kidB (l : List Kn) (i : Nat) (lf : Bool) (n : Int) : Bool := if lf then decide (0 ≤ n) else (decide (n = -1) || (decide (0 ≤ n) && decide (n < i) && knLeaf l n))
def knB (l : List Kn) (i : Nat) (x : Kn) : Bool := decide (x.kids.length = 4) && x.kids.all (kidB l i x.leaf)
def arK (l : List Kn) : Nat → Bool
  | 0 => true
  | k + 1 => arK l k && (match l[k]? with | some x => knB l k x | none => true)
def arB (l : List Kn) : Bool := arK l l.length
theorem arK_succ {l : List Kn} {k : Nat} {x : Kn} (h : l[k]? = some x) : arK l (k + 1) = (arK l k && knB l k x) := by rw [arK, h]
theorem arK_le {l : List Kn} {j k : Nat} (h : j ≤ k) (hk : arK l k = true) : arK l j = true := by
  induction k with
  | zero => have : j = 0 := by omega
            subst this; exact hk
  | succ k ih =>
    rw [arK, Bool.and_eq_true] at hk
    by_cases e : j = k + 1
    · subst e; rw [arK, Bool.and_eq_true]; exact hk
    · exact ih (by omega) hk.1
theorem arB_at {l : List Kn} (h : arB l = true) {i : Nat} {x : Kn} (hi : l[i]? = some x) : knB l i x = true := by
  have hl := (List.getElem?_eq_some_iff.1 hi).1
  have := arK_le (show i + 1 ≤ l.length by omega) h
  rw [arK_succ hi, Bool.and_eq_true] at this
  exact this.2
theorem arB_bad {l : List Kn} {i : Nat} {x : Kn} (hi : l[i]? = some x) (hx : knB l i x = false) : arB l = false := by
  cases h : arB l with
  | false => rfl
  | true => rw [arB_at h hi] at hx; cases hx
theorem knB_bad {l : List Kn} {i k : Nat} {x : Kn} {n : Int} (hk : x.kids[k]? = some n) (hn : kidB l i x.leaf n = false) : knB l i x = false := by
  cases h : knB l i x with
  | false => rfl
  | true =>
    rw [knB, Bool.and_eq_true, List.all_eq_true] at h
    rw [h.2 n (List.mem_of_getElem? hk)] at hn
    cases hn
theorem knB_len {l : List Kn} {i : Nat} {x : Kn} (h : knB l i x = true) : x.kids.length = 4 := by
  rw [knB, Bool.and_eq_true] at h
  simpa using h.1
theorem knB_kid {l : List Kn} {i k : Nat} {x : Kn} {n : Int} (h : knB l i x = true) (hk : x.kids[k]? = some n) : kidB l i x.leaf n = true := by
  rw [knB, Bool.and_eq_true, List.all_eq_true] at h
  exact h.2 n (List.mem_of_getElem? hk)
theorem knLeaf_some {l : List Kn} {n : Int} {y : Kn} (h : l[n.toNat]? = some y) : knLeaf l n = y.leaf := by rw [knLeaf, h]
theorem knLeaf_lt {l : List Kn} {n : Int} (h : knLeaf l n = true) : ∃ y, l[n.toNat]? = some y ∧ y.leaf = true := by
  rw [knLeaf] at h
  split at h
  · rename_i y hy; exact ⟨y, hy, h⟩
  · cases h
def rootB (l : List Kn) (r : Int) : Bool := decide (r = -1) || (decide (0 ≤ r) && decide (r < l.length) && !knLeaf l r)
theorem rootB_pos {l : List Kn} {r : Int} (h : rootB l r = true) (h0 : 0 ≤ r) : ∃ x, l[r.toNat]? = some x ∧ x.leaf = false := by
  unfold rootB at h
  simp only [Bool.or_eq_true, Bool.and_eq_true, decide_eq_true_eq, Bool.not_eq_true'] at h
  rcases h with h | ⟨⟨h1, h2⟩, h3⟩
  · omega
  · refine ⟨_, List.getElem?_eq_getElem (show r.toNat < l.length by omega), ?_⟩
    rw [knLeaf_some (List.getElem?_eq_getElem (show r.toNat < l.length by omega))] at h3
    exact h3
def kidAt (l : List Kn) (r : Int) (k : Nat) : Int := ((l[r.toNat]?).bind (fun x => x.kids[k]?)).getD 0
theorem kidAt_some {l : List Kn} {r : Int} {k : Nat} {x : Kn} {n : Int} (h : l[r.toNat]? = some x) (hk : x.kids[k]? = some n) : kidAt l r k = n := by
  rw [kidAt, h, Option.bind_some, hk, Option.getD_some]
def getP (l : List Kn) (r : Int) (s : Nat) : Int := if r < 0 then 0 else if kidAt l r (s / 4) < 0 then 0 else kidAt l (kidAt l r (s / 4)) (s % 4)
def askB (l : List Kn) (r s : Int) : Bool := arB l && rootB l r && (decide (0 ≤ s) && decide (s ≤ 15))
def getT (l : List Kn) (r s : Int) : Int := if askB l r s then getP l r s.toNat else 0
def allT (l : List Kn) (r : Int) : List Int := (List.range 16).map (fun s : Nat => getT l r s)
theorem inner_kid {l : List Kn} (h : arB l = true) {r : Int} {x : Kn} (hx : l[r.toNat]? = some x) (hl : x.leaf = false) {k : Nat} (hk : k < 4) : ∃ n, x.kids[k]? = some n ∧ (n = -1 ∨ 0 ≤ n ∧ n < r.toNat ∧ ∃ y, l[n.toNat]? = some y ∧ y.leaf = true ∧ y.kids.length = 4) := by
  have hb := arB_at h hx
  have h4 := knB_len hb
  refine ⟨_, List.getElem?_eq_getElem (by omega), ?_⟩
  have hn := knB_kid hb (List.getElem?_eq_getElem (show k < x.kids.length by omega))
  rw [kidB, hl] at hn
  simp only [Bool.false_eq_true, if_false, Bool.or_eq_true, Bool.and_eq_true, decide_eq_true_eq] at hn
  rcases hn with hn | ⟨⟨h1, h2⟩, h3⟩
  · exact .inl hn
  · obtain ⟨y, hy, hyl⟩ := knLeaf_lt h3
    exact .inr ⟨h1, h2, y, hy, hyl, knB_len (arB_at h hy)⟩
theorem leaf_kid {l : List Kn} (h : arB l = true) {i : Nat} {x : Kn} (hx : l[i]? = some x) (hl : x.leaf = true) {k : Nat} (hk : k < 4) : ∃ n, x.kids[k]? = some n ∧ 0 ≤ n := by
  have hb := arB_at h hx
  have h4 := knB_len hb
  refine ⟨_, List.getElem?_eq_getElem (by omega), ?_⟩
  have hn := knB_kid hb (List.getElem?_eq_getElem (show k < x.kids.length by omega))
  rw [kidB, hl] at hn
  simpa using hn
def putLf (l : List Kn) (r : Int) (s : Nat) (n : Int) : Kn := ⟨true, ((if r < 0 then [0, 0, 0, 0] else if kidAt l r (s / 4) < 0 then [0, 0, 0, 0] else ((l[(kidAt l r (s / 4)).toNat]?).map Kn.kids).getD [])).set (s % 4) n⟩
def putTop (l : List Kn) (r : Int) (s : Nat) : Kn := ⟨false, (if r < 0 then [-1, -1, -1, -1] else ((l[r.toNat]?).map Kn.kids).getD []).set (s / 4) (l.length : Int)⟩
end Words
end Go.Proofs.YtfmnaidhfgmemaaGreatDoor

namespace Go.Proofs.YtfmnaidhfgmemaaGreatDoor
namespace Words
theorem lf_nought (k : Nat) (hk : k < 4) : ([0, 0, 0, 0] : List Int)[k]? = some 0 := by
  match k, hk with
  | 0, _ | 1, _ | 2, _ | 3, _ => rfl
section
variable {l : List Kn} {r : Int} {s : Nat} {n : Int}
end
end Words
end Go.Proofs.YtfmnaidhfgmemaaGreatDoor

namespace Go.Proofs.YtfmnaidhfgmemaaGreatDoor
namespace Words
section
variable {l : List Kn} {r : Int} {s : Nat} {n : Int}
end
end Words
end Go.Proofs.YtfmnaidhfgmemaaGreatDoor

namespace Go.Proofs.YtfmnaidhfgmemaaGreatDoor
namespace Words
def pt (l : List Kn) (r : Int) (s : Nat) (n : Int) : List Kn := l ++ [putLf l r s n, putTop l r s]
end Words
end Go.Proofs.YtfmnaidhfgmemaaGreatDoor

namespace Go.Proofs.YtfmnaidhfgmemaaGreatDoor
namespace Words
section
variable {l : List Kn} {rs : List Int}
end
end Words
end Go.Proofs.YtfmnaidhfgmemaaGreatDoor

namespace Go.Proofs.YtfmnaidhfgmemaaGreatDoor
namespace Words
structure Sto where
  vols : List (Int × Int)
  kns : List Kn
  next : Int
def baseK (id : Int) (L : List Int) (k : Nat) : List Rc := (List.range k).filterMap (fun (j : Nat) => if 0 < (L[j]?).getD 0 then some ⟨4, id, (j : Int), (L[j]?).getD 0⟩ else none)
def baseV (l : List Kn) (v : Int × Int) : List Rc := ⟨2, v.1, 0, 0⟩ :: baseK v.1 (allT l v.2) 16
def baseS (s : Sto) : List Rc := ⟨1, 0, s.next, 0⟩ :: s.vols.flatMap (baseV s.kns)
def tellS (s : Sto) : List (Int × List Int) := s.vols.map (fun v => (v.1, allT s.kns v.2))
end Words
end Go.Proofs.YtfmnaidhfgmemaaGreatDoor

namespace Go.Proofs.YtfmnaidhfgmemaaGreatDoor
namespace Words
end Words
end Go.Proofs.YtfmnaidhfgmemaaGreatDoor

namespace Go.Proofs.YtfmnaidhfgmemaaGreatDoor
namespace Words
theorem tell_at {s : Sto} {k : Nat} {v : Int × Int} (h : s.vols[k]? = some v) : (tellS s)[k]? = some (v.1, allT s.kns v.2) := by
  rw [tellS, List.getElem?_map, h]
  rfl
theorem baseK_succ (id : Int) (L : List Int) (k : Nat) : baseK id L (k + 1) = baseK id L k ++ (if 0 < (L[k]?).getD 0 then [⟨4, id, (k : Int), (L[k]?).getD 0⟩] else []) := by
  rw [baseK, baseK, List.range_succ, List.filterMap_append]
  congr 1
  simp only [List.filterMap_cons, List.filterMap_nil]
  split
  · rename_i h; split at h
    · cases h
    · rename_i h2; rw [if_neg h2]
  · rename_i x h; split at h
    · rename_i h2; injection h with h; rw [if_pos h2, h]
    · cases h
end Words
end Go.Proofs.YtfmnaidhfgmemaaGreatDoor

namespace Go.Proofs.YtfmnaidhfgmemaaGreatDoor
namespace Words
end Words
end Go.Proofs.YtfmnaidhfgmemaaGreatDoor

namespace Go.Proofs.YtfmnaidhfgmemaaGreatDoor
namespace Words
end Words
end Go.Proofs.YtfmnaidhfgmemaaGreatDoor

namespace Go.Proofs.YtfmnaidhfgmemaaGreatDoor
namespace Words
end Words
end Go.Proofs.YtfmnaidhfgmemaaGreatDoor

namespace Go.Proofs.YtfmnaidhfgmemaaGreatDoor
namespace Words
end Words
end Go.Proofs.YtfmnaidhfgmemaaGreatDoor

namespace Go.Proofs.YtfmnaidhfgmemaaGreatDoor
open Words Sums Pack
structure Dv where
  flash : List Bk
  store : Sto
  seq : Int
  tx : Int
  base : Int
def pgT (p : Pg) : ByteArray × Bool := letI := p.decR; if p.Right then (sealA (pageA p), true) else (⟨#[]⟩, false)
def putP (bs : List Bk) (l : List Stp) (p : Pg) : List Bk × List Stp × Bool :=
  if (pgT p).2 && (placeF bs).2.2 then ((doF bs (1, (placeF bs).1, (placeF bs).2.1, (pgT p).1)).1, l ++ [(1, (placeF bs).1, (placeF bs).2.1, (pgT p).1)], (doF bs (1, (placeF bs).1, (placeF bs).2.1, (pgT p).1)).2) else (bs, l, false)
def putsP : List Bk × List Stp × Bool → List Pg → List Bk × List Stp × Bool
  | s, [] => s
  | s, p :: ps => if s.2.2 then putsP (putP s.1 s.2.1 p) ps else s
def lastCk (l : List Rc) : Int := (l.getLast?.map Rc.chunk).getD 0
def dataPg (seq c : Int) (t : ByteArray) : Pg := ⟨1, seq, c, 0, 1, t⟩
def write0 (d : Dv) (l : List Rc) (t : ByteArray) : List Bk × List Stp × Bool := if t.size = 0 then (d.flash, [], true) else putP d.flash [] (dataPg d.seq (lastCk l) t)
def writeQ (d : Dv) (t : ByteArray) : Int := if t.size = 0 then d.seq else d.seq + 1
def writeP (d : Dv) (l : List Rc) (t : ByteArray) : List Stp × Bool :=
  if l.length = 0 then ([], true)
  else if (putsP (write0 d l t) (txOut (writeQ d t) d.tx l)).2.2 && @decide (TxOk (writeQ d t) d.tx l) (decTx (writeQ d t) d.tx l) then ((putsP (write0 d l t) (txOut (writeQ d t) d.tx l)).2.1, true) else ([], false)
theorem ok_len4 {bs : List Bk} (h : flOk bs = true) : ∀ b ∈ bs, b.2.2.length = 4 := by
  intro b hb
  have h1 := h
  unfold flOk at h1
  rw [Bool.and_eq_true, List.all_eq_true] at h1
  have h2 := h1.2 b hb
  unfold blkOk at h2
  rw [Bool.and_eq_true, dcT] at h2
  exact h2.1.1
end Go.Proofs.YtfmnaidhfgmemaaGreatDoor

namespace Go.Proofs.YtfmnaidhfgmemaaGreatDoor
theorem nextB_le {ls : List (Int × ByteArray)} {k : Nat} {u : Int × ByteArray} (hu : ls[k]? = some u) (h0 : u.1 = 0) : nextB ls ≤ k := by
  obtain ⟨h1, h2⟩ := List.getElem?_eq_some_iff.1 hu
  have h : ls.findIdx (fun t => t.1 == 0) ≤ k := Nat.le_of_not_lt (fun hlt => by
    have h3 := List.not_of_lt_findIdx hlt
    rw [h2] at h3
    simp [h0] at h3)
  simp only [nextB]
  rw [if_pos (by omega)]
  exact h
theorem nextB_blank {ls : List (Int × ByteArray)} (h4 : ls.length ≤ 4) {k : Nat} (hk : k < ls.length) (hn : nextB ls < k) : ∃ u, ls[nextB ls]? = some u ∧ u.1 = 0 := by
  have h : ls.findIdx (fun t => t.1 == 0) < ls.length := Nat.lt_of_not_le (fun hh => by
    simp only [nextB] at hn
    rw [if_neg (by omega)] at hn
    omega)
  have e : nextB ls = ls.findIdx (fun t => t.1 == 0) := by simp only [nextB]; rw [if_pos h]
  have h3 := List.findIdx_getElem (w := h)
  refine ⟨ls[ls.findIdx (fun t => t.1 == 0)], by rw [e]; exact List.getElem?_eq_getElem h, by simpa using h3⟩
theorem blank_on {ls : List (Int × ByteArray)} (h : ∀ k, k < ls.length → leafAt ls k = true) {n : Nat} {u : Int × ByteArray} (hu : ls[n]? = some u) (h0 : u.1 = 0) (d : Nat) : ∀ t, ls[n + d]? = some t → t.1 = 0 := by
  induction d with
  | zero =>
    intro t ht
    rw [Nat.add_zero, hu] at ht
    cases ht
    exact h0
  | succ d ih =>
    intro t ht
    have hl := (List.getElem?_eq_some_iff.1 ht).1
    have hp : ls[n + d]? = some ls[n + d] := List.getElem?_eq_getElem (by omega)
    have hz := ih _ hp
    cases Decidable.em (t.1 = 0) with
    | inl e => exact e
    | inr e =>
      have := leafAt_bad (k := n + d) ht hp hz e
      rw [show n + d + 1 = n + (d + 1) from rfl, h _ hl] at this
      cases this
theorem blkOk_behind {b : Bk} {k : Nat} {t : Int × ByteArray} (h4 : b.2.2.length = 4) (ht : b.2.2[k]? = some t) (hn : nextB b.2.2 < k) (hz : t.1 ≠ 0) : blkOk b = false := by
  cases hb : blkOk b with
  | false => rfl
  | true =>
    have hk := (List.getElem?_eq_some_iff.1 ht).1
    simp only [blkOk, Bool.and_eq_true] at hb
    have hall : ∀ k, k < b.2.2.length → leafAt b.2.2 k = true := fun k hk => List.all_eq_true.1 hb.2 k (List.mem_range.2 hk)
    obtain ⟨u, hu, h0⟩ := nextB_blank (by omega) hk hn
    exact absurd (blank_on hall hu h0 (k - nextB b.2.2) t (by rw [show nextB b.2.2 + (k - nextB b.2.2) = k by omega]; exact ht)) hz
theorem blkOk_each {b : Bk} (h4 : b.2.2.length = 4) (hw : 0 ≤ b.2.1 ∧ b.2.1 ≤ 1000000000) (h : ∀ k t, b.2.2[k]? = some t → leafOk t = true ∧ (nextB b.2.2 < k → t.1 = 0)) : blkOk b = true := by
  refine blkOk_yes h4 hw (fun k hk => ?_)
  have ht : b.2.2[k]? = some b.2.2[k] := List.getElem?_eq_getElem hk
  generalize b.2.2[k] = t at ht
  cases k with
  | zero => exact leafAt_zero ht (h 0 t ht).1
  | succ k =>
    have hu : b.2.2[k]? = some b.2.2[k] := List.getElem?_eq_getElem (by omega)
    generalize b.2.2[k] = u at hu
    refine leafAt_yes ht hu (h _ t ht).1 ?_
    cases Decidable.em (u.1 = 0) with
    | inr e => exact Or.inl e
    | inl e => exact Or.inr ((h _ t ht).2 (by have := nextB_le hu e; omega))
end Go.Proofs.YtfmnaidhfgmemaaGreatDoor

namespace Go.Proofs.YtfmnaidhfgmemaaGreatDoor
def Right (n : Int) (bs : List Bk) : Prop := flOk bs = true ∧ ∀ r ∈ bs, r.2.1 ≤ n
end Go.Proofs.YtfmnaidhfgmemaaGreatDoor

namespace Go.Proofs.YtfmnaidhfgmemaaGreatDoor
open Words Sums Pack
end Go.Proofs.YtfmnaidhfgmemaaGreatDoor

namespace Go.Proofs.YtfmnaidhfgmemaaGreatDoor
open Words Sums Pack
end Go.Proofs.YtfmnaidhfgmemaaGreatDoor

namespace Go.Proofs.YtfmnaidhfgmemaaGreatDoor
open Words Sums Pack
theorem puts_false : ∀ (ps : List Pg) (s : List Bk × List Stp × Bool), s.2.2 = false → (putsP s ps).2.2 = false
  | [], s, h => h
  | p :: ps, s, h => by rw [putsP, h]; exact h
end Go.Proofs.YtfmnaidhfgmemaaGreatDoor
