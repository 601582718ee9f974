/-
  Trees that share, in plain words.
-/
import Derived.Test.YtcjgjkejhkhknacGreatDoorPk0
namespace Go.Proofs.YtcjgjkejhkhknacGreatDoor
namespace Words

structure Kn where
  leaf : Bool
  kids : List Int

/-- Is there a leaf at n? -/
def knLeaf (l : List Kn) (n : Int) : Bool := match l[n.toNat]? with
  | some y => y.leaf
  | none => false
/-- May n be a child of the i'th knot? -/
def kidB (l : List Kn) (i : Nat) (lf : Bool) (n : Int) : Bool := if lf then decide (0 ≤ n) else (decide (n = -1) || (decide (0 ≤ n) && decide (n < i) && knLeaf l n))
def knB (l : List Kn) (i : Nat) (x : Kn) : Bool := decide (x.kids.length = 4) && x.kids.all (kidB l i x.leaf)
/-- The first k knots are right. -/
def arK (l : List Kn) : Nat → Bool
  | 0 => true
  | k + 1 => arK l k && (match l[k]? with | some x => knB l k x | none => true)
def arB (l : List Kn) : Bool := arK l l.length
theorem arK_succ {l : List Kn} {k : Nat} {x : Kn} (h : l[k]? = some x) : arK l (k + 1) = (arK l k && knB l k x) := by rw [arK, h]
theorem arK_le {l : List Kn} {j k : Nat} (h : j ≤ k) (hk : arK l k = true) : arK l j = true := by
  induction k with
  | zero => have : j = 0 := by omega
            subst this; exact hk
  | succ k ih =>
    rw [arK, Bool.and_eq_true] at hk
    by_cases e : j = k + 1
    · subst e; rw [arK, Bool.and_eq_true]; exact hk
    · exact ih (by omega) hk.1
theorem arB_at {l : List Kn} (h : arB l = true) {i : Nat} {x : Kn} (hi : l[i]? = some x) : knB l i x = true := by
  have hl := (List.getElem?_eq_some_iff.1 hi).1
  have := arK_le (show i + 1 ≤ l.length by omega) h
  rw [arK_succ hi, Bool.and_eq_true] at this
  exact this.2
theorem arB_bad {l : List Kn} {i : Nat} {x : Kn} (hi : l[i]? = some x) (hx : knB l i x = false) : arB l = false := by
  cases h : arB l with
  | false => rfl
  | true => rw [arB_at h hi] at hx; cases hx
theorem knB_bad {l : List Kn} {i k : Nat} {x : Kn} {n : Int} (hk : x.kids[k]? = some n) (hn : kidB l i x.leaf n = false) : knB l i x = false := by
  cases h : knB l i x with
  | false => rfl
  | true =>
    rw [knB, Bool.and_eq_true, List.all_eq_true] at h
    rw [h.2 n (List.mem_of_getElem? hk)] at hn
    cases hn
theorem knB_len {l : List Kn} {i : Nat} {x : Kn} (h : knB l i x = true) : x.kids.length = 4 := by
  rw [knB, Bool.and_eq_true] at h
  simpa using h.1
theorem knB_kid {l : List Kn} {i k : Nat} {x : Kn} {n : Int} (h : knB l i x = true) (hk : x.kids[k]? = some n) : kidB l i x.leaf n = true := by
  rw [knB, Bool.and_eq_true, List.all_eq_true] at h
  exact h.2 n (List.mem_of_getElem? hk)
theorem knLeaf_some {l : List Kn} {n : Int} {y : Kn} (h : l[n.toNat]? = some y) : knLeaf l n = y.leaf := by rw [knLeaf, h]
theorem knLeaf_lt {l : List Kn} {n : Int} (h : knLeaf l n = true) : ∃ y, l[n.toNat]? = some y ∧ y.leaf = true := by
  rw [knLeaf] at h
  split at h
  · rename_i y hy; exact ⟨y, hy, h⟩
  · cases h

/-- Is this a root? -/
def rootB (l : List Kn) (r : Int) : Bool := decide (r = -1) || (decide (0 ≤ r) && decide (r < l.length) && !knLeaf l r)
theorem rootB_pos {l : List Kn} {r : Int} (h : rootB l r = true) (h0 : 0 ≤ r) : ∃ x, l[r.toNat]? = some x ∧ x.leaf = false := by
  unfold rootB at h
  simp only [Bool.or_eq_true, Bool.and_eq_true, decide_eq_true_eq, Bool.not_eq_true'] at h
  rcases h with h | ⟨⟨h1, h2⟩, h3⟩
  · omega
  · refine ⟨_, List.getElem?_eq_getElem (show r.toNat < l.length by omega), ?_⟩
    rw [knLeaf_some (List.getElem?_eq_getElem (show r.toNat < l.length by omega))] at h3
    exact h3
/-- The k'th child of the knot at r. -/
def kidAt (l : List Kn) (r : Int) (k : Nat) : Int := ((l[r.toNat]?).bind (fun x => x.kids[k]?)).getD 0
theorem kidAt_some {l : List Kn} {r : Int} {k : Nat} {x : Kn} {n : Int} (h : l[r.toNat]? = some x) (hk : x.kids[k]? = some n) : kidAt l r k = n := by
  rw [kidAt, h, Option.bind_some, hk, Option.getD_some]
/-- What a sector has below a right root. -/
def getP (l : List Kn) (r : Int) (s : Nat) : Int := if r < 0 then 0 else if kidAt l r (s / 4) < 0 then 0 else kidAt l (kidAt l r (s / 4)) (s % 4)
def askB (l : List Kn) (r s : Int) : Bool := arB l && rootB l r && (decide (0 ≤ s) && decide (s ≤ 15))
def getT (l : List Kn) (r s : Int) : Int := if askB l r s then getP l r s.toNat else 0
def allT (l : List Kn) (r : Int) : List Int := (List.range 16).map (fun s : Nat => getT l r s)
/-- A right inner knot: its children are none or leaves ahead of it. -/
theorem inner_kid {l : List Kn} (h : arB l = true) {r : Int} {x : Kn} (hx : l[r.toNat]? = some x) (hl : x.leaf = false) {k : Nat} (hk : k < 4) : ∃ n, x.kids[k]? = some n ∧ (n = -1 ∨ 0 ≤ n ∧ n < r.toNat ∧ ∃ y, l[n.toNat]? = some y ∧ y.leaf = true ∧ y.kids.length = 4) := by
  have hb := arB_at h hx
  have h4 := knB_len hb
  refine ⟨_, List.getElem?_eq_getElem (by omega), ?_⟩
  have hn := knB_kid hb (List.getElem?_eq_getElem (show k < x.kids.length by omega))
  rw [kidB, hl] at hn
  simp only [Bool.false_eq_true, if_false, Bool.or_eq_true, Bool.and_eq_true, decide_eq_true_eq] at hn
  rcases hn with hn | ⟨⟨h1, h2⟩, h3⟩
  · exact .inl hn
  · obtain ⟨y, hy, hyl⟩ := knLeaf_lt h3
    exact .inr ⟨h1, h2, y, hy, hyl, knB_len (arB_at h hy)⟩
/-- A right leaf's children are numbers. -/
theorem leaf_kid {l : List Kn} (h : arB l = true) {i : Nat} {x : Kn} (hx : l[i]? = some x) (hl : x.leaf = true) {k : Nat} (hk : k < 4) : ∃ n, x.kids[k]? = some n ∧ 0 ≤ n := by
  have hb := arB_at h hx
  have h4 := knB_len hb
  refine ⟨_, List.getElem?_eq_getElem (by omega), ?_⟩
  have hn := knB_kid hb (List.getElem?_eq_getElem (show k < x.kids.length by omega))
  rw [kidB, hl] at hn
  simpa using hn

/-- What PutAt makes. -/
def putLf (l : List Kn) (r : Int) (s : Nat) (n : Int) : Kn := ⟨true, ((if r < 0 then [0, 0, 0, 0] else if kidAt l r (s / 4) < 0 then [0, 0, 0, 0] else ((l[(kidAt l r (s / 4)).toNat]?).map Kn.kids).getD [])).set (s % 4) n⟩
def putTop (l : List Kn) (r : Int) (s : Nat) : Kn := ⟨false, (if r < 0 then [-1, -1, -1, -1] else ((l[r.toNat]?).map Kn.kids).getD []).set (s / 4) (l.length : Int)⟩
def putB (l : List Kn) (r s n : Int) : Bool := askB l r s && decide (0 ≤ n)
def putL (l : List Kn) (r s n : Int) : List Kn := if putB l r s n then l ++ [putLf l r s.toNat n, putTop l r s.toNat] else l
def putR (l : List Kn) (r s n : Int) : Int := if putB l r s n then (l.length : Int) + 1 else r
/-- The knots that a tree has. -/
def hasB (l : List Kn) (r : Int) (i : Nat) : Bool := decide (0 ≤ r) && (decide (r = i) || (List.range 4).any (fun k => decide (kidAt l r k = i)))
def shareN (l : List Kn) (r s : Int) : Nat := (List.range l.length).countP (fun i => hasB l r i && hasB l s i)
def shareT (l : List Kn) (r s : Int) : Int := if arB l && rootB l r && rootB l s then shareN l r s else 0
end Words
end Go.Proofs.YtcjgjkejhkhknacGreatDoor
