/-
  TrMath; TrMath2
-/
import Derived.Test.YtiicghepilbgfaaGreatDoorPk0
/-
  Trees that share, in plain words.
-/
namespace Go.Proofs.YtiicghepilbgfaaGreatDoor
namespace Words

structure Kn where
  leaf : Bool
  kids : List Int

/-- Is there a leaf at n? -/
def knLeaf (l : List Kn) (n : Int) : Bool := match l[n.toNat]? with
  | some y => y.leaf
  | none => false
/-- May n be a child of the i'th knot? -/
def kidB (l : List Kn) (i : Nat) (lf : Bool) (n : Int) : Bool := if lf then decide (0 ≤ n) else (decide (n = -1) || (decide (0 ≤ n) && decide (n < i) && knLeaf l n))
def knB (l : List Kn) (i : Nat) (x : Kn) : Bool := decide (x.kids.length = 4) && x.kids.all (kidB l i x.leaf)
/-- The first k knots are right. -/
def arK (l : List Kn) : Nat → Bool
  | 0 => true
  | k + 1 => arK l k && (match l[k]? with | some x => knB l k x | none => true)
def arB (l : List Kn) : Bool := arK l l.length
theorem arK_succ {l : List Kn} {k : Nat} {x : Kn} (h : l[k]? = some x) : arK l (k + 1) = (arK l k && knB l k x) := by rw [arK, h]
theorem arK_le {l : List Kn} {j k : Nat} (h : j ≤ k) (hk : arK l k = true) : arK l j = true := by
  induction k with
  | zero => have : j = 0 := by omega
            subst this; exact hk
  | succ k ih =>
    rw [arK, Bool.and_eq_true] at hk
    by_cases e : j = k + 1
    · subst e; rw [arK, Bool.and_eq_true]; exact hk
    · exact ih (by omega) hk.1
theorem arB_at {l : List Kn} (h : arB l = true) {i : Nat} {x : Kn} (hi : l[i]? = some x) : knB l i x = true := by
  have hl := (List.getElem?_eq_some_iff.1 hi).1
  have := arK_le (show i + 1 ≤ l.length by omega) h
  rw [arK_succ hi, Bool.and_eq_true] at this
  exact this.2
theorem arB_bad {l : List Kn} {i : Nat} {x : Kn} (hi : l[i]? = some x) (hx : knB l i x = false) : arB l = false := by
  cases h : arB l with
  | false => rfl
  | true => rw [arB_at h hi] at hx; cases hx
theorem knB_bad {l : List Kn} {i k : Nat} {x : Kn} {n : Int} (hk : x.kids[k]? = some n) (hn : kidB l i x.leaf n = false) : knB l i x = false := by
  cases h : knB l i x with
  | false => rfl
  | true =>
    rw [knB, Bool.and_eq_true, List.all_eq_true] at h
    rw [h.2 n (List.mem_of_getElem? hk)] at hn
    cases hn
theorem knB_len {l : List Kn} {i : Nat} {x : Kn} (h : knB l i x = true) : x.kids.length = 4 := by
  rw [knB, Bool.and_eq_true] at h
  simpa using h.1
theorem knB_kid {l : List Kn} {i k : Nat} {x : Kn} {n : Int} (h : knB l i x = true) (hk : x.kids[k]? = some n) : kidB l i x.leaf n = true := by
  rw [knB, Bool.and_eq_true, List.all_eq_true] at h
  exact h.2 n (List.mem_of_getElem? hk)
theorem knLeaf_some {l : List Kn} {n : Int} {y : Kn} (h : l[n.toNat]? = some y) : knLeaf l n = y.leaf := by rw [knLeaf, h]
theorem knLeaf_lt {l : List Kn} {n : Int} (h : knLeaf l n = true) : ∃ y, l[n.toNat]? = some y ∧ y.leaf = true := by
  rw [knLeaf] at h
  split at h
  · rename_i y hy; exact ⟨y, hy, h⟩
  · cases h

/-- Is this a root? -/
def rootB (l : List Kn) (r : Int) : Bool := decide (r = -1) || (decide (0 ≤ r) && decide (r < l.length) && !knLeaf l r)
theorem rootB_pos {l : List Kn} {r : Int} (h : rootB l r = true) (h0 : 0 ≤ r) : ∃ x, l[r.toNat]? = some x ∧ x.leaf = false := by
  unfold rootB at h
  simp only [Bool.or_eq_true, Bool.and_eq_true, decide_eq_true_eq, Bool.not_eq_true'] at h
  rcases h with h | ⟨⟨h1, h2⟩, h3⟩
  · omega
  · refine ⟨_, List.getElem?_eq_getElem (show r.toNat < l.length by omega), ?_⟩
    rw [knLeaf_some (List.getElem?_eq_getElem (show r.toNat < l.length by omega))] at h3
    exact h3
/-- The k'th child of the knot at r. -/
def kidAt (l : List Kn) (r : Int) (k : Nat) : Int := ((l[r.toNat]?).bind (fun x => x.kids[k]?)).getD 0
theorem kidAt_some {l : List Kn} {r : Int} {k : Nat} {x : Kn} {n : Int} (h : l[r.toNat]? = some x) (hk : x.kids[k]? = some n) : kidAt l r k = n := by
  rw [kidAt, h, Option.bind_some, hk, Option.getD_some]
/-- What a sector has below a right root. -/
def getP (l : List Kn) (r : Int) (s : Nat) : Int := if r < 0 then 0 else if kidAt l r (s / 4) < 0 then 0 else kidAt l (kidAt l r (s / 4)) (s % 4)
def askB (l : List Kn) (r s : Int) : Bool := arB l && rootB l r && (decide (0 ≤ s) && decide (s ≤ 15))
def getT (l : List Kn) (r s : Int) : Int := if askB l r s then getP l r s.toNat else 0
def allT (l : List Kn) (r : Int) : List Int := (List.range 16).map (fun s : Nat => getT l r s)
/-- A right inner knot: its children are none or leaves ahead of it. -/
theorem inner_kid {l : List Kn} (h : arB l = true) {r : Int} {x : Kn} (hx : l[r.toNat]? = some x) (hl : x.leaf = false) {k : Nat} (hk : k < 4) : ∃ n, x.kids[k]? = some n ∧ (n = -1 ∨ 0 ≤ n ∧ n < r.toNat ∧ ∃ y, l[n.toNat]? = some y ∧ y.leaf = true ∧ y.kids.length = 4) := by
  have hb := arB_at h hx
  have h4 := knB_len hb
  refine ⟨_, List.getElem?_eq_getElem (by omega), ?_⟩
  have hn := knB_kid hb (List.getElem?_eq_getElem (show k < x.kids.length by omega))
  rw [kidB, hl] at hn
  simp only [Bool.false_eq_true, if_false, Bool.or_eq_true, Bool.and_eq_true, decide_eq_true_eq] at hn
  rcases hn with hn | ⟨⟨h1, h2⟩, h3⟩
  · exact .inl hn
  · obtain ⟨y, hy, hyl⟩ := knLeaf_lt h3
    exact .inr ⟨h1, h2, y, hy, hyl, knB_len (arB_at h hy)⟩
/-- A right leaf's children are numbers. -/
theorem leaf_kid {l : List Kn} (h : arB l = true) {i : Nat} {x : Kn} (hx : l[i]? = some x) (hl : x.leaf = true) {k : Nat} (hk : k < 4) : ∃ n, x.kids[k]? = some n ∧ 0 ≤ n := by
  have hb := arB_at h hx
  have h4 := knB_len hb
  refine ⟨_, List.getElem?_eq_getElem (by omega), ?_⟩
  have hn := knB_kid hb (List.getElem?_eq_getElem (show k < x.kids.length by omega))
  rw [kidB, hl] at hn
  simpa using hn

/-- What PutAt makes. -/
def putLf (l : List Kn) (r : Int) (s : Nat) (n : Int) : Kn := ⟨true, ((if r < 0 then [0, 0, 0, 0] else if kidAt l r (s / 4) < 0 then [0, 0, 0, 0] else ((l[(kidAt l r (s / 4)).toNat]?).map Kn.kids).getD [])).set (s % 4) n⟩
def putTop (l : List Kn) (r : Int) (s : Nat) : Kn := ⟨false, (if r < 0 then [-1, -1, -1, -1] else ((l[r.toNat]?).map Kn.kids).getD []).set (s / 4) (l.length : Int)⟩
def putB (l : List Kn) (r s n : Int) : Bool := askB l r s && decide (0 ≤ n)
def putL (l : List Kn) (r s n : Int) : List Kn := if putB l r s n then l ++ [putLf l r s.toNat n, putTop l r s.toNat] else l
def putR (l : List Kn) (r s n : Int) : Int := if putB l r s n then (l.length : Int) + 1 else r
/-- The knots that a tree has. -/
def hasB (l : List Kn) (r : Int) (i : Nat) : Bool := decide (0 ≤ r) && (decide (r = i) || (List.range 4).any (fun k => decide (kidAt l r k = i)))
def shareN (l : List Kn) (r s : Int) : Nat := (List.range l.length).countP (fun i => hasB l r i && hasB l s i)
def shareT (l : List Kn) (r s : Int) : Int := if arB l && rootB l r && rootB l s then shareN l r s else 0
end Words
end Go.Proofs.YtiicghepilbgfaaGreatDoor

/-
  Trees that share, in plain words: what was put is read, all else is as it was.
-/
namespace Go.Proofs.YtiicghepilbgfaaGreatDoor
namespace Words

theorem arB_of {l : List Kn} (h : ∀ i x, l[i]? = some x → knB l i x = true) : arB l = true := by
  have : ∀ k, arK l k = true := by
    intro k
    induction k with
    | zero => rfl
    | succ k ih =>
      rw [arK, ih, Bool.true_and]
      cases hx : l[k]? with
      | none => rfl
      | some x => exact h k x hx
  exact this _
theorem knB_of {l : List Kn} {i : Nat} {x : Kn} (h4 : x.kids.length = 4) (h : ∀ n ∈ x.kids, kidB l i x.leaf n = true) : knB l i x = true := by
  rw [knB, decide_eq_true h4, Bool.true_and, List.all_eq_true]
  exact h
theorem at_old {l m : List Kn} {i : Nat} (h : i < l.length) : (l ++ m)[i]? = l[i]? := List.getElem?_append_left h
theorem leaf_old {l m : List Kn} {n : Int} (h : n.toNat < l.length) : knLeaf (l ++ m) n = knLeaf l n := by rw [knLeaf, knLeaf, at_old h]
theorem kidAt_old {l m : List Kn} {r : Int} {k : Nat} (h : r.toNat < l.length) : kidAt (l ++ m) r k = kidAt l r k := by rw [kidAt, kidAt, at_old h]
theorem kid_old {l m : List Kn} {i : Nat} {lf : Bool} {n : Int} (h : kidB l i lf n = true) : kidB (l ++ m) i lf n = true := by
  unfold kidB at h ⊢
  cases lf with
  | true => exact h
  | false =>
    simp only [Bool.false_eq_true, if_false, Bool.or_eq_true, Bool.and_eq_true, decide_eq_true_eq] at h ⊢
    rcases h with h | ⟨⟨h1, h2⟩, h3⟩
    · exact .inl h
    · obtain ⟨y, hy, -⟩ := knLeaf_lt h3
      exact .inr ⟨⟨h1, h2⟩, by rw [leaf_old (List.getElem?_eq_some_iff.1 hy).1]; exact h3⟩
theorem kn_old {l m : List Kn} {i : Nat} {x : Kn} (h : knB l i x = true) : knB (l ++ m) i x = true := by
  refine knB_of (knB_len h) (fun n hn => ?_)
  obtain ⟨k, hk⟩ := List.getElem?_of_mem hn
  exact kid_old (knB_kid h hk)
theorem root_old {l m : List Kn} {r : Int} (h : rootB l r = true) : rootB (l ++ m) r = true := by
  unfold rootB at h ⊢
  simp only [Bool.or_eq_true, Bool.and_eq_true, decide_eq_true_eq, Bool.not_eq_true', List.length_append] at h ⊢
  rcases h with h | ⟨⟨h1, h2⟩, h3⟩
  · exact .inl h
  · exact .inr ⟨⟨h1, by omega⟩, by rw [leaf_old (by omega)]; exact h3⟩
/-- Every tree that was is as it was. -/
theorem get_old {l m : List Kn} {r : Int} {s : Nat} (ha : arB l = true) (hr : rootB l r = true) (hs : s ≤ 15) : getP (l ++ m) r s = getP l r s := by
  unfold getP
  by_cases h0 : r < 0
  · rw [if_pos h0, if_pos h0]
  · rw [if_neg h0, if_neg h0]
    obtain ⟨x, hx, hxl⟩ := rootB_pos hr (by omega)
    have hlt := (List.getElem?_eq_some_iff.1 hx).1
    rw [kidAt_old hlt]
    obtain ⟨n, hn, hc⟩ := inner_kid ha hx hxl (show s / 4 < 4 by omega)
    rw [kidAt_some hx hn]
    rcases hc with rfl | ⟨h1, h2, y, hy, -, -⟩
    · rw [if_pos (by omega), if_pos (by omega)]
    · rw [if_neg (by omega), if_neg (by omega), kidAt_old (List.getElem?_eq_some_iff.1 hy).1]

/-- The leaf's numbers ahead of the put, and the root's. -/
def lfOf (l : List Kn) (r : Int) (q : Nat) : List Int := if r < 0 then [0, 0, 0, 0] else if kidAt l r q < 0 then [0, 0, 0, 0] else ((l[(kidAt l r q).toNat]?).map Kn.kids).getD []
def topOf (l : List Kn) (r : Int) : List Int := if r < 0 then [-1, -1, -1, -1] else ((l[r.toNat]?).map Kn.kids).getD []
theorem putLf_eq (l : List Kn) (r : Int) (s : Nat) (n : Int) : putLf l r s n = ⟨true, (lfOf l r (s / 4)).set (s % 4) n⟩ := rfl
theorem putTop_eq (l : List Kn) (r : Int) (s : Nat) : putTop l r s = ⟨false, (topOf l r).set (s / 4) (l.length : Int)⟩ := rfl
theorem lf_nought (k : Nat) (hk : k < 4) : ([0, 0, 0, 0] : List Int)[k]? = some 0 := by
  match k, hk with
  | 0, _ | 1, _ | 2, _ | 3, _ => rfl
theorem top_none (k : Nat) (hk : k < 4) : ([-1, -1, -1, -1] : List Int)[k]? = some (-1) := by
  match k, hk with
  | 0, _ | 1, _ | 2, _ | 3, _ => rfl
theorem lf_at {l : List Kn} {r : Int} {q k : Nat} (ha : arB l = true) (hr : rootB l r = true) (hq : q < 4) (hk : k < 4) : (lfOf l r q)[k]? = some (getP l r (4 * q + k)) ∧ 0 ≤ getP l r (4 * q + k) := by
  have e1 : (4 * q + k) / 4 = q := by omega
  have e2 : (4 * q + k) % 4 = k := by omega
  unfold lfOf getP
  rw [e1, e2]
  by_cases h0 : r < 0
  · rw [if_pos h0, if_pos h0]
    exact ⟨lf_nought k hk, by omega⟩
  · rw [if_neg h0, if_neg h0]
    obtain ⟨x, hx, hxl⟩ := rootB_pos hr (by omega)
    obtain ⟨n, hn, hc⟩ := inner_kid ha hx hxl hq
    rw [kidAt_some hx hn]
    rcases hc with rfl | ⟨h1, h2, y, hy, hyl, -⟩
    · rw [if_pos (by omega), if_pos (by omega)]
      exact ⟨lf_nought k hk, by omega⟩
    · rw [if_neg (by omega), if_neg (by omega), hy]
      obtain ⟨v, hv, hv0⟩ := leaf_kid ha hy hyl hk
      rw [kidAt_some hy hv]
      exact ⟨hv, hv0⟩
theorem lf_len {l : List Kn} {r : Int} {q : Nat} (ha : arB l = true) (hr : rootB l r = true) (hq : q < 4) : (lfOf l r q).length = 4 := by
  unfold lfOf
  by_cases h0 : r < 0
  · rw [if_pos h0]; rfl
  · rw [if_neg h0]
    obtain ⟨x, hx, hxl⟩ := rootB_pos hr (by omega)
    obtain ⟨n, hn, hc⟩ := inner_kid ha hx hxl hq
    rw [kidAt_some hx hn]
    rcases hc with rfl | ⟨h1, h2, y, hy, hyl, h4⟩
    · rw [if_pos (by omega)]; rfl
    · rw [if_neg (by omega), hy]; exact h4
theorem top_at {l : List Kn} {r : Int} {k : Nat} (ha : arB l = true) (hr : rootB l r = true) (hk : k < 4) : ∃ n, (topOf l r)[k]? = some n ∧ (n = -1 ∨ 0 ≤ n ∧ n < l.length ∧ knLeaf l n = true) ∧ n = if r < 0 then -1 else kidAt l r k := by
  unfold topOf
  by_cases h0 : r < 0
  · rw [if_pos h0, if_pos h0]
    exact ⟨-1, top_none k hk, .inl rfl, rfl⟩
  · rw [if_neg h0, if_neg h0]
    obtain ⟨x, hx, hxl⟩ := rootB_pos hr (by omega)
    obtain ⟨n, hn, hc⟩ := inner_kid ha hx hxl hk
    rw [hx]
    refine ⟨n, hn, ?_, (kidAt_some hx hn).symm⟩
    rcases hc with rfl | ⟨h1, h2, y, hy, hyl, -⟩
    · exact .inl rfl
    · have := (List.getElem?_eq_some_iff.1 hy).1
      exact .inr ⟨h1, by omega, by rw [knLeaf_some hy]; exact hyl⟩
theorem top_len {l : List Kn} {r : Int} (ha : arB l = true) (hr : rootB l r = true) : (topOf l r).length = 4 := by
  unfold topOf
  by_cases h0 : r < 0
  · rw [if_pos h0]; rfl
  · rw [if_neg h0]
    obtain ⟨x, hx, hxl⟩ := rootB_pos hr (by omega)
    rw [hx]
    exact knB_len (arB_at ha hx)

section
variable {l : List Kn} {r : Int} {s : Nat} {n : Int}
theorem put_at0 : (l ++ [putLf l r s n, putTop l r s])[l.length]? = some (putLf l r s n) := by simp
theorem put_at1 : (l ++ [putLf l r s n, putTop l r s])[l.length + 1]? = some (putTop l r s) := by simp
theorem kmem_set {α : Type} {xs : List α} {k : Nat} {v x : α} (h : x ∈ xs.set k v) : x = v ∨ ∃ j : Nat, xs[j]? = some x := by
  rcases List.mem_or_eq_of_mem_set h with h | h
  · exact .inr (List.getElem?_of_mem h)
  · exact .inl h
/-- An arena with what was put is right. -/
theorem put_right (ha : arB l = true) (hr : rootB l r = true) (hs : s ≤ 15) (hn : 0 ≤ n) : arB (l ++ [putLf l r s n, putTop l r s]) = true := by
  refine arB_of (fun i x hx => ?_)
  have hi := (List.getElem?_eq_some_iff.1 hx).1
  simp only [List.length_append, List.length_cons, List.length_nil] at hi
  by_cases h1 : i < l.length
  · rw [at_old h1] at hx
    exact kn_old (arB_at ha hx)
  · by_cases h2 : i = l.length
    · subst h2
      rw [put_at0] at hx
      cases hx
      rw [putLf_eq]
      refine knB_of (by rw [List.length_set]; exact lf_len ha hr (by omega)) (fun v hv => ?_)
      simp only [kidB, if_true, decide_eq_true_eq]
      rcases kmem_set hv with rfl | ⟨j, hj⟩
      · exact hn
      · have hjl := (List.getElem?_eq_some_iff.1 hj).1
        rw [lf_len ha hr (by omega)] at hjl
        obtain ⟨e, e0⟩ := lf_at ha hr (show s / 4 < 4 by omega) hjl
        rw [e] at hj
        cases hj
        exact e0
    · have h3 : i = l.length + 1 := by omega
      subst h3
      rw [put_at1] at hx
      cases hx
      rw [putTop_eq]
      refine knB_of (by rw [List.length_set]; exact top_len ha hr) (fun v hv => ?_)
      simp only [kidB, Bool.false_eq_true, if_false, Bool.or_eq_true, Bool.and_eq_true, decide_eq_true_eq]
      rcases kmem_set hv with rfl | ⟨j, hj⟩
      · refine .inr ⟨⟨by omega, by omega⟩, ?_⟩
        have := put_at0 (l := l) (r := r) (s := s) (n := n)
        rw [putTop_eq] at this
        rw [knLeaf, Int.toNat_natCast, this]
        rfl
      · have hjl := (List.getElem?_eq_some_iff.1 hj).1
        rw [top_len ha hr] at hjl
        obtain ⟨m, hm, hc, -⟩ := top_at ha hr hjl
        rw [hm] at hj
        cases hj
        rcases hc with hc | ⟨c1, c2, c3⟩
        · exact .inl hc
        · exact .inr ⟨⟨c1, by omega⟩, by rw [leaf_old (by omega)]; exact c3⟩
theorem put_root : rootB (l ++ [putLf l r s n, putTop l r s]) ((l.length : Int) + 1) = true := by
  unfold rootB
  simp only [Bool.or_eq_true, Bool.and_eq_true, decide_eq_true_eq, Bool.not_eq_true', List.length_append, List.length_cons, List.length_nil]
  refine .inr ⟨⟨by omega, by omega⟩, ?_⟩
  have e : ((l.length : Int) + 1).toNat = l.length + 1 := by omega
  rw [knLeaf, e, put_at1]
  rfl
theorem put_kid {k : Nat} {m : Int} (h : ((topOf l r).set (s / 4) (l.length : Int))[k]? = some m) : kidAt (l ++ [putLf l r s n, putTop l r s]) ((l.length : Int) + 1) k = m := by
  have e : ((l.length : Int) + 1).toNat = l.length + 1 := by omega
  exact kidAt_some (by rw [e]; exact put_at1) h
/-- What was put is read; all else is as it was. -/
theorem put_get (ha : arB l = true) (hr : rootB l r = true) (hs : s ≤ 15) {i : Nat} (hi : i ≤ 15) : getP (l ++ [putLf l r s n, putTop l r s]) ((l.length : Int) + 1) i = if i = s then n else getP l r i := by
  have hq : i / 4 < 4 := by omega
  have hq2 : s / 4 < 4 := by omega
  have e3 : 4 * (i / 4) + i % 4 = i := by omega
  by_cases hd : i / 4 = s / 4
  · have k1 : kidAt (l ++ [putLf l r s n, putTop l r s]) ((l.length : Int) + 1) (i / 4) = l.length := put_kid (by rw [hd, List.getElem?_set_self (by rw [top_len ha hr]; exact hq2)])
    have hgo : getP (l ++ [putLf l r s n, putTop l r s]) ((l.length : Int) + 1) i = kidAt (l ++ [putLf l r s n, putTop l r s]) (l.length : Int) (i % 4) := by
      conv => lhs; unfold getP
      rw [if_neg (by omega), k1, if_neg (by omega)]
    rw [hgo]
    by_cases e : i = s
    · rw [if_pos e]
      refine kidAt_some (by rw [Int.toNat_natCast]; exact put_at0) ?_
      rw [putLf_eq, e]
      exact List.getElem?_set_self (by rw [lf_len ha hr hq2]; omega)
    · rw [if_neg e]
      refine kidAt_some (by rw [Int.toNat_natCast]; exact put_at0) ?_
      rw [putLf_eq]
      show ((lfOf l r (s / 4)).set (s % 4) n)[i % 4]? = _
      rw [List.getElem?_set_ne (by omega), ← hd, (lf_at ha hr hq (show i % 4 < 4 by omega)).1, e3]
  · rw [if_neg (by intro e; rw [e] at hd; exact hd rfl)]
    obtain ⟨m, hm, hc, hme⟩ := top_at ha hr hq
    have k1 : kidAt (l ++ [putLf l r s n, putTop l r s]) ((l.length : Int) + 1) (i / 4) = m := put_kid (by rw [List.getElem?_set_ne (fun e => hd e.symm)]; exact hm)
    conv => lhs; unfold getP
    rw [if_neg (by omega), k1]
    unfold getP
    by_cases h0 : r < 0
    · rw [if_pos h0] at hme
      rw [if_pos h0, hme, if_pos (by omega)]
    · rw [if_neg h0] at hme
      rw [if_neg h0, ← hme]
      rcases hc with rfl | ⟨c1, c2, c3⟩
      · rw [if_pos (by omega), if_pos (by omega)]
      · rw [if_neg (by omega), if_neg (by omega), kidAt_old (by omega)]
end
end Words
end Go.Proofs.YtiicghepilbgfaaGreatDoor
