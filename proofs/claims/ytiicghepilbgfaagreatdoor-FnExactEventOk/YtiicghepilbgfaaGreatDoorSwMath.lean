/-
  Arenas that are swept, in plain words.
-/
import Derived.Test.YtiicghepilbgfaaGreatDoorPk13
namespace Go.Proofs.YtiicghepilbgfaaGreatDoor
namespace Words

/-- Has one of the trees the i'th knot? -/
def swU (l : List Kn) (rs : List Int) (i : Nat) : Bool := rs.any (fun r => hasB l r i)
/-- How many knots ahead of i are kept. -/
def swN (u : Nat → Bool) (i : Nat) : Nat := (List.range i).countP u
theorem swN_zero (u : Nat → Bool) : swN u 0 = 0 := rfl
theorem swN_succ (u : Nat → Bool) (i : Nat) : swN u (i + 1) = swN u i + (if u i = true then 1 else 0) := by
  rw [swN, swN, List.range_succ, List.countP_append, List.countP_singleton]
theorem swN_le (u : Nat → Bool) (i : Nat) : swN u i ≤ i := by
  induction i with
  | zero => exact Nat.le_refl _
  | succ i ih => rw [swN_succ]; split <;> omega
theorem swN_mono (u : Nat → Bool) {i j : Nat} (h : i ≤ j) : swN u i ≤ swN u j := by
  induction j with
  | zero => have : i = 0 := by omega
            subst this; exact Nat.le_refl _
  | succ j ih =>
    by_cases e : i = j + 1
    · subst e; exact Nat.le_refl _
    · have := ih (by omega)
      rw [swN_succ]
      omega
theorem swN_lt (u : Nat → Bool) {i j : Nat} (h : i < j) (hu : u i = true) : swN u i < swN u j := by
  have := swN_mono u (show i + 1 ≤ j by omega)
  rw [swN_succ, if_pos hu] at this
  omega
theorem swN_all {u : Nat → Bool} {n : Nat} (h : ∀ j, j < n → u j = true) : ∀ i, i ≤ n → swN u i = i := by
  intro i
  induction i with
  | zero => intro _; rfl
  | succ i ih => intro hi; rw [swN_succ, ih (by omega), if_pos (h i (by omega))]
theorem swN_congr {u v : Nat → Bool} {n : Nat} (h : ∀ j, j < n → u j = v j) : swN u n = swN v n := by
  induction n with
  | zero => rfl
  | succ n ih => rw [swN_succ, swN_succ, ih (fun j hj => h j (by omega)), h n (by omega)]
/-- The place of a child or of a root then. -/
def swP (u : Nat → Bool) (n : Int) : Int := if n < 0 then n else (swN u n.toNat : Int)
theorem swP_neg (u : Nat → Bool) {n : Int} (h : n < 0) : swP u n = n := if_pos h
theorem swP_pos (u : Nat → Bool) (n : Nat) : swP u (n : Int) = (swN u n : Int) := by rw [swP, if_neg (by omega), Int.toNat_natCast]
def swX (u : Nat → Bool) (x : Kn) : Kn := if x.leaf = true then x else ⟨false, x.kids.map (swP u)⟩
theorem swX_leaf (u : Nat → Bool) (x : Kn) : (swX u x).leaf = x.leaf := by
  unfold swX
  cases h : x.leaf with
  | true => rw [if_pos rfl]; exact h
  | false => rfl
/-- What is left of the first k knots. -/
def swK (u : Nat → Bool) (l : List Kn) : Nat → List Kn
  | 0 => []
  | k + 1 => if u k = true then swK u l k ++ ((l[k]?).map (swX u)).toList else swK u l k
theorem swK_no {u : Nat → Bool} {l : List Kn} {k : Nat} (h : u k = false) : swK u l (k + 1) = swK u l k := by rw [swK, h, if_neg (by decide)]
theorem swK_yes {u : Nat → Bool} {l : List Kn} {k : Nat} {x : Kn} (h : u k = true) (hx : l[k]? = some x) : swK u l (k + 1) = swK u l k ++ [swX u x] := by rw [swK, if_pos h, hx]; rfl
theorem swK_len {u : Nat → Bool} {l : List Kn} {k : Nat} (h : k ≤ l.length) : (swK u l k).length = swN u k := by
  induction k with
  | zero => rfl
  | succ k ih =>
    rw [swN_succ]
    cases hu : u k with
    | false => rw [swK_no hu, ih (by omega)]; rfl
    | true => rw [swK_yes hu (List.getElem?_eq_getElem (show k < l.length by omega)), List.length_append, ih (by omega)]; rfl
theorem swK_at {u : Nat → Bool} {l : List Kn} {i k : Nat} {x : Kn} (hk : k ≤ l.length) (hi : i < k) (hu : u i = true) (hx : l[i]? = some x) : (swK u l k)[swN u i]? = some (swX u x) := by
  induction k with
  | zero => omega
  | succ k ih =>
    by_cases e : i = k
    · subst e
      rw [swK_yes hu hx, List.getElem?_append_right (by rw [swK_len (by omega)]; exact Nat.le_refl _), swK_len (by omega), Nat.sub_self]
      rfl
    · have h := ih (by omega) (by omega)
      cases hu2 : u k with
      | false => rw [swK_no hu2]; exact h
      | true =>
        rw [swK_yes hu2 (List.getElem?_eq_getElem (show k < l.length by omega)), List.getElem?_append_left (by rw [swK_len (by omega)]; exact swN_lt u (by omega) hu)]
        exact h
theorem swN_back {u : Nat → Bool} {j k : Nat} (h : j < swN u k) : ∃ i, i < k ∧ u i = true ∧ swN u i = j := by
  induction k with
  | zero => rw [swN_zero] at h; omega
  | succ k ih =>
    by_cases e : j < swN u k
    · obtain ⟨i, h1, h2⟩ := ih e
      exact ⟨i, by omega, h2⟩
    · rw [swN_succ] at h
      cases hu : u k with
      | false => rw [hu, if_neg (by decide)] at h; omega
      | true => rw [hu, if_pos rfl] at h; exact ⟨k, by omega, hu, by omega⟩
def swL (l : List Kn) (rs : List Int) : List Kn := swK (swU l rs) l l.length
def swB (l : List Kn) (rs : List Int) : Bool := arB l && rs.all (rootB l)
def sweepL (l : List Kn) (rs : List Int) : List Kn := if swB l rs = true then swL l rs else l
def sweepR (l : List Kn) (rs : List Int) : List Int := if swB l rs = true then rs.map (swP (swU l rs)) else rs
theorem swR_len (l : List Kn) (rs : List Int) : (sweepR l rs).length = rs.length := by unfold sweepR; split <;> simp

section
variable {l : List Kn} {rs : List Int}
/-- Right trees of a right arena. -/
def TrsOk (l : List Kn) (rs : List Int) : Prop := arB l = true ∧ ∀ r ∈ rs, rootB l r = true
theorem swB_of (h : TrsOk l rs) : swB l rs = true := by rw [swB, h.1, Bool.true_and, List.all_eq_true]; exact h.2
theorem swB_ok (h : swB l rs = true) : TrsOk l rs := by rw [swB, Bool.and_eq_true, List.all_eq_true] at h; exact h
theorem swU_root {r : Int} (hr : r ∈ rs) (h0 : 0 ≤ r) : swU l rs r.toNat = true := by
  rw [swU, List.any_eq_true]
  exact ⟨r, hr, (has_iff h0).2 (.inl (by omega))⟩
theorem swU_of {r : Int} {i : Nat} (hr : r ∈ rs) (h : hasB l r i = true) : swU l rs i = true := by
  rw [swU, List.any_eq_true]
  exact ⟨r, hr, h⟩
theorem has_pos {r : Int} {i : Nat} (h : hasB l r i = true) : 0 ≤ r := by
  by_cases h0 : 0 ≤ r
  · exact h0
  · rw [has_none (by omega)] at h; cases h
/-- The knots that a tree has are its root and leaves that there are. -/
theorem has_in (ha : arB l = true) {r : Int} (hr : rootB l r = true) {i : Nat} (h : hasB l r i = true) : i < l.length ∧ (r = i ∨ knLeaf l i = true) := by
  have h0 := has_pos h
  obtain ⟨x, hx, hxl⟩ := rootB_pos hr h0
  have hlt := (List.getElem?_eq_some_iff.1 hx).1
  rcases (has_iff h0).1 h with e | ⟨k, hk, e⟩
  · exact ⟨by omega, .inl e⟩
  · obtain ⟨n, hn, hc⟩ := inner_kid ha hx hxl hk
    rw [kidAt_some hx hn] at e
    rcases hc with q | ⟨q1, q2, y, hy, hyl, -⟩
    · omega
    · have : n.toNat = i := by omega
      rw [this] at hy
      have := (List.getElem?_eq_some_iff.1 hy).1
      exact ⟨this, .inr (by rw [knLeaf_some (y := y) (by simpa using hy)]; exact hyl)⟩
/-- An inner knot that is kept is one of the roots. -/
theorem swU_inner (h : TrsOk l rs) {i : Nat} {x : Kn} (hx : l[i]? = some x) (hl : x.leaf = false) (hu : swU l rs i = true) : (i : Int) ∈ rs := by
  rw [swU, List.any_eq_true] at hu
  obtain ⟨r, hr, hh⟩ := hu
  rcases (has_in h.1 (h.2 r hr) hh).2 with e | e
  · rw [← e]; exact hr
  · rw [knLeaf_some (y := x) (by simpa using hx), hl] at e
    cases e
/-- What a kept knot has is kept. -/
theorem swU_kid (h : TrsOk l rs) {i : Nat} {x : Kn} (hx : l[i]? = some x) (hl : x.leaf = false) (hu : swU l rs i = true) {k n : Nat} (hk : k < 4) (hn : x.kids[k]? = some (n : Int)) : swU l rs n = true := by
  have hr := swU_inner h hx hl hu
  refine swU_of hr ((has_iff (by omega)).2 (.inr ⟨k, hk, ?_⟩))
  exact kidAt_some (by rw [Int.toNat_natCast]; exact hx) hn
theorem swL_len : (swL l rs).length = swN (swU l rs) l.length := swK_len (Nat.le_refl _)
theorem swL_at {i : Nat} {x : Kn} (hx : l[i]? = some x) (hu : swU l rs i = true) : (swL l rs)[swN (swU l rs) i]? = some (swX (swU l rs) x) := swK_at (Nat.le_refl _) (List.getElem?_eq_some_iff.1 hx).1 hu hx
theorem swL_back {j : Nat} {y : Kn} (hy : (swL l rs)[j]? = some y) : ∃ i x, l[i]? = some x ∧ swU l rs i = true ∧ swN (swU l rs) i = j ∧ y = swX (swU l rs) x := by
  have hj := (List.getElem?_eq_some_iff.1 hy).1
  rw [swL_len] at hj
  obtain ⟨i, h1, h2, h3⟩ := swN_back hj
  have hx := List.getElem?_eq_getElem h1
  refine ⟨i, _, hx, h2, h3, ?_⟩
  have := swL_at hx h2
  rw [h3, hy] at this
  exact Option.some.inj this
theorem swX_kid {u : Nat → Bool} {x : Kn} (hl : x.leaf = false) {k : Nat} {n : Int} (hn : x.kids[k]? = some n) : (swX u x).kids[k]? = some (swP u n) := by
  rw [swX, if_neg (by rw [hl]; decide)]
  show (x.kids.map (swP u))[k]? = _
  rw [List.getElem?_map, hn]
  rfl
/-- What is swept is right. -/
theorem sw_right (h : TrsOk l rs) : arB (swL l rs) = true := by
  refine arB_of (fun j y hy => ?_)
  obtain ⟨i, x, hx, hu, hj, rfl⟩ := swL_back hy
  have hb := arB_at h.1 hx
  have h4 := knB_len hb
  cases hl : x.leaf with
  | true =>
    have e : swX (swU l rs) x = x := by rw [swX, if_pos hl]
    rw [e]
    refine knB_of h4 (fun n hn => ?_)
    obtain ⟨k, hk⟩ := List.getElem?_of_mem hn
    have := knB_kid hb hk
    rw [kidB, if_pos hl] at this
    rw [kidB, if_pos hl]
    exact this
  | false =>
    have e : swX (swU l rs) x = ⟨false, x.kids.map (swP (swU l rs))⟩ := by rw [swX, if_neg (by rw [hl]; decide)]
    rw [e]
    refine knB_of (by rw [List.length_map]; exact h4) (fun n hn => ?_)
    obtain ⟨m, hm, rfl⟩ := List.mem_map.1 hn
    obtain ⟨k, hk⟩ := List.getElem?_of_mem hm
    have hk4 := (List.getElem?_eq_some_iff.1 hk).1
    obtain ⟨m', hm', hc⟩ := inner_kid h.1 (r := (i : Int)) (by rw [Int.toNat_natCast]; exact hx) hl (show k < 4 by omega)
    rw [hk] at hm'
    cases hm'
    rw [kidB, if_neg (show ¬ (false = true) by decide)]
    simp only [Bool.or_eq_true, Bool.and_eq_true, decide_eq_true_eq]
    rcases hc with rfl | ⟨c1, c2, z, hz, hzl, -⟩
    · exact .inl (swP_neg _ (by omega))
    · obtain ⟨q, rfl⟩ : ∃ q : Nat, m = (q : Int) := ⟨m.toNat, by omega⟩
      simp only [Int.toNat_natCast] at c2 hz
      have huq := swU_kid h hx hl hu (show k < 4 by omega) hk
      rw [swP_pos]
      have := swN_lt (swU l rs) (show q < i by omega) huq
      refine .inr ⟨⟨by omega, by omega⟩, ?_⟩
      rw [knLeaf_some (y := swX (swU l rs) z) (by rw [Int.toNat_natCast]; exact swL_at hz huq), swX_leaf]
      exact hzl
/-- The roots are roots. -/
theorem sw_root (h : TrsOk l rs) {r : Int} (hr : r ∈ rs) : rootB (swL l rs) (swP (swU l rs) r) = true := by
  unfold rootB
  simp only [Bool.or_eq_true, Bool.and_eq_true, decide_eq_true_eq, Bool.not_eq_true']
  by_cases h0 : r < 0
  · left
    rw [swP_neg _ h0]
    have := h.2 r hr
    unfold rootB at this
    simp only [Bool.or_eq_true, Bool.and_eq_true, decide_eq_true_eq] at this
    omega
  · right
    obtain ⟨x, hx, hxl⟩ := rootB_pos (h.2 r hr) (by omega)
    have hu := swU_root (l := l) hr (by omega)
    obtain ⟨q, rfl⟩ : ∃ q : Nat, r = (q : Int) := ⟨r.toNat, by omega⟩
    simp only [Int.toNat_natCast] at hx hu
    have ha := swL_at hx hu
    have := (List.getElem?_eq_some_iff.1 ha).1
    rw [swP_pos]
    refine ⟨⟨by omega, by omega⟩, ?_⟩
    rw [knLeaf_some (y := swX (swU l rs) x) (by rw [Int.toNat_natCast]; exact ha), swX_leaf]
    exact hxl
theorem sw_trs (h : TrsOk l rs) : TrsOk (swL l rs) (rs.map (swP (swU l rs))) := ⟨sw_right h, fun r hr => by
  obtain ⟨q, hq, rfl⟩ := List.mem_map.1 hr
  exact sw_root h hq⟩
/-- A root's children then. -/
theorem sw_kidAt (h : TrsOk l rs) {r k : Nat} (hr : (r : Int) ∈ rs) (hk : k < 4) : kidAt (swL l rs) (swN (swU l rs) r : Int) k = swP (swU l rs) (kidAt l (r : Int) k) := by
  obtain ⟨x, hx, hxl⟩ := rootB_pos (h.2 _ hr) (by omega)
  have hu := swU_root (l := l) hr (by omega)
  simp only [Int.toNat_natCast] at hx hu
  have ha := swL_at hx hu
  obtain ⟨n, hn, -⟩ := inner_kid h.1 (r := (r : Int)) (by rw [Int.toNat_natCast]; exact hx) hxl hk
  rw [kidAt_some (by rw [Int.toNat_natCast]; exact ha) (swX_kid hxl hn), kidAt_some (by rw [Int.toNat_natCast]; exact hx) hn]
/-- Each tree has what it had. -/
theorem sw_get (h : TrsOk l rs) {r : Int} (hr : r ∈ rs) {s : Nat} (hs : s ≤ 15) : getP (swL l rs) (swP (swU l rs) r) s = getP l r s := by
  unfold getP
  by_cases h0 : r < 0
  · rw [swP_neg _ h0, if_pos h0, if_pos h0]
  · obtain ⟨q, rfl⟩ : ∃ q : Nat, r = (q : Int) := ⟨r.toNat, by omega⟩
    obtain ⟨x, hx, hxl⟩ := rootB_pos (h.2 _ hr) (by omega)
    have hu := swU_root (l := l) hr (by omega)
    rw [Int.toNat_natCast] at hx hu
    rw [swP_pos, if_neg (show ¬ (swN (swU l rs) q : Int) < 0 by omega), if_neg h0, sw_kidAt h hr (show s / 4 < 4 by omega)]
    obtain ⟨n, hn, hc⟩ := inner_kid h.1 (r := (q : Int)) (by rw [Int.toNat_natCast]; exact hx) hxl (show s / 4 < 4 by omega)
    rw [kidAt_some (by rw [Int.toNat_natCast]; exact hx) hn]
    rcases hc with rfl | ⟨c1, c2, y, hy, hyl, -⟩
    · rw [swP_neg _ (show (-1 : Int) < 0 by omega), if_pos (show (-1 : Int) < 0 by omega), if_pos (show (-1 : Int) < 0 by omega)]
    · obtain ⟨j, rfl⟩ : ∃ j : Nat, n = (j : Int) := ⟨n.toNat, by omega⟩
      rw [Int.toNat_natCast] at hy
      have huj := swU_kid h hx hxl hu (show s / 4 < 4 by omega) hn
      obtain ⟨v, hv, -⟩ := leaf_kid h.1 hy hyl (show s % 4 < 4 by omega)
      have e : swX (swU l rs) y = y := by rw [swX, if_pos hyl]
      have hz := swL_at hy huj
      rw [e] at hz
      rw [swP_pos, if_neg (show ¬ (swN (swU l rs) j : Int) < 0 by omega), if_neg (show ¬ (j : Int) < 0 by omega), kidAt_some (by rw [Int.toNat_natCast]; exact hz) hv, kidAt_some (by rw [Int.toNat_natCast]; exact hy) hv]
theorem sw_all (h : TrsOk l rs) {r : Int} (hr : r ∈ rs) : allT (swL l rs) (swP (swU l rs) r) = allT l r :=
  all_eq (fun i hi => by rw [getT_ok ⟨sw_right h, sw_root h hr⟩ hi, getT_ok ⟨h.1, h.2 r hr⟩ hi]; exact sw_get h hr hi)
/-- No knot is left that no tree has. -/
theorem sw_used (h : TrsOk l rs) {j : Nat} (hj : j < (swL l rs).length) : swU (swL l rs) (rs.map (swP (swU l rs))) j = true := by
  rw [swL_len] at hj
  obtain ⟨i, -, hu, rfl⟩ := swN_back hj
  obtain ⟨r, hr, hh⟩ := List.any_eq_true.1 hu
  have h0 := has_pos hh
  obtain ⟨q, rfl⟩ : ∃ q : Nat, r = (q : Int) := ⟨r.toNat, by omega⟩
  refine swU_of (List.mem_map.2 ⟨_, hr, rfl⟩) ?_
  rw [swP_pos, has_iff (by omega)]
  rcases (has_iff h0).1 hh with e | ⟨k, hk, e⟩
  · left
    have : q = i := by omega
    rw [this]
  · right
    exact ⟨k, hk, by rw [sw_kidAt h hr hk, e, swP_pos]⟩
theorem sw_again (h : TrsOk l rs) : (sweepL (swL l rs) (rs.map (swP (swU l rs)))).length = (swL l rs).length ∧ sweepR (swL l rs) (rs.map (swP (swU l rs))) = rs.map (swP (swU l rs)) := by
  have hb := swB_of (sw_trs h)
  have hn := swN_all (fun j hj => sw_used h hj)
  refine ⟨by rw [sweepL, if_pos hb, swL_len, hn _ (Nat.le_refl _)], ?_⟩
  rw [sweepR, if_pos hb]
  conv => rhs; rw [← List.map_id (rs.map (swP (swU l rs)))]
  refine List.map_congr_left (fun n hm => ?_)
  show _ = n
  by_cases h0 : n < 0
  · exact swP_neg _ h0
  · obtain ⟨q, rfl⟩ : ∃ q : Nat, n = (q : Int) := ⟨n.toNat, by omega⟩
    obtain ⟨x, hx, -⟩ := rootB_pos ((sw_trs h).2 _ hm) (by omega)
    rw [Int.toNat_natCast] at hx
    have := (List.getElem?_eq_some_iff.1 hx).1
    rw [swP_pos, hn q (by omega)]
theorem sw_less : (swL l rs).length ≤ l.length := by rw [swL_len]; exact swN_le _ _
end
end Words
end Go.Proofs.YtiicghepilbgfaaGreatDoor
