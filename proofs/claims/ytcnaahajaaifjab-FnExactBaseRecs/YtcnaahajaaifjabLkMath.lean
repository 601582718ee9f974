/-
  Linked knots in plain words: the forest of a right arena.
-/
import Derived.Test.YtcnaahajaaifjabILink
namespace Go.Proofs.Ytcnaahajaaifjab
open Go.RowKit
open Words

/-- The block of a child. -/
def kidP (bs : List Nat) (n : Int) : Option Nat := if n < 0 then none else bs[n.toNat]?
def lkOf (bs : List Nat) (i : Nat) (x : Kn) : Lk := if x.leaf = true then ⟨i, true, x.kids, [none, none, none, none], false⟩ else ⟨i, false, [0, 0, 0, 0], x.kids.map (kidP bs), false⟩
theorem lkOf_place (bs : List Nat) (i : Nat) (x : Kn) : (lkOf bs i x).place = i := by unfold lkOf; split <;> rfl
theorem lkOf_leaf (bs : List Nat) (i : Nat) (x : Kn) : (lkOf bs i x).leaf = x.leaf := by
  unfold lkOf
  cases h : x.leaf with
  | true => rfl
  | false => rfl
theorem lkOf_need (bs : List Nat) (i : Nat) (x : Kn) : (lkOf bs i x).need = false := by unfold lkOf; split <;> rfl
/-- The knots of an arena, linked. -/
def lksOf (bs : List Nat) (l : List Kn) : List Lk := l.mapIdx (lkOf bs)
theorem lksOf_len (bs : List Nat) (l : List Kn) : (lksOf bs l).length = l.length := by simp [lksOf]
theorem lksOf_at (bs : List Nat) (l : List Kn) (i : Nat) : (lksOf bs l)[i]? = (l[i]?).map (lkOf bs i) := by rw [lksOf, List.getElem?_mapIdx]
theorem lksOf_some {bs : List Nat} {l : List Kn} {i : Nat} {x : Kn} (h : l[i]? = some x) : (lksOf bs l)[i]? = some (lkOf bs i x) := by rw [lksOf_at, h]; rfl
theorem lksOf_back {bs : List Nat} {l : List Kn} {i : Nat} {y : Lk} (h : (lksOf bs l)[i]? = some y) : ∃ x, l[i]? = some x ∧ y = lkOf bs i x := by
  rw [lksOf_at, Option.map_eq_some_iff] at h
  obtain ⟨x, h1, h2⟩ := h
  exact ⟨x, h1, h2.symm⟩
theorem lksOf_place {bs : List Nat} {l : List Kn} : ∀ (i : Nat) (y : Lk), (lksOf bs l)[i]? = some y → y.place = i := by
  intro i y h
  obtain ⟨x, -, rfl⟩ := lksOf_back h
  exact lkOf_place _ _ _
theorem map_beq (f : Int → Int) : ∀ l : List Int, (l.map f == l) = l.all (fun n => f n == n)
  | [] => rfl
  | a :: l => by
    have := map_beq f l
    simp only [List.map_cons, List.all_cons, ← this]
    rfl
/-- Is there a leaf at n, of the first k? -/
theorem leafP_is {bs : List Nat} {l : List Kn} {k : Nat} (hb : bs.length = k) (hk : k ≤ l.length) (n : Int) : (leafP bs (lksOf bs (l.take k)) n).isSome = (decide (0 ≤ n) && decide (n < k) && knLeaf l n) := by
  unfold leafP
  by_cases h0 : n < 0
  · rw [if_pos h0, decide_eq_false (by omega)]; rfl
  · rw [if_neg h0, decide_eq_true (by omega : 0 ≤ n), Bool.true_and, lksOf_at]
    by_cases h1 : n < k
    · have hl : n.toNat < l.length := by omega
      rw [decide_eq_true h1, Bool.true_and, List.getElem?_take, if_pos (by omega), List.getElem?_eq_getElem hl, knLeaf_some (List.getElem?_eq_getElem hl)]
      simp only [Option.map_some, Option.bind_some, lkOf_leaf]
      cases hq : l[n.toNat].leaf with
      | true => rw [if_pos rfl, List.getElem?_eq_getElem (by omega)]; rfl
      | false => rfl
    · rw [decide_eq_false h1, Bool.false_and, List.getElem?_take, if_neg (by omega)]
      rfl
/-- A knot is linked just where it is right. -/
theorem linkOk_is {bs : List Nat} {l : List Kn} {k : Nat} (hb : bs.length = k) (hk : k ≤ l.length) (x : Kn) : linkOk bs (lksOf bs (l.take k)) x.leaf x.kids = knB l k x := by
  rw [linkOk, knB]
  congr 1
  rw [kidsMade]
  cases hl : x.leaf with
  | true =>
    rw [if_pos rfl, map_beq]
    refine List.all_congr rfl (fun n => ?_)
    simp only [kidB, nn, if_true]
    by_cases h : n < 0
    · rw [if_pos h, decide_eq_false (by omega)]
      simp; omega
    · rw [if_neg h, decide_eq_true (by omega)]
      simp
  | false =>
    rw [if_neg (by decide), map_beq]
    refine List.all_congr rfl (fun n => ?_)
    simp only [kidB, Bool.false_eq_true, if_false, leafP_is hb hk]
    cases hq : (decide (0 ≤ n) && decide (n < k) && knLeaf l n) with
    | true => simp
    | false =>
      simp only [Bool.false_eq_true, if_false, Bool.or_false]
      by_cases e : n = -1
      · simp [e]
      · rw [decide_eq_false e, beq_eq_false_iff_ne]
        exact fun q => e q.symm
/-- .. and then it is the arena's own. -/
theorem lkMade_is {bs : List Nat} {l : List Kn} {k : Nat} (x : Kn) (h : linkOk bs (lksOf bs (l.take k)) x.leaf x.kids = true) : lkMade bs (lksOf bs (l.take k)) k x.leaf x.kids = lkOf bs k x := by
  rw [linkOk, Bool.and_eq_true] at h
  have h2 := h.2
  unfold kidsMade at h2
  unfold lkMade lkOf
  cases hl : x.leaf with
  | true =>
    rw [hl, if_pos rfl] at h2
    rw [if_pos rfl, if_pos rfl]
    rw [eq_of_beq h2]
  | false =>
    rw [hl, if_neg (by decide), map_beq, List.all_eq_true] at h2
    rw [if_neg (by decide), if_neg (by decide)]
    congr 1
    refine List.map_congr_left (fun n hn => ?_)
    have := h2 n hn
    unfold kidP
    cases hq : leafP bs (lksOf bs (l.take k)) n with
    | none =>
      rw [hq] at this
      have e : -1 = n := by simpa using this
      rw [if_pos (by omega)]
    | some b =>
      obtain ⟨h0, h1, -⟩ := leafP_some hq
      rw [if_neg (by omega), h1]
theorem kidP_ext {bs cs : List Nat} {n : Int} (h : n < bs.length) : kidP (bs ++ cs) n = kidP bs n := by
  unfold kidP
  split
  · rfl
  · rw [List.getElem?_append_left (by omega)]
theorem lkOf_ext {bs cs : List Nat} {l : List Kn} {i : Nat} {x : Kn} (hi : i ≤ bs.length) (h : knB l i x = true) : lkOf (bs ++ cs) i x = lkOf bs i x := by
  unfold lkOf
  cases hl : x.leaf with
  | true => rfl
  | false =>
    rw [if_neg (by decide), if_neg (by decide)]
    congr 1
    refine List.map_congr_left (fun n hn => ?_)
    obtain ⟨k, hk⟩ := List.getElem?_of_mem hn
    have := knB_kid h hk
    rw [kidB, hl] at this
    simp only [Bool.false_eq_true, if_false, Bool.or_eq_true, Bool.and_eq_true, decide_eq_true_eq] at this
    exact kidP_ext (by omega)
theorem lksOf_ext {bs cs : List Nat} {l : List Kn} {k : Nat} (hb : bs.length = k) (h : arK l k = true) : lksOf (bs ++ cs) (l.take k) = lksOf bs (l.take k) := by
  apply List.ext_getElem?
  intro i
  rw [lksOf_at, lksOf_at]
  cases hx : (l.take k)[i]? with
  | none => rfl
  | some x =>
    have hi := (List.getElem?_eq_some_iff.1 hx).1
    rw [List.length_take] at hi
    rw [List.getElem?_take, if_pos (by omega)] at hx
    have := arK_le (show i + 1 ≤ k by omega) h
    rw [arK_succ hx, Bool.and_eq_true] at this
    rw [Option.map_some, Option.map_some, lkOf_ext (by omega) this.2]
theorem lksOf_snoc {bs : List Nat} {b : Nat} {l : List Kn} {k : Nat} {x : Kn} (hb : bs.length = k) (hx : l[k]? = some x) (h : arK l (k + 1) = true) : lksOf (bs ++ [b]) (l.take (k + 1)) = lksOf bs (l.take k) ++ [lkOf bs k x] := by
  have hk := (List.getElem?_eq_some_iff.1 hx).1
  have h' := h
  rw [arK_succ hx, Bool.and_eq_true] at h'
  have e : l.take (k + 1) = l.take k ++ [x] := by rw [List.take_succ_eq_append_getElem hk, (List.getElem?_eq_some_iff.1 hx).2]
  have e2 : (l.take k).length = k := by rw [List.length_take]; omega
  have := lksOf_ext (cs := [b]) hb h'.1
  rw [e]
  show (l.take k ++ [x]).mapIdx _ = _
  rw [List.mapIdx_append, e2]
  show lksOf (bs ++ [b]) (l.take k) ++ _ = _
  rw [this]
  simp only [List.mapIdx_cons, List.mapIdx_nil, Nat.zero_add]
  rw [lkOf_ext (by omega) h'.2]
/-- The blocks of a forest ascend. -/
theorem asc_snoc {bs : List Nat} {b : Nat} (h : bs.Pairwise (· < ·)) (hb : ∀ c ∈ bs, c < b) : (bs ++ [b]).Pairwise (· < ·) :=
  List.pairwise_append.2 ⟨h, List.pairwise_singleton _ _, fun a ha c hc => by simp only [List.mem_singleton] at hc; rw [hc]; exact hb a ha⟩
/-- A forest that a call owns. -/
def Forest (W : World) (lo : Nat) (v : Value) (bs : List Nat) (L : List Kn) : Prop :=
  W.ownsRow lo 103 1 v L.length (bcellsP bs) ∧ bs.length = L.length ∧ FAt W bs (lksOf bs L) ∧ bs.Pairwise (· < ·) ∧ ∀ b ∈ bs, lo ≤ b
theorem FAt.grown {W y : World} {bs : List Nat} {xs : List Lk} {row : Option Nat} (h : FAt W bs xs) (hg : W.grownBy y row) (hr : ∀ g, row = some g → ∃ cs, W.heap[g]? = some (.cells cs 103 (0, 0))) : FAt y bs xs := by
  refine ⟨h.1, fun i b x h1 h2 => ?_⟩
  have hx := h.2 i b x h1 h2
  refine ⟨(hg.block b hx.lt (fun e => ?_)).trans hx.1, hx.2⟩
  obtain ⟨cs, q⟩ := hr b e.symm
  rw [hx.1] at q
  injection q with q
  injection q with _ q
  simp at q
theorem FAt.snoc {W : World} {bs : List Nat} {xs : List Lk} {b : Nat} {x : Lk} (h : FAt W bs xs) (hx : LkAt W b x) : FAt W (bs ++ [b]) (xs ++ [x]) := by
  refine ⟨by rw [List.length_append, List.length_append, h.1]; rfl, fun i c y h1 h2 => ?_⟩
  by_cases hi : i < bs.length
  · rw [List.getElem?_append_left hi] at h1
    rw [List.getElem?_append_left (by rw [← h.1]; exact hi)] at h2
    exact h.2 i c y h1 h2
  · have hl := (List.getElem?_eq_some_iff.1 h1).1
    rw [List.length_append] at hl
    simp only [List.length_cons, List.length_nil] at hl
    have e : i = bs.length := by omega
    subst e
    simp at h1
    rw [h.1] at h2
    simp at h2
    subst h1 h2
    exact hx
theorem FAt.all_lt {W : World} {bs : List Nat} {xs : List Lk} (h : FAt W bs xs) : ∀ b ∈ bs, b < W.heap.size := by
  intro b hb
  obtain ⟨i, hi⟩ := List.getElem?_of_mem hb
  have hl := (List.getElem?_eq_some_iff.1 hi).1
  exact (h.2 i b _ hi (List.getElem?_eq_getElem (by rw [← h.1]; exact hl))).lt
end Go.Proofs.Ytcnaahajaaifjab
