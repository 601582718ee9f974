/-
  impl's forests: rows of linked knots; the leaf and the tree at a place.
-/
import Derived.Test.YtcnaahajaaifjabPk37
namespace Go.Proofs.Ytcnaahajaaifjab
open Go.RowKit
open Words

/-- A row of pointers that can be read. -/
def PRow (W : World) (fa : Option Addr) (n : Nat) (bs : List Nat) : Prop := bs.length = n ∧ n ≤ maxLen ∧ (0 < n → ∃ g, fa = some ⟨g, 0, none⟩ ∧ g < W.heap.size ∧ ∀ (i b : Nat), bs[i]? = some b → W.cell? ⟨g, i, none⟩ = some (ptr b))
theorem PRow.below {W W' : World} {fa : Option Addr} {n : Nat} {bs : List Nat} (h : PRow W fa n bs) (hb : Below W.heap.size W W') : PRow W' fa n bs := by
  obtain ⟨h1, h2, h3⟩ := h
  refine ⟨h1, h2, fun h0 => ?_⟩
  obtain ⟨g, e, hg, hc⟩ := h3 h0
  have := hb.size
  exact ⟨g, e, by omega, fun i b hi => (hb.cell (show g < W.heap.size from hg)).trans (hc i b hi)⟩
theorem PRow.at {W : World} {fa : Option Addr} {n : Nat} {bs : List Nat} (h : PRow W fa n bs) {i b : Nat} (hi : bs[i]? = some b) : ∃ g, fa = some ⟨g, 0, none⟩ ∧ g < W.heap.size ∧ W.cell? ⟨g, i, none⟩ = some (ptr b) := by
  have := (List.getElem?_eq_some_iff.1 hi).1
  obtain ⟨g, e, hg, hc⟩ := h.2.2 (by have := h.1; omega)
  exact ⟨g, e, hg, hc i b hi⟩
theorem bcellsP_get {l : List Nat} {k b : Nat} (h : l[k]? = some b) : (bcellsP l)[k]? = some (ptr b) := by rw [bcellsP, List.getElem?_map, h]; rfl
theorem bcellsP_snoc (l : List Nat) (b : Nat) : bcellsP l ++ [ptr b] = bcellsP (l ++ [b]) := by simp [bcellsP]
theorem bcellsP_len (l : List Nat) : (bcellsP l).length = l.length := by simp [bcellsP]
theorem PRow.of {W : World} {B : Nat} {v : Value} {bs : List Nat} (h : W.ownsRow B 103 1 v bs.length (bcellsP bs)) : ∃ fa c, v = .slice fa bs.length c ∧ PRow W fa bs.length bs := by
  rcases h.2 with ⟨rfl, h0⟩ | ⟨g, cap, cur, rfl, h1, h2, h3, h4, h5, h6⟩
  · exact ⟨none, 0, by rw [h0], rfl, by rw [h0]; unfold maxLen; omega, fun h => by omega⟩
  · refine ⟨_, _, rfl, rfl, by omega, fun _ => ⟨g, rfl, (Array.getElem?_eq_some_iff.1 h2).1, fun i b hi => ?_⟩⟩
    rw [← addr_at]
    exact h.cells (g := g) rfl i _ (bcellsP_get hi)
/-- The knots of a forest, each in its block. -/
def FAt (W : World) (bs : List Nat) (xs : List Lk) : Prop := bs.length = xs.length ∧ ∀ (i b : Nat) (x : Lk), bs[i]? = some b → xs[i]? = some x → LkAt W b x
theorem FAt.below {W W' : World} {bs : List Nat} {xs : List Lk} (h : FAt W bs xs) (hb : Below W.heap.size W W') : FAt W' bs xs := ⟨h.1, fun i b x h1 h2 => (h.2 i b x h1 h2).blw hb⟩
theorem FAt.get {W : World} {bs : List Nat} {xs : List Lk} (h : FAt W bs xs) {i : Nat} {x : Lk} (hx : xs[i]? = some x) : ∃ b, bs[i]? = some b ∧ LkAt W b x := by
  have := (List.getElem?_eq_some_iff.1 hx).1
  exact ⟨_, List.getElem?_eq_getElem (by rw [h.1]; exact this), h.2 i _ x (List.getElem?_eq_getElem (by rw [h.1]; exact this)) hx⟩
theorem FAt.nil (W : World) : FAt W [] [] := ⟨rfl, fun _ _ _ h => by simp at h⟩
/-- The leaf at a place. -/
def leafP (bs : List Nat) (xs : List Lk) (p : Int) : Option Nat := if p < 0 then none else (xs[p.toNat]?).bind (fun x => if x.leaf = true then bs[p.toNat]? else none)

set_option maxHeartbeats 400000 in
set_option maxRecDepth 100000 in
theorem ileafAt (fa : Option Addr) (n c : Nat) (bs : List Nat) (xs : List Lk) (p : Int) (w : World) (hr : PRow w fa n bs) (hf : FAt w bs xs) :
    Calls Try.prog 102 #[.slice fa n c, .int .i64 p] w fun e w' => e = .returned (pval (leafP bs xs p)) ∧ w' = w := by
  have hl : xs.length = n := by rw [← hf.1]; exact hr.1
  by_cases h0 : p < 0
  · have E : Hid (leafP bs xs p = none) := if_pos h0
    rw [E.out]
    clear hr hf hl E
    go_enter Try.func102, Try.ntmps102
    go_wp2
    go_ret
    exact ⟨rfl, rfl⟩
  · obtain ⟨m, rfl⟩ : ∃ m : Nat, p = (m : Int) := ⟨p.toNat, by omega⟩
    by_cases h1 : (n : Int) ≤ m
    · have E : Hid (leafP bs xs (m : Int) = none) := by
        show _ = _
        rw [leafP, if_neg h0, Int.toNat_natCast, List.getElem?_eq_none (by omega)]
        rfl
      rw [E.out]
      clear hr hf hl E
      go_enter Try.func102, Try.ntmps102
      go_wp2
      go_ret
      exact ⟨rfl, rfl⟩
    · obtain ⟨x, hx⟩ : ∃ x, xs[m]? = some x := ⟨_, List.getElem?_eq_getElem (by omega)⟩
      obtain ⟨b, hb, ha⟩ := hf.get hx
      obtain ⟨g, rfl, -, hc⟩ := hr.at hb
      have c1 := ha.leaf
      unfold ptr at hc
      have m0 : (0 : Int) ≤ m := by omega
      have mn : (m : Int) < n := by omega
      have E : Hid (leafP bs xs (m : Int) = if x.leaf = true then some b else none) := by
        show _ = _
        rw [leafP, if_neg h0, Int.toNat_natCast, hx, hb]
        rfl
      rw [E.out]
      clear hr hf hl E ha hb hx h0 h1
      cases hxl : x.leaf with
      | true =>
        rw [hxl] at c1
        clear hxl
        go_enter Try.func102, Try.ntmps102
        go_wp2
        go_ret
        exact ⟨rfl, rfl⟩
      | false =>
        rw [hxl] at c1
        clear hxl
        go_enter Try.func102, Try.ntmps102
        go_wp2
        go_ret
        exact ⟨rfl, rfl⟩

/-- The tree without anything. -/
def lkNone : Lk := ⟨-1, false, [0, 0, 0, 0], [none, none, none, none], false⟩
set_option maxHeartbeats 400000 in
set_option maxRecDepth 100000 in
theorem itree_new (fv : Value) (w : World) :
    Calls Try.prog 86 #[fv, .int .i64 (-1)] w fun e w' => e = .returned (ptr w.heap.size) ∧ LkAt w' w.heap.size lkNone ∧ Below w.heap.size w w' := by
  go_enter Try.func86, Try.ntmps86
  go_wp2
  go_ret
  exact ⟨rfl, ⟨heap_alloc_new w _, rfl, rfl⟩, (Below.refl _ _).alloc (Nat.le_refl _) _⟩
set_option maxHeartbeats 400000 in
set_option maxRecDepth 100000 in
theorem itree_at (fa : Option Addr) (n c : Nat) (bs : List Nat) (xs : List Lk) (m b : Nat) (x : Lk) (w : World) (hr : PRow w fa n bs) (hf : FAt w bs xs) (hx : xs[m]? = some x) (hb : bs[m]? = some b) (hl : x.leaf = false) :
    Calls Try.prog 86 #[.slice fa n c, .int .i64 m] w fun e w' => e = .returned (ptr b) ∧ w' = w := by
  have hlt := (List.getElem?_eq_some_iff.1 hb).1
  rw [hr.1] at hlt
  obtain ⟨g, rfl, -, hc⟩ := hr.at hb
  have c1 := (hf.2 m b x hb hx).leaf
  rw [hl] at c1
  unfold ptr at hc ⊢
  have m0 : (0 : Int) ≤ m := by omega
  have mn : (m : Int) < n := by omega
  have m1 : ((m : Int) == -1) = false := by rw [beq_eq_false_iff_ne]; omega
  clear hr hf hx hb hl hlt
  go_enter Try.func86, Try.ntmps86
  go_wp2
  go_ret
  exact ⟨rfl, rfl⟩
set_option maxHeartbeats 400000 in
set_option maxRecDepth 100000 in
theorem itree_no (fa : Option Addr) (n c : Nat) (bs : List Nat) (xs : List Lk) (r : Int) (w : World) (hr : PRow w fa n bs) (hf : FAt w bs xs) (h1 : r ≠ -1) (h2 : r < 0 ∨ (n : Int) ≤ r ∨ ∃ x, xs[r.toNat]? = some x ∧ x.leaf = true) :
    Calls Try.prog 86 #[.slice fa n c, .int .i64 r] w fun e w' => e = .returned (.pointer none) ∧ w' = w := by
  have m1 : (r == -1) = false := by rw [beq_eq_false_iff_ne]; exact h1
  by_cases h0 : r < 0
  · clear hr hf h2 h1
    go_enter Try.func86, Try.ntmps86
    go_wp2
    go_ret
    exact ⟨rfl, rfl⟩
  · by_cases h3 : (n : Int) ≤ r
    · clear hr hf h2 h1
      go_enter Try.func86, Try.ntmps86
      go_wp2
      go_ret
      exact ⟨rfl, rfl⟩
    · obtain ⟨x, hx, hl⟩ : ∃ x, xs[r.toNat]? = some x ∧ x.leaf = true := by
        rcases h2 with h | h | h
        · omega
        · omega
        · exact h
      obtain ⟨m, rfl⟩ : ∃ m : Nat, r = (m : Int) := ⟨r.toNat, by omega⟩
      rw [Int.toNat_natCast] at hx
      obtain ⟨b, hb, ha⟩ := hf.get hx
      obtain ⟨g, rfl, -, hc⟩ := hr.at hb
      have c1 := ha.leaf
      rw [hl] at c1
      unfold ptr at hc
      have m0 : (0 : Int) ≤ m := by omega
      have mn : (m : Int) < n := by omega
      clear hr hf hx hb hl ha h2 h1 h0 h3
      go_enter Try.func86, Try.ntmps86
      go_wp2
      go_ret
      exact ⟨rfl, rfl⟩
end Go.Proofs.Ytcnaahajaaifjab
