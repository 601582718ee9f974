/-
  TrMath2; LkN; ILeaf
-/
import Derived.Test.YtfmnaidhfgmemaaGreatDoorPk1
namespace Go.Proofs.YtfmnaidhfgmemaaGreatDoor
namespace Words
theorem lf_nought (k : Nat) (hk : k < 4) : ([0, 0, 0, 0] : List Int)[k]? = some 0 := by
  match k, hk with
  | 0, _ | 1, _ | 2, _ | 3, _ => rfl
section
variable {l : List Kn} {r : Int} {s : Nat} {n : Int}
end
end Words
end Go.Proofs.YtfmnaidhfgmemaaGreatDoor

namespace Go.Proofs.YtfmnaidhfgmemaaGreatDoor
open Go.RowKit
open Words
structure Lk where
  place : Int
  leaf : Bool
  nums : List Int
  tos : List (Option Nat)
  need : Bool
def ptr (b : Nat) : Value := .pointer (some ⟨b, 0, none⟩)
def pval : Option Nat → Value
  | none => .pointer none
  | some b => ptr b
def pcells (l : List (Option Nat)) : List Value := l.map pval
def bcellsP (l : List Nat) : List Value := l.map ptr
def lkcells (x : Lk) : List Value := [.int .i64 x.place, .bool x.leaf] ++ (icells x.nums ++ (pcells x.tos ++ [.bool x.need]))
def Lk.Four (x : Lk) : Prop := x.nums.length = 4 ∧ x.tos.length = 4
def LkAt (W : World) (b : Nat) (x : Lk) : Prop := W.heap[b]? = some (.cells (lkcells x).toArray 196 (0, 0)) ∧ x.Four
theorem LkAt.lt {W : World} {b : Nat} {x : Lk} (h : LkAt W b x) : b < W.heap.size := (Array.getElem?_eq_some_iff.1 h.1).1
theorem LkAt.below {W W' : World} {b C : Nat} {x : Lk} (h : LkAt W b x) (hb : Below C W W') (hC : b < C) : LkAt W' b x := ⟨(hb.block b hC).trans h.1, h.2⟩
theorem LkAt.blw {W W' : World} {b : Nat} {x : Lk} (h : LkAt W b x) (hb : Below W.heap.size W W') : LkAt W' b x := h.below hb h.lt
theorem LkAt.frozen {W : World} {b : Nat} {x : Lk} (h : LkAt W b x) (o : Nat) : W.frozen? ⟨b, o, none⟩ = false := frozen_of_row _ _ o _ _ h.1
theorem LkAt.cell {W : World} {b k : Nat} {x : Lk} {v : Value} (h : LkAt W b x) (hk : (lkcells x)[k]? = some v) : W.cell? ⟨b, k, none⟩ = some v := by
  rw [cell_of_row _ _ k _ _ _ h.1]
  simpa using hk
theorem LkAt.place {W : World} {b : Nat} {x : Lk} (h : LkAt W b x) : W.cell? ⟨b, 0, none⟩ = some (.int .i64 x.place) := h.cell rfl
theorem LkAt.leaf {W : World} {b : Nat} {x : Lk} (h : LkAt W b x) : W.cell? ⟨b, 1, none⟩ = some (.bool x.leaf) := h.cell rfl
theorem lk_num {x : Lk} {k : Nat} {n : Int} (hk : x.nums[k]? = some n) : (lkcells x)[2 + k]? = some (.int .i64 n) := by
  have hl := (List.getElem?_eq_some_iff.1 hk).1
  rw [lkcells, List.getElem?_append_right (by simp), List.getElem?_append_left (by simp [icells]; omega)]
  simpa using icells_get hk
theorem lk_to {x : Lk} (h4 : x.Four) {k : Nat} {o : Option Nat} (hk : x.tos[k]? = some o) : (lkcells x)[6 + k]? = some (pval o) := by
  have hl := (List.getElem?_eq_some_iff.1 hk).1
  have h1 : (icells x.nums).length = 4 := by simp [icells, h4.1]
  rw [lkcells, List.getElem?_append_right (by simp; omega), List.getElem?_append_right (by rw [h1]; simp; omega), List.getElem?_append_left (by rw [h1]; simp [pcells]; omega), h1]
  have e : 6 + k - [Value.int .i64 x.place, Value.bool x.leaf].length - 4 = k := by simp; omega
  rw [e, pcells, List.getElem?_map, hk]
  rfl
theorem LkAt.num {W : World} {b k : Nat} {x : Lk} {n : Int} (h : LkAt W b x) (hk : x.nums[k]? = some n) : W.cell? ⟨b, 2 + k, none⟩ = some (.int .i64 n) := h.cell (lk_num hk)
theorem LkAt.to {W : World} {b k : Nat} {x : Lk} {o : Option Nat} (h : LkAt W b x) (hk : x.tos[k]? = some o) : W.cell? ⟨b, 6 + k, none⟩ = some (pval o) := h.cell (lk_to h.2 hk)
theorem LkAt.set {W : World} {b k : Nat} {x x' : Lk} {u : Value} (h : LkAt W b x) (h4 : x'.Four) (e : lkcells x' = (lkcells x).set k u) : LkAt (W.setCell ⟨b, k, none⟩ u) b x' := by
  refine ⟨?_, h4⟩
  rw [row_set h.1, e]
  simp
theorem LkAt.other {W : World} {b g k : Nat} {x : Lk} (h : LkAt W b x) (hne : b ≠ g) (u : Value) : LkAt (W.setCell ⟨g, k, none⟩ u) b x := ⟨row_set_ne h.1 hne _ _, h.2⟩
theorem LkAt.setNum {W : World} {b k : Nat} {x : Lk} (h : LkAt W b x) (hk : k < 4) (n : Int) : LkAt (W.setCell ⟨b, 2 + k, none⟩ (.int .i64 n)) b { x with nums := x.nums.set k n } := by
  refine h.set ⟨by simp [h.2.1], h.2.2⟩ ?_
  have h1 : (icells x.nums).length = 4 := by simp [icells, h.2.1]
  rw [lkcells, lkcells, List.set_append_right _ _ (by simp), List.set_append_left _ _ (by rw [h1]; simp; omega)]
  have e : 2 + k - [Value.int .i64 x.place, Value.bool x.leaf].length = k := by simp
  rw [e]
  simp [icells, List.map_set]
theorem LkAt.setTo {W : World} {b k : Nat} {x : Lk} (h : LkAt W b x) (hk : k < 4) (o : Option Nat) : LkAt (W.setCell ⟨b, 6 + k, none⟩ (pval o)) b { x with tos := x.tos.set k o } := by
  refine h.set ⟨h.2.1, by simp [h.2.2]⟩ ?_
  have h1 : (icells x.nums).length = 4 := by simp [icells, h.2.1]
  have h2 : (pcells x.tos).length = 4 := by simp [pcells, h.2.2]
  rw [lkcells, lkcells, List.set_append_right _ _ (by simp; omega), List.set_append_right _ _ (by rw [h1]; simp; omega), List.set_append_left _ _ (by rw [h1, h2]; simp; omega), h1]
  have e : 6 + k - [Value.int .i64 x.place, Value.bool x.leaf].length - 4 = k := by simp; omega
  rw [e]
  simp [pcells, List.map_set]
set_option maxHeartbeats 400000 in
set_option maxRecDepth 100000 in
theorem inumAt (b : Nat) (x : Lk) (s : Nat) (v : Int) (w : World) (hs : s ≤ 15) (h : LkAt w b x) (hv : (∃ k, k = s / 4 ∧ x.tos[k]? = some none ∧ v = 0) ∨ ∃ c y, x.tos[s / 4]? = some (some c) ∧ LkAt w c y ∧ y.nums[s % 4]? = some v) :
    Calls Tryz.prog 79 #[ptr b, .int .i64 s] w fun e w' => e = .returned (.int .i64 v) ∧ w' = w := by
  obtain ⟨q, hq⟩ : ∃ q, s / 4 = q := ⟨_, rfl⟩
  obtain ⟨t, ht⟩ : ∃ t, s % 4 = t := ⟨_, rfl⟩
  rw [hq] at hv
  rw [ht] at hv
  have tq : (s : Int).tdiv 4 = (q : Int) := by rw [Int.tdiv_eq_ediv_of_nonneg (by omega)]; omega
  have tt : (s : Int).tmod 4 = (t : Int) := by rw [Int.tmod_eq_emod_of_nonneg (by omega)]; omega
  have tq2 : (s : Int) / 4 = (q : Int) := by omega
  have tt2 : (s : Int) % 4 = (t : Int) := by omega
  have q0 : (0 : Int) ≤ q := by omega
  have q4 : (q : Int) < 4 := by omega
  have t0 : (0 : Int) ≤ t := by omega
  have t4 : (t : Int) < 4 := by omega
  rcases hv with ⟨k, rfl, hk, rfl⟩ | ⟨c, y, hk, hy, hn⟩
  · have c1 : w.cell? ⟨b, 6 + k, none⟩ = some (.pointer none) := h.to hk
    clear h hk hq ht
    unfold ptr
    go_enter Tryz.func79, Tryz.ntmps79
    go_wp2
    go_ret
    exact ⟨rfl, rfl⟩
  · have c1 : w.cell? ⟨b, 6 + q, none⟩ = some (.pointer (some ⟨c, 0, none⟩)) := h.to hk
    have c2 : w.cell? ⟨c, 2 + t, none⟩ = some (.int .i64 v) := hy.num hn
    clear h hk hq ht hy hn
    unfold ptr
    go_enter Tryz.func79, Tryz.ntmps79
    go_wp2
    go_ret
    exact ⟨rfl, rfl⟩
end Go.Proofs.YtfmnaidhfgmemaaGreatDoor

namespace Go.Proofs.YtfmnaidhfgmemaaGreatDoor
open Go.RowKit
open Words
def PRow (W : World) (fa : Option Addr) (n : Nat) (bs : List Nat) : Prop := bs.length = n ∧ n ≤ maxLen ∧ (0 < n → ∃ g, fa = some ⟨g, 0, none⟩ ∧ g < W.heap.size ∧ ∀ (i b : Nat), bs[i]? = some b → W.cell? ⟨g, i, none⟩ = some (ptr b))
theorem PRow.below {W W' : World} {fa : Option Addr} {n : Nat} {bs : List Nat} (h : PRow W fa n bs) (hb : Below W.heap.size W W') : PRow W' fa n bs := by
  obtain ⟨h1, h2, h3⟩ := h
  refine ⟨h1, h2, fun h0 => ?_⟩
  obtain ⟨g, e, hg, hc⟩ := h3 h0
  have := hb.size
  exact ⟨g, e, by omega, fun i b hi => (hb.cell (show g < W.heap.size from hg)).trans (hc i b hi)⟩
theorem PRow.at {W : World} {fa : Option Addr} {n : Nat} {bs : List Nat} (h : PRow W fa n bs) {i b : Nat} (hi : bs[i]? = some b) : ∃ g, fa = some ⟨g, 0, none⟩ ∧ g < W.heap.size ∧ W.cell? ⟨g, i, none⟩ = some (ptr b) := by
  have := (List.getElem?_eq_some_iff.1 hi).1
  obtain ⟨g, e, hg, hc⟩ := h.2.2 (by have := h.1; omega)
  exact ⟨g, e, hg, hc i b hi⟩
theorem bcellsP_get {l : List Nat} {k b : Nat} (h : l[k]? = some b) : (bcellsP l)[k]? = some (ptr b) := by rw [bcellsP, List.getElem?_map, h]; rfl
theorem bcellsP_snoc (l : List Nat) (b : Nat) : bcellsP l ++ [ptr b] = bcellsP (l ++ [b]) := by simp [bcellsP]
theorem PRow.of {W : World} {B : Nat} {v : Value} {bs : List Nat} (h : W.ownsRow B 145 1 v bs.length (bcellsP bs)) : ∃ fa c, v = .slice fa bs.length c ∧ PRow W fa bs.length bs := by
  rcases h.2 with ⟨rfl, h0⟩ | ⟨g, cap, cur, rfl, h1, h2, h3, h4, h5, h6⟩
  · exact ⟨none, 0, by rw [h0], rfl, by rw [h0]; unfold maxLen; omega, fun h => by omega⟩
  · refine ⟨_, _, rfl, rfl, by omega, fun _ => ⟨g, rfl, (Array.getElem?_eq_some_iff.1 h2).1, fun i b hi => ?_⟩⟩
    rw [← addr_at]
    exact h.cells (g := g) rfl i _ (bcellsP_get hi)
def FAt (W : World) (bs : List Nat) (xs : List Lk) : Prop := bs.length = xs.length ∧ ∀ (i b : Nat) (x : Lk), bs[i]? = some b → xs[i]? = some x → LkAt W b x
theorem FAt.below {W W' : World} {bs : List Nat} {xs : List Lk} (h : FAt W bs xs) (hb : Below W.heap.size W W') : FAt W' bs xs := ⟨h.1, fun i b x h1 h2 => (h.2 i b x h1 h2).blw hb⟩
theorem FAt.get {W : World} {bs : List Nat} {xs : List Lk} (h : FAt W bs xs) {i : Nat} {x : Lk} (hx : xs[i]? = some x) : ∃ b, bs[i]? = some b ∧ LkAt W b x := by
  have := (List.getElem?_eq_some_iff.1 hx).1
  exact ⟨_, List.getElem?_eq_getElem (by rw [h.1]; exact this), h.2 i _ x (List.getElem?_eq_getElem (by rw [h.1]; exact this)) hx⟩
theorem FAt.nil (W : World) : FAt W [] [] := ⟨rfl, fun _ _ _ h => by simp at h⟩
def leafP (bs : List Nat) (xs : List Lk) (p : Int) : Option Nat := if p < 0 then none else (xs[p.toNat]?).bind (fun x => if x.leaf = true then bs[p.toNat]? else none)
set_option maxHeartbeats 400000 in
set_option maxRecDepth 100000 in
theorem ileafAt (fa : Option Addr) (n c : Nat) (bs : List Nat) (xs : List Lk) (p : Int) (w : World) (hr : PRow w fa n bs) (hf : FAt w bs xs) :
    Calls Tryz.prog 163 #[.slice fa n c, .int .i64 p] w fun e w' => e = .returned (pval (leafP bs xs p)) ∧ w' = w := by
  have hl : xs.length = n := by rw [← hf.1]; exact hr.1
  by_cases h0 : p < 0
  · have E : Hid (leafP bs xs p = none) := if_pos h0
    rw [E.out]
    clear hr hf hl E
    go_enter Tryz.func163, Tryz.ntmps163
    go_wp2
    go_ret
    exact ⟨rfl, rfl⟩
  · obtain ⟨m, rfl⟩ : ∃ m : Nat, p = (m : Int) := ⟨p.toNat, by omega⟩
    by_cases h1 : (n : Int) ≤ m
    · have E : Hid (leafP bs xs (m : Int) = none) := by
        show _ = _
        rw [leafP, if_neg h0, Int.toNat_natCast, List.getElem?_eq_none (by omega)]
        rfl
      rw [E.out]
      clear hr hf hl E
      go_enter Tryz.func163, Tryz.ntmps163
      go_wp2
      go_ret
      exact ⟨rfl, rfl⟩
    · obtain ⟨x, hx⟩ : ∃ x, xs[m]? = some x := ⟨_, List.getElem?_eq_getElem (by omega)⟩
      obtain ⟨b, hb, ha⟩ := hf.get hx
      obtain ⟨g, rfl, -, hc⟩ := hr.at hb
      have c1 := ha.leaf
      unfold ptr at hc
      have m0 : (0 : Int) ≤ m := by omega
      have mn : (m : Int) < n := by omega
      have E : Hid (leafP bs xs (m : Int) = if x.leaf = true then some b else none) := by
        show _ = _
        rw [leafP, if_neg h0, Int.toNat_natCast, hx, hb]
        rfl
      rw [E.out]
      clear hr hf hl E ha hb hx h0 h1
      cases hxl : x.leaf with
      | true =>
        rw [hxl] at c1
        clear hxl
        go_enter Tryz.func163, Tryz.ntmps163
        go_wp2
        go_ret
        exact ⟨rfl, rfl⟩
      | false =>
        rw [hxl] at c1
        clear hxl
        go_enter Tryz.func163, Tryz.ntmps163
        go_wp2
        go_ret
        exact ⟨rfl, rfl⟩
def lkNone : Lk := ⟨-1, false, [0, 0, 0, 0], [none, none, none, none], false⟩
set_option maxHeartbeats 400000 in
set_option maxRecDepth 100000 in
theorem itree_new (fv : Value) (w : World) :
    Calls Tryz.prog 118 #[fv, .int .i64 (-1)] w fun e w' => e = .returned (ptr w.heap.size) ∧ LkAt w' w.heap.size lkNone ∧ Below w.heap.size w w' := by
  go_enter Tryz.func118, Tryz.ntmps118
  go_wp2
  go_ret
  exact ⟨rfl, ⟨heap_alloc_new w _, rfl, rfl⟩, (Below.refl _ _).alloc (Nat.le_refl _) _⟩
set_option maxHeartbeats 400000 in
set_option maxRecDepth 100000 in
theorem itree_at (fa : Option Addr) (n c : Nat) (bs : List Nat) (xs : List Lk) (m b : Nat) (x : Lk) (w : World) (hr : PRow w fa n bs) (hf : FAt w bs xs) (hx : xs[m]? = some x) (hb : bs[m]? = some b) (hl : x.leaf = false) :
    Calls Tryz.prog 118 #[.slice fa n c, .int .i64 m] w fun e w' => e = .returned (ptr b) ∧ w' = w := by
  have hlt := (List.getElem?_eq_some_iff.1 hb).1
  rw [hr.1] at hlt
  obtain ⟨g, rfl, -, hc⟩ := hr.at hb
  have c1 := (hf.2 m b x hb hx).leaf
  rw [hl] at c1
  unfold ptr at hc ⊢
  have m0 : (0 : Int) ≤ m := by omega
  have mn : (m : Int) < n := by omega
  have m1 : ((m : Int) == -1) = false := by rw [beq_eq_false_iff_ne]; omega
  clear hr hf hx hb hl hlt
  go_enter Tryz.func118, Tryz.ntmps118
  go_wp2
  go_ret
  exact ⟨rfl, rfl⟩
set_option maxHeartbeats 400000 in
set_option maxRecDepth 100000 in
theorem itree_no (fa : Option Addr) (n c : Nat) (bs : List Nat) (xs : List Lk) (r : Int) (w : World) (hr : PRow w fa n bs) (hf : FAt w bs xs) (h1 : r ≠ -1) (h2 : r < 0 ∨ (n : Int) ≤ r ∨ ∃ x, xs[r.toNat]? = some x ∧ x.leaf = true) :
    Calls Tryz.prog 118 #[.slice fa n c, .int .i64 r] w fun e w' => e = .returned (.pointer none) ∧ w' = w := by
  have m1 : (r == -1) = false := by rw [beq_eq_false_iff_ne]; exact h1
  by_cases h0 : r < 0
  · clear hr hf h2 h1
    go_enter Tryz.func118, Tryz.ntmps118
    go_wp2
    go_ret
    exact ⟨rfl, rfl⟩
  · by_cases h3 : (n : Int) ≤ r
    · clear hr hf h2 h1
      go_enter Tryz.func118, Tryz.ntmps118
      go_wp2
      go_ret
      exact ⟨rfl, rfl⟩
    · obtain ⟨x, hx, hl⟩ : ∃ x, xs[r.toNat]? = some x ∧ x.leaf = true := by
        rcases h2 with h | h | h
        · omega
        · omega
        · exact h
      obtain ⟨m, rfl⟩ : ∃ m : Nat, r = (m : Int) := ⟨r.toNat, by omega⟩
      rw [Int.toNat_natCast] at hx
      obtain ⟨b, hb, ha⟩ := hf.get hx
      obtain ⟨g, rfl, -, hc⟩ := hr.at hb
      have c1 := ha.leaf
      rw [hl] at c1
      unfold ptr at hc
      have m0 : (0 : Int) ≤ m := by omega
      have mn : (m : Int) < n := by omega
      clear hr hf hx hb hl ha h2 h1 h0 h3
      go_enter Tryz.func118, Tryz.ntmps118
      go_wp2
      go_ret
      exact ⟨rfl, rfl⟩
end Go.Proofs.YtfmnaidhfgmemaaGreatDoor
