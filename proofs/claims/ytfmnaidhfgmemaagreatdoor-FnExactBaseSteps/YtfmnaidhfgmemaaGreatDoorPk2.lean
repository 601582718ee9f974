/-
  TrMath2; LkN; ILeaf; IKids; PartL; EqArr
-/
import Derived.Test.YtfmnaidhfgmemaaGreatDoorPk1
import Derived.Deep.MidRow
import Derived.Test.YtfmnaidhfgmemaaGreatDoorPk0
import Derived.Laws.StructEq
import Derived.LaidEqlPtr
namespace Go.Proofs.YtfmnaidhfgmemaaGreatDoor
namespace Words
theorem lf_nought (k : Nat) (hk : k < 4) : ([0, 0, 0, 0] : List Int)[k]? = some 0 := by
  match k, hk with
  | 0, _ | 1, _ | 2, _ | 3, _ => rfl
section
variable {l : List Kn} {r : Int} {s : Nat} {n : Int}
end
end Words
end Go.Proofs.YtfmnaidhfgmemaaGreatDoor

namespace Go.Proofs.YtfmnaidhfgmemaaGreatDoor
open Go.RowKit
open Words
structure Lk where
  place : Int
  leaf : Bool
  nums : List Int
  tos : List (Option Nat)
  need : Bool
def ptr (b : Nat) : Value := .pointer (some ⟨b, 0, none⟩)
def pval : Option Nat → Value
  | none => .pointer none
  | some b => ptr b
def pcells (l : List (Option Nat)) : List Value := l.map pval
def bcellsP (l : List Nat) : List Value := l.map ptr
def lkcells (x : Lk) : List Value := [.int .i64 x.place, .bool x.leaf] ++ (icells x.nums ++ (pcells x.tos ++ [.bool x.need]))
def Lk.Four (x : Lk) : Prop := x.nums.length = 4 ∧ x.tos.length = 4
def LkAt (W : World) (b : Nat) (x : Lk) : Prop := W.heap[b]? = some (.cells (lkcells x).toArray 196 (0, 0)) ∧ x.Four
theorem LkAt.lt {W : World} {b : Nat} {x : Lk} (h : LkAt W b x) : b < W.heap.size := (Array.getElem?_eq_some_iff.1 h.1).1
theorem LkAt.below {W W' : World} {b C : Nat} {x : Lk} (h : LkAt W b x) (hb : Below C W W') (hC : b < C) : LkAt W' b x := ⟨(hb.block b hC).trans h.1, h.2⟩
theorem LkAt.blw {W W' : World} {b : Nat} {x : Lk} (h : LkAt W b x) (hb : Below W.heap.size W W') : LkAt W' b x := h.below hb h.lt
theorem LkAt.frozen {W : World} {b : Nat} {x : Lk} (h : LkAt W b x) (o : Nat) : W.frozen? ⟨b, o, none⟩ = false := frozen_of_row _ _ o _ _ h.1
theorem LkAt.cell {W : World} {b k : Nat} {x : Lk} {v : Value} (h : LkAt W b x) (hk : (lkcells x)[k]? = some v) : W.cell? ⟨b, k, none⟩ = some v := by
  rw [cell_of_row _ _ k _ _ _ h.1]
  simpa using hk
theorem LkAt.place {W : World} {b : Nat} {x : Lk} (h : LkAt W b x) : W.cell? ⟨b, 0, none⟩ = some (.int .i64 x.place) := h.cell rfl
theorem LkAt.leaf {W : World} {b : Nat} {x : Lk} (h : LkAt W b x) : W.cell? ⟨b, 1, none⟩ = some (.bool x.leaf) := h.cell rfl
theorem lk_num {x : Lk} {k : Nat} {n : Int} (hk : x.nums[k]? = some n) : (lkcells x)[2 + k]? = some (.int .i64 n) := by
  have hl := (List.getElem?_eq_some_iff.1 hk).1
  rw [lkcells, List.getElem?_append_right (by simp), List.getElem?_append_left (by simp [icells]; omega)]
  simpa using icells_get hk
theorem lk_to {x : Lk} (h4 : x.Four) {k : Nat} {o : Option Nat} (hk : x.tos[k]? = some o) : (lkcells x)[6 + k]? = some (pval o) := by
  have hl := (List.getElem?_eq_some_iff.1 hk).1
  have h1 : (icells x.nums).length = 4 := by simp [icells, h4.1]
  rw [lkcells, List.getElem?_append_right (by simp; omega), List.getElem?_append_right (by rw [h1]; simp; omega), List.getElem?_append_left (by rw [h1]; simp [pcells]; omega), h1]
  have e : 6 + k - [Value.int .i64 x.place, Value.bool x.leaf].length - 4 = k := by simp; omega
  rw [e, pcells, List.getElem?_map, hk]
  rfl
theorem LkAt.num {W : World} {b k : Nat} {x : Lk} {n : Int} (h : LkAt W b x) (hk : x.nums[k]? = some n) : W.cell? ⟨b, 2 + k, none⟩ = some (.int .i64 n) := h.cell (lk_num hk)
theorem LkAt.to {W : World} {b k : Nat} {x : Lk} {o : Option Nat} (h : LkAt W b x) (hk : x.tos[k]? = some o) : W.cell? ⟨b, 6 + k, none⟩ = some (pval o) := h.cell (lk_to h.2 hk)
theorem LkAt.set {W : World} {b k : Nat} {x x' : Lk} {u : Value} (h : LkAt W b x) (h4 : x'.Four) (e : lkcells x' = (lkcells x).set k u) : LkAt (W.setCell ⟨b, k, none⟩ u) b x' := by
  refine ⟨?_, h4⟩
  rw [row_set h.1, e]
  simp
theorem LkAt.other {W : World} {b g k : Nat} {x : Lk} (h : LkAt W b x) (hne : b ≠ g) (u : Value) : LkAt (W.setCell ⟨g, k, none⟩ u) b x := ⟨row_set_ne h.1 hne _ _, h.2⟩
theorem LkAt.setNum {W : World} {b k : Nat} {x : Lk} (h : LkAt W b x) (hk : k < 4) (n : Int) : LkAt (W.setCell ⟨b, 2 + k, none⟩ (.int .i64 n)) b { x with nums := x.nums.set k n } := by
  refine h.set ⟨by simp [h.2.1], h.2.2⟩ ?_
  have h1 : (icells x.nums).length = 4 := by simp [icells, h.2.1]
  rw [lkcells, lkcells, List.set_append_right _ _ (by simp), List.set_append_left _ _ (by rw [h1]; simp; omega)]
  have e : 2 + k - [Value.int .i64 x.place, Value.bool x.leaf].length = k := by simp
  rw [e]
  simp [icells, List.map_set]
theorem LkAt.setTo {W : World} {b k : Nat} {x : Lk} (h : LkAt W b x) (hk : k < 4) (o : Option Nat) : LkAt (W.setCell ⟨b, 6 + k, none⟩ (pval o)) b { x with tos := x.tos.set k o } := by
  refine h.set ⟨h.2.1, by simp [h.2.2]⟩ ?_
  have h1 : (icells x.nums).length = 4 := by simp [icells, h.2.1]
  have h2 : (pcells x.tos).length = 4 := by simp [pcells, h.2.2]
  rw [lkcells, lkcells, List.set_append_right _ _ (by simp; omega), List.set_append_right _ _ (by rw [h1]; simp; omega), List.set_append_left _ _ (by rw [h1, h2]; simp; omega), h1]
  have e : 6 + k - [Value.int .i64 x.place, Value.bool x.leaf].length - 4 = k := by simp; omega
  rw [e]
  simp [pcells, List.map_set]
set_option maxHeartbeats 400000 in
set_option maxRecDepth 100000 in
theorem inumAt (b : Nat) (x : Lk) (s : Nat) (v : Int) (w : World) (hs : s ≤ 15) (h : LkAt w b x) (hv : (∃ k, k = s / 4 ∧ x.tos[k]? = some none ∧ v = 0) ∨ ∃ c y, x.tos[s / 4]? = some (some c) ∧ LkAt w c y ∧ y.nums[s % 4]? = some v) :
    Calls Tryz.prog 79 #[ptr b, .int .i64 s] w fun e w' => e = .returned (.int .i64 v) ∧ w' = w := by
  obtain ⟨q, hq⟩ : ∃ q, s / 4 = q := ⟨_, rfl⟩
  obtain ⟨t, ht⟩ : ∃ t, s % 4 = t := ⟨_, rfl⟩
  rw [hq] at hv
  rw [ht] at hv
  have tq : (s : Int).tdiv 4 = (q : Int) := by rw [Int.tdiv_eq_ediv_of_nonneg (by omega)]; omega
  have tt : (s : Int).tmod 4 = (t : Int) := by rw [Int.tmod_eq_emod_of_nonneg (by omega)]; omega
  have tq2 : (s : Int) / 4 = (q : Int) := by omega
  have tt2 : (s : Int) % 4 = (t : Int) := by omega
  have q0 : (0 : Int) ≤ q := by omega
  have q4 : (q : Int) < 4 := by omega
  have t0 : (0 : Int) ≤ t := by omega
  have t4 : (t : Int) < 4 := by omega
  rcases hv with ⟨k, rfl, hk, rfl⟩ | ⟨c, y, hk, hy, hn⟩
  · have c1 : w.cell? ⟨b, 6 + k, none⟩ = some (.pointer none) := h.to hk
    clear h hk hq ht
    unfold ptr
    go_enter Tryz.func79, Tryz.ntmps79
    go_wp2
    go_ret
    exact ⟨rfl, rfl⟩
  · have c1 : w.cell? ⟨b, 6 + q, none⟩ = some (.pointer (some ⟨c, 0, none⟩)) := h.to hk
    have c2 : w.cell? ⟨c, 2 + t, none⟩ = some (.int .i64 v) := hy.num hn
    clear h hk hq ht hy hn
    unfold ptr
    go_enter Tryz.func79, Tryz.ntmps79
    go_wp2
    go_ret
    exact ⟨rfl, rfl⟩
end Go.Proofs.YtfmnaidhfgmemaaGreatDoor

namespace Go.Proofs.YtfmnaidhfgmemaaGreatDoor
open Go.RowKit
open Words
def PRow (W : World) (fa : Option Addr) (n : Nat) (bs : List Nat) : Prop := bs.length = n ∧ n ≤ maxLen ∧ (0 < n → ∃ g, fa = some ⟨g, 0, none⟩ ∧ g < W.heap.size ∧ ∀ (i b : Nat), bs[i]? = some b → W.cell? ⟨g, i, none⟩ = some (ptr b))
theorem PRow.below {W W' : World} {fa : Option Addr} {n : Nat} {bs : List Nat} (h : PRow W fa n bs) (hb : Below W.heap.size W W') : PRow W' fa n bs := by
  obtain ⟨h1, h2, h3⟩ := h
  refine ⟨h1, h2, fun h0 => ?_⟩
  obtain ⟨g, e, hg, hc⟩ := h3 h0
  have := hb.size
  exact ⟨g, e, by omega, fun i b hi => (hb.cell (show g < W.heap.size from hg)).trans (hc i b hi)⟩
theorem PRow.at {W : World} {fa : Option Addr} {n : Nat} {bs : List Nat} (h : PRow W fa n bs) {i b : Nat} (hi : bs[i]? = some b) : ∃ g, fa = some ⟨g, 0, none⟩ ∧ g < W.heap.size ∧ W.cell? ⟨g, i, none⟩ = some (ptr b) := by
  have := (List.getElem?_eq_some_iff.1 hi).1
  obtain ⟨g, e, hg, hc⟩ := h.2.2 (by have := h.1; omega)
  exact ⟨g, e, hg, hc i b hi⟩
theorem bcellsP_get {l : List Nat} {k b : Nat} (h : l[k]? = some b) : (bcellsP l)[k]? = some (ptr b) := by rw [bcellsP, List.getElem?_map, h]; rfl
theorem bcellsP_snoc (l : List Nat) (b : Nat) : bcellsP l ++ [ptr b] = bcellsP (l ++ [b]) := by simp [bcellsP]
theorem PRow.of {W : World} {B : Nat} {v : Value} {bs : List Nat} (h : W.ownsRow B 145 1 v bs.length (bcellsP bs)) : ∃ fa c, v = .slice fa bs.length c ∧ PRow W fa bs.length bs := by
  rcases h.2 with ⟨rfl, h0⟩ | ⟨g, cap, cur, rfl, h1, h2, h3, h4, h5, h6⟩
  · exact ⟨none, 0, by rw [h0], rfl, by rw [h0]; unfold maxLen; omega, fun h => by omega⟩
  · refine ⟨_, _, rfl, rfl, by omega, fun _ => ⟨g, rfl, (Array.getElem?_eq_some_iff.1 h2).1, fun i b hi => ?_⟩⟩
    rw [← addr_at]
    exact h.cells (g := g) rfl i _ (bcellsP_get hi)
def FAt (W : World) (bs : List Nat) (xs : List Lk) : Prop := bs.length = xs.length ∧ ∀ (i b : Nat) (x : Lk), bs[i]? = some b → xs[i]? = some x → LkAt W b x
theorem FAt.below {W W' : World} {bs : List Nat} {xs : List Lk} (h : FAt W bs xs) (hb : Below W.heap.size W W') : FAt W' bs xs := ⟨h.1, fun i b x h1 h2 => (h.2 i b x h1 h2).blw hb⟩
theorem FAt.get {W : World} {bs : List Nat} {xs : List Lk} (h : FAt W bs xs) {i : Nat} {x : Lk} (hx : xs[i]? = some x) : ∃ b, bs[i]? = some b ∧ LkAt W b x := by
  have := (List.getElem?_eq_some_iff.1 hx).1
  exact ⟨_, List.getElem?_eq_getElem (by rw [h.1]; exact this), h.2 i _ x (List.getElem?_eq_getElem (by rw [h.1]; exact this)) hx⟩
theorem FAt.nil (W : World) : FAt W [] [] := ⟨rfl, fun _ _ _ h => by simp at h⟩
def leafP (bs : List Nat) (xs : List Lk) (p : Int) : Option Nat := if p < 0 then none else (xs[p.toNat]?).bind (fun x => if x.leaf = true then bs[p.toNat]? else none)
set_option maxHeartbeats 400000 in
set_option maxRecDepth 100000 in
theorem ileafAt (fa : Option Addr) (n c : Nat) (bs : List Nat) (xs : List Lk) (p : Int) (w : World) (hr : PRow w fa n bs) (hf : FAt w bs xs) :
    Calls Tryz.prog 163 #[.slice fa n c, .int .i64 p] w fun e w' => e = .returned (pval (leafP bs xs p)) ∧ w' = w := by
  have hl : xs.length = n := by rw [← hf.1]; exact hr.1
  by_cases h0 : p < 0
  · have E : Hid (leafP bs xs p = none) := if_pos h0
    rw [E.out]
    clear hr hf hl E
    go_enter Tryz.func163, Tryz.ntmps163
    go_wp2
    go_ret
    exact ⟨rfl, rfl⟩
  · obtain ⟨m, rfl⟩ : ∃ m : Nat, p = (m : Int) := ⟨p.toNat, by omega⟩
    by_cases h1 : (n : Int) ≤ m
    · have E : Hid (leafP bs xs (m : Int) = none) := by
        show _ = _
        rw [leafP, if_neg h0, Int.toNat_natCast, List.getElem?_eq_none (by omega)]
        rfl
      rw [E.out]
      clear hr hf hl E
      go_enter Tryz.func163, Tryz.ntmps163
      go_wp2
      go_ret
      exact ⟨rfl, rfl⟩
    · obtain ⟨x, hx⟩ : ∃ x, xs[m]? = some x := ⟨_, List.getElem?_eq_getElem (by omega)⟩
      obtain ⟨b, hb, ha⟩ := hf.get hx
      obtain ⟨g, rfl, -, hc⟩ := hr.at hb
      have c1 := ha.leaf
      unfold ptr at hc
      have m0 : (0 : Int) ≤ m := by omega
      have mn : (m : Int) < n := by omega
      have E : Hid (leafP bs xs (m : Int) = if x.leaf = true then some b else none) := by
        show _ = _
        rw [leafP, if_neg h0, Int.toNat_natCast, hx, hb]
        rfl
      rw [E.out]
      clear hr hf hl E ha hb hx h0 h1
      cases hxl : x.leaf with
      | true =>
        rw [hxl] at c1
        clear hxl
        go_enter Tryz.func163, Tryz.ntmps163
        go_wp2
        go_ret
        exact ⟨rfl, rfl⟩
      | false =>
        rw [hxl] at c1
        clear hxl
        go_enter Tryz.func163, Tryz.ntmps163
        go_wp2
        go_ret
        exact ⟨rfl, rfl⟩
def lkNone : Lk := ⟨-1, false, [0, 0, 0, 0], [none, none, none, none], false⟩
set_option maxHeartbeats 400000 in
set_option maxRecDepth 100000 in
theorem itree_new (fv : Value) (w : World) :
    Calls Tryz.prog 118 #[fv, .int .i64 (-1)] w fun e w' => e = .returned (ptr w.heap.size) ∧ LkAt w' w.heap.size lkNone ∧ Below w.heap.size w w' := by
  go_enter Tryz.func118, Tryz.ntmps118
  go_wp2
  go_ret
  exact ⟨rfl, ⟨heap_alloc_new w _, rfl, rfl⟩, (Below.refl _ _).alloc (Nat.le_refl _) _⟩
set_option maxHeartbeats 400000 in
set_option maxRecDepth 100000 in
theorem itree_at (fa : Option Addr) (n c : Nat) (bs : List Nat) (xs : List Lk) (m b : Nat) (x : Lk) (w : World) (hr : PRow w fa n bs) (hf : FAt w bs xs) (hx : xs[m]? = some x) (hb : bs[m]? = some b) (hl : x.leaf = false) :
    Calls Tryz.prog 118 #[.slice fa n c, .int .i64 m] w fun e w' => e = .returned (ptr b) ∧ w' = w := by
  have hlt := (List.getElem?_eq_some_iff.1 hb).1
  rw [hr.1] at hlt
  obtain ⟨g, rfl, -, hc⟩ := hr.at hb
  have c1 := (hf.2 m b x hb hx).leaf
  rw [hl] at c1
  unfold ptr at hc ⊢
  have m0 : (0 : Int) ≤ m := by omega
  have mn : (m : Int) < n := by omega
  have m1 : ((m : Int) == -1) = false := by rw [beq_eq_false_iff_ne]; omega
  clear hr hf hx hb hl hlt
  go_enter Tryz.func118, Tryz.ntmps118
  go_wp2
  go_ret
  exact ⟨rfl, rfl⟩
set_option maxHeartbeats 400000 in
set_option maxRecDepth 100000 in
theorem itree_no (fa : Option Addr) (n c : Nat) (bs : List Nat) (xs : List Lk) (r : Int) (w : World) (hr : PRow w fa n bs) (hf : FAt w bs xs) (h1 : r ≠ -1) (h2 : r < 0 ∨ (n : Int) ≤ r ∨ ∃ x, xs[r.toNat]? = some x ∧ x.leaf = true) :
    Calls Tryz.prog 118 #[.slice fa n c, .int .i64 r] w fun e w' => e = .returned (.pointer none) ∧ w' = w := by
  have m1 : (r == -1) = false := by rw [beq_eq_false_iff_ne]; exact h1
  by_cases h0 : r < 0
  · clear hr hf h2 h1
    go_enter Tryz.func118, Tryz.ntmps118
    go_wp2
    go_ret
    exact ⟨rfl, rfl⟩
  · by_cases h3 : (n : Int) ≤ r
    · clear hr hf h2 h1
      go_enter Tryz.func118, Tryz.ntmps118
      go_wp2
      go_ret
      exact ⟨rfl, rfl⟩
    · obtain ⟨x, hx, hl⟩ : ∃ x, xs[r.toNat]? = some x ∧ x.leaf = true := by
        rcases h2 with h | h | h
        · omega
        · omega
        · exact h
      obtain ⟨m, rfl⟩ : ∃ m : Nat, r = (m : Int) := ⟨r.toNat, by omega⟩
      rw [Int.toNat_natCast] at hx
      obtain ⟨b, hb, ha⟩ := hf.get hx
      obtain ⟨g, rfl, -, hc⟩ := hr.at hb
      have c1 := ha.leaf
      rw [hl] at c1
      unfold ptr at hc
      have m0 : (0 : Int) ≤ m := by omega
      have mn : (m : Int) < n := by omega
      clear hr hf hx hb hl ha h2 h1 h0 h3
      go_enter Tryz.func118, Tryz.ntmps118
      go_wp2
      go_ret
      exact ⟨rfl, rfl⟩
end Go.Proofs.YtfmnaidhfgmemaaGreatDoor

namespace Go.Proofs.YtfmnaidhfgmemaaGreatDoor
open Go.RowKit
open Words
theorem infoK4 : (Tryz.prog.info? 193).map (·.size) = some 4 := by kernel_rfl
theorem infoPt : (Tryz.prog.info? 145).map (fun i => (i.zero, i.size, i.bytes)) = some (some (.pointer none), 1, 8) := by kernel_rfl
theorem range_row {w : World} {g : Nat} {l : List Value} {t : TypeId} (h : w.heap[g]? = some (.cells l.toArray t (0, 0))) : w.rangeAt g 0 l := by
  intro j v hv
  rw [Nat.zero_add, cell_of_row _ _ j _ _ _ h]
  simpa using hv
theorem results_arr {fn : Func} {p : Tmp} {ty t : TypeId} (h : fn.results = #[.cell p ty]) (tmps : Array Value) (w : World) (g : Nat) (l : List Value) (d : TypeDesc)
    (hp : tmps.getD p undef = .pointer (some ⟨g, 0, none⟩)) (hc : w.heap[g]? = some (.cells l.toArray t (0, 0))) (hu : Tryz.prog.underlying ty = some d) (hd : d.isRow = true) (hi : (Tryz.prog.info? ty).map (·.size) = some l.length) :
    (results fn tmps).run Tryz.prog w = .ok (.agg l.toArray) w := by
  have hp' : tmps[p]?.getD undef = .pointer (some ⟨g, 0, none⟩) := by simpa using hp
  have hl := run_loadVar_mid (P := Tryz.prog) w g 0 ty l d (range_row hc) hu hd hi
  simp [results, h, hp', asAddr, hl]
theorem four_set {w : World} {g : Nat} {a0 a1 a2 a3 : Value} {t : TypeId} (h : w.heap[g]? = some (.cells #[a0, a1, a2, a3] t (0, 0))) (b0 b1 b2 b3 : Value) :
    ((((w.setCell ⟨g, 0, none⟩ b0).setCell ⟨g, 1, none⟩ b1).setCell ⟨g, 2, none⟩ b2).setCell ⟨g, 3, none⟩ b3).heap[g]? = some (.cells #[b0, b1, b2, b3] t (0, 0)) :=
  row_set (row_set (row_set (row_set h 0 b0) 1 b1) 2 b2) 3 b3
theorem four_below {B g : Nat} {a w : World} (h : Below B a w) (hg : B ≤ g) (b0 b1 b2 b3 : Value) : Below B a ((((w.setCell ⟨g, 0, none⟩ b0).setCell ⟨g, 1, none⟩ b1).setCell ⟨g, 2, none⟩ b2).setCell ⟨g, 3, none⟩ b3) :=
  (((h.setCell (p := ⟨g, 0, none⟩) hg b0).setCell (p := ⟨g, 1, none⟩) hg b1).setCell (p := ⟨g, 2, none⟩) hg b2).setCell (p := ⟨g, 3, none⟩) hg b3
theorem list4 {α : Type} {l : List α} (h : l.length = 4) : ∃ a b c d, l = [a, b, c, d] := by
  match l, h with
  | [a, b, c, d], _ => exact ⟨a, b, c, d, rfl⟩
def KidsR (W : World) (x : Lk) (ks : List Int) : Prop := if x.leaf = true then ks = x.nums else ks.length = 4 ∧ ∀ (k : Nat) (o : Option Nat), x.tos[k]? = some o → ∃ p, ks[k]? = some p ∧ (o = none ∧ p = -1 ∨ ∃ c, o = some c ∧ W.cell? ⟨c, 0, none⟩ = some (.int .i64 p) ∧ c < W.heap.size)
theorem idxP (l : List (Option Nat)) (k : Nat) (o : Option Nat) (hl : l.length = 4) (hx : l[k]? = some o) (W : World) : (Instr.index 194 (.agg (pcells l).toArray) (.int .i64 (k : Int))).run Tryz.prog W = .ok (pval o) W := by
  have hk : k < 4 := by rw [← hl]; exact (List.getElem?_eq_some_iff.1 hx).1
  have hc : (pcells l)[k]? = some (pval o) := by rw [pcells, List.getElem?_map, hx]; rfl
  obtain ⟨i0, hi, hz0, hz1, hz2⟩ := info_parts infoPt
  simp [Instr.index, run_underlying Tryz.underlying194, asIntOf, part, sizeOf, typeInfo, hi, hz1, isAgg, run_underlying Tryz.underlying145, hk, hc]
set_option maxHeartbeats 400000 in
set_option maxRecDepth 100000 in
theorem ikids_leaf (b : Nat) (x : Lk) (w : World) (h : LkAt w b x) (hl : x.leaf = true) :
    Calls Tryz.prog 164 #[ptr b] w fun e w' => e = .returned (.agg (icells x.nums).toArray) ∧ Below w.heap.size w w' := by
  obtain ⟨n0, n1, n2, n3, hn⟩ := list4 h.2.1
  have hx := h.blw ((Below.refl w.heap.size w).alloc (Nat.le_refl _) (.cells #[.int .i64 0, .int .i64 0, .int .i64 0, .int .i64 0] 193))
  have c1 := hx.leaf
  rw [hl] at c1
  have d0 := hx.num (k := 0) (n := n0) (by rw [hn]; rfl)
  have d1 := hx.num (k := 1) (n := n1) (by rw [hn]; rfl)
  have d2 := hx.num (k := 2) (n := n2) (by rw [hn]; rfl)
  have d3 := hx.num (k := 3) (n := n3) (by rw [hn]; rfl)
  have HN := hide hn
  have R0 := hide (heap_alloc_new w (.cells #[.int .i64 0, .int .i64 0, .int .i64 0, .int .i64 0] 193))
  have B0 : Hid (Below w.heap.size w (w.alloc (.cells #[.int .i64 0, .int .i64 0, .int .i64 0, .int .i64 0] 193))) := (Below.refl w.heap.size w).alloc (Nat.le_refl _) _
  simp only [Nat.reduceAdd] at d0 d1 d2 d3
  clear h hx hn hl
  unfold ptr
  go_enter Tryz.func164, Tryz.ntmps164
  go_wp2
  rw [HN.out]
  exact bodyPost_ret (results_arr rfl _ _ _ (icells [n0, n1, n2, n3]) _ rfl (heap_alloc_new w _) Tryz.underlying193 rfl infoK4) rfl ⟨rfl, (Below.refl w.heap.size w).alloc (Nat.le_refl _) _⟩
def KSt (w W : World) (z : Nat) (xs : List Int) : Prop := W.heap[z]? = some (.cells #[.int .i64 0, .int .i64 0, .int .i64 0, .int .i64 0] 193 (0, 0)) ∧ W.heap[z + 1]? = some (.cells (icells xs).toArray 193 (0, 0)) ∧ Below z w W
theorem KSt.set {w W : World} {z k : Nat} {xs : List Int} (h : KSt w W z xs) (n : Int) : KSt w (W.setCell ⟨z + 1, k, none⟩ (.int .i64 n)) z (xs.set k n) := by
  refine ⟨row_set_ne h.1 (by omega) _ _, ?_, h.2.2.setCell (p := ⟨z + 1, k, none⟩) (by show z ≤ z + 1; omega) _⟩
  rw [row_set h.2.1]
  simp [icells, List.map_set]
theorem KSt.cell {w W : World} {z k : Nat} {xs : List Int} {n : Int} (h : KSt w W z xs) (hk : xs[k]? = some n) : W.cell? ⟨z + 1, k, none⟩ = some (.int .i64 n) := by
  rw [cell_of_row _ _ k _ _ _ h.2.1]
  simpa using icells_get hk
theorem KSt.fr {w W : World} {z : Nat} {xs : List Int} (h : KSt w W z xs) (k : Nat) : W.frozen? ⟨z + 1, k, none⟩ = false := frozen_of_row _ _ k _ _ h.2.1
set_option maxHeartbeats 1000000 in
set_option maxRecDepth 100000 in
theorem ikids (b : Nat) (x : Lk) (ks : List Int) (w : World) (h : LkAt w b x) (hk : KidsR w x ks) :
    Calls Tryz.prog 164 #[ptr b] w fun e w' => e = .returned (.agg (icells ks).toArray) ∧ Below w.heap.size w w' := by
  cases hl : x.leaf with
  | true =>
    rw [KidsR, if_pos hl] at hk
    rw [hk]
    exact ikids_leaf b x w h hl
  | false =>
    rw [KidsR, if_neg (by rw [hl]; decide)] at hk
    obtain ⟨hk4, hkk⟩ := hk
    obtain ⟨t0, t1, t2, t3, ht⟩ := list4 h.2.2
    have hb1 : Below w.heap.size w ((w.alloc (.cells #[.int .i64 0, .int .i64 0, .int .i64 0, .int .i64 0] 193)).alloc (.cells #[.int .i64 0, .int .i64 0, .int .i64 0, .int .i64 0] 193)) := ((Below.refl w.heap.size w).alloc (Nat.le_refl _) _).alloc (by simp) _
    have hx1 := h.blw ((Below.refl w.heap.size w).alloc (Nat.le_refl _) (.cells #[.int .i64 0, .int .i64 0, .int .i64 0, .int .i64 0] 193))
    have c1 := hx1.leaf
    rw [hl] at c1
    have hx := h.blw hb1
    have d0 := hx.to (k := 0) (o := t0) (by rw [ht]; rfl)
    have d1 := hx.to (k := 1) (o := t1) (by rw [ht]; rfl)
    have d2 := hx.to (k := 2) (o := t2) (by rw [ht]; rfl)
    have d3 := hx.to (k := 3) (o := t3) (by rw [ht]; rfl)
    have S0 : Hid (KSt w ((w.alloc (.cells #[.int .i64 0, .int .i64 0, .int .i64 0, .int .i64 0] 193)).alloc (.cells #[.int .i64 0, .int .i64 0, .int .i64 0, .int .i64 0] 193)) w.heap.size [0, 0, 0, 0]) := by
      refine ⟨(Below.heap_alloc _ _ _ (by simp)).trans (heap_alloc_new w _), ?_, hb1⟩
      have := heap_alloc_new (w.alloc (.cells #[.int .i64 0, .int .i64 0, .int .i64 0, .int .i64 0] 193)) (.cells #[.int .i64 0, .int .i64 0, .int .i64 0, .int .i64 0] 193)
      rw [show (w.alloc (.cells #[.int .i64 0, .int .i64 0, .int .i64 0, .int .i64 0] 193)).heap.size = w.heap.size + 1 by simp] at this
      exact this
    have e0 : ∀ o : Option Nat, ∃ a, pval o = .pointer a := fun o => by cases o <;> exact ⟨_, rfl⟩
    have HT := hide ht
    have H4 : Hid (x.tos.length = 4) := h.2.2
    have HK := hide hkk
    have HK4 := hide hk4
    have AG : Hid (Value.agg (pcells x.tos).toArray = .agg #[pval t0, pval t1, pval t2, pval t3]) := by show _ = _; rw [ht]; rfl
    obtain ⟨a0, ha0⟩ := e0 t0
    obtain ⟨a1, ha1⟩ := e0 t1
    obtain ⟨a2, ha2⟩ := e0 t2
    obtain ⟨a3, ha3⟩ := e0 t3
    rw [ha0] at d0 AG
    rw [ha1] at d1 AG
    rw [ha2] at d2 AG
    rw [ha3] at d3 AG
    simp only [Nat.reduceAdd] at d0 d1 d2 d3
    clear h hx hx1 ht hl hb1 e0 hkk hk4 ha0 ha1 ha2 ha3
    unfold ptr
    go_enter Tryz.func164, Tryz.ntmps164
    go_wp2
    rw [← AG.out]
    obtain ⟨z, hz⟩ : ∃ z, w.heap.size = z := ⟨_, rfl⟩
    have HZ := hide hz
    rw [hz] at S0 ⊢
    clear d0 d1 d2 d3 c1 hz AG
    generalize (w.alloc (.cells #[.int .i64 0, .int .i64 0, .int .i64 0, .int .i64 0] 193)).alloc (.cells #[.int .i64 0, .int .i64 0, .int .i64 0, .int .i64 0] 193) = wa at S0 ⊢
    go_loopw [18] (fun iv W => ∃ k : Nat, k ≤ 4 ∧ iv = .int .i64 k ∧ Hid (KSt w W z (ks.take k ++ [0, 0, 0, 0].drop k))) (fun iv _ => 4 - (intOf iv).toNat)
    case atStart => exact ⟨0, by omega, rfl, S0⟩
    case round =>
      obtain ⟨k, hk, rfl, HS⟩ := hrel
      clear S0
      by_cases hlt : (k : Int) < 4
      · obtain ⟨o, ho⟩ : ∃ o, x.tos[k]? = some o := ⟨_, List.getElem?_eq_getElem (by have := H4.out; omega)⟩
        have hix := idxP x.tos k o H4.out ho
        obtain ⟨p, hp, hc⟩ := HK.out k o ho
        have k0 : (0 : Int) ≤ k := by omega
        have oc : wr.cell? ⟨z + 1, k, none⟩ = some (.int .i64 0) := HS.out.cell (by
          rw [List.getElem?_append_right (by simp; omega), List.length_take, Nat.min_eq_left (by have := HK4.out; omega), Nat.sub_self, List.getElem?_drop]
          have : k = 0 ∨ k = 1 ∨ k = 2 ∨ k = 3 := by omega
          rcases this with rfl | rfl | rfl | rfl <;> rfl)
        have of := HS.out.fr k
        have ST : ∀ m : Int, Hid (KSt w (wr.setCell ⟨z + 1, k, none⟩ (.int .i64 m)) z ((ks.take k ++ [0, 0, 0, 0].drop k).set k m)) := fun m => HS.out.set m
        have EN : Hid ((ks.take k ++ [0, 0, 0, 0].drop k).set k p = ks.take (k + 1) ++ [0, 0, 0, 0].drop (k + 1)) := by
          show _ = _
          have hkl := (List.getElem?_eq_some_iff.1 hp).1
          rw [List.set_append_right _ _ (by simp; omega), List.length_take, Nat.min_eq_left (by omega), Nat.sub_self, List.take_succ_eq_append_getElem hkl, (List.getElem?_eq_some_iff.1 hp).2, List.append_assoc]
          have : k = 0 ∨ k = 1 ∨ k = 2 ∨ k = 3 := by omega
          rcases this with rfl | rfl | rfl | rfl <;> rfl
        rcases hc with ⟨rfl, rfl⟩ | ⟨c, rfl, hc, hcl⟩
        · have S1 := ST (-1)
          rw [EN.out] at S1
          have hix2 : ∀ W : World, (Instr.index 194 (.agg (pcells x.tos).toArray) (.int .i64 (k : Int))).run Tryz.prog W = .ok (.pointer none) W := hix
          clear ST HS EN hix ho hp HK
          go_wp2
          go_roundw
          case rel => exact ⟨k + 1, by omega, by go_num, S1⟩
          case measure => simp [intOf]; omega
        · have S1 : Hid (KSt w ((wr.setCell ⟨z + 1, k, none⟩ (.int .i64 (-1))).setCell ⟨z + 1, k, none⟩ (.int .i64 p)) z ((ks.take k ++ [0, 0, 0, 0].drop k).set k p)) := by
            have := (HS.out.set (k := k) (-1)).set (k := k) p
            rw [List.set_set] at this
            exact this
          have hwr : w.heap.size = z := HZ.out
          have cc : (wr.setCell ⟨z + 1, k, none⟩ (.int .i64 (-1))).cell? ⟨c, 0, none⟩ = some (.int .i64 p) := by
            rw [World.cell?_setCell_other _ _ _ _ (fun e => by injection e; omega), HS.out.2.2.cell (show c < z by omega)]
            exact hc
          have hix2 : ∀ W : World, (Instr.index 194 (.agg (pcells x.tos).toArray) (.int .i64 (k : Int))).run Tryz.prog W = .ok (.pointer (some ⟨c, 0, none⟩)) W := hix
          rw [EN.out] at S1
          clear ST HS EN hix ho hp HK hwr
          go_wp2
          go_roundw
          case rel => exact ⟨k + 1, by omega, by go_num, S1⟩
          case measure => simp [intOf]; omega
      · have e4 : k = 4 := by omega
        subst e4
        have S1 : Hid (KSt w wr z ks) := by
          have := HS.out
          rw [List.take_of_length_le (by have := HK4.out; omega)] at this
          show KSt w wr z ks
          simpa using this
        obtain ⟨k0, k1, k2, k3, hks⟩ := list4 HK4.out
        have HKS := hide hks
        rw [hks] at S1
        have q0 := S1.out.cell (k := 0) rfl
        have q1 := S1.out.cell (k := 1) rfl
        have q2 := S1.out.cell (k := 2) rfl
        have q3 := S1.out.cell (k := 3) rfl
        have p0 := cell_of_row _ _ 0 _ _ _ S1.out.1
        have p1 := cell_of_row _ _ 1 _ _ _ S1.out.1
        have p2 := cell_of_row _ _ 2 _ _ _ S1.out.1
        have p3 := cell_of_row _ _ 3 _ _ _ S1.out.1
        have f0 := fun o => frozen_of_row _ _ o _ _ S1.out.1
        clear HS HK hks HK4
        go_wp2
        exact bodyPost_ret (results_arr rfl _ _ _ (icells [k0, k1, k2, k3]) _ rfl (four_set S1.out.1 _ _ _ _) Tryz.underlying193 rfl infoK4) rfl ⟨congrArg (fun l => Ending.returned (.agg (icells l).toArray)) HKS.out.symm, by rw [HZ.out]; exact four_below S1.out.2.2 (Nat.le_refl _) _ _ _ _⟩
end Go.Proofs.YtfmnaidhfgmemaaGreatDoor

namespace Go.Proofs.YtfmnaidhfgmemaaGreatDoor
open Go.RowKit
theorem icells_set (l : List Int) (k : Nat) (n : Int) : (icells l).set k (.int .i64 n) = icells (l.set k n) := by simp [icells, List.map_set]
theorem part_set {α : Type} {l r : List α} {k : Nat} {v : α} (hl : l[k]? = some v) (hr : r.length = l.length) : (l.take k ++ r.drop k).set k v = l.take (k + 1) ++ r.drop (k + 1) := by
  obtain ⟨hk, e⟩ := List.getElem?_eq_some_iff.1 hl
  rw [List.set_append_right _ _ (by rw [List.length_take]; omega), List.length_take, Nat.min_eq_left (by omega), Nat.sub_self, List.drop_eq_getElem_cons (by omega), List.set_cons_zero, List.take_succ_eq_append_getElem hk, e, List.append_assoc]
  rfl
theorem part_at {α : Type} {l r : List α} {k : Nat} (hk : k < l.length) : (l.take k ++ r.drop k)[k]? = r[k]? := by
  rw [List.getElem?_append_right (by rw [List.length_take]; omega), List.length_take, Nat.min_eq_left (by omega), Nat.sub_self, List.getElem?_drop]
  simp
end Go.Proofs.YtfmnaidhfgmemaaGreatDoor

namespace Go.Proofs.YtfmnaidhfgmemaaGreatDoor
open Go.RowKit
open Words
theorem eq_int (d : Nat) (a b : Int) (W : World) : (Op.equalIn (d + 1) 3 (.int .i64 a) (.int .i64 b)).run Tryz.prog W = .ok (a == b) W := run_equalIn_int W d 3 .i64 .i64 a b Tryz.underlying3
theorem eq4 (a0 a1 a2 a3 b0 b1 b2 b3 : Int) (W : World) : (binOp .eql 193 (.agg (icells [a0, a1, a2, a3]).toArray) (.agg (icells [b0, b1, b2, b3]).toArray)).run Tryz.prog W = .ok (.bool ([a0, a1, a2, a3] == [b0, b1, b2, b3])) W := by
  rw [run_eql_struct]
  have e : (Op.equalIn 10000 193 (.agg (icells [a0, a1, a2, a3]).toArray) (.agg (icells [b0, b1, b2, b3]).toArray)).run Tryz.prog W = .ok ([a0, a1, a2, a3] == [b0, b1, b2, b3]) W := by
    show (Op.equalIn (9999 + 1) _ _ _).run _ _ = _
    obtain ⟨i0, hi, hz0, hz1, hz2⟩ := info_parts infoInt
    rw [Op.equalIn]
    simp only [Sem.run_bind, run_underlying Tryz.underlying193, Result.andThen_ok, sizeOf, typeInfo]
    have eqi : ∀ (a b : Int) (W : World), (Op.equalIn 9999 3 (.int .i64 a) (.int .i64 b)).run Tryz.prog W = .ok (a == b) W := fun a b W => eq_int 9998 a b W
    simp [icells, hi, hz1, List.range', part, isAgg, sizeOf, typeInfo, run_underlying Tryz.underlying3, eqi]
    cases h0 : a0 == b0 <;> simp at h0 <;> simp [h0]
    cases h1 : a1 == b1 <;> simp at h1 <;> simp [h1]
    cases h2 : a2 == b2 <;> simp at h2 <;> simp [h2]
    cases h3 : a3 == b3 <;> simp at h3 <;> simp [h3]
  rw [e]
  rfl
end Go.Proofs.YtfmnaidhfgmemaaGreatDoor
