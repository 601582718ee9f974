/-
  StoTk2; PartL; LkN
-/
import Derived.Test.YtcnaahajaaifjabStoTk
import Derived.Test.YtcnaahajaaifjabPk35
import Derived.Test.YtcnaahajaaifjabMkRc
import Derived.Test.YtcnaahajaaifjabPk0
import Derived.Test.YtcnaahajaaifjabKnN
import Derived.Test.YtcnaahajaaifjabTrMath2
/-
  What the laws hold: rows of numbers and of records, great ones too.
-/
namespace Go.Proofs.Ytcnaahajaaifjab
open Go.RowKit
open Words

theorem eqiw_tk {w wi : World} {hs : List Hold} {a b : Value} {l : List Int} {n l1 h1 l2 h2 : Nat} (T : Tk w wi hs) (n1 n2 : Nat) (hn : l.length = n) (hm : n ≤ 100000000) (e1 : hs[n1]? = some (l1, h1, IsH l1 h1 a n l)) (e2 : hs[n2]? = some (l2, h2, IsH l2 h2 b n l)) :
    Calls Try.prog 26 #[a, b] wi fun e w' => e = .returned (.bool true) ∧ Tk w w' hs ∧ wi.heap.size ≤ w'.heap.size := by
  refine (eqIs_same a b l n l1 h1 l2 h2 wi hn (by omega) (T.get n1 e1) (T.get n2 e2)).mono ?_
  rintro e w' ⟨rfl, hb⟩
  exact ⟨rfl, T.below hb, hb.size⟩
theorem markiw_tk {w wi : World} {hs hs' : List Hold} {a : Value} {l : List Int} {n m l1 h1 : Nat} (T : Tk w wi hs) (n1 : Nat) (hn : l.length = n) (hn2 : n ≤ 100000000) (hm : 1 + n = m) (hlo : w.heap.size ≤ l1) (e1 : hs[n1]? = some (l1, h1, IsH l1 h1 a n l)) (hh : ∀ x ∈ hs', x ∈ hs ∧ (x.2.1 ≤ l1 ∨ h1 ≤ x.1)) :
    Calls Try.prog 27 #[a, .int .i64 1] wi fun e w' => e = .returned (.int .i64 (m : Int)) ∧ Tk w w' ((l1, h1, IsM l1 h1 a n) :: hs') ∧ wi.heap.size ≤ w'.heap.size := by
  have hx : Sli 3 l1 h1 a n (icells l) wi := T.get n1 e1
  refine (markIs_any l1 h1 a n 1 (icells l) wi (by omega) (by simp [icells, hn]) (by omega) (by omega) hx).mono ?_
  rintro e w' ⟨rfl, hs2, hk⟩
  rw [hm]
  have hk2 : Kept2 wi w' (Apt l1 h1) := ⟨hk.out.1, hk.out.2.1, hk.out.2.2.1, hk.out.2.2.2.1, fun i hi ho => hk.out.2.2.2.2 i hi (fun e => by
    have := hx.lt i e
    exact ho ⟨this.1, this.2.1⟩)⟩
  exact ⟨rfl, T.touch hk2 hlo (T.hi n1 e1) (IsM.loc _ _ _ _) hs2.out hh, hk.out.2.2.2.1⟩
theorem heldiw_tk {w wi : World} {hs : List Hold} {a : Value} {n m l1 h1 : Nat} (T : Tk w wi hs) (n1 : Nat) (hn2 : n ≤ 100000000) (hm : 1 + n = m) (e1 : hs[n1]? = some (l1, h1, IsM l1 h1 a n)) :
    Calls Try.prog 28 #[a, .int .i64 1] wi fun e w' => e = .returned (.int .i64 (m : Int)) ∧ Tk w w' hs ∧ wi.heap.size ≤ w'.heap.size := by
  refine (heldIs_any l1 h1 a n 1 wi (by omega) (by omega) (by omega) (T.get n1 e1)).mono ?_
  rintro e w' ⟨rfl, hb⟩
  rw [hm]
  exact ⟨rfl, T.below hb, hb.size⟩
/-- A row of records in the blocks lo to hi; marked. -/
def RcH (lo hi : Nat) (v : Value) (n : Nat) (l : List Rc) : World → Prop := Sli 74 lo hi v n (rccells (l.map Rc.tu))
theorem RcH.loc (lo hi : Nat) (v : Value) (n : Nat) (l : List Rc) : Loc lo hi (RcH lo hi v n l) := Sli.loc _ _ _ _ _ _
def RcM (lo hi : Nat) (v : Value) (n : Nat) : World → Prop := Sli 74 lo hi v n (mkFlat patRc 1 n)
theorem RcM.loc (lo hi : Nat) (v : Value) (n : Nat) : Loc lo hi (RcM lo hi v n) := Sli.loc _ _ _ _ _ _
theorem eqrw_tk {w wi : World} {hs : List Hold} {a b : Value} {l : List Rc} {n l1 h1 l2 h2 : Nat} (T : Tk w wi hs) (n1 n2 : Nat) (hn : l.length = n) (hM : n ≤ 100000000) (e1 : hs[n1]? = some (l1, h1, RcH l1 h1 a n l)) (e2 : hs[n2]? = some (l2, h2, RcH l2 h2 b n l)) :
    Calls Try.prog 20 #[a, b] wi fun e w' => e = .returned (.bool true) ∧ Tk w w' hs ∧ wi.heap.size ≤ w'.heap.size := by
  have x1 : Sli 74 l1 h1 a n (rccells (l.map Rc.tu)) wi := T.get n1 e1
  have x2 : Sli 74 l2 h2 b n (rccells (l.map Rc.tu)) wi := T.get n2 e2
  have hn2 : n = (l.map Rc.tu).length := by rw [List.length_map, hn]
  rw [hn2] at x1 x2 hM
  refine (eqRcs_same a b (l.map Rc.tu) l1 h1 l2 h2 wi (by omega) x1 x2).mono ?_
  rintro e w' ⟨rfl, hb⟩
  exact ⟨rfl, T.below hb, hb.size⟩
theorem markrw_tk {w wi : World} {hs hs' : List Hold} {a : Value} {l : List Rc} {n m l1 h1 : Nat} (T : Tk w wi hs) (n1 : Nat) (hn : l.length = n) (hM : n ≤ 100000000) (hm : 1 + n * 4 = m) (hlo : w.heap.size ≤ l1) (e1 : hs[n1]? = some (l1, h1, RcH l1 h1 a n l)) (hh : ∀ x ∈ hs', x ∈ hs ∧ (x.2.1 ≤ l1 ∨ h1 ≤ x.1)) :
    Calls Try.prog 22 #[a, .int .i64 1] wi fun e w' => e = .returned (.int .i64 (m : Int)) ∧ Tk w w' ((l1, h1, RcM l1 h1 a n) :: hs') ∧ wi.heap.size ≤ w'.heap.size := by
  refine (markRc_any l1 h1 a n 1 (rccells (l.map Rc.tu)) wi (by omega) (by rw [rccells_len, List.length_map, hn]) (by omega) (by omega) (T.hi n1 e1) (T.get n1 e1)).mono ?_
  rintro e w' ⟨rfl, hs, hk⟩
  rw [hm]
  exact ⟨rfl, T.touch hk.out hlo (T.hi n1 e1) (RcM.loc _ _ _ _) hs.out hh, hk.out.2.2.2.1⟩
theorem heldrw_tk {w wi : World} {hs : List Hold} {a : Value} {n m l1 h1 : Nat} (T : Tk w wi hs) (n1 : Nat) (hM : n ≤ 100000000) (hm : 1 + n * 4 = m) (e1 : hs[n1]? = some (l1, h1, RcM l1 h1 a n)) :
    Calls Try.prog 23 #[a, .int .i64 1] wi fun e w' => e = .returned (.int .i64 (m : Int)) ∧ Tk w w' hs ∧ wi.heap.size ≤ w'.heap.size := by
  refine (heldRc_any l1 h1 a n 1 wi (by omega) (by omega) (by omega) (T.hi n1 e1) (T.get n1 e1)).mono ?_
  rintro e w' ⟨rfl, hb⟩
  rw [hm]
  exact ⟨rfl, T.below hb, hb.size⟩
end Go.Proofs.Ytcnaahajaaifjab

/-
  Lists that are rewritten from the front on.
-/
namespace Go.Proofs.Ytcnaahajaaifjab
open Go.RowKit

theorem icells_set (l : List Int) (k : Nat) (n : Int) : (icells l).set k (.int .i64 n) = icells (l.set k n) := by simp [icells, List.map_set]
theorem part_set {α : Type} {l r : List α} {k : Nat} {v : α} (hl : l[k]? = some v) (hr : r.length = l.length) : (l.take k ++ r.drop k).set k v = l.take (k + 1) ++ r.drop (k + 1) := by
  obtain ⟨hk, e⟩ := List.getElem?_eq_some_iff.1 hl
  rw [List.set_append_right _ _ (by rw [List.length_take]; omega), List.length_take, Nat.min_eq_left (by omega), Nat.sub_self, List.drop_eq_getElem_cons (by omega), List.set_cons_zero, List.take_succ_eq_append_getElem hk, e, List.append_assoc]
  rfl
theorem part_at {α : Type} {l r : List α} {k : Nat} (hk : k < l.length) : (l.take k ++ r.drop k)[k]? = r[k]? := by
  rw [List.getElem?_append_right (by rw [List.length_take]; omega), List.length_take, Nat.min_eq_left (by omega), Nat.sub_self, List.getElem?_drop]
  simp
theorem part_all {α : Type} {l r : List α} (h : r.length = l.length) : l.take l.length ++ r.drop l.length = l := by rw [List.take_length, List.drop_eq_nil_of_le (by omega), List.append_nil]
end Go.Proofs.Ytcnaahajaaifjab

/-
  Knots whose leaves stand behind pointers: what lies in their blocks.
-/
namespace Go.Proofs.Ytcnaahajaaifjab
open Go.RowKit
open Words

/-- A linked knot: its place, is it a leaf, its numbers, the blocks of its leaves, is it needed. -/
structure Lk where
  place : Int
  leaf : Bool
  nums : List Int
  tos : List (Option Nat)
  need : Bool
def ptr (b : Nat) : Value := .pointer (some ⟨b, 0, none⟩)
def pval : Option Nat → Value
  | none => .pointer none
  | some b => ptr b
def pcells (l : List (Option Nat)) : List Value := l.map pval
/-- A row of pointers, none of them nil. -/
def bcellsP (l : List Nat) : List Value := l.map ptr
def lkcells (x : Lk) : List Value := [.int .i64 x.place, .bool x.leaf] ++ (icells x.nums ++ (pcells x.tos ++ [.bool x.need]))
/-- It has four numbers and four leaves. -/
def Lk.Four (x : Lk) : Prop := x.nums.length = 4 ∧ x.tos.length = 4
/-- Block b is that knot. -/
def LkAt (W : World) (b : Nat) (x : Lk) : Prop := W.heap[b]? = some (.cells (lkcells x).toArray 109 (0, 0)) ∧ x.Four
theorem LkAt.lt {W : World} {b : Nat} {x : Lk} (h : LkAt W b x) : b < W.heap.size := (Array.getElem?_eq_some_iff.1 h.1).1
theorem LkAt.below {W W' : World} {b C : Nat} {x : Lk} (h : LkAt W b x) (hb : Below C W W') (hC : b < C) : LkAt W' b x := ⟨(hb.block b hC).trans h.1, h.2⟩
theorem LkAt.blw {W W' : World} {b : Nat} {x : Lk} (h : LkAt W b x) (hb : Below W.heap.size W W') : LkAt W' b x := h.below hb h.lt
theorem LkAt.frozen {W : World} {b : Nat} {x : Lk} (h : LkAt W b x) (o : Nat) : W.frozen? ⟨b, o, none⟩ = false := frozen_of_row _ _ o _ _ h.1
theorem LkAt.cell {W : World} {b k : Nat} {x : Lk} {v : Value} (h : LkAt W b x) (hk : (lkcells x)[k]? = some v) : W.cell? ⟨b, k, none⟩ = some v := by
  rw [cell_of_row _ _ k _ _ _ h.1]
  simpa using hk
theorem LkAt.place {W : World} {b : Nat} {x : Lk} (h : LkAt W b x) : W.cell? ⟨b, 0, none⟩ = some (.int .i64 x.place) := h.cell rfl
theorem LkAt.leaf {W : World} {b : Nat} {x : Lk} (h : LkAt W b x) : W.cell? ⟨b, 1, none⟩ = some (.bool x.leaf) := h.cell rfl
theorem lk_num {x : Lk} {k : Nat} {n : Int} (hk : x.nums[k]? = some n) : (lkcells x)[2 + k]? = some (.int .i64 n) := by
  have hl := (List.getElem?_eq_some_iff.1 hk).1
  rw [lkcells, List.getElem?_append_right (by simp), List.getElem?_append_left (by simp [icells]; omega)]
  simpa using icells_get hk
theorem lk_to {x : Lk} (h4 : x.Four) {k : Nat} {o : Option Nat} (hk : x.tos[k]? = some o) : (lkcells x)[6 + k]? = some (pval o) := by
  have hl := (List.getElem?_eq_some_iff.1 hk).1
  have h1 : (icells x.nums).length = 4 := by simp [icells, h4.1]
  rw [lkcells, List.getElem?_append_right (by simp; omega), List.getElem?_append_right (by rw [h1]; simp; omega), List.getElem?_append_left (by rw [h1]; simp [pcells]; omega), h1]
  have e : 6 + k - [Value.int .i64 x.place, Value.bool x.leaf].length - 4 = k := by simp; omega
  rw [e, pcells, List.getElem?_map, hk]
  rfl
theorem lk_need {x : Lk} (h4 : x.Four) : (lkcells x)[10]? = some (.bool x.need) := by
  have h1 : (icells x.nums).length = 4 := by simp [icells, h4.1]
  have h2 : (pcells x.tos).length = 4 := by simp [pcells, h4.2]
  rw [lkcells, List.getElem?_append_right (by simp), List.getElem?_append_right (by rw [h1]; simp), List.getElem?_append_right (by rw [h1, h2]; simp), h1, h2]
  rfl
theorem LkAt.num {W : World} {b k : Nat} {x : Lk} {n : Int} (h : LkAt W b x) (hk : x.nums[k]? = some n) : W.cell? ⟨b, 2 + k, none⟩ = some (.int .i64 n) := h.cell (lk_num hk)
theorem LkAt.to {W : World} {b k : Nat} {x : Lk} {o : Option Nat} (h : LkAt W b x) (hk : x.tos[k]? = some o) : W.cell? ⟨b, 6 + k, none⟩ = some (pval o) := h.cell (lk_to h.2 hk)
theorem LkAt.need {W : World} {b : Nat} {x : Lk} (h : LkAt W b x) : W.cell? ⟨b, 10, none⟩ = some (.bool x.need) := h.cell (lk_need h.2)
theorem lk_size {x : Lk} (h4 : x.Four) : (lkcells x).length = 11 := by simp [lkcells, icells, pcells, h4.1, h4.2]
/-- A cell of it is written. -/
theorem LkAt.set {W : World} {b k : Nat} {x x' : Lk} {u : Value} (h : LkAt W b x) (h4 : x'.Four) (e : lkcells x' = (lkcells x).set k u) : LkAt (W.setCell ⟨b, k, none⟩ u) b x' := by
  refine ⟨?_, h4⟩
  rw [row_set h.1, e]
  simp
theorem LkAt.other {W : World} {b g k : Nat} {x : Lk} (h : LkAt W b x) (hne : b ≠ g) (u : Value) : LkAt (W.setCell ⟨g, k, none⟩ u) b x := ⟨row_set_ne h.1 hne _ _, h.2⟩
theorem LkAt.setPlace {W : World} {b : Nat} {x : Lk} (h : LkAt W b x) (p : Int) : LkAt (W.setCell ⟨b, 0, none⟩ (.int .i64 p)) b { x with place := p } := h.set h.2 rfl
theorem LkAt.setNeed {W : World} {b : Nat} {x : Lk} (h : LkAt W b x) : LkAt (W.setCell ⟨b, 10, none⟩ (.bool true)) b { x with need := true } := by
  refine h.set h.2 ?_
  have h1 : (icells x.nums).length = 4 := by simp [icells, h.2.1]
  have h2 : (pcells x.tos).length = 4 := by simp [pcells, h.2.2]
  rw [lkcells, lkcells, List.set_append_right _ _ (by simp), List.set_append_right _ _ (by rw [h1]; simp), List.set_append_right _ _ (by rw [h1, h2]; simp), h1, h2]
  rfl
theorem LkAt.setNum {W : World} {b k : Nat} {x : Lk} (h : LkAt W b x) (hk : k < 4) (n : Int) : LkAt (W.setCell ⟨b, 2 + k, none⟩ (.int .i64 n)) b { x with nums := x.nums.set k n } := by
  refine h.set ⟨by simp [h.2.1], h.2.2⟩ ?_
  have h1 : (icells x.nums).length = 4 := by simp [icells, h.2.1]
  rw [lkcells, lkcells, List.set_append_right _ _ (by simp), List.set_append_left _ _ (by rw [h1]; simp; omega)]
  have e : 2 + k - [Value.int .i64 x.place, Value.bool x.leaf].length = k := by simp
  rw [e]
  simp [icells, List.map_set]
theorem LkAt.setTo {W : World} {b k : Nat} {x : Lk} (h : LkAt W b x) (hk : k < 4) (o : Option Nat) : LkAt (W.setCell ⟨b, 6 + k, none⟩ (pval o)) b { x with tos := x.tos.set k o } := by
  refine h.set ⟨h.2.1, by simp [h.2.2]⟩ ?_
  have h1 : (icells x.nums).length = 4 := by simp [icells, h.2.1]
  have h2 : (pcells x.tos).length = 4 := by simp [pcells, h.2.2]
  rw [lkcells, lkcells, List.set_append_right _ _ (by simp; omega), List.set_append_right _ _ (by rw [h1]; simp; omega), List.set_append_left _ _ (by rw [h1, h2]; simp; omega), h1]
  have e : 6 + k - [Value.int .i64 x.place, Value.bool x.leaf].length - 4 = k := by simp; omega
  rw [e]
  simp [pcells, List.map_set]

set_option maxHeartbeats 400000 in
set_option maxRecDepth 100000 in
theorem inumAt (b : Nat) (x : Lk) (s : Nat) (v : Int) (w : World) (hs : s ≤ 15) (h : LkAt w b x) (hv : (∃ k, k = s / 4 ∧ x.tos[k]? = some none ∧ v = 0) ∨ ∃ c y, x.tos[s / 4]? = some (some c) ∧ LkAt w c y ∧ y.nums[s % 4]? = some v) :
    Calls Try.prog 79 #[ptr b, .int .i64 s] w fun e w' => e = .returned (.int .i64 v) ∧ w' = w := by
  obtain ⟨q, hq⟩ : ∃ q, s / 4 = q := ⟨_, rfl⟩
  obtain ⟨t, ht⟩ : ∃ t, s % 4 = t := ⟨_, rfl⟩
  rw [hq] at hv
  rw [ht] at hv
  have tq : (s : Int).tdiv 4 = (q : Int) := by rw [Int.tdiv_eq_ediv_of_nonneg (by omega)]; omega
  have tt : (s : Int).tmod 4 = (t : Int) := by rw [Int.tmod_eq_emod_of_nonneg (by omega)]; omega
  have tq2 : (s : Int) / 4 = (q : Int) := by omega
  have tt2 : (s : Int) % 4 = (t : Int) := by omega
  have q0 : (0 : Int) ≤ q := by omega
  have q4 : (q : Int) < 4 := by omega
  have t0 : (0 : Int) ≤ t := by omega
  have t4 : (t : Int) < 4 := by omega
  rcases hv with ⟨k, rfl, hk, rfl⟩ | ⟨c, y, hk, hy, hn⟩
  · have c1 : w.cell? ⟨b, 6 + k, none⟩ = some (.pointer none) := h.to hk
    clear h hk hq ht
    unfold ptr
    go_enter Try.func79, Try.ntmps79
    go_wp2
    go_ret
    exact ⟨rfl, rfl⟩
  · have c1 : w.cell? ⟨b, 6 + q, none⟩ = some (.pointer (some ⟨c, 0, none⟩)) := h.to hk
    have c2 : w.cell? ⟨c, 2 + t, none⟩ = some (.int .i64 v) := hy.num hn
    clear h hk hq ht hy hn
    unfold ptr
    go_enter Try.func79, Try.ntmps79
    go_wp2
    go_ret
    exact ⟨rfl, rfl⟩
end Go.Proofs.Ytcnaahajaaifjab
