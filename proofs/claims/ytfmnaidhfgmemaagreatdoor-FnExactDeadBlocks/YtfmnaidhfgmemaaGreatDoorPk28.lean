/-
  StoM4; StoM5; StoC; SRecOk; IRecOk; IVol; PartL; LkN; ILeaf
-/
import Derived.Test.YtfmnaidhfgmemaaGreatDoorPk27
import Derived.Test.YtfmnaidhfgmemaaGreatDoorPk0
import Derived.Test.YtfmnaidhfgmemaaGreatDoorPk12
import Derived.Lib.SliceRun
import Derived.Test.YtfmnaidhfgmemaaGreatDoorPk26
namespace Go.Proofs.YtfmnaidhfgmemaaGreatDoor
namespace Words
def AscP (l : List Int) : Prop := l.Pairwise (fun a b => a < b) ∧ ∀ x ∈ l, 0 < x
theorem insI_mem {l : List Int} (h : AscP l) {x y : Int} : y ∈ insI l x ↔ y ∈ l ∨ (0 < x ∧ y = x) := by
  unfold insI
  rw [List.mem_append, List.mem_append, List.mem_filter, List.mem_filter]
  simp only [decide_eq_true_eq]
  constructor
  · rintro ((q | q) | q)
    · exact .inl q.1
    · split at q
      · rename_i hx; rw [List.mem_singleton] at q; exact .inr ⟨hx, q⟩
      · cases q
    · exact .inl q.1
  · rintro (q | ⟨q1, q2⟩)
    · have := h.2 y q
      by_cases e : y = x
      · subst e; rw [if_pos this]; exact .inl (.inr (List.mem_singleton.2 rfl))
      · by_cases hlt : y < x
        · exact .inl (.inl ⟨q, hlt⟩)
        · exact .inr ⟨q, by omega⟩
    · subst q2; rw [if_pos q1]; exact .inl (.inr (List.mem_singleton.2 rfl))
theorem insI_asc {l : List Int} (h : AscP l) (x : Int) : AscP (insI l x) := by
  refine ⟨?_, fun y hy => ?_⟩
  · unfold insI
    rw [List.append_assoc, List.pairwise_append, List.pairwise_append]
    refine ⟨h.1.filter _, ⟨?_, h.1.filter _, ?_⟩, ?_⟩
    · split
      · exact List.pairwise_singleton _ _
      · exact List.Pairwise.nil
    · intro a ha b hb
      have hb2 : x < b := by simpa using (List.mem_filter.1 hb).2
      split at ha
      · rw [List.mem_singleton] at ha; omega
      · cases ha
    · intro a ha b hb
      have ha2 : a < x := by simpa using (List.mem_filter.1 ha).2
      rcases List.mem_append.1 hb with hb | hb
      · split at hb
        · rw [List.mem_singleton] at hb; omega
        · cases hb
      · have hb2 : x < b := by simpa using (List.mem_filter.1 hb).2
        omega
  · rcases (insI_mem h).1 hy with q | ⟨q1, q2⟩
    · exact h.2 y q
    · omega
theorem foldI {l : List Int} (h : AscP l) (L : List Int) : AscP (L.foldl insI l) ∧ ∀ y, y ∈ L.foldl insI l ↔ y ∈ l ∨ (0 < y ∧ y ∈ L) := by
  induction L generalizing l with
  | nil => exact ⟨h, fun y => by simp⟩
  | cons x L ih =>
    obtain ⟨h1, h2⟩ := ih (insI_asc h x)
    refine ⟨h1, fun y => ?_⟩
    rw [List.foldl_cons, h2, insI_mem h, List.mem_cons]
    constructor
    · rintro ((q | ⟨q1, q2⟩) | ⟨q1, q2⟩)
      · exact .inl q
      · subst q2; exact .inr ⟨q1, .inl rfl⟩
      · exact .inr ⟨q1, .inr q2⟩
    · rintro (q | ⟨q1, q2 | q2⟩)
      · exact .inl (.inl q)
      · subst q2; exact .inl (.inr ⟨q1, rfl⟩)
      · exact .inr ⟨q1, q2⟩
def allS (s : Sto) : List Int := s.vols.flatMap (fun v => allT s.kns v.2)
theorem live_fold (s : Sto) : liveS s = (allS s).foldl insI [] := by
  unfold liveS allS
  generalize ([] : List Int) = acc
  generalize s.vols = l
  induction l generalizing acc with
  | nil => rfl
  | cons v l ih => rw [List.foldl_cons, ih, List.flatMap_cons, List.foldl_append]
theorem live_asc (s : Sto) : AscP (liveS s) := by
  rw [live_fold]
  exact (foldI ⟨List.Pairwise.nil, fun _ h => by cases h⟩ _).1
theorem live_mem (s : Sto) (y : Int) : y ∈ liveS s ↔ 0 < y ∧ y ∈ allS s := by
  rw [live_fold, (foldI ⟨List.Pairwise.nil, fun _ h => by cases h⟩ _).2]
  simp
end Words
end Go.Proofs.YtfmnaidhfgmemaaGreatDoor

namespace Go.Proofs.YtfmnaidhfgmemaaGreatDoor
namespace Words
def chunksS (s : Sto) : List Int := (allS s).filter (fun y => decide (1 ≤ y))
theorem asc_extI : ∀ {a b : List Int}, a.Pairwise (fun x y => x < y) → b.Pairwise (fun x y => x < y) → (∀ y, y ∈ a ↔ y ∈ b) → a = b
  | [], [], _, _, _ => rfl
  | [], y :: b, _, _, h => absurd ((h y).2 List.mem_cons_self) (by simp)
  | x :: a, [], _, _, h => absurd ((h x).1 List.mem_cons_self) (by simp)
  | x :: a, y :: b, ha, hb, h => by
    rw [List.pairwise_cons] at ha hb
    have e : x = y := by
      rcases List.mem_cons.1 ((h x).1 List.mem_cons_self) with e | q
      · exact e
      · rcases List.mem_cons.1 ((h y).2 List.mem_cons_self) with e | q2
        · exact e.symm
        · have := hb.1 x q
          have := ha.1 y q2
          omega
    subst e
    rw [asc_extI ha.2 hb.2 (fun z => ?_)]
    constructor
    · intro hz
      rcases List.mem_cons.1 ((h z).1 (List.mem_cons_of_mem _ hz)) with e | q
      · subst e; have := ha.1 z hz; omega
      · exact q
    · intro hz
      rcases List.mem_cons.1 ((h z).2 (List.mem_cons_of_mem _ hz)) with e | q
      · subst e; have := hb.1 z hz; omega
      · exact q
theorem live_of {s : Sto} {l : List Int} (h1 : l.Pairwise (fun x y => x < y)) (h2 : ∀ y, y ∈ l ↔ y ∈ chunksS s) : l = liveS s := by
  refine asc_extI h1 (live_asc s).1 (fun y => ?_)
  rw [h2, live_mem, chunksS, List.mem_filter]
  simp only [decide_eq_true_eq]
  constructor
  · rintro ⟨a, b⟩; exact ⟨by omega, a⟩
  · rintro ⟨a, b⟩; exact ⟨b, by omega⟩
end Words
end Go.Proofs.YtfmnaidhfgmemaaGreatDoor

namespace Go.Proofs.YtfmnaidhfgmemaaGreatDoor
open Go.RowKit
open Words
def StIn (w : World) (v : Value) (s : Sto) : Prop :=
  ∃ va vl vc ad len cap rs, v = .agg (SBox va vl vc ad len cap s.next) ∧ s.kns = rs.map ktell ∧ vl ≤ 1048576 ∧ len ≤ 1048576 ∧ (∀ r ∈ rs, r.2.2.length ≤ 1048576) ∧ (va = none → vc = 0) ∧ VlRow w va vl s.vols ∧ KnRd w ad len rs
theorem StIn.below {w w' : World} {v : Value} {s : Sto} (h : StIn w v s) (hb : Below w.heap.size w w') : StIn w' v s := by
  obtain ⟨va, vl, vc, ad, len, cap, rs, h1, h2, h3, h4, h5, h6, h7, h8⟩ := h
  exact ⟨va, vl, vc, ad, len, cap, rs, h1, h2, h3, h4, h5, h6, h7.below hb, h8.below hb⟩
def Words.Sto.Fit (s : Sto) : Prop := s.vols.length ≤ 1048576 ∧ s.kns.length ≤ 1048576 ∧ ∀ k ∈ s.kns, k.kids.length ≤ 1048576
theorem StIn.fit {w : World} {v : Value} {s : Sto} (h : StIn w v s) : s.Fit := by
  obtain ⟨va, vl, vc, ad, len, cap, rs, h1, h2, h3, h4, h5, h6, h7, h8⟩ := h
  refine ⟨by have := h7.1; omega, by rw [h2, List.length_map]; have := h8.1; omega, fun k hk => ?_⟩
  rw [h2] at hk
  obtain ⟨r, hr, rfl⟩ := List.mem_map.1 hk
  exact h5 r hr
theorem StOut.blw {w w' : World} {v : Value} {s : Sto} (h : StOut w s v w') : Below w.heap.size w w' := by
  obtain ⟨vv, kv, lo1, hi1, lo2, hi2, -, -, -, -, -, -, -, -, h⟩ := h
  exact h
theorem sto_row3 {w : World} {g : Nat} {x0 x1 x2 a b c : Value} (h : w.heap[g]? = some (.cells #[x0, x1, x2] 45 (0, 0))) : (((w.setCell ⟨g, 0, none⟩ a).setCell ⟨g, 1, none⟩ b).setCell ⟨g, 2, none⟩ c).heap[g]? = some (.cells #[a, b, c] 45 (0, 0)) := heap_setCell_same _ _ 2 _ _ _ (heap_setCell_same _ _ 1 _ _ _ (heap_setCell_same _ _ 0 _ _ _ h))
theorem st_fin {w W : World} {z lo1 hi1 lo2 hi2 : Nat} {vv kv : Value} {s : Sto} (hz : w.heap.size ≤ z) (h1 : Sli 97 lo1 hi1 vv s.vols.length (vlcells s.vols) W) (h2 : Kns lo2 hi2 kv s.kns W) (a1 : w.heap.size ≤ lo1 ∧ (hi1 ≤ z ∨ z < lo1)) (a2 : w.heap.size ≤ lo2 ∧ (hi2 ≤ z ∨ z < lo2)) (a3 : hi1 ≤ W.heap.size) (a4 : hi2 ≤ W.heap.size) (a5 : hi1 ≤ lo2 ∨ hi2 ≤ lo1) (hb : Below w.heap.size w W) :
    StOut w s (.agg #[vv, kv, .int .i64 s.next]) (((W.setCell ⟨z, 0, none⟩ vv).setCell ⟨z, 1, none⟩ kv).setCell ⟨z, 2, none⟩ (.int .i64 s.next)) := by
  have hz2 : (((W.setCell ⟨z, 0, none⟩ vv).setCell ⟨z, 1, none⟩ kv).setCell ⟨z, 2, none⟩ (.int .i64 s.next)).heap.size = W.heap.size := by simp [World.setCell]
  have hq : ∀ q, q ≠ z → (((W.setCell ⟨z, 0, none⟩ vv).setCell ⟨z, 1, none⟩ kv).setCell ⟨z, 2, none⟩ (.int .i64 s.next)).heap[q]? = W.heap[q]? := fun q q1 => (Below.heap_setCell _ _ _ _ q1).trans ((Below.heap_setCell _ _ _ _ q1).trans (Below.heap_setCell _ _ _ _ q1))
  refine ⟨vv, kv, lo1, hi1, lo2, hi2, rfl, ?_, ?_, a1.1, by omega, a2.1, by omega, a5, ?_⟩
  · exact Sli.loc _ _ _ _ _ _ W _ (fun g g1 g2 => hq g (by omega)) h1
  · exact Kns.loc _ _ _ _ W _ (fun g g1 g2 => hq g (by omega)) h2
  · exact ((hb.setCell (p := ⟨z, 0, none⟩) hz _).setCell (p := ⟨z, 1, none⟩) hz _).setCell (p := ⟨z, 2, none⟩) hz _
def LiveC (f : Nat) : Prop := ∀ (v : Value) (s : Sto) (w : World), StIn w v s → Calls Tryz.prog f #[v] w (IOut w (liveS s))
end Go.Proofs.YtfmnaidhfgmemaaGreatDoor

namespace Go.Proofs.YtfmnaidhfgmemaaGreatDoor
open Go.RowKit
open Words
end Go.Proofs.YtfmnaidhfgmemaaGreatDoor

namespace Go.Proofs.YtfmnaidhfgmemaaGreatDoor
open Go.RowKit
open Words
end Go.Proofs.YtfmnaidhfgmemaaGreatDoor

namespace Go.Proofs.YtfmnaidhfgmemaaGreatDoor
open Go.RowKit
open Words
end Go.Proofs.YtfmnaidhfgmemaaGreatDoor

namespace Go.Proofs.YtfmnaidhfgmemaaGreatDoor
open Go.RowKit
theorem icells_set (l : List Int) (k : Nat) (n : Int) : (icells l).set k (.int .i64 n) = icells (l.set k n) := by simp [icells, List.map_set]
theorem part_set {α : Type} {l r : List α} {k : Nat} {v : α} (hl : l[k]? = some v) (hr : r.length = l.length) : (l.take k ++ r.drop k).set k v = l.take (k + 1) ++ r.drop (k + 1) := by
  obtain ⟨hk, e⟩ := List.getElem?_eq_some_iff.1 hl
  rw [List.set_append_right _ _ (by rw [List.length_take]; omega), List.length_take, Nat.min_eq_left (by omega), Nat.sub_self, List.drop_eq_getElem_cons (by omega), List.set_cons_zero, List.take_succ_eq_append_getElem hk, e, List.append_assoc]
  rfl
theorem part_at {α : Type} {l r : List α} {k : Nat} (hk : k < l.length) : (l.take k ++ r.drop k)[k]? = r[k]? := by
  rw [List.getElem?_append_right (by rw [List.length_take]; omega), List.length_take, Nat.min_eq_left (by omega), Nat.sub_self, List.getElem?_drop]
  simp
end Go.Proofs.YtfmnaidhfgmemaaGreatDoor

namespace Go.Proofs.YtfmnaidhfgmemaaGreatDoor
open Go.RowKit
open Words
structure Lk where
  place : Int
  leaf : Bool
  nums : List Int
  tos : List (Option Nat)
  need : Bool
def ptr (b : Nat) : Value := .pointer (some ⟨b, 0, none⟩)
def pval : Option Nat → Value
  | none => .pointer none
  | some b => ptr b
def pcells (l : List (Option Nat)) : List Value := l.map pval
def bcellsP (l : List Nat) : List Value := l.map ptr
def lkcells (x : Lk) : List Value := [.int .i64 x.place, .bool x.leaf] ++ (icells x.nums ++ (pcells x.tos ++ [.bool x.need]))
def Lk.Four (x : Lk) : Prop := x.nums.length = 4 ∧ x.tos.length = 4
def LkAt (W : World) (b : Nat) (x : Lk) : Prop := W.heap[b]? = some (.cells (lkcells x).toArray 196 (0, 0)) ∧ x.Four
theorem LkAt.lt {W : World} {b : Nat} {x : Lk} (h : LkAt W b x) : b < W.heap.size := (Array.getElem?_eq_some_iff.1 h.1).1
theorem LkAt.below {W W' : World} {b C : Nat} {x : Lk} (h : LkAt W b x) (hb : Below C W W') (hC : b < C) : LkAt W' b x := ⟨(hb.block b hC).trans h.1, h.2⟩
theorem LkAt.blw {W W' : World} {b : Nat} {x : Lk} (h : LkAt W b x) (hb : Below W.heap.size W W') : LkAt W' b x := h.below hb h.lt
theorem LkAt.frozen {W : World} {b : Nat} {x : Lk} (h : LkAt W b x) (o : Nat) : W.frozen? ⟨b, o, none⟩ = false := frozen_of_row _ _ o _ _ h.1
theorem LkAt.cell {W : World} {b k : Nat} {x : Lk} {v : Value} (h : LkAt W b x) (hk : (lkcells x)[k]? = some v) : W.cell? ⟨b, k, none⟩ = some v := by
  rw [cell_of_row _ _ k _ _ _ h.1]
  simpa using hk
theorem LkAt.place {W : World} {b : Nat} {x : Lk} (h : LkAt W b x) : W.cell? ⟨b, 0, none⟩ = some (.int .i64 x.place) := h.cell rfl
theorem LkAt.leaf {W : World} {b : Nat} {x : Lk} (h : LkAt W b x) : W.cell? ⟨b, 1, none⟩ = some (.bool x.leaf) := h.cell rfl
theorem lk_num {x : Lk} {k : Nat} {n : Int} (hk : x.nums[k]? = some n) : (lkcells x)[2 + k]? = some (.int .i64 n) := by
  have hl := (List.getElem?_eq_some_iff.1 hk).1
  rw [lkcells, List.getElem?_append_right (by simp), List.getElem?_append_left (by simp [icells]; omega)]
  simpa using icells_get hk
theorem lk_to {x : Lk} (h4 : x.Four) {k : Nat} {o : Option Nat} (hk : x.tos[k]? = some o) : (lkcells x)[6 + k]? = some (pval o) := by
  have hl := (List.getElem?_eq_some_iff.1 hk).1
  have h1 : (icells x.nums).length = 4 := by simp [icells, h4.1]
  rw [lkcells, List.getElem?_append_right (by simp; omega), List.getElem?_append_right (by rw [h1]; simp; omega), List.getElem?_append_left (by rw [h1]; simp [pcells]; omega), h1]
  have e : 6 + k - [Value.int .i64 x.place, Value.bool x.leaf].length - 4 = k := by simp; omega
  rw [e, pcells, List.getElem?_map, hk]
  rfl
theorem LkAt.num {W : World} {b k : Nat} {x : Lk} {n : Int} (h : LkAt W b x) (hk : x.nums[k]? = some n) : W.cell? ⟨b, 2 + k, none⟩ = some (.int .i64 n) := h.cell (lk_num hk)
theorem LkAt.to {W : World} {b k : Nat} {x : Lk} {o : Option Nat} (h : LkAt W b x) (hk : x.tos[k]? = some o) : W.cell? ⟨b, 6 + k, none⟩ = some (pval o) := h.cell (lk_to h.2 hk)
theorem LkAt.set {W : World} {b k : Nat} {x x' : Lk} {u : Value} (h : LkAt W b x) (h4 : x'.Four) (e : lkcells x' = (lkcells x).set k u) : LkAt (W.setCell ⟨b, k, none⟩ u) b x' := by
  refine ⟨?_, h4⟩
  rw [row_set h.1, e]
  simp
theorem LkAt.other {W : World} {b g k : Nat} {x : Lk} (h : LkAt W b x) (hne : b ≠ g) (u : Value) : LkAt (W.setCell ⟨g, k, none⟩ u) b x := ⟨row_set_ne h.1 hne _ _, h.2⟩
theorem LkAt.setNum {W : World} {b k : Nat} {x : Lk} (h : LkAt W b x) (hk : k < 4) (n : Int) : LkAt (W.setCell ⟨b, 2 + k, none⟩ (.int .i64 n)) b { x with nums := x.nums.set k n } := by
  refine h.set ⟨by simp [h.2.1], h.2.2⟩ ?_
  have h1 : (icells x.nums).length = 4 := by simp [icells, h.2.1]
  rw [lkcells, lkcells, List.set_append_right _ _ (by simp), List.set_append_left _ _ (by rw [h1]; simp; omega)]
  have e : 2 + k - [Value.int .i64 x.place, Value.bool x.leaf].length = k := by simp
  rw [e]
  simp [icells, List.map_set]
theorem LkAt.setTo {W : World} {b k : Nat} {x : Lk} (h : LkAt W b x) (hk : k < 4) (o : Option Nat) : LkAt (W.setCell ⟨b, 6 + k, none⟩ (pval o)) b { x with tos := x.tos.set k o } := by
  refine h.set ⟨h.2.1, by simp [h.2.2]⟩ ?_
  have h1 : (icells x.nums).length = 4 := by simp [icells, h.2.1]
  have h2 : (pcells x.tos).length = 4 := by simp [pcells, h.2.2]
  rw [lkcells, lkcells, List.set_append_right _ _ (by simp; omega), List.set_append_right _ _ (by rw [h1]; simp; omega), List.set_append_left _ _ (by rw [h1, h2]; simp; omega), h1]
  have e : 6 + k - [Value.int .i64 x.place, Value.bool x.leaf].length - 4 = k := by simp; omega
  rw [e]
  simp [pcells, List.map_set]
set_option maxHeartbeats 400000 in
set_option maxRecDepth 100000 in
theorem inumAt (b : Nat) (x : Lk) (s : Nat) (v : Int) (w : World) (hs : s ≤ 15) (h : LkAt w b x) (hv : (∃ k, k = s / 4 ∧ x.tos[k]? = some none ∧ v = 0) ∨ ∃ c y, x.tos[s / 4]? = some (some c) ∧ LkAt w c y ∧ y.nums[s % 4]? = some v) :
    Calls Tryz.prog 79 #[ptr b, .int .i64 s] w fun e w' => e = .returned (.int .i64 v) ∧ w' = w := by
  obtain ⟨q, hq⟩ : ∃ q, s / 4 = q := ⟨_, rfl⟩
  obtain ⟨t, ht⟩ : ∃ t, s % 4 = t := ⟨_, rfl⟩
  rw [hq] at hv
  rw [ht] at hv
  have tq : (s : Int).tdiv 4 = (q : Int) := by rw [Int.tdiv_eq_ediv_of_nonneg (by omega)]; omega
  have tt : (s : Int).tmod 4 = (t : Int) := by rw [Int.tmod_eq_emod_of_nonneg (by omega)]; omega
  have tq2 : (s : Int) / 4 = (q : Int) := by omega
  have tt2 : (s : Int) % 4 = (t : Int) := by omega
  have q0 : (0 : Int) ≤ q := by omega
  have q4 : (q : Int) < 4 := by omega
  have t0 : (0 : Int) ≤ t := by omega
  have t4 : (t : Int) < 4 := by omega
  rcases hv with ⟨k, rfl, hk, rfl⟩ | ⟨c, y, hk, hy, hn⟩
  · have c1 : w.cell? ⟨b, 6 + k, none⟩ = some (.pointer none) := h.to hk
    clear h hk hq ht
    unfold ptr
    go_enter Tryz.func79, Tryz.ntmps79
    go_wp2
    go_ret
    exact ⟨rfl, rfl⟩
  · have c1 : w.cell? ⟨b, 6 + q, none⟩ = some (.pointer (some ⟨c, 0, none⟩)) := h.to hk
    have c2 : w.cell? ⟨c, 2 + t, none⟩ = some (.int .i64 v) := hy.num hn
    clear h hk hq ht hy hn
    unfold ptr
    go_enter Tryz.func79, Tryz.ntmps79
    go_wp2
    go_ret
    exact ⟨rfl, rfl⟩
end Go.Proofs.YtfmnaidhfgmemaaGreatDoor

namespace Go.Proofs.YtfmnaidhfgmemaaGreatDoor
open Go.RowKit
open Words
def PRow (W : World) (fa : Option Addr) (n : Nat) (bs : List Nat) : Prop := bs.length = n ∧ n ≤ maxLen ∧ (0 < n → ∃ g, fa = some ⟨g, 0, none⟩ ∧ g < W.heap.size ∧ ∀ (i b : Nat), bs[i]? = some b → W.cell? ⟨g, i, none⟩ = some (ptr b))
theorem PRow.below {W W' : World} {fa : Option Addr} {n : Nat} {bs : List Nat} (h : PRow W fa n bs) (hb : Below W.heap.size W W') : PRow W' fa n bs := by
  obtain ⟨h1, h2, h3⟩ := h
  refine ⟨h1, h2, fun h0 => ?_⟩
  obtain ⟨g, e, hg, hc⟩ := h3 h0
  have := hb.size
  exact ⟨g, e, by omega, fun i b hi => (hb.cell (show g < W.heap.size from hg)).trans (hc i b hi)⟩
theorem PRow.at {W : World} {fa : Option Addr} {n : Nat} {bs : List Nat} (h : PRow W fa n bs) {i b : Nat} (hi : bs[i]? = some b) : ∃ g, fa = some ⟨g, 0, none⟩ ∧ g < W.heap.size ∧ W.cell? ⟨g, i, none⟩ = some (ptr b) := by
  have := (List.getElem?_eq_some_iff.1 hi).1
  obtain ⟨g, e, hg, hc⟩ := h.2.2 (by have := h.1; omega)
  exact ⟨g, e, hg, hc i b hi⟩
theorem bcellsP_get {l : List Nat} {k b : Nat} (h : l[k]? = some b) : (bcellsP l)[k]? = some (ptr b) := by rw [bcellsP, List.getElem?_map, h]; rfl
theorem bcellsP_snoc (l : List Nat) (b : Nat) : bcellsP l ++ [ptr b] = bcellsP (l ++ [b]) := by simp [bcellsP]
theorem PRow.of {W : World} {B : Nat} {v : Value} {bs : List Nat} (h : W.ownsRow B 145 1 v bs.length (bcellsP bs)) : ∃ fa c, v = .slice fa bs.length c ∧ PRow W fa bs.length bs := by
  rcases h.2 with ⟨rfl, h0⟩ | ⟨g, cap, cur, rfl, h1, h2, h3, h4, h5, h6⟩
  · exact ⟨none, 0, by rw [h0], rfl, by rw [h0]; unfold maxLen; omega, fun h => by omega⟩
  · refine ⟨_, _, rfl, rfl, by omega, fun _ => ⟨g, rfl, (Array.getElem?_eq_some_iff.1 h2).1, fun i b hi => ?_⟩⟩
    rw [← addr_at]
    exact h.cells (g := g) rfl i _ (bcellsP_get hi)
def FAt (W : World) (bs : List Nat) (xs : List Lk) : Prop := bs.length = xs.length ∧ ∀ (i b : Nat) (x : Lk), bs[i]? = some b → xs[i]? = some x → LkAt W b x
theorem FAt.below {W W' : World} {bs : List Nat} {xs : List Lk} (h : FAt W bs xs) (hb : Below W.heap.size W W') : FAt W' bs xs := ⟨h.1, fun i b x h1 h2 => (h.2 i b x h1 h2).blw hb⟩
theorem FAt.get {W : World} {bs : List Nat} {xs : List Lk} (h : FAt W bs xs) {i : Nat} {x : Lk} (hx : xs[i]? = some x) : ∃ b, bs[i]? = some b ∧ LkAt W b x := by
  have := (List.getElem?_eq_some_iff.1 hx).1
  exact ⟨_, List.getElem?_eq_getElem (by rw [h.1]; exact this), h.2 i _ x (List.getElem?_eq_getElem (by rw [h.1]; exact this)) hx⟩
theorem FAt.nil (W : World) : FAt W [] [] := ⟨rfl, fun _ _ _ h => by simp at h⟩
def leafP (bs : List Nat) (xs : List Lk) (p : Int) : Option Nat := if p < 0 then none else (xs[p.toNat]?).bind (fun x => if x.leaf = true then bs[p.toNat]? else none)
set_option maxHeartbeats 400000 in
set_option maxRecDepth 100000 in
theorem ileafAt (fa : Option Addr) (n c : Nat) (bs : List Nat) (xs : List Lk) (p : Int) (w : World) (hr : PRow w fa n bs) (hf : FAt w bs xs) :
    Calls Tryz.prog 163 #[.slice fa n c, .int .i64 p] w fun e w' => e = .returned (pval (leafP bs xs p)) ∧ w' = w := by
  have hl : xs.length = n := by rw [← hf.1]; exact hr.1
  by_cases h0 : p < 0
  · have E : Hid (leafP bs xs p = none) := if_pos h0
    rw [E.out]
    clear hr hf hl E
    go_enter Tryz.func163, Tryz.ntmps163
    go_wp2
    go_ret
    exact ⟨rfl, rfl⟩
  · obtain ⟨m, rfl⟩ : ∃ m : Nat, p = (m : Int) := ⟨p.toNat, by omega⟩
    by_cases h1 : (n : Int) ≤ m
    · have E : Hid (leafP bs xs (m : Int) = none) := by
        show _ = _
        rw [leafP, if_neg h0, Int.toNat_natCast, List.getElem?_eq_none (by omega)]
        rfl
      rw [E.out]
      clear hr hf hl E
      go_enter Tryz.func163, Tryz.ntmps163
      go_wp2
      go_ret
      exact ⟨rfl, rfl⟩
    · obtain ⟨x, hx⟩ : ∃ x, xs[m]? = some x := ⟨_, List.getElem?_eq_getElem (by omega)⟩
      obtain ⟨b, hb, ha⟩ := hf.get hx
      obtain ⟨g, rfl, -, hc⟩ := hr.at hb
      have c1 := ha.leaf
      unfold ptr at hc
      have m0 : (0 : Int) ≤ m := by omega
      have mn : (m : Int) < n := by omega
      have E : Hid (leafP bs xs (m : Int) = if x.leaf = true then some b else none) := by
        show _ = _
        rw [leafP, if_neg h0, Int.toNat_natCast, hx, hb]
        rfl
      rw [E.out]
      clear hr hf hl E ha hb hx h0 h1
      cases hxl : x.leaf with
      | true =>
        rw [hxl] at c1
        clear hxl
        go_enter Tryz.func163, Tryz.ntmps163
        go_wp2
        go_ret
        exact ⟨rfl, rfl⟩
      | false =>
        rw [hxl] at c1
        clear hxl
        go_enter Tryz.func163, Tryz.ntmps163
        go_wp2
        go_ret
        exact ⟨rfl, rfl⟩
def lkNone : Lk := ⟨-1, false, [0, 0, 0, 0], [none, none, none, none], false⟩
set_option maxHeartbeats 400000 in
set_option maxRecDepth 100000 in
theorem itree_new (fv : Value) (w : World) :
    Calls Tryz.prog 118 #[fv, .int .i64 (-1)] w fun e w' => e = .returned (ptr w.heap.size) ∧ LkAt w' w.heap.size lkNone ∧ Below w.heap.size w w' := by
  go_enter Tryz.func118, Tryz.ntmps118
  go_wp2
  go_ret
  exact ⟨rfl, ⟨heap_alloc_new w _, rfl, rfl⟩, (Below.refl _ _).alloc (Nat.le_refl _) _⟩
set_option maxHeartbeats 400000 in
set_option maxRecDepth 100000 in
theorem itree_at (fa : Option Addr) (n c : Nat) (bs : List Nat) (xs : List Lk) (m b : Nat) (x : Lk) (w : World) (hr : PRow w fa n bs) (hf : FAt w bs xs) (hx : xs[m]? = some x) (hb : bs[m]? = some b) (hl : x.leaf = false) :
    Calls Tryz.prog 118 #[.slice fa n c, .int .i64 m] w fun e w' => e = .returned (ptr b) ∧ w' = w := by
  have hlt := (List.getElem?_eq_some_iff.1 hb).1
  rw [hr.1] at hlt
  obtain ⟨g, rfl, -, hc⟩ := hr.at hb
  have c1 := (hf.2 m b x hb hx).leaf
  rw [hl] at c1
  unfold ptr at hc ⊢
  have m0 : (0 : Int) ≤ m := by omega
  have mn : (m : Int) < n := by omega
  have m1 : ((m : Int) == -1) = false := by rw [beq_eq_false_iff_ne]; omega
  clear hr hf hx hb hl hlt
  go_enter Tryz.func118, Tryz.ntmps118
  go_wp2
  go_ret
  exact ⟨rfl, rfl⟩
set_option maxHeartbeats 400000 in
set_option maxRecDepth 100000 in
theorem itree_no (fa : Option Addr) (n c : Nat) (bs : List Nat) (xs : List Lk) (r : Int) (w : World) (hr : PRow w fa n bs) (hf : FAt w bs xs) (h1 : r ≠ -1) (h2 : r < 0 ∨ (n : Int) ≤ r ∨ ∃ x, xs[r.toNat]? = some x ∧ x.leaf = true) :
    Calls Tryz.prog 118 #[.slice fa n c, .int .i64 r] w fun e w' => e = .returned (.pointer none) ∧ w' = w := by
  have m1 : (r == -1) = false := by rw [beq_eq_false_iff_ne]; exact h1
  by_cases h0 : r < 0
  · clear hr hf h2 h1
    go_enter Tryz.func118, Tryz.ntmps118
    go_wp2
    go_ret
    exact ⟨rfl, rfl⟩
  · by_cases h3 : (n : Int) ≤ r
    · clear hr hf h2 h1
      go_enter Tryz.func118, Tryz.ntmps118
      go_wp2
      go_ret
      exact ⟨rfl, rfl⟩
    · obtain ⟨x, hx, hl⟩ : ∃ x, xs[r.toNat]? = some x ∧ x.leaf = true := by
        rcases h2 with h | h | h
        · omega
        · omega
        · exact h
      obtain ⟨m, rfl⟩ : ∃ m : Nat, r = (m : Int) := ⟨r.toNat, by omega⟩
      rw [Int.toNat_natCast] at hx
      obtain ⟨b, hb, ha⟩ := hf.get hx
      obtain ⟨g, rfl, -, hc⟩ := hr.at hb
      have c1 := ha.leaf
      rw [hl] at c1
      unfold ptr at hc
      have m0 : (0 : Int) ≤ m := by omega
      have mn : (m : Int) < n := by omega
      clear hr hf hx hb hl ha h2 h1 h0 h3
      go_enter Tryz.func118, Tryz.ntmps118
      go_wp2
      go_ret
      exact ⟨rfl, rfl⟩
end Go.Proofs.YtfmnaidhfgmemaaGreatDoor
