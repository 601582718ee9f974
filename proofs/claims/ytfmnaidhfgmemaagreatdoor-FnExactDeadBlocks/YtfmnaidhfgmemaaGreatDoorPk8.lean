/-
  StoM4; StoM5; StoC; SRecOk; IRecOk; IVol; LkMath
-/
import Derived.Test.YtfmnaidhfgmemaaGreatDoorPk7
import Derived.Test.YtfmnaidhfgmemaaGreatDoorPk0
import Derived.Test.YtfmnaidhfgmemaaGreatDoorPk5
import Derived.Lib.SliceRun
import Derived.Test.YtfmnaidhfgmemaaGreatDoorILink
namespace Go.Proofs.YtfmnaidhfgmemaaGreatDoor
namespace Words
def AscP (l : List Int) : Prop := l.Pairwise (fun a b => a < b) ∧ ∀ x ∈ l, 0 < x
theorem insI_mem {l : List Int} (h : AscP l) {x y : Int} : y ∈ insI l x ↔ y ∈ l ∨ (0 < x ∧ y = x) := by
  unfold insI
  rw [List.mem_append, List.mem_append, List.mem_filter, List.mem_filter]
  simp only [decide_eq_true_eq]
  constructor
  · rintro ((q | q) | q)
    · exact .inl q.1
    · split at q
      · rename_i hx; rw [List.mem_singleton] at q; exact .inr ⟨hx, q⟩
      · cases q
    · exact .inl q.1
  · rintro (q | ⟨q1, q2⟩)
    · have := h.2 y q
      by_cases e : y = x
      · subst e; rw [if_pos this]; exact .inl (.inr (List.mem_singleton.2 rfl))
      · by_cases hlt : y < x
        · exact .inl (.inl ⟨q, hlt⟩)
        · exact .inr ⟨q, by omega⟩
    · subst q2; rw [if_pos q1]; exact .inl (.inr (List.mem_singleton.2 rfl))
theorem insI_asc {l : List Int} (h : AscP l) (x : Int) : AscP (insI l x) := by
  refine ⟨?_, fun y hy => ?_⟩
  · unfold insI
    rw [List.append_assoc, List.pairwise_append, List.pairwise_append]
    refine ⟨h.1.filter _, ⟨?_, h.1.filter _, ?_⟩, ?_⟩
    · split
      · exact List.pairwise_singleton _ _
      · exact List.Pairwise.nil
    · intro a ha b hb
      have hb2 : x < b := by simpa using (List.mem_filter.1 hb).2
      split at ha
      · rw [List.mem_singleton] at ha; omega
      · cases ha
    · intro a ha b hb
      have ha2 : a < x := by simpa using (List.mem_filter.1 ha).2
      rcases List.mem_append.1 hb with hb | hb
      · split at hb
        · rw [List.mem_singleton] at hb; omega
        · cases hb
      · have hb2 : x < b := by simpa using (List.mem_filter.1 hb).2
        omega
  · rcases (insI_mem h).1 hy with q | ⟨q1, q2⟩
    · exact h.2 y q
    · omega
theorem foldI {l : List Int} (h : AscP l) (L : List Int) : AscP (L.foldl insI l) ∧ ∀ y, y ∈ L.foldl insI l ↔ y ∈ l ∨ (0 < y ∧ y ∈ L) := by
  induction L generalizing l with
  | nil => exact ⟨h, fun y => by simp⟩
  | cons x L ih =>
    obtain ⟨h1, h2⟩ := ih (insI_asc h x)
    refine ⟨h1, fun y => ?_⟩
    rw [List.foldl_cons, h2, insI_mem h, List.mem_cons]
    constructor
    · rintro ((q | ⟨q1, q2⟩) | ⟨q1, q2⟩)
      · exact .inl q
      · subst q2; exact .inr ⟨q1, .inl rfl⟩
      · exact .inr ⟨q1, .inr q2⟩
    · rintro (q | ⟨q1, q2 | q2⟩)
      · exact .inl (.inl q)
      · subst q2; exact .inl (.inr ⟨q1, rfl⟩)
      · exact .inr ⟨q1, q2⟩
def allS (s : Sto) : List Int := s.vols.flatMap (fun v => allT s.kns v.2)
theorem live_fold (s : Sto) : liveS s = (allS s).foldl insI [] := by
  unfold liveS allS
  generalize ([] : List Int) = acc
  generalize s.vols = l
  induction l generalizing acc with
  | nil => rfl
  | cons v l ih => rw [List.foldl_cons, ih, List.flatMap_cons, List.foldl_append]
theorem live_asc (s : Sto) : AscP (liveS s) := by
  rw [live_fold]
  exact (foldI ⟨List.Pairwise.nil, fun _ h => by cases h⟩ _).1
theorem live_mem (s : Sto) (y : Int) : y ∈ liveS s ↔ 0 < y ∧ y ∈ allS s := by
  rw [live_fold, (foldI ⟨List.Pairwise.nil, fun _ h => by cases h⟩ _).2]
  simp
end Words
end Go.Proofs.YtfmnaidhfgmemaaGreatDoor

namespace Go.Proofs.YtfmnaidhfgmemaaGreatDoor
namespace Words
def chunksS (s : Sto) : List Int := (allS s).filter (fun y => decide (1 ≤ y))
theorem asc_extI : ∀ {a b : List Int}, a.Pairwise (fun x y => x < y) → b.Pairwise (fun x y => x < y) → (∀ y, y ∈ a ↔ y ∈ b) → a = b
  | [], [], _, _, _ => rfl
  | [], y :: b, _, _, h => absurd ((h y).2 List.mem_cons_self) (by simp)
  | x :: a, [], _, _, h => absurd ((h x).1 List.mem_cons_self) (by simp)
  | x :: a, y :: b, ha, hb, h => by
    rw [List.pairwise_cons] at ha hb
    have e : x = y := by
      rcases List.mem_cons.1 ((h x).1 List.mem_cons_self) with e | q
      · exact e
      · rcases List.mem_cons.1 ((h y).2 List.mem_cons_self) with e | q2
        · exact e.symm
        · have := hb.1 x q
          have := ha.1 y q2
          omega
    subst e
    rw [asc_extI ha.2 hb.2 (fun z => ?_)]
    constructor
    · intro hz
      rcases List.mem_cons.1 ((h z).1 (List.mem_cons_of_mem _ hz)) with e | q
      · subst e; have := ha.1 z hz; omega
      · exact q
    · intro hz
      rcases List.mem_cons.1 ((h z).2 (List.mem_cons_of_mem _ hz)) with e | q
      · subst e; have := hb.1 z hz; omega
      · exact q
theorem live_of {s : Sto} {l : List Int} (h1 : l.Pairwise (fun x y => x < y)) (h2 : ∀ y, y ∈ l ↔ y ∈ chunksS s) : l = liveS s := by
  refine asc_extI h1 (live_asc s).1 (fun y => ?_)
  rw [h2, live_mem, chunksS, List.mem_filter]
  simp only [decide_eq_true_eq]
  constructor
  · rintro ⟨a, b⟩; exact ⟨by omega, a⟩
  · rintro ⟨a, b⟩; exact ⟨b, by omega⟩
end Words
end Go.Proofs.YtfmnaidhfgmemaaGreatDoor

namespace Go.Proofs.YtfmnaidhfgmemaaGreatDoor
open Go.RowKit
open Words
def StIn (w : World) (v : Value) (s : Sto) : Prop :=
  ∃ va vl vc ad len cap rs, v = .agg (SBox va vl vc ad len cap s.next) ∧ s.kns = rs.map ktell ∧ vl ≤ 1048576 ∧ len ≤ 1048576 ∧ (∀ r ∈ rs, r.2.2.length ≤ 1048576) ∧ (va = none → vc = 0) ∧ VlRow w va vl s.vols ∧ KnRd w ad len rs
theorem StIn.below {w w' : World} {v : Value} {s : Sto} (h : StIn w v s) (hb : Below w.heap.size w w') : StIn w' v s := by
  obtain ⟨va, vl, vc, ad, len, cap, rs, h1, h2, h3, h4, h5, h6, h7, h8⟩ := h
  exact ⟨va, vl, vc, ad, len, cap, rs, h1, h2, h3, h4, h5, h6, h7.below hb, h8.below hb⟩
def Words.Sto.Fit (s : Sto) : Prop := s.vols.length ≤ 1048576 ∧ s.kns.length ≤ 1048576 ∧ ∀ k ∈ s.kns, k.kids.length ≤ 1048576
theorem StIn.fit {w : World} {v : Value} {s : Sto} (h : StIn w v s) : s.Fit := by
  obtain ⟨va, vl, vc, ad, len, cap, rs, h1, h2, h3, h4, h5, h6, h7, h8⟩ := h
  refine ⟨by have := h7.1; omega, by rw [h2, List.length_map]; have := h8.1; omega, fun k hk => ?_⟩
  rw [h2] at hk
  obtain ⟨r, hr, rfl⟩ := List.mem_map.1 hk
  exact h5 r hr
theorem StOut.blw {w w' : World} {v : Value} {s : Sto} (h : StOut w s v w') : Below w.heap.size w w' := by
  obtain ⟨vv, kv, lo1, hi1, lo2, hi2, -, -, -, -, -, -, -, -, h⟩ := h
  exact h
theorem sto_row3 {w : World} {g : Nat} {x0 x1 x2 a b c : Value} (h : w.heap[g]? = some (.cells #[x0, x1, x2] 45 (0, 0))) : (((w.setCell ⟨g, 0, none⟩ a).setCell ⟨g, 1, none⟩ b).setCell ⟨g, 2, none⟩ c).heap[g]? = some (.cells #[a, b, c] 45 (0, 0)) := heap_setCell_same _ _ 2 _ _ _ (heap_setCell_same _ _ 1 _ _ _ (heap_setCell_same _ _ 0 _ _ _ h))
theorem st_fin {w W : World} {z lo1 hi1 lo2 hi2 : Nat} {vv kv : Value} {s : Sto} (hz : w.heap.size ≤ z) (h1 : Sli 97 lo1 hi1 vv s.vols.length (vlcells s.vols) W) (h2 : Kns lo2 hi2 kv s.kns W) (a1 : w.heap.size ≤ lo1 ∧ (hi1 ≤ z ∨ z < lo1)) (a2 : w.heap.size ≤ lo2 ∧ (hi2 ≤ z ∨ z < lo2)) (a3 : hi1 ≤ W.heap.size) (a4 : hi2 ≤ W.heap.size) (a5 : hi1 ≤ lo2 ∨ hi2 ≤ lo1) (hb : Below w.heap.size w W) :
    StOut w s (.agg #[vv, kv, .int .i64 s.next]) (((W.setCell ⟨z, 0, none⟩ vv).setCell ⟨z, 1, none⟩ kv).setCell ⟨z, 2, none⟩ (.int .i64 s.next)) := by
  have hz2 : (((W.setCell ⟨z, 0, none⟩ vv).setCell ⟨z, 1, none⟩ kv).setCell ⟨z, 2, none⟩ (.int .i64 s.next)).heap.size = W.heap.size := by simp [World.setCell]
  have hq : ∀ q, q ≠ z → (((W.setCell ⟨z, 0, none⟩ vv).setCell ⟨z, 1, none⟩ kv).setCell ⟨z, 2, none⟩ (.int .i64 s.next)).heap[q]? = W.heap[q]? := fun q q1 => (Below.heap_setCell _ _ _ _ q1).trans ((Below.heap_setCell _ _ _ _ q1).trans (Below.heap_setCell _ _ _ _ q1))
  refine ⟨vv, kv, lo1, hi1, lo2, hi2, rfl, ?_, ?_, a1.1, by omega, a2.1, by omega, a5, ?_⟩
  · exact Sli.loc _ _ _ _ _ _ W _ (fun g g1 g2 => hq g (by omega)) h1
  · exact Kns.loc _ _ _ _ W _ (fun g g1 g2 => hq g (by omega)) h2
  · exact ((hb.setCell (p := ⟨z, 0, none⟩) hz _).setCell (p := ⟨z, 1, none⟩) hz _).setCell (p := ⟨z, 2, none⟩) hz _
def LiveC (f : Nat) : Prop := ∀ (v : Value) (s : Sto) (w : World), StIn w v s → Calls Tryz.prog f #[v] w (IOut w (liveS s))
end Go.Proofs.YtfmnaidhfgmemaaGreatDoor

namespace Go.Proofs.YtfmnaidhfgmemaaGreatDoor
open Go.RowKit
open Words
end Go.Proofs.YtfmnaidhfgmemaaGreatDoor

namespace Go.Proofs.YtfmnaidhfgmemaaGreatDoor
open Go.RowKit
open Words
end Go.Proofs.YtfmnaidhfgmemaaGreatDoor

namespace Go.Proofs.YtfmnaidhfgmemaaGreatDoor
open Go.RowKit
open Words
end Go.Proofs.YtfmnaidhfgmemaaGreatDoor

namespace Go.Proofs.YtfmnaidhfgmemaaGreatDoor
open Go.RowKit
open Words
def kidP (bs : List Nat) (n : Int) : Option Nat := if n < 0 then none else bs[n.toNat]?
def lkOf (bs : List Nat) (i : Nat) (x : Kn) : Lk := if x.leaf = true then ⟨i, true, x.kids, [none, none, none, none], false⟩ else ⟨i, false, [0, 0, 0, 0], x.kids.map (kidP bs), false⟩
theorem lkOf_place (bs : List Nat) (i : Nat) (x : Kn) : (lkOf bs i x).place = i := by unfold lkOf; split <;> rfl
theorem lkOf_leaf (bs : List Nat) (i : Nat) (x : Kn) : (lkOf bs i x).leaf = x.leaf := by
  unfold lkOf
  cases h : x.leaf with
  | true => rfl
  | false => rfl
def lksOf (bs : List Nat) (l : List Kn) : List Lk := l.mapIdx (lkOf bs)
theorem lksOf_len (bs : List Nat) (l : List Kn) : (lksOf bs l).length = l.length := by simp [lksOf]
theorem lksOf_at (bs : List Nat) (l : List Kn) (i : Nat) : (lksOf bs l)[i]? = (l[i]?).map (lkOf bs i) := by rw [lksOf, List.getElem?_mapIdx]
theorem lksOf_some {bs : List Nat} {l : List Kn} {i : Nat} {x : Kn} (h : l[i]? = some x) : (lksOf bs l)[i]? = some (lkOf bs i x) := by rw [lksOf_at, h]; rfl
theorem lksOf_back {bs : List Nat} {l : List Kn} {i : Nat} {y : Lk} (h : (lksOf bs l)[i]? = some y) : ∃ x, l[i]? = some x ∧ y = lkOf bs i x := by
  rw [lksOf_at, Option.map_eq_some_iff] at h
  obtain ⟨x, h1, h2⟩ := h
  exact ⟨x, h1, h2.symm⟩
theorem lksOf_place {bs : List Nat} {l : List Kn} : ∀ (i : Nat) (y : Lk), (lksOf bs l)[i]? = some y → y.place = i := by
  intro i y h
  obtain ⟨x, -, rfl⟩ := lksOf_back h
  exact lkOf_place _ _ _
theorem map_beq (f : Int → Int) : ∀ l : List Int, (l.map f == l) = l.all (fun n => f n == n)
  | [] => rfl
  | a :: l => by
    have := map_beq f l
    simp only [List.map_cons, List.all_cons, ← this]
    rfl
theorem leafP_is {bs : List Nat} {l : List Kn} {k : Nat} (hb : bs.length = k) (hk : k ≤ l.length) (n : Int) : (leafP bs (lksOf bs (l.take k)) n).isSome = (decide (0 ≤ n) && decide (n < k) && knLeaf l n) := by
  unfold leafP
  by_cases h0 : n < 0
  · rw [if_pos h0, decide_eq_false (by omega)]; rfl
  · rw [if_neg h0, decide_eq_true (by omega : 0 ≤ n), Bool.true_and, lksOf_at]
    by_cases h1 : n < k
    · have hl : n.toNat < l.length := by omega
      rw [decide_eq_true h1, Bool.true_and, List.getElem?_take, if_pos (by omega), List.getElem?_eq_getElem hl, knLeaf_some (List.getElem?_eq_getElem hl)]
      simp only [Option.map_some, Option.bind_some, lkOf_leaf]
      cases hq : l[n.toNat].leaf with
      | true => rw [if_pos rfl, List.getElem?_eq_getElem (by omega)]; rfl
      | false => rfl
    · rw [decide_eq_false h1, Bool.false_and, List.getElem?_take, if_neg (by omega)]
      rfl
theorem linkOk_is {bs : List Nat} {l : List Kn} {k : Nat} (hb : bs.length = k) (hk : k ≤ l.length) (x : Kn) : linkOk bs (lksOf bs (l.take k)) x.leaf x.kids = knB l k x := by
  rw [linkOk, knB]
  congr 1
  rw [kidsMade]
  cases hl : x.leaf with
  | true =>
    rw [if_pos rfl, map_beq]
    refine List.all_congr rfl (fun n => ?_)
    simp only [kidB, nn, if_true]
    by_cases h : n < 0
    · rw [if_pos h, decide_eq_false (by omega)]
      simp; omega
    · rw [if_neg h, decide_eq_true (by omega)]
      simp
  | false =>
    rw [if_neg (by decide), map_beq]
    refine List.all_congr rfl (fun n => ?_)
    simp only [kidB, Bool.false_eq_true, if_false, leafP_is hb hk]
    cases hq : (decide (0 ≤ n) && decide (n < k) && knLeaf l n) with
    | true => simp
    | false =>
      simp only [Bool.false_eq_true, if_false, Bool.or_false]
      by_cases e : n = -1
      · simp [e]
      · rw [decide_eq_false e, beq_eq_false_iff_ne]
        exact fun q => e q.symm
theorem lkMade_is {bs : List Nat} {l : List Kn} {k : Nat} (x : Kn) (h : linkOk bs (lksOf bs (l.take k)) x.leaf x.kids = true) : lkMade bs (lksOf bs (l.take k)) k x.leaf x.kids = lkOf bs k x := by
  rw [linkOk, Bool.and_eq_true] at h
  have h2 := h.2
  unfold kidsMade at h2
  unfold lkMade lkOf
  cases hl : x.leaf with
  | true =>
    rw [hl, if_pos rfl] at h2
    rw [if_pos rfl, if_pos rfl]
    rw [eq_of_beq h2]
  | false =>
    rw [hl, if_neg (by decide), map_beq, List.all_eq_true] at h2
    rw [if_neg (by decide), if_neg (by decide)]
    congr 1
    refine List.map_congr_left (fun n hn => ?_)
    have := h2 n hn
    unfold kidP
    cases hq : leafP bs (lksOf bs (l.take k)) n with
    | none =>
      rw [hq] at this
      have e : -1 = n := by simpa using this
      rw [if_pos (by omega)]
    | some b =>
      obtain ⟨h0, h1, -⟩ := leafP_some hq
      rw [if_neg (by omega), h1]
theorem kidP_ext {bs cs : List Nat} {n : Int} (h : n < bs.length) : kidP (bs ++ cs) n = kidP bs n := by
  unfold kidP
  split
  · rfl
  · rw [List.getElem?_append_left (by omega)]
theorem lkOf_ext {bs cs : List Nat} {l : List Kn} {i : Nat} {x : Kn} (hi : i ≤ bs.length) (h : knB l i x = true) : lkOf (bs ++ cs) i x = lkOf bs i x := by
  unfold lkOf
  cases hl : x.leaf with
  | true => rfl
  | false =>
    rw [if_neg (by decide), if_neg (by decide)]
    congr 1
    refine List.map_congr_left (fun n hn => ?_)
    obtain ⟨k, hk⟩ := List.getElem?_of_mem hn
    have := knB_kid h hk
    rw [kidB, hl] at this
    simp only [Bool.false_eq_true, if_false, Bool.or_eq_true, Bool.and_eq_true, decide_eq_true_eq] at this
    exact kidP_ext (by omega)
theorem lksOf_ext {bs cs : List Nat} {l : List Kn} {k : Nat} (hb : bs.length = k) (h : arK l k = true) : lksOf (bs ++ cs) (l.take k) = lksOf bs (l.take k) := by
  apply List.ext_getElem?
  intro i
  rw [lksOf_at, lksOf_at]
  cases hx : (l.take k)[i]? with
  | none => rfl
  | some x =>
    have hi := (List.getElem?_eq_some_iff.1 hx).1
    rw [List.length_take] at hi
    rw [List.getElem?_take, if_pos (by omega)] at hx
    have := arK_le (show i + 1 ≤ k by omega) h
    rw [arK_succ hx, Bool.and_eq_true] at this
    rw [Option.map_some, Option.map_some, lkOf_ext (by omega) this.2]
theorem lksOf_snoc {bs : List Nat} {b : Nat} {l : List Kn} {k : Nat} {x : Kn} (hb : bs.length = k) (hx : l[k]? = some x) (h : arK l (k + 1) = true) : lksOf (bs ++ [b]) (l.take (k + 1)) = lksOf bs (l.take k) ++ [lkOf bs k x] := by
  have hk := (List.getElem?_eq_some_iff.1 hx).1
  have h' := h
  rw [arK_succ hx, Bool.and_eq_true] at h'
  have e : l.take (k + 1) = l.take k ++ [x] := by rw [List.take_succ_eq_append_getElem hk, (List.getElem?_eq_some_iff.1 hx).2]
  have e2 : (l.take k).length = k := by rw [List.length_take]; omega
  have := lksOf_ext (cs := [b]) hb h'.1
  rw [e]
  show (l.take k ++ [x]).mapIdx _ = _
  rw [List.mapIdx_append, e2]
  show lksOf (bs ++ [b]) (l.take k) ++ _ = _
  rw [this]
  simp only [List.mapIdx_cons, List.mapIdx_nil, Nat.zero_add]
  rw [lkOf_ext (by omega) h'.2]
theorem asc_snoc {bs : List Nat} {b : Nat} (h : bs.Pairwise (· < ·)) (hb : ∀ c ∈ bs, c < b) : (bs ++ [b]).Pairwise (· < ·) :=
  List.pairwise_append.2 ⟨h, List.pairwise_singleton _ _, fun a ha c hc => by simp only [List.mem_singleton] at hc; rw [hc]; exact hb a ha⟩
def Forest (W : World) (lo : Nat) (v : Value) (bs : List Nat) (L : List Kn) : Prop :=
  W.ownsRow lo 145 1 v L.length (bcellsP bs) ∧ bs.length = L.length ∧ FAt W bs (lksOf bs L) ∧ bs.Pairwise (· < ·) ∧ ∀ b ∈ bs, lo ≤ b
theorem FAt.grown {W y : World} {bs : List Nat} {xs : List Lk} {row : Option Nat} (h : FAt W bs xs) (hg : W.grownBy y row) (hr : ∀ g, row = some g → ∃ cs, W.heap[g]? = some (.cells cs 145 (0, 0))) : FAt y bs xs := by
  refine ⟨h.1, fun i b x h1 h2 => ?_⟩
  have hx := h.2 i b x h1 h2
  refine ⟨(hg.block b hx.lt (fun e => ?_)).trans hx.1, hx.2⟩
  obtain ⟨cs, q⟩ := hr b e.symm
  rw [hx.1] at q
  injection q with q
  injection q with _ q
  simp at q
theorem FAt.snoc {W : World} {bs : List Nat} {xs : List Lk} {b : Nat} {x : Lk} (h : FAt W bs xs) (hx : LkAt W b x) : FAt W (bs ++ [b]) (xs ++ [x]) := by
  refine ⟨by rw [List.length_append, List.length_append, h.1]; rfl, fun i c y h1 h2 => ?_⟩
  by_cases hi : i < bs.length
  · rw [List.getElem?_append_left hi] at h1
    rw [List.getElem?_append_left (by rw [← h.1]; exact hi)] at h2
    exact h.2 i c y h1 h2
  · have hl := (List.getElem?_eq_some_iff.1 h1).1
    rw [List.length_append] at hl
    simp only [List.length_cons, List.length_nil] at hl
    have e : i = bs.length := by omega
    subst e
    simp at h1
    rw [h.1] at h2
    simp at h2
    subst h1 h2
    exact hx
theorem FAt.all_lt {W : World} {bs : List Nat} {xs : List Lk} (h : FAt W bs xs) : ∀ b ∈ bs, b < W.heap.size := by
  intro b hb
  obtain ⟨i, hi⟩ := List.getElem?_of_mem hb
  have hl := (List.getElem?_eq_some_iff.1 hi).1
  exact (h.2 i b _ hi (List.getElem?_eq_getElem (by rw [← h.1]; exact hl))).lt
end Go.Proofs.YtfmnaidhfgmemaaGreatDoor
