/-
  SoMath; FoP; PAt
-/
import Derived.Test.YtaolinlginloaacDoorPq2
import Derived.Test.YtaolinlginloaacDoorPq10
import Derived.Test.YtaolinlginloaacDoorPq32
import Derived.Test.YtaolinlginloaacDoorPq49
import Derived.Test.YtaolinlginloaacDoorICatch
import Derived.Test.YtaolinlginloaacDoorSRPage
/-
  Plain facts on stable sorting by a key: no Go in them.
-/
namespace Go.Proofs.YtaolinlginloaacDoor.Words

structure Fnd where
  block : Int
  leaf : Int
  page : Pg

def Fnd.key (x : Fnd) : Int := x.page.seq

/-- A row that ascends. -/
def Asc (l : List Fnd) : Prop := l.Pairwise (fun a b => a.key ≤ b.key)
/-- Two rows that tell, of each key, the same elements in the same order. -/
def Akin (l k : List Fnd) : Prop := ∀ c : Int, l.filter (fun x => x.key == c) = k.filter (fun x => x.key == c)

theorem Akin.refl (l : List Fnd) : Akin l l := fun _ => rfl
theorem Akin.symm {l k : List Fnd} (h : Akin l k) : Akin k l := fun c => (h c).symm
theorem Akin.trans {l k m : List Fnd} (h : Akin l k) (h2 : Akin k m) : Akin l m := fun c => (h c).trans (h2 c)
theorem Akin.app {a b c d : List Fnd} (h : Akin a b) (h2 : Akin c d) : Akin (a ++ c) (b ++ d) := fun z => by
  rw [List.filter_append, List.filter_append, h z, h2 z]
theorem Akin.flip {a b : List Fnd} (h : ∀ x ∈ a, ∀ y ∈ b, x.key ≠ y.key) : Akin (a ++ b) (b ++ a) := fun c => by
  rw [List.filter_append, List.filter_append]
  by_cases hc : ∃ x ∈ a, x.key = c
  · obtain ⟨x, hx, rfl⟩ := hc
    have : b.filter (fun y => y.key == x.key) = [] := by
      rw [List.filter_eq_nil_iff]
      intro y hy
      have := h x hx y hy
      simpa using fun e => this e.symm
    rw [this]
    simp
  · have : a.filter (fun y => y.key == c) = [] := by
      rw [List.filter_eq_nil_iff]
      intro y hy
      simpa using fun e => hc ⟨y, hy, e⟩
    rw [this]
    simp
theorem Akin.mem {l k : List Fnd} (h : Akin l k) (x : Fnd) : x ∈ l ↔ x ∈ k := by
  have := h x.key
  have e : ∀ m : List Fnd, x ∈ m ↔ x ∈ m.filter (fun y => y.key == x.key) := fun m => by simp
  rw [e l, e k, this]
/-- Two rows that ascend and are alike are the same. -/
theorem Akin.eq : ∀ {l k : List Fnd}, Akin l k → Asc l → Asc k → l = k := by
  intro l
  induction l with
  | nil =>
    intro k h _ _
    cases k with
    | nil => rfl
    | cons b k =>
      have := h b.key
      simp at this
  | cons a l ih =>
    intro k h ha hk
    cases k with
    | nil =>
      have := h a.key
      simp at this
    | cons b k =>
      have hab : a.key = b.key := by
        have h1 : b ∈ a :: l := (h.mem b).2 List.mem_cons_self
        have h2 : a ∈ b :: k := (h.mem a).1 List.mem_cons_self
        have c1 : a.key ≤ b.key := by
          rcases List.mem_cons.1 h1 with e | e
          · rw [e]; exact Int.le_refl _
          · exact (List.pairwise_cons.1 ha).1 b e
        have c2 : b.key ≤ a.key := by
          rcases List.mem_cons.1 h2 with e | e
          · rw [e]; exact Int.le_refl _
          · exact (List.pairwise_cons.1 hk).1 a e
        omega
      have h0 := h a.key
      rw [List.filter_cons_of_pos (by simp), List.filter_cons_of_pos (by simp [hab])] at h0
      injection h0 with e1 _
      subst e1
      congr 1
      refine ih (fun c => ?_) (List.pairwise_cons.1 ha).2 (List.pairwise_cons.1 hk).2
      have hc := h c
      by_cases e : a.key = c
      · rw [List.filter_cons_of_pos (by simp [e]), List.filter_cons_of_pos (by simp [e])] at hc
        injection hc
      · rw [List.filter_cons_of_neg (by simpa using e), List.filter_cons_of_neg (by simpa using e)] at hc
        exact hc
theorem Asc.app {a b : List Fnd} (ha : Asc a) (hb : Asc b) (h : ∀ x ∈ a, ∀ y ∈ b, x.key ≤ y.key) : Asc (a ++ b) := List.pairwise_append.2 ⟨ha, hb, h⟩
theorem Asc.left {a b : List Fnd} (h : Asc (a ++ b)) : Asc a := (List.pairwise_append.1 h).1
theorem Asc.right {a b : List Fnd} (h : Asc (a ++ b)) : Asc b := (List.pairwise_append.1 h).2.1
theorem Asc.across {a b : List Fnd} (h : Asc (a ++ b)) : ∀ x ∈ a, ∀ y ∈ b, x.key ≤ y.key := (List.pairwise_append.1 h).2.2
theorem Asc.le {l : List Fnd} (h : Asc l) {i j : Nat} {x y : Fnd} (hi : l[i]? = some x) (hj : l[j]? = some y) (hij : i ≤ j) : x.key ≤ y.key := by
  by_cases e : i = j
  · subst e
    rw [hi] at hj
    cases hj
    exact Int.le_refl _
  · obtain ⟨h1, e1⟩ := List.getElem?_eq_some_iff.1 hi
    obtain ⟨h2, e2⟩ := List.getElem?_eq_some_iff.1 hj
    rw [← e1, ← e2]
    exact List.pairwise_iff_getElem.1 h i j h1 h2 (by omega)
theorem akin_len {l k : List Fnd} (h : Akin l k) : l.length = k.length := by
  classical
  have : l.Perm k := List.perm_iff_count.2 (fun x => by
    have h1 := h x.key
    have e : ∀ m : List Fnd, List.count x (m.filter (fun y => y.key == x.key)) = List.count x m := fun m => List.count_filter (by simp)
    rw [← e l, ← e k, h1])
  exact this.length_eq
end Go.Proofs.YtaolinlginloaacDoor.Words

/-
  What stands on a flash, in plain words.
-/
namespace Go.Proofs.YtaolinlginloaacDoor
open Words Sums

/-- The page that stands on a leaf, if one does. -/
def leafPg (bs : List Bk) (b k : Int) : Option Pg := if (readF bs b k).2 then readPg (readF bs b k).1 else none
/-- What stands on the first k leaves of block b. -/
def foundsAt (bs : List Bk) (b : Nat) : Nat → List Fnd
  | 0 => []
  | k + 1 => foundsAt bs b k ++ (match leafPg bs b k with | some p => [⟨b, k, p⟩] | none => [])
/-- What stands on the first b blocks. -/
def founds (bs : List Bk) : Nat → List Fnd
  | 0 => []
  | b + 1 => founds bs b ++ foundsAt bs b ((bs[b]?).map (fun r => r.2.2.length) |>.getD 0)
theorem foundsAt_len (bs : List Bk) (b k : Nat) : (foundsAt bs b k).length ≤ k := by
  induction k with
  | zero => exact Nat.le_refl _
  | succ k ih =>
    simp only [foundsAt, List.length_append]
    split <;> simp <;> omega

end Go.Proofs.YtaolinlginloaacDoor

/-
  impl.pageAt: the page that stands on a leaf.
-/
namespace Go.Proofs.YtaolinlginloaacDoor
open Go.RowKit
open Words Sums

theorem readF_size {rs : List Rw} (h : TxB rs) (b k : Int) : (readF (rs.map tellOf) b k).1.size ≤ 1048576 := by
  unfold readF
  split
  · decide
  · rename_i r hr
    split
    · decide
    · rename_i t ht
      split
      · obtain ⟨s, hs, e⟩ := List.mem_map.1 (List.mem_of_getElem? hr)
        subst e
        exact h s hs t (List.mem_of_getElem? ht)
      · decide

set_option maxHeartbeats 1000000 in
set_option maxRecDepth 100000 in
theorem pageAt_rd (v : Value) (rs : List Rw) (b k : Int) (w : World) (hl : rs.length ≤ 1048576) (hll : ∀ r ∈ rs, r.2.2.2.length ≤ 1048576) (htx : TxB rs) (ha : FlashRd w v rs) (ht : HalvIn w) :
    Calls Tryd.prog 62 #[.agg #[v], .int .i64 b, .int .i64 k] w fun e w' => e = .returned (pgRes (leafPg (rs.map tellOf) b k)) ∧ Below w.heap.size w w' := by
  have b0 : Below w.heap.size w ((w.alloc (.cells #[v] 48)).alloc (.cells #[.int .i64 0, .int .i64 0, .int .i64 0, .int .i64 0, .int .i64 0, .string ⟨#[]⟩] 35)) := ((Below.refl _ _).alloc (Nat.le_refl _) _).alloc (by simp) _
  have C := hide (iread_rd v rs b k ((w.alloc (.cells #[v] 48)).alloc (.cells #[.int .i64 0, .int .i64 0, .int .i64 0, .int .i64 0, .int .i64 0, .string ⟨#[]⟩] 35)) hl hll htx (ha.below b0))
  have hsz := readF_size htx b k
  obtain ⟨T, ok, hT⟩ : ∃ T ok, readF (rs.map tellOf) b k = (T, ok) := ⟨_, _, rfl⟩
  rw [hT] at C hsz
  simp only at C hsz
  have h0 := heap_alloc_new (w.alloc (.cells #[v] 48)) (.cells #[.int .i64 0, .int .i64 0, .int .i64 0, .int .i64 0, .int .i64 0, .string ⟨#[]⟩] 35)
  rw [show (w.alloc (.cells #[v] 48)).heap.size = w.heap.size + 1 by simp] at h0
  have H0 := hide h0
  have HT := hide ht
  have B0 := hide b0
  have hz : ((w.alloc (.cells #[v] 48)).alloc (.cells #[.int .i64 0, .int .i64 0, .int .i64 0, .int .i64 0, .int .i64 0, .string ⟨#[]⟩] 35)).heap.size = w.heap.size + 2 := by simp
  have HZ := hide hz
  cases ok with
  | false =>
    have EV : Hid (pgRes (leafPg (rs.map tellOf) b k) = .tuple #[.agg #[.int .i64 0, .int .i64 0, .int .i64 0, .int .i64 0, .int .i64 0, .string ⟨#[]⟩], .bool false]) := by show _ = _; unfold leafPg; rw [hT]; rfl
    clear ha ht b0 h0 hT hz
    go_enter Tryd.func62, Tryd.ntmps62
    go_wp2_with fail
    refine C.out.mono ?_
    rintro e w1 ⟨rfl, b1⟩
    have Z := (b1.block (w.heap.size + 1) (by rw [HZ.out]; omega)).trans H0.out
    have B1 := hide (B0.out.trans (b1.mono B0.out.size))
    clear b1 C H0 HZ B0
    have c0 := cell_of_row _ _ 0 _ _ _ Z
    have f0 := frozen_of_row _ _ 0 _ _ Z
    have c1 := cell_of_row _ _ 1 _ _ _ Z
    have f1 := frozen_of_row _ _ 1 _ _ Z
    have c2 := cell_of_row _ _ 2 _ _ _ Z
    have f2 := frozen_of_row _ _ 2 _ _ Z
    have c3 := cell_of_row _ _ 3 _ _ _ Z
    have f3 := frozen_of_row _ _ 3 _ _ Z
    have c4 := cell_of_row _ _ 4 _ _ _ Z
    have f4 := frozen_of_row _ _ 4 _ _ Z
    have c5 := cell_of_row _ _ 5 _ _ _ Z
    have f5 := frozen_of_row _ _ 5 _ _ Z
    have Z6 := six_set (a := .int .i64 0) (b := .int .i64 0) (c := .int .i64 0) (d := .int .i64 0) (e := .int .i64 0) (f := .string ⟨#[]⟩) Z
    have B6 := hide (six_below (a := .int .i64 0) (b := .int .i64 0) (c := .int .i64 0) (d := .int .i64 0) (e := .int .i64 0) (f := .string ⟨#[]⟩) B1.out (show w.heap.size ≤ w.heap.size + 1 by omega))
    have r0 := cell_of_row _ _ 0 _ _ _ Z6
    have r1 := cell_of_row _ _ 1 _ _ _ Z6
    have r2 := cell_of_row _ _ 2 _ _ _ Z6
    have r3 := cell_of_row _ _ 3 _ _ _ Z6
    have r4 := cell_of_row _ _ 4 _ _ _ Z6
    have r5 := cell_of_row _ _ 5 _ _ _ Z6
    clear Z Z6
    go_wp2
    exact bodyPost_ret (v := .tuple #[.agg #[.int .i64 0, .int .i64 0, .int .i64 0, .int .i64 0, .int .i64 0, .string ⟨#[]⟩], .bool false]) (by simp [results, Tryd.results62, go_sem, r0, r1, r2, r3, r4, r5]) rfl ⟨by rw [EV.out], B6.out⟩
  | true =>
    obtain ⟨p, ok2, hp⟩ := pgRes_tuple (readPg T)
    have EV0 : pgRes (leafPg (rs.map tellOf) b k) = .tuple #[pgVal p, .bool ok2] := by unfold leafPg; rw [hT]; exact hp
    have C2 := hide (fun W h => ireadPage T W (by unfold maxLen; omega) h)
    rw [hp] at C2
    obtain ⟨k1, s, x, q, c, u⟩ := p
    unfold pgVal at C2 EV0
    simp only at C2 EV0
    have EV := hide EV0
    clear ha ht b0 h0 hT hz hp EV0
    go_enter Tryd.func62, Tryd.ntmps62
    go_wp2_with fail
    refine C.out.mono ?_
    rintro e w1 ⟨rfl, b1⟩
    have Z1 := hide ((b1.block (w.heap.size + 1) (by rw [HZ.out]; omega)).trans H0.out)
    have l1 : w.heap.size + 1 < w1.heap.size := Nat.lt_of_lt_of_le (by rw [HZ.out]; omega) b1.size
    have B1 := hide (B0.out.trans (b1.mono B0.out.size))
    clear b1 C H0 HZ B0
    go_wp2_with fail
    refine (C2.out _ (HT.out.on B1.out)).mono ?_
    rintro e w2 ⟨rfl, b2⟩
    have Z := (b2.block (w.heap.size + 1) l1).trans Z1.out
    have B2 := hide (B1.out.trans (b2.mono B1.out.size))
    clear b2 Z1 B1 C2
    have c0 := cell_of_row _ _ 0 _ _ _ Z
    have f0 := frozen_of_row _ _ 0 _ _ Z
    have c1 := cell_of_row _ _ 1 _ _ _ Z
    have f1 := frozen_of_row _ _ 1 _ _ Z
    have c2 := cell_of_row _ _ 2 _ _ _ Z
    have f2 := frozen_of_row _ _ 2 _ _ Z
    have c3 := cell_of_row _ _ 3 _ _ _ Z
    have f3 := frozen_of_row _ _ 3 _ _ Z
    have c4 := cell_of_row _ _ 4 _ _ _ Z
    have f4 := frozen_of_row _ _ 4 _ _ Z
    have c5 := cell_of_row _ _ 5 _ _ _ Z
    have f5 := frozen_of_row _ _ 5 _ _ Z
    have Z6 := six_set (a := .int .i64 k1) (b := .int .i64 s) (c := .int .i64 x) (d := .int .i64 q) (e := .int .i64 c) (f := .string u) Z
    have B6 := hide (six_below (a := .int .i64 k1) (b := .int .i64 s) (c := .int .i64 x) (d := .int .i64 q) (e := .int .i64 c) (f := .string u) B2.out (show w.heap.size ≤ w.heap.size + 1 by omega))
    have r0 := cell_of_row _ _ 0 _ _ _ Z6
    have r1 := cell_of_row _ _ 1 _ _ _ Z6
    have r2 := cell_of_row _ _ 2 _ _ _ Z6
    have r3 := cell_of_row _ _ 3 _ _ _ Z6
    have r4 := cell_of_row _ _ 4 _ _ _ Z6
    have r5 := cell_of_row _ _ 5 _ _ _ Z6
    clear Z Z6
    go_wp2
    exact bodyPost_ret (v := .tuple #[.agg #[.int .i64 k1, .int .i64 s, .int .i64 x, .int .i64 q, .int .i64 c, .string u], .bool ok2]) (by simp [results, Tryd.results62, go_sem, r0, r1, r2, r3, r4, r5]) rfl ⟨by rw [EV.out], B6.out⟩
theorem pageAt_any (v : Value) (rs : List Rw) (lo hi : Nat) (b k : Int) (w : World) (hl : rs.length ≤ 1048576) (hll : ∀ r ∈ rs, r.2.2.2.length ≤ 1048576) (htx : TxB rs) (_hh : hi ≤ w.heap.size) (ha : FlashIn w lo hi v rs) (ht : HalvIn w) :
    Calls Tryd.prog 62 #[.agg #[v], .int .i64 b, .int .i64 k] w fun e w' => e = .returned (pgRes (leafPg (rs.map tellOf) b k)) ∧ Below w.heap.size w w' := pageAt_rd v rs b k w hl hll htx ha.rd ht
end Go.Proofs.YtaolinlginloaacDoor
