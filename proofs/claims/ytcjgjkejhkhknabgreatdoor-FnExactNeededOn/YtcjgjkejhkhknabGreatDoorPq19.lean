/-
  KnMk; IntL
-/
import Derived.Test.YtcjgjkejhkhknabGreatDoorPq1
import Derived.Test.YtcjgjkejhkhknabGreatDoorPq0
/-
  Rows of numbers and of knots: marked, held.
-/
namespace Go.Proofs.YtcjgjkejhkhknabGreatDoor
open Go.RowKit
open Words

def patI : List Bool := [false]
theorem mkI_at (k0 n i : Nat) (h : i < n) : (mkFlat patI k0 n)[i]? = some (.int .i64 ((k0 + i : Nat) : Int)) := by
  have := mkFlat_at patI k0 n i 0 false h rfl
  simpa [patI, mkv] using this

/-- A knot in a row, by the cells of its children. -/
abbrev Vw := Bool × Value × Nat × List Value
def vcell (t : Vw) : List Value := [.bool t.1, t.2.1]
def vcells (l : List Vw) : List Value := l.flatMap vcell
theorem vcells_len (l : List Vw) : (vcells l).length = l.length * 2 := by
  induction l with
  | nil => rfl
  | cons t l ih => simp [vcells, vcell] at ih ⊢; omega
theorem vcells_cons (t : Vw) (l : List Vw) : vcells (t :: l) = vcell t ++ vcells l := by simp [vcells]
theorem vcells_at (l : List Vw) (k : Nat) (t : Vw) (h : l[k]? = some t) (j : Nat) (v : Value) (hj : (vcell t)[j]? = some v) : (vcells l)[k * 2 + j]? = some v := by
  have hlt : j < 2 := (List.getElem?_eq_some_iff.1 hj).1
  induction l generalizing k with
  | nil => simp at h
  | cons a l ih =>
    rw [vcells_cons]
    cases k with
    | zero =>
      simp at h
      subst h
      rw [List.getElem?_append_left (by show _ < 2; omega), Nat.zero_mul, Nat.zero_add]
      exact hj
    | succ k =>
      rw [List.getElem?_append_right (by show 2 ≤ _; omega), show (k + 1) * 2 + j - (vcell a).length = k * 2 + j by show _ - 2 = _; omega]
      exact ih k (by simpa using h)
theorem vcells_set (l : List Vw) (k : Nat) (t : Vw) (h : l[k]? = some t) (a : Bool) (n : Nat) (xs : List Value) : (vcells l).set (k * 2) (.bool a) = vcells (l.set k (a, t.2.1, n, xs)) := by
  induction l generalizing k with
  | nil => simp at h
  | cons c l ih =>
    cases k with
    | zero =>
      simp at h
      subst h
      simp [vcells_cons, vcell]
    | succ k =>
      have := ih k (by simpa using h)
      rw [List.set_cons_succ, vcells_cons, vcells_cons, ← this, List.set_append_right _ _ (by show 2 ≤ _; omega)]
      congr 2
      show (k + 1) * 2 - 2 = _; omega
/-- Such a row in the blocks lo to hi. -/
def VLone (ys : List Vw) : Prop := ys.Pairwise (fun a b => ∀ g, a.2.1.ownBlock = some g → b.2.1.ownBlock ≠ some g)
def VIn (lo hi : Nat) (v : Value) (ys : List Vw) (W : World) : Prop :=
  Sli 143 lo hi v ys.length (vcells ys) W ∧ (∀ y ∈ ys, Sli 3 lo hi y.2.1 y.2.2.1 y.2.2.2 W) ∧ VLone ys
theorem VIn.loc (lo hi : Nat) (v : Value) (ys : List Vw) : Loc lo hi (VIn lo hi v ys) := by
  intro w w' hk h
  exact ⟨Sli.loc _ _ _ _ _ _ w w' hk h.1, fun r hr => Sli.loc _ _ _ _ _ _ w w' hk (h.2.1 r hr), h.2.2⟩
def vOf (t : Kw) : Vw := (t.1, t.2.1, t.2.2.length, icells t.2.2)
theorem KIn.v {lo hi : Nat} {v : Value} {rs : List Kw} {W : World} (h : KIn lo hi v rs W) : VIn lo hi v (rs.map vOf) W := by
  obtain ⟨h1, h2, h3, -⟩ := h
  have ec : vcells (rs.map vOf) = kncells rs := by unfold vcells kncells; rw [List.flatMap_map]; rfl
  refine ⟨by rw [List.length_map, ec]; exact h1, ?_, ?_⟩
  · intro y hy
    obtain ⟨r, hr, rfl⟩ := List.mem_map.1 hy
    exact (h2 r hr).1
  · unfold VLone
    rw [List.pairwise_map]
    exact h3
theorem vlone_get {ys : List Vw} (h : VLone ys) {i j : Nat} {a b : Vw} (hij : i ≠ j) (ha : ys[i]? = some a) (hb : ys[j]? = some b) : ∀ g, a.2.1.ownBlock = some g → b.2.1.ownBlock ≠ some g := by
  intro g e1 e2
  have h' := List.pairwise_iff_getElem.1 h
  obtain ⟨ia, ea⟩ := List.getElem?_eq_some_iff.1 ha
  obtain ⟨jb, eb⟩ := List.getElem?_eq_some_iff.1 hb
  rcases Nat.lt_or_gt_of_ne hij with q | q
  · exact h' i j ia jb q g (by rw [ea]; exact e1) (by rw [eb]; exact e2)
  · exact h' j i jb ia q g (by rw [eb]; exact e2) (by rw [ea]; exact e1)
theorem vlone_set {ys : List Vw} (h : VLone ys) {j : Nat} {y y' : Vw} (hj : ys[j]? = some y) (hv : y'.2.1 = y.2.1) : VLone (ys.set j y') := by
  unfold VLone at *
  have : (ys.set j y').map (fun t => t.2.1) = ys.map (fun t => t.2.1) := by
    rw [List.map_set, hv]
    apply List.ext_getElem?
    intro i
    rw [List.getElem?_set]
    split
    · rename_i e
      subst e
      obtain ⟨hl, he⟩ := List.getElem?_eq_some_iff.1 hj
      simp [hl, he]
    · rfl
  have e : ∀ l : List Vw, l.Pairwise (fun a b => ∀ g, a.2.1.ownBlock = some g → b.2.1.ownBlock ≠ some g) ↔ (l.map (fun t => t.2.1)).Pairwise (fun a b => ∀ g, a.ownBlock = some g → b.ownBlock ≠ some g) := fun l => by rw [List.pairwise_map]
  rw [e, this, ← e]
  exact h
theorem int_kn_ne {lo hi lo' hi' n m : Nat} {v u : Value} {xs zs : List Value} {W : World} (h1 : Sli 143 lo hi v n xs W) (h2 : Sli 3 lo' hi' u m zs W) : ∀ g, v.ownBlock = some g → u.ownBlock ≠ some g := by
  intro g e1 e2
  obtain ⟨-, -, cs, q⟩ := h1.lt g e1
  obtain ⟨-, -, cs', q'⟩ := h2.lt g e2
  exact int_ne_kn q' q
/-- Whether an element is a leaf is written. -/
theorem VIn.flag {lo hi g n cap : Nat} {ys : List Vw} {W : World} (h : VIn lo hi (.slice (some ⟨g, 0, none⟩) n cap) ys W) (hn : ys.length = n) {j : Nat} {y : Vw} (hj : ys[j]? = some y) (a : Bool) :
    VIn lo hi (.slice (some ⟨g, 0, none⟩) n cap) (ys.set j (a, y.2.1, y.2.2.1, y.2.2.2)) (W.setCell ⟨g, j * 2, none⟩ (.bool a)) := by
  obtain ⟨h1, h2, h3⟩ := h
  rw [hn] at h1
  refine ⟨?_, ?_, vlone_set h3 hj rfl⟩
  · rcases h1 with ⟨e, -⟩ | ⟨g', cap', e, q1, q2, q3⟩
    · cases e
    · injection e with e1 e2 e3
      injection e1 with e1
      injection e1 with e1
      subst e1
      subst e3
      refine .inr ⟨g, cap, by rw [List.length_set, hn], q1, q2, ?_⟩
      have := q3.set (j * 2) (.bool a)
      rw [vcells_set ys j y hj a y.2.2.1 y.2.2.2] at this
      exact this
  · intro z hz
    have hz2 : Sli 3 lo hi z.2.1 z.2.2.1 z.2.2.2 W := by
      rcases List.mem_or_eq_of_mem_set hz with e | e
      · exact h2 z e
      · subst e; exact h2 y (List.mem_of_getElem? hj)
    have hne := int_kn_ne h1 hz2 g rfl
    exact hz2.grown (grown_cell W g (j * 2) (.bool a)) (fun g' e e2 => hne (by cases e2; exact e))
theorem Sli.kept3 {t : TypeId} {lo hi n : Nat} {v : Value} {xs : List Value} {w w' : World} {ok : Nat → Prop} (h : Sli t lo hi v n xs w) (hk : Kept2 w w' ok) (ho : ∀ g, v.ownBlock = some g → ok g) : Sli t lo hi v n xs w' := by
  rcases h with h | ⟨g, cap, rfl, h1, h2, cs, h3, h4⟩
  · exact .inl h
  · exact .inr ⟨g, cap, rfl, h1, h2, cs, (hk.2.2.2.2 g (Array.getElem?_eq_some_iff.1 h3).1 (ho g rfl)).trans h3, h4⟩
/-- The children of an element are written. -/
theorem VIn.inner {lo hi n cap : Nat} {ad : Option Addr} {ys : List Vw} {W W' : World} (h : VIn lo hi (.slice ad n cap) ys W) {j : Nat} {y : Vw} (hj : ys[j]? = some y) (xs : List Value) (hk : Kept2 W W' (fun i => y.2.1.ownBlock ≠ some i)) (hs : Sli 3 lo hi y.2.1 y.2.2.1 xs W') :
    VIn lo hi (.slice ad n cap) (ys.set j (y.1, y.2.1, y.2.2.1, xs)) W' := by
  obtain ⟨h1, h2, h3⟩ := h
  have hy := h2 y (List.mem_of_getElem? hj)
  refine ⟨?_, ?_, vlone_set h3 hj rfl⟩
  · have e : vcells (ys.set j (y.1, y.2.1, y.2.2.1, xs)) = vcells ys := by
      unfold vcells
      rw [List.flatMap_def, List.flatMap_def, List.map_set]
      congr 1
      apply List.ext_getElem?
      intro i
      rw [List.getElem?_set]
      split
      · rename_i e
        subst e
        obtain ⟨hl, he⟩ := List.getElem?_eq_some_iff.1 hj
        simp [hl, he, vcell]
      · rfl
    rw [e, List.length_set]
    exact h1.kept3 hk (fun g e1 e2 => int_kn_ne h1 hy g e1 e2)
  · intro z hz
    obtain ⟨i, hi⟩ := List.mem_iff_getElem?.1 hz
    rw [List.getElem?_set] at hi
    split at hi
    · rename_i e
      subst e
      rw [if_pos (List.getElem?_eq_some_iff.1 hj).1] at hi
      cases hi
      exact hs
    · rename_i e
      exact (h2 z (List.mem_of_getElem? hi)).kept3 hk (fun g e1 e2 => vlone_get h3 (fun q => e q.symm) hi hj g e1 e2)

/-- Whether a mark is one of a leaf. -/
def lfm (k : Nat) : Bool := ((k : Int) % 3 == 0)
/-- Marks over the elements. -/
def vmk : Nat → List Vw → List Vw
  | _, [] => []
  | k, y :: ys => (lfm k, y.2.1, y.2.2.1, mkFlat patI (k + 1) y.2.2.1) :: vmk (k + 1 + y.2.2.1) ys
def vend : Nat → List Vw → Nat
  | k, [] => k
  | k, y :: ys => vend (k + 1 + y.2.2.1) ys
theorem vmk_len : ∀ (ys : List Vw) (k : Nat), (vmk k ys).length = ys.length := by
  intro ys
  induction ys with
  | nil => intro k; rfl
  | cons y ys ih => intro k; simp [vmk, ih]
theorem vend_app : ∀ (a : List Vw) (b : List Vw) (k : Nat), vend k (a ++ b) = vend (vend k a) b := by
  intro a
  induction a with
  | nil => intro b k; rfl
  | cons y a ih => intro b k; simp only [List.cons_append, vend, ih]
theorem vmk_app : ∀ (a : List Vw) (b : List Vw) (k : Nat), vmk k (a ++ b) = vmk k a ++ vmk (vend k a) b := by
  intro a
  induction a with
  | nil => intro b k; rfl
  | cons y a ih => intro b k; simp only [List.cons_append, vmk, vend, ih]
theorem vend_le : ∀ (ys : List Vw) (k : Nat), k ≤ vend k ys := by
  intro ys
  induction ys with
  | nil => intro k; exact Nat.le_refl _
  | cons y ys ih => intro k; have := ih (k + 1 + y.2.2.1); simp only [vend]; omega
theorem vend_take (ys : List Vw) (k j : Nat) : vend k (ys.take j) ≤ vend k ys := by
  have : vend k ys = vend (vend k (ys.take j)) (ys.drop j) := by rw [← vend_app, List.take_append_drop]
  rw [this]
  exact vend_le _ _
theorem vend_succ {ys : List Vw} {k j : Nat} {y : Vw} (h : ys[j]? = some y) : vend k (ys.take (j + 1)) = vend k (ys.take j) + 1 + y.2.2.1 := by
  rw [List.take_add_one, h, vend_app]
  rfl
theorem vmk_at {ys : List Vw} {k j : Nat} {y : Vw} (h : ys[j]? = some y) : (vmk k ys)[j]? = some (lfm (vend k (ys.take j)), y.2.1, y.2.2.1, mkFlat patI (vend k (ys.take j) + 1) y.2.2.1) := by
  have hl := (List.getElem?_eq_some_iff.1 h).1
  have e : ys = ys.take j ++ (y :: ys.drop (j + 1)) := by
    have := List.take_append_drop j ys
    rw [List.drop_eq_getElem_cons hl, (List.getElem?_eq_some_iff.1 h).2] at this
    exact this.symm
  have hlm : (vmk k (ys.take j)).length = j := by rw [vmk_len, List.length_take]; omega
  conv => lhs; rw [e, vmk_app]
  rw [List.getElem?_append_right (by omega), hlm, Nat.sub_self]
  rfl
theorem vmk_set {ys : List Vw} {k j : Nat} {y : Vw} (h : ys[j]? = some y) :
    (vmk k (ys.take j) ++ ys.drop j).set j (lfm (vend k (ys.take j)), y.2.1, y.2.2.1, mkFlat patI (vend k (ys.take j) + 1) y.2.2.1) = vmk k (ys.take (j + 1)) ++ ys.drop (j + 1) := by
  have hl := (List.getElem?_eq_some_iff.1 h).1
  have hlm : (vmk k (ys.take j)).length = j := by rw [vmk_len, List.length_take]; omega
  rw [List.set_append_right _ _ (by omega), hlm, Nat.sub_self, List.drop_eq_getElem_cons hl, List.set_cons_zero, List.take_add_one, h, vmk_app]
  simp [vmk]

end Go.Proofs.YtcjgjkejhkhknabGreatDoor

/-
  Rows of numbers that the call owns, by themselves: equal, marked, held.
-/
namespace Go.Proofs.YtcjgjkejhkhknabGreatDoor
open Go.RowKit

/-- A row of numbers in blocks from lo on and below hi. -/
def Ints (lo hi : Nat) (v : Value) (l : List Int) : World → Prop := fun W => W.ownsRow lo 3 1 v l.length (icells l) ∧ ∀ g, v.ownBlock = some g → g < hi
theorem Ints.loc (lo hi : Nat) (v : Value) (l : List Int) : Loc lo hi (Ints lo hi v l) := by
  rintro w w' hk ⟨h, hh⟩
  refine ⟨⟨h.1, ?_⟩, hh⟩
  rcases h.2 with h1 | ⟨g, cap, cur, rfl, a2, a3, a4⟩
  · exact .inl h1
  · exact .inr ⟨g, cap, cur, rfl, a2, by rw [hk g a2 (hh g rfl)]; exact a3, a4⟩
theorem Ints.of {w : World} {B : Nat} {v : Value} {l : List Int} (h : w.ownsRow B 3 1 v l.length (icells l)) : Ints B w.heap.size v l w := ⟨h, fun g hg => (h.lt g hg).2⟩
theorem Ints.form {w : World} {lo hi : Nat} {v : Value} {l : List Int} (h : Ints lo hi v l w) : ∃ ad cap, v = .slice ad l.length cap ∧ (0 < l.length → ∃ g, ad = some ⟨g, 0, none⟩ ∧ lo ≤ g ∧ g < hi) := by
  obtain ⟨h, hh⟩ := h
  have hlt := h.lt
  rcases h.2 with ⟨h1, h2⟩ | ⟨g, cap, cur, h1, -, -, h3, h4, -⟩
  · exact ⟨none, 0, by rw [h1, h2], fun h => by omega⟩
  · subst h1
    exact ⟨_, cap, rfl, fun _ => ⟨g, rfl, (hlt g rfl).1, hh g rfl⟩⟩
theorem Ints.cell {w : World} {lo hi g n cap : Nat} {l : List Int} {k : Nat} {x : Int} (h : Ints lo hi (.slice (some ⟨g, 0, none⟩) n cap) l w) (hx : l[k]? = some x) : w.cell? ⟨g, k, none⟩ = some (.int .i64 x) := by
  have h1 := h.1.cells (g := g) rfl k (.int .i64 x) (by rw [icells, List.getElem?_map, hx]; rfl)
  rw [addr_at] at h1
  exact h1
theorem Ints.frozen {w : World} {lo hi g n cap : Nat} {l : List Int} (h : Ints lo hi (.slice (some ⟨g, 0, none⟩) n cap) l w) (o : Nat) : w.frozen? ⟨g, o, none⟩ = false := by
  rcases h.1.2 with ⟨h, -⟩ | ⟨g', cap', cur, h1, -, h3, -⟩
  · cases h
  · injection h1 with a b c
    injection a with a
    injection a with a
    subst a
    exact frozen_of_row _ _ o _ _ h3
theorem Ints.set {w : World} {lo hi g n cap : Nat} {l : List Int} (h : Ints lo hi (.slice (some ⟨g, 0, none⟩) n cap) l w) (k : Nat) (x : Int) : Ints lo hi (.slice (some ⟨g, 0, none⟩) n cap) (l.set k x) (w.setCell ⟨g, k, none⟩ (.int .i64 x)) := by
  obtain ⟨⟨h1, h2⟩, hh⟩ := h
  refine ⟨⟨?_, ?_⟩, hh⟩
  · simp [icells]
  · rcases h2 with ⟨h3, -⟩ | ⟨g', cap', cur, h3, h4, h5, h6, h7, h8, h9⟩
    · cases h3
    · injection h3 with a b c
      injection a with a
      injection a with a
      subst a
      refine .inr ⟨g, cap', cur.setIfInBounds k (.int .i64 x), by rw [List.length_set, b, c], h4, ?_, by simpa using h6, h7, by simpa using h8, ?_⟩
      · rw [setCell_eq_setRow w g k cur 3 (0, 0) _ h5]
        exact setRow_heap w g cur _ 3 _ h5
      · rw [Array.toList_setIfInBounds, List.take_set, List.length_set, h9]
        simp [icells]

set_option maxHeartbeats 400000 in
set_option maxRecDepth 100000 in
theorem eqInts_any (l1 h1 l2 h2 : Nat) (a b : Value) (l : List Int) (w : World) (hl : l.length ≤ 1000000000) (ha : Ints l1 h1 a l w) (hb : Ints l2 h2 b l w) :
    Calls Tryz.prog 11 #[a, b] w fun e w' => e = .returned (.bool true) ∧ Below w.heap.size w w' := by
  obtain ⟨ad, ca, rfl, a3⟩ := ha.form
  obtain ⟨bd, cb, rfl, b3⟩ := hb.form
  have HA := hide ha
  have HB := hide hb
  have A3 := hide a3
  have B3 := hide b3
  obtain ⟨n, hn⟩ : ∃ n, l.length = n := ⟨_, rfl⟩
  have HN := hide hn
  rw [hn] at hl HA HB A3 B3 ⊢
  clear ha hb a3 b3 hn
  go_enter Tryz.func11, Tryz.ntmps11
  go_wp2
  go_loopw [5] (fun iv wr => ∃ k : Nat, k ≤ n ∧ iv = .int .i64 k ∧ Hid (∃ q, wr = w.drewN q)) (fun iv _ => n - (intOf iv).toNat)
  case atStart => exact ⟨0, Nat.zero_le _, rfl, ⟨0, rfl⟩⟩
  case round =>
    obtain ⟨k, hk, rfl, HQ⟩ := hrel
    obtain ⟨q, hq⟩ := HQ.out
    subst hq
    clear HQ
    by_cases hlt : (k : Int) < n
    · obtain ⟨x, hx⟩ : ∃ x, l[k]? = some x := ⟨_, List.getElem?_eq_getElem (by have := HN.out; omega)⟩
      obtain ⟨ga, e, -, -⟩ := A3.out (by omega)
      subst e
      obtain ⟨gb, e, -, -⟩ := B3.out (by omega)
      subst e
      have c1 := HA.out.cell hx
      have c2 := HB.out.cell hx
      have hxx : (x != x) = false := by simp
      have k0 : (0 : Int) ≤ k := by omega
      clear hx
      go_wp2
      go_quiet (fail)
      go_wp2
      go_roundw
      case rel => exact ⟨k + 1, by omega, by go_num, ⟨_, rfl⟩⟩
      case measure => simp [intOf]; omega
    · go_wp2
      go_ret
      exact ⟨rfl, below_drewN (Below.refl _ _) _⟩
/-- 1 and on. -/
def upFrom (k : Int) (n : Nat) : List Int := (List.range n).map (fun i : Nat => k + (i : Int))
theorem upFrom_len (k : Int) (n : Nat) : (upFrom k n).length = n := by simp [upFrom]
theorem upFrom_at (k : Int) (n i : Nat) (h : i < n) : (upFrom k n)[i]? = some (k + (i : Int)) := by simp [upFrom, h]
end Go.Proofs.YtcjgjkejhkhknabGreatDoor
