/-
  Rows of transactions: marked, held.
-/
import Derived.Test.YtogfdhfmamabiaaTxN
import Derived.Test.YtogfdhfmamabiaaMkRc
import Derived.Deep.DeepCutAuto
namespace Go.Proofs.Ytogfdhfmamabiaa
open Go.RowKit
open Words

/-- A transaction in a row, by the cells of its records. -/
abbrev Yw := Int × Int × Value × Nat × List Value
def ycell (t : Yw) : List Value := [.int .i64 t.1, .int .i64 t.2.1, t.2.2.1]
def ycells (l : List Yw) : List Value := l.flatMap ycell
theorem ycells_len (l : List Yw) : (ycells l).length = l.length * 3 := by
  induction l with
  | nil => rfl
  | cons t l ih => simp [ycells, ycell] at ih ⊢; omega
theorem ycells_cons (t : Yw) (l : List Yw) : ycells (t :: l) = ycell t ++ ycells l := by simp [ycells]
theorem ycells_at (l : List Yw) (k : Nat) (t : Yw) (h : l[k]? = some t) (j : Nat) (v : Value) (hj : (ycell t)[j]? = some v) : (ycells l)[k * 3 + j]? = some v := by
  have hlt : j < 3 := (List.getElem?_eq_some_iff.1 hj).1
  induction l generalizing k with
  | nil => simp at h
  | cons a l ih =>
    rw [ycells_cons]
    cases k with
    | zero =>
      simp at h
      subst h
      rw [List.getElem?_append_left (by show _ < 3; omega), Nat.zero_mul, Nat.zero_add]
      exact hj
    | succ k =>
      rw [List.getElem?_append_right (by show 3 ≤ _; omega), show (k + 1) * 3 + j - (ycell a).length = k * 3 + j by show _ - 3 = _; omega]
      exact ih k (by simpa using h)
theorem ycells_set (l : List Yw) (k : Nat) (t : Yw) (h : l[k]? = some t) (a b : Int) (n : Nat) (xs : List Value) : ((ycells l).set (k * 3) (.int .i64 a)).set (k * 3 + 1) (.int .i64 b) = ycells (l.set k (a, b, t.2.2.1, n, xs)) := by
  induction l generalizing k with
  | nil => simp at h
  | cons c l ih =>
    cases k with
    | zero =>
      simp at h
      subst h
      simp [ycells_cons, ycell]
    | succ k =>
      have := ih k (by simpa using h)
      rw [List.set_cons_succ, ycells_cons, ycells_cons, ← this, List.set_append_right _ _ (by show 3 ≤ _; omega), List.set_append_right _ _ (by show 3 ≤ _; omega)]
      congr 2
      · congr 1; show (k + 1) * 3 - 3 = _; omega
      · show (k + 1) * 3 + 1 - 3 = _; omega
/-- Such a row in the blocks lo to hi. -/
def YLone (ys : List Yw) : Prop := ys.Pairwise (fun a b => ∀ g, a.2.2.1.ownBlock = some g → b.2.2.1.ownBlock ≠ some g)
def YIn (lo hi : Nat) (v : Value) (ys : List Yw) (W : World) : Prop :=
  Sli 31 lo hi v ys.length (ycells ys) W ∧ (∀ y ∈ ys, Sli 34 lo hi y.2.2.1 y.2.2.2.1 y.2.2.2.2 W) ∧ YLone ys
theorem YIn.loc (lo hi : Nat) (v : Value) (ys : List Yw) : Loc lo hi (YIn lo hi v ys) := by
  intro w w' hk h
  exact ⟨Sli.loc _ _ _ _ _ _ w w' hk h.1, fun r hr => Sli.loc _ _ _ _ _ _ w w' hk (h.2.1 r hr), h.2.2⟩
def yOf (t : Xw) : Yw := (t.1, t.2.1, t.2.2.1, t.2.2.2.length, rccells t.2.2.2)
theorem XIn.y {lo hi : Nat} {v : Value} {rs : List Xw} {W : World} (h : XIn lo hi v rs W) : YIn lo hi v (rs.map yOf) W := by
  obtain ⟨h1, h2, h3, -⟩ := h
  have ec : ycells (rs.map yOf) = xcells rs := by unfold ycells xcells; rw [List.flatMap_map]; rfl
  refine ⟨by rw [List.length_map, ec]; exact h1, ?_, ?_⟩
  · intro y hy
    obtain ⟨r, hr, rfl⟩ := List.mem_map.1 hy
    exact (h2 r hr).1
  · unfold YLone
    rw [List.pairwise_map]
    exact h3
theorem lone_get {ys : List Yw} (h : YLone ys) {i j : Nat} {a b : Yw} (hij : i ≠ j) (ha : ys[i]? = some a) (hb : ys[j]? = some b) : ∀ g, a.2.2.1.ownBlock = some g → b.2.2.1.ownBlock ≠ some g := by
  intro g e1 e2
  have h' := List.pairwise_iff_getElem.1 h
  obtain ⟨ia, ea⟩ := List.getElem?_eq_some_iff.1 ha
  obtain ⟨jb, eb⟩ := List.getElem?_eq_some_iff.1 hb
  rcases Nat.lt_or_gt_of_ne hij with q | q
  · exact h' i j ia jb q g (by rw [ea]; exact e1) (by rw [eb]; exact e2)
  · exact h' j i jb ia q g (by rw [eb]; exact e2) (by rw [ea]; exact e1)
theorem lone_set {ys : List Yw} (h : YLone ys) {j : Nat} {y y' : Yw} (hj : ys[j]? = some y) (hv : y'.2.2.1 = y.2.2.1) : YLone (ys.set j y') := by
  unfold YLone at *
  have : (ys.set j y').map (fun t => t.2.2.1) = ys.map (fun t => t.2.2.1) := by
    rw [List.map_set, hv]
    apply List.ext_getElem?
    intro i
    rw [List.getElem?_set]
    split
    · rename_i e
      subst e
      obtain ⟨hl, he⟩ := List.getElem?_eq_some_iff.1 hj
      simp [hl, he]
    · rfl
  have e : ∀ l : List Yw, l.Pairwise (fun a b => ∀ g, a.2.2.1.ownBlock = some g → b.2.2.1.ownBlock ≠ some g) ↔ (l.map (fun t => t.2.2.1)).Pairwise (fun a b => ∀ g, a.ownBlock = some g → b.ownBlock ≠ some g) := fun l => by rw [List.pairwise_map]
  rw [e, this, ← e]
  exact h
theorem rec_tx_ne {lo hi lo' hi' n m : Nat} {v u : Value} {xs zs : List Value} {W : World} (h1 : Sli 31 lo hi v n xs W) (h2 : Sli 34 lo' hi' u m zs W) : ∀ g, v.ownBlock = some g → u.ownBlock ≠ some g := by
  intro g e1 e2
  obtain ⟨-, -, cs, q⟩ := h1.lt g e1
  obtain ⟨-, -, cs', q'⟩ := h2.lt g e2
  exact rec_ne_tx q' q
/-- The two numbers of an element are written. -/
theorem YIn.nums {lo hi g n cap : Nat} {ys : List Yw} {W : World} (h : YIn lo hi (.slice (some ⟨g, 0, none⟩) n cap) ys W) (hn : ys.length = n) {j : Nat} {y : Yw} (hj : ys[j]? = some y) (a b : Int) :
    YIn lo hi (.slice (some ⟨g, 0, none⟩) n cap) (ys.set j (a, b, y.2.2.1, y.2.2.2.1, y.2.2.2.2)) ((W.setCell ⟨g, j * 3, none⟩ (.int .i64 a)).setCell ⟨g, j * 3 + 1, none⟩ (.int .i64 b)) := by
  obtain ⟨h1, h2, h3⟩ := h
  rw [hn] at h1
  refine ⟨?_, ?_, lone_set h3 hj rfl⟩
  · rcases h1 with ⟨e, -⟩ | ⟨g', cap', e, q1, q2, q3⟩
    · cases e
    · injection e with e1 e2 e3
      injection e1 with e1
      injection e1 with e1
      subst e1
      subst e3
      refine .inr ⟨g, cap, by rw [List.length_set, hn], q1, q2, ?_⟩
      have := (q3.set (j * 3) (.int .i64 a)).set (j * 3 + 1) (.int .i64 b)
      rw [ycells_set ys j y hj a b y.2.2.2.1 y.2.2.2.2] at this
      exact this
  · intro z hz
    have hz2 : Sli 34 lo hi z.2.2.1 z.2.2.2.1 z.2.2.2.2 W := by
      rcases List.mem_or_eq_of_mem_set hz with e | e
      · exact h2 z e
      · subst e; exact h2 y (List.mem_of_getElem? hj)
    have hne := rec_tx_ne h1 hz2 g rfl
    exact (hz2.grown (grown_cell W g (j * 3) (.int .i64 a)) (fun g' e e2 => hne (by cases e2; exact e))).grown (grown_cell _ g (j * 3 + 1) (.int .i64 b)) (fun g' e e2 => hne (by cases e2; exact e))
theorem Sli.kept2 {t : TypeId} {lo hi n : Nat} {v : Value} {xs : List Value} {w w' : World} {ok : Nat → Prop} (h : Sli t lo hi v n xs w) (hk : Kept2 w w' ok) (ho : ∀ g, v.ownBlock = some g → ok g) : Sli t lo hi v n xs w' := by
  rcases h with h | ⟨g, cap, rfl, h1, h2, cs, h3, h4⟩
  · exact .inl h
  · exact .inr ⟨g, cap, rfl, h1, h2, cs, (hk.2.2.2.2 g (Array.getElem?_eq_some_iff.1 h3).1 (ho g rfl)).trans h3, h4⟩
/-- The records of an element are written. -/
theorem YIn.inner {lo hi n cap : Nat} {ad : Option Addr} {ys : List Yw} {W W' : World} (h : YIn lo hi (.slice ad n cap) ys W) {j : Nat} {y : Yw} (hj : ys[j]? = some y) (xs : List Value) (hk : Kept2 W W' (fun i => y.2.2.1.ownBlock ≠ some i)) (hs : Sli 34 lo hi y.2.2.1 y.2.2.2.1 xs W') :
    YIn lo hi (.slice ad n cap) (ys.set j (y.1, y.2.1, y.2.2.1, y.2.2.2.1, xs)) W' := by
  obtain ⟨h1, h2, h3⟩ := h
  have hy := h2 y (List.mem_of_getElem? hj)
  refine ⟨?_, ?_, lone_set h3 hj rfl⟩
  · have e : ycells (ys.set j (y.1, y.2.1, y.2.2.1, y.2.2.2.1, xs)) = ycells ys := by
      unfold ycells
      rw [List.flatMap_def, List.flatMap_def, List.map_set]
      congr 1
      apply List.ext_getElem?
      intro i
      rw [List.getElem?_set]
      split
      · rename_i e
        subst e
        obtain ⟨hl, he⟩ := List.getElem?_eq_some_iff.1 hj
        simp [hl, he, ycell]
      · rfl
    rw [e, List.length_set]
    exact h1.kept2 hk (fun g e1 e2 => rec_tx_ne h1 hy g e1 e2)
  · intro z hz
    obtain ⟨i, hi⟩ := List.mem_iff_getElem?.1 hz
    rw [List.getElem?_set] at hi
    split at hi
    · rename_i e
      subst e
      rw [if_pos (List.getElem?_eq_some_iff.1 hj).1] at hi
      cases hi
      exact hs
    · rename_i e
      exact (h2 z (List.mem_of_getElem? hi)).kept2 hk (fun g e1 e2 => lone_get h3 (fun q => e q.symm) hi hj g e1 e2)
theorem markRc_at (lo hi : Nat) (a : Value) (n k0 : Nat) (xs : List Value) (w : World) (hn : n ≤ 1000000000) (hxs : xs.length = n * 4) (hk0 : 0 < k0) (hk1 : k0 ≤ 100000000000) (hh : hi ≤ w.heap.size) (ha : Sli 34 lo hi a n xs w) :
    Calls Try.prog 39 #[a, .int .i64 (k0 : Int)] w fun e w' => e = .returned (.int .i64 ((k0 + n * 4 : Nat) : Int)) ∧ Sli 34 lo hi a n (mkFlat patRc k0 n) w' ∧ Kept2 w w' (fun i => a.ownBlock ≠ some i) := by
  rcases ha with ⟨rfl, h0⟩ | ⟨g, cap, rfl, q1, q2, q3⟩
  · refine (markRc_any w.heap.size w.heap.size (.slice none 0 0) n k0 xs w hn hxs hk0 hk1 (Nat.le_refl _) (.inl ⟨rfl, h0⟩)).mono ?_
    rintro e w' ⟨rfl, -, hk⟩
    exact ⟨rfl, .inl ⟨rfl, h0⟩, hk.out.1, hk.out.2.1, hk.out.2.2.1, hk.out.2.2.2.1, fun i hi _ => hk.out.2.2.2.2 i hi (fun h => by omega)⟩
  · refine (markRc_any g (g + 1) (.slice (some ⟨g, 0, none⟩) n cap) n k0 xs w hn hxs hk0 hk1 (by omega) (.inr ⟨g, cap, rfl, Nat.le_refl _, by omega, q3⟩)).mono ?_
    rintro e w' ⟨rfl, hs, hk⟩
    refine ⟨rfl, ?_, hk.out.1, hk.out.2.1, hk.out.2.2.1, hk.out.2.2.2.1, fun i hi ho => hk.out.2.2.2.2 i hi (fun h => ho (by show some g = some i; congr 1; omega))⟩
    exact (hs.out.dn q1).up (by omega)

/-- Marks over the elements. -/
def ymk : Nat → List Yw → List Yw
  | _, [] => []
  | k, y :: ys => ((k : Int), ((k + 1 : Nat) : Int), y.2.2.1, y.2.2.2.1, mkFlat patRc (k + 2) y.2.2.2.1) :: ymk (k + 2 + y.2.2.2.1 * 4) ys
def yend : Nat → List Yw → Nat
  | k, [] => k
  | k, y :: ys => yend (k + 2 + y.2.2.2.1 * 4) ys
theorem ymk_len : ∀ (ys : List Yw) (k : Nat), (ymk k ys).length = ys.length := by
  intro ys
  induction ys with
  | nil => intro k; rfl
  | cons y ys ih => intro k; simp [ymk, ih]
theorem yend_app : ∀ (a : List Yw) (b : List Yw) (k : Nat), yend k (a ++ b) = yend (yend k a) b := by
  intro a
  induction a with
  | nil => intro b k; rfl
  | cons y a ih => intro b k; simp only [List.cons_append, yend, ih]
theorem ymk_app : ∀ (a : List Yw) (b : List Yw) (k : Nat), ymk k (a ++ b) = ymk k a ++ ymk (yend k a) b := by
  intro a
  induction a with
  | nil => intro b k; rfl
  | cons y a ih => intro b k; simp only [List.cons_append, ymk, yend, ih]
theorem yend_le : ∀ (ys : List Yw) (k : Nat), k ≤ yend k ys := by
  intro ys
  induction ys with
  | nil => intro k; exact Nat.le_refl _
  | cons y ys ih => intro k; have := ih (k + 2 + y.2.2.2.1 * 4); simp only [yend]; omega
theorem yend_take (ys : List Yw) (k j : Nat) : yend k (ys.take j) ≤ yend k ys := by
  have : yend k ys = yend (yend k (ys.take j)) (ys.drop j) := by rw [← yend_app, List.take_append_drop]
  rw [this]
  exact yend_le _ _
theorem yend_succ {ys : List Yw} {k j : Nat} {y : Yw} (h : ys[j]? = some y) : yend k (ys.take (j + 1)) = yend k (ys.take j) + 2 + y.2.2.2.1 * 4 := by
  rw [List.take_add_one, h, yend_app]
  rfl
theorem ymk_at {ys : List Yw} {k j : Nat} {y : Yw} (h : ys[j]? = some y) : (ymk k ys)[j]? = some (((yend k (ys.take j) : Nat) : Int), ((yend k (ys.take j) + 1 : Nat) : Int), y.2.2.1, y.2.2.2.1, mkFlat patRc (yend k (ys.take j) + 2) y.2.2.2.1) := by
  have hl := (List.getElem?_eq_some_iff.1 h).1
  have e : ys = ys.take j ++ (y :: ys.drop (j + 1)) := by
    have := List.take_append_drop j ys
    rw [List.drop_eq_getElem_cons hl, (List.getElem?_eq_some_iff.1 h).2] at this
    exact this.symm
  have hlm : (ymk k (ys.take j)).length = j := by rw [ymk_len, List.length_take]; omega
  conv => lhs; rw [e, ymk_app]
  rw [List.getElem?_append_right (by omega), hlm, Nat.sub_self]
  rfl
theorem ymk_set {ys : List Yw} {k j : Nat} {y : Yw} (h : ys[j]? = some y) :
    (ymk k (ys.take j) ++ ys.drop j).set j (((yend k (ys.take j) : Nat) : Int), ((yend k (ys.take j) + 1 : Nat) : Int), y.2.2.1, y.2.2.2.1, mkFlat patRc (yend k (ys.take j) + 2) y.2.2.2.1) = ymk k (ys.take (j + 1)) ++ ys.drop (j + 1) := by
  have hl := (List.getElem?_eq_some_iff.1 h).1
  have hlm : (ymk k (ys.take j)).length = j := by rw [ymk_len, List.length_take]; omega
  rw [List.set_append_right _ _ (by omega), hlm, Nat.sub_self, List.drop_eq_getElem_cons hl, List.set_cons_zero, List.take_add_one, h, ymk_app]
  simp [ymk]
end Go.Proofs.Ytogfdhfmamabiaa
