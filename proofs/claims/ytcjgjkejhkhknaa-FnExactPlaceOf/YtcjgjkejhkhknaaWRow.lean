/-
  Rows of worn blocks that the call owns, and the heap of them: a cell that has such a row.
-/
import Derived.Test.YtcjgjkejhkhknaaPq4
import Derived.Test.YtcjgjkejhkhknaaPq6
import Derived.Test.YtcjgjkejhkhknaaPq0
namespace Go.Proofs.Ytcjgjkejhkhknaa
open Go.RowKit

theorem infoWorn : (Try.prog.info? 89).map (fun i => (i.zero, i.size, i.bytes)) = some (some (.agg #[.int .i64 0, .int .i64 0]), 2, 16) := by kernel_rfl
def wcell (t : Wb) : List Value := [.int .i64 t.1, .int .i64 t.2]
def wcells (l : List Wb) : List Value := l.flatMap wcell
theorem wcells_len (l : List Wb) : (wcells l).length = l.length * 2 := by
  induction l with
  | nil => rfl
  | cons t l ih => simp [wcells, wcell] at ih ⊢; omega
theorem wcells_snoc (l : List Wb) (x : Wb) : wcells l ++ [.int .i64 x.1, .int .i64 x.2] = wcells (l ++ [x]) := by simp [wcells, wcell]
theorem wcells_cons (t : Wb) (l : List Wb) : wcells (t :: l) = [.int .i64 t.1, .int .i64 t.2] ++ wcells l := by simp [wcells, wcell]
theorem wcells_at (l : List Wb) (k : Nat) (t : Wb) (h : l[k]? = some t) : (wcells l)[k * 2]? = some (.int .i64 t.1) ∧ (wcells l)[k * 2 + 1]? = some (.int .i64 t.2) := by
  induction l generalizing k with
  | nil => simp at h
  | cons a l ih =>
    cases k with
    | zero =>
      simp at h
      subst h
      exact ⟨rfl, rfl⟩
    | succ k =>
      have := ih k (by simpa using h)
      rw [wcells_cons, List.getElem?_append_right (by simp; omega), List.getElem?_append_right (by simp; omega)]
      simp only [List.length_cons, List.length_nil]
      rw [show (k + 1) * 2 - (0 + 1 + 1) = k * 2 by omega, show (k + 1) * 2 + 1 - (0 + 1 + 1) = k * 2 + 1 by omega]
      exact this
theorem wcells_one (l : List Wb) : ∀ v ∈ wcells l, v.oneCell' = true := by
  intro v hv
  obtain ⟨t, -, ht⟩ := List.mem_flatMap.1 hv
  simp [wcell] at ht
  rcases ht with h | h <;> subst h <;> rfl
theorem worn_one (x : Wb) : ∀ u ∈ [Value.int .i64 x.1, Value.int .i64 x.2], u.oneCell' = true := by
  intro u hu
  simp at hu
  rcases hu with h | h <;> subst h <;> rfl
theorem wcells_put (ls : List Wb) (k : Nat) (x : Wb) (h : k < ls.length) : ((wcells ls).set (k * 2) (.int .i64 x.1)).set (k * 2 + 1) (.int .i64 x.2) = wcells (ls.set k x) := by
  induction ls generalizing k with
  | nil => simp at h
  | cons a r ih =>
    cases k with
    | zero => simp [wcells_cons]
    | succ k =>
      have h1 := ih k (by simpa using h)
      rw [List.set_cons_succ, wcells_cons, wcells_cons, ← h1, List.set_append_right _ _ (by simp; omega), List.set_append_right _ _ (by simp; omega)]
      congr 3
      · simp; omega
      · simp; omega
theorem wown_cells {w : World} {B n cap g k : Nat} {l : List Wb} {t : Wb} (h : w.ownsRow B 89 2 (.slice (some ⟨g, 0, none⟩) n cap) n (wcells l)) (ht : l[k]? = some t) :
    w.cell? ⟨g, k * 2, none⟩ = some (.int .i64 t.1) ∧ w.cell? ⟨g, k * 2 + 1, none⟩ = some (.int .i64 t.2) := by
  obtain ⟨h1, h2⟩ := wcells_at l k t ht
  have c1 := h.cells (g := g) rfl _ _ h1
  have c2 := h.cells (g := g) rfl _ _ h2
  rw [addr_at] at c1 c2
  exact ⟨c1, c2⟩
theorem wown_frozen {w : World} {B n cap g : Nat} {e : TypeId} {z : Nat} {xs : List Value} (h : w.ownsRow B e z (.slice (some ⟨g, 0, none⟩) n cap) n xs) (o : Nat) : w.frozen? ⟨g, o, none⟩ = false := by
  rcases h.2 with ⟨h, -⟩ | ⟨g', cap', cur, h1, -, h3, -⟩
  · cases h
  · injection h1 with a b c
    injection a with a
    injection a with a
    subst a
    exact frozen_of_row _ _ o _ _ h3

/-- A heap: the cell hp has a row D, which lies from block q on. -/
def HeapAt (w : World) (hp q : Nat) (u : Value) (D : List Wb) : Prop := hp < q ∧ q ≤ w.heap.size ∧ D.length ≤ 1048576 ∧ w.heap[hp]? = some (.cells #[u] 134 (0, 0)) ∧ w.ownsRow q 89 2 u D.length (wcells D)
/-- All blocks below q but hp are as they were. -/
def KeptH (w w' : World) (hp q : Nat) : Prop := Kept2 w w' (fun i => i < q ∧ i ≠ hp)
theorem KeptH.refl (w : World) (hp q : Nat) : KeptH w w hp q := Kept2.refl _ _
theorem KeptH.trans {a b c : World} {hp q : Nat} (h : KeptH a b hp q) (k : KeptH b c hp q) : KeptH a c hp q := Kept2.trans h k
theorem KeptH.below {a b : World} {hp q : Nat} (h : Below a.heap.size a b) : KeptH a b hp q := Kept2.below h
theorem KeptH.drew {a b : World} {hp q : Nat} (h : KeptH a b hp q) : KeptH a b.drew hp q := h.trans (KeptH.below (Below.refl _ _).drew)
theorem KeptH.down {a b : World} {hp q : Nat} (h : KeptH a b hp q) (hq : hp < q) (hs : hp ≤ a.heap.size) : Below hp a b := Kept2.down h hs (fun i hi => ⟨by omega, by omega⟩)
theorem HeapAt.below {w w' : World} {hp q : Nat} {u : Value} {D : List Wb} (h : HeapAt w hp q u D) (hb : Below w.heap.size w w') : HeapAt w' hp q u D :=
  ⟨h.1, Nat.le_trans h.2.1 hb.size, h.2.2.1, (hb.block _ (Array.getElem?_eq_some_iff.1 h.2.2.2.1).1).trans h.2.2.2.1, own_below h.2.2.2.2 hb⟩
theorem HeapAt.cell {w : World} {hp q : Nat} {u : Value} {D : List Wb} (h : HeapAt w hp q u D) : w.cell? ⟨hp, 0, none⟩ = some u := cell_of_row _ _ 0 _ _ _ h.2.2.2.1
theorem HeapAt.frozen {w : World} {hp q : Nat} {u : Value} {D : List Wb} (h : HeapAt w hp q u D) : w.frozen? ⟨hp, 0, none⟩ = false := frozen_of_row _ _ 0 _ _ h.2.2.2.1
theorem HeapAt.form {w : World} {hp q : Nat} {u : Value} {D : List Wb} (h : HeapAt w hp q u D) : ∃ ad cap, u = .slice ad D.length cap ∧ D.length ≤ cap ∧ cap ≤ maxLen ∧ (0 < D.length → ∃ g, ad = some ⟨g, 0, none⟩ ∧ q ≤ g ∧ g < w.heap.size) := frow_form h.2.2.2.2
/-- Two cells of the row are written. -/
theorem HeapAt.put {w : World} {hp q g cap : Nat} {D : List Wb} (h : HeapAt w hp q (.slice (some ⟨g, 0, none⟩) D.length cap) D) (k : Nat) (hk : k < D.length) (x : Wb) :
    HeapAt ((w.setCell ⟨g, k * 2, none⟩ (.int .i64 x.1)).setCell ⟨g, k * 2 + 1, none⟩ (.int .i64 x.2)) hp q (.slice (some ⟨g, 0, none⟩) D.length cap) (D.set k x) := by
  obtain ⟨h1, h2, h3, h4, h5⟩ := h
  have hg := (h5.lt g rfl).1
  refine ⟨h1, by simpa [World.setCell] using h2, by simpa using h3, row_set_ne (row_set_ne h4 (by omega) _ _) (by omega) _ _, ?_⟩
  have := fown_set (fown_set h5 rfl (k * 2) (.int .i64 x.1)) rfl (k * 2 + 1) (.int .i64 x.2)
  rw [wcells_put D k x hk] at this
  rw [List.length_set]
  exact this
theorem keptH_set {w : World} {hp q g : Nat} (hg : q ≤ g) (o : Nat) (v : Value) : KeptH w (w.setCell ⟨g, o, none⟩ v) hp q := by
  refine ⟨rfl, rfl, rfl, by simp, fun i _ hne => ?_⟩
  exact Below.heap_setCell _ _ _ _ (fun (e : i = g) => by omega)
/-- All blocks but hp and the row are as they were. -/
def KeptG (w w' : World) (hp : Nat) (u : Value) : Prop := Kept2 w w' (fun i => i ≠ hp ∧ u.ownBlock ≠ some i)
theorem KeptG.refl (w : World) (hp : Nat) (u : Value) : KeptG w w hp u := Kept2.refl _ _
theorem KeptG.trans {a b c : World} {hp : Nat} {u : Value} (h : KeptG a b hp u) (k : KeptG b c hp u) : KeptG a c hp u := Kept2.trans h k
theorem KeptG.below {a b : World} {hp : Nat} {u : Value} (h : Below a.heap.size a b) : KeptG a b hp u := Kept2.below h
theorem KeptG.h {a b : World} {hp q : Nat} {u : Value} {D : List Wb} (k : KeptG a b hp u) (h : HeapAt a hp q u D) : KeptH a b hp q :=
  ⟨k.1, k.2.1, k.2.2.1, k.2.2.2.1, fun i hi ho => k.2.2.2.2 i hi ⟨ho.2, fun e => by have := (h.2.2.2.2.lt i e).1; omega⟩⟩
theorem keptG_set {w : World} {hp g n cap : Nat} (o : Nat) (v : Value) : KeptG w (w.setCell ⟨g, o, none⟩ v) hp (.slice (some ⟨g, 0, none⟩) n cap) := by
  refine ⟨rfl, rfl, rfl, by simp, fun i _ hne => ?_⟩
  exact Below.heap_setCell _ _ _ _ (fun (e : i = g) => hne.2 (by rw [e]; rfl))
theorem keptG_put {w : World} {hp g n cap : Nat} (o p : Nat) (u v : Value) : KeptG w ((w.setCell ⟨g, o, none⟩ u).setCell ⟨g, p, none⟩ v) hp (.slice (some ⟨g, 0, none⟩) n cap) := (keptG_set o u).trans (keptG_set p v)
end Go.Proofs.Ytcjgjkejhkhknaa
