/-
  EqRc; OwnC; ToRcS; CePg; EqPgS; MkRc; MkPg; DecI
-/
import Derived.Test.YtmpmdacfibgepadPk0
import Derived.Test.YtmpmdacfibgepadPk3
import Derived.Deep.RegionHeld3
import Derived.Test.YtmpmdacfibgepadPk1
import Derived.Deep.MidRow
import Derived.Deep.DeepCutAuto
/-
  The laws' own toRec, eqRec and eqRecS.
-/
namespace Go.Proofs.Ytmpmdacfibgepad
open Go.RowKit

end Go.Proofs.Ytmpmdacfibgepad

/-
  Rows that a call owns: a cell written elsewhere, a lower bound.
-/
namespace Go.Proofs.Ytmpmdacfibgepad
open Go.RowKit

theorem row_set {w : World} {g : Nat} {cs : Array Value} {t : TypeId} (h : w.heap[g]? = some (.cells cs t (0, 0))) (i : Nat) (u : Value) : (w.setCell ⟨g, i, none⟩ u).heap[g]? = some (.cells (cs.setIfInBounds i u) t (0, 0)) := by
  rw [setCell_eq_setRow w g i cs t (0, 0) u h]
  exact setRow_heap w g cs _ t _ h
theorem row_set_ne {w : World} {g g' : Nat} {o : Obj} (h : w.heap[g]? = some o) (hn : g ≠ g') (i : Nat) (u : Value) : (w.setCell ⟨g', i, none⟩ u).heap[g]? = some o := (Below.heap_setCell _ _ _ _ hn).trans h
theorem own_down {w : World} {B B' : Nat} {e : TypeId} {size n : Nat} {v : Value} {xs : List Value} (h : w.ownsRow B e size v n xs) (hb : B' ≤ B) : w.ownsRow B' e size v n xs := by
  obtain ⟨h1, h2⟩ := h
  refine ⟨h1, ?_⟩
  rcases h2 with h | ⟨g, cap, cur, rfl, a2, a3⟩
  · exact .inl h
  · exact .inr ⟨g, cap, cur, rfl, by omega, a3⟩
theorem own_cell {w : World} {B : Nat} {e : TypeId} {size n : Nat} {v : Value} {xs : List Value} (h : w.ownsRow B e size v n xs) {g : Nat} (hg : g < B) (i : Nat) (u : Value) : (w.setCell ⟨g, i, none⟩ u).ownsRow B e size v n xs := by
  obtain ⟨h1, h2⟩ := h
  refine ⟨h1, ?_⟩
  rcases h2 with h | ⟨g', cap, cur, rfl, a2, a3, a4⟩
  · exact .inl h
  · exact .inr ⟨g', cap, cur, rfl, a2, row_set_ne a3 (by omega) _ _, a4⟩
theorem own_block_lt {w : World} {B : Nat} {e : TypeId} {size n : Nat} {v : Value} {xs : List Value} (h : w.ownsRow B e size v n xs) : ∀ g, v.ownBlock = some g → B ≤ g ∧ g < w.heap.size := by
  intro g hg
  exact h.lt g hg
theorem fown_set {w : World} {base : Nat} {e : TypeId} {size n : Nat} {v : Value} {xs : List Value} {g cap : Nat} (h : w.ownsRow base e size v n xs) (hv : v = .slice (some ⟨g, 0, none⟩) n cap) (k : Nat) (u : Value) :
    (w.setCell ⟨g, k, none⟩ u).ownsRow base e size v n (xs.set k u) := by
  obtain ⟨h1, h2⟩ := h
  refine ⟨by simpa using h1, ?_⟩
  rcases h2 with ⟨h3, -⟩ | ⟨g', cap', cur, h3, h4, h5, h6, h7, h8, h9⟩
  · rw [hv] at h3; cases h3
  · right
    have hg : g' = g := by rw [hv] at h3; injection h3 with a; simp at a; exact a.symm
    subst hg
    refine ⟨g', cap', cur.setIfInBounds k u, h3, h4, ?_, h6, h7, by simpa using h8, ?_⟩
    · rw [setCell_eq_setRow w g' k cur e (0, 0) u h5]
      exact setRow_heap w g' cur _ e _ h5
    · rw [Array.toList_setIfInBounds, List.take_set, h9]
theorem grown_cell (w : World) (g k : Nat) (u : Value) : w.grownBy (w.setCell ⟨g, k, none⟩ u) (some g) :=
  ⟨rfl, rfl, rfl, by simp [World.setCell], fun i _ hi => Below.heap_setCell _ _ _ _ (fun e => hi (by rw [e]))⟩
end Go.Proofs.Ytmpmdacfibgepad

/-
  The laws' own szRecS and toRecS.
-/
namespace Go.Proofs.Ytmpmdacfibgepad
open Go.RowKit

theorem rccells_put (ls : List (Int × Int × Int × Int)) (R : List Value) (j : Nat) (x0 : Int) (x1 : Int) (x2 : Int) (x3 : Int) (hj : ls[j]? = some (x0, x1, x2, x3)) (hR : R.length = ls.length * 4) :
    ((((rccells (ls.take j) ++ R.drop (j * 4)).set (j * 4) (.int .i64 x0)).set (j * 4 + 1) (.int .i64 x1)).set (j * 4 + 2) (.int .i64 x2)).set (j * 4 + 3) (.int .i64 x3) = rccells (ls.take (j + 1)) ++ R.drop ((j + 1) * 4) := by
  obtain ⟨hj1, hj2⟩ := List.getElem?_eq_some_iff.1 hj
  have hm : (rccells (ls.take j)).length = j * 4 := by rw [rccells_len, List.length_take]; congr 1; omega
  have e2 : rccells [(x0, x1, x2, x3)] = [.int .i64 x0, .int .i64 x1, .int .i64 x2, .int .i64 x3] := rfl
  have e3 : ls.take (j + 1) = ls.take j ++ [(x0, x1, x2, x3)] := by rw [List.take_succ_eq_append_getElem hj1, hj2]
  rw [e3, rccells_app, e2, List.set_append_right _ _ (by omega), List.set_append_right _ _ (by omega), List.set_append_right _ _ (by omega), List.set_append_right _ _ (by omega), hm, Nat.sub_self, Nat.add_sub_cancel_left, Nat.add_sub_cancel_left, Nat.add_sub_cancel_left, List.append_assoc]
  rw [List.drop_eq_getElem_cons (show j * 4 < R.length by omega), List.drop_eq_getElem_cons (show j * 4 + 1 < R.length by omega), List.drop_eq_getElem_cons (show j * 4 + 2 < R.length by omega), List.drop_eq_getElem_cons (show j * 4 + 3 < R.length by omega), show (j + 1) * 4 = j * 4 + 1 + 1 + 1 + 1 by omega]
  rfl
end Go.Proofs.Ytmpmdacfibgepad

/-
  The cells of Pages in a row.
-/
namespace Go.Proofs.Ytmpmdacfibgepad
open Go.RowKit

/-- The cells of elements. -/
def pgcell (t : Int × Int × Int × Int × Int × ByteArray) : List Value := [.int .i64 t.1, .int .i64 t.2.1, .int .i64 t.2.2.1, .int .i64 t.2.2.2.1, .int .i64 t.2.2.2.2.1, .string t.2.2.2.2.2]
def pgcells (l : List (Int × Int × Int × Int × Int × ByteArray)) : List Value := l.flatMap pgcell
theorem pgcells_len (l : List (Int × Int × Int × Int × Int × ByteArray)) : (pgcells l).length = l.length * 6 := by
  induction l with
  | nil => rfl
  | cons t l ih => simp [pgcells, pgcell] at ih ⊢; omega
theorem pgcells_app (a b : List (Int × Int × Int × Int × Int × ByteArray)) : pgcells (a ++ b) = pgcells a ++ pgcells b := by simp [pgcells]
theorem pgcells_cons (t : Int × Int × Int × Int × Int × ByteArray) (l : List (Int × Int × Int × Int × Int × ByteArray)) : pgcells (t :: l) = pgcell t ++ pgcells l := by simp [pgcells]
theorem pgcells_at (l : List (Int × Int × Int × Int × Int × ByteArray)) (k : Nat) (t : Int × Int × Int × Int × Int × ByteArray) (h : l[k]? = some t) (j : Nat) (v : Value) (hj : (pgcell t)[j]? = some v) : (pgcells l)[k * 6 + j]? = some v := by
  have hlt : j < 6 := (List.getElem?_eq_some_iff.1 hj).1
  induction l generalizing k with
  | nil => simp at h
  | cons a l ih =>
    rw [pgcells_cons]
    cases k with
    | zero =>
      simp at h
      subst h
      rw [List.getElem?_append_left (by show _ < 6; omega), Nat.zero_mul, Nat.zero_add]
      exact hj
    | succ k =>
      rw [List.getElem?_append_right (by show 6 ≤ _; omega), show (k + 1) * 6 + j - (pgcell a).length = k * 6 + j by show _ - 6 = _; omega]
      exact ih k (by simpa using h)
theorem pgcells_one (l : List (Int × Int × Int × Int × Int × ByteArray)) : ∀ v ∈ pgcells l, v.oneCell' = true := by
  intro v hv
  obtain ⟨t, -, ht⟩ := List.mem_flatMap.1 hv
  simp [pgcell] at ht
  rcases ht with h | h | h | h | h | h <;> subst h <;> rfl
theorem infoPg : (Try.prog.info? 31).map (fun i => (i.zero, i.size, i.bytes)) = some (some (.agg #[.int .i64 0, .int .i64 0, .int .i64 0, .int .i64 0, .int .i64 0, .string ⟨#[]⟩]), 6, 56) := by kernel_rfl
theorem infoPgz : (Try.prog.info? 31).map (·.size) = some 6 := by kernel_rfl
end Go.Proofs.Ytmpmdacfibgepad

/-
  The laws' own eqPageS.
-/
namespace Go.Proofs.Ytmpmdacfibgepad
open Go.RowKit

end Go.Proofs.Ytmpmdacfibgepad

/-
  Rows of records: marked.
-/
namespace Go.Proofs.Ytmpmdacfibgepad
open Go.RowKit

/-- What the cells of one element are: numbers, and texts. -/
def patRc : List Bool := [false, false, false, false]
end Go.Proofs.Ytmpmdacfibgepad

/-
  Rows of pages: marked, held.
-/
namespace Go.Proofs.Ytmpmdacfibgepad
open Go.RowKit

/-- What the cells of one element are: numbers, and texts. -/
def patPg : List Bool := [false, false, false, false, false, true]
end Go.Proofs.Ytmpmdacfibgepad

/-
  What is decided, whatever decides it.
-/
namespace Go.Proofs.Ytmpmdacfibgepad
theorem dcY {p : Prop} {d : Decidable p} (h : p) : @decide p d = true := decide_eq_true h
theorem dcN {p : Prop} {d : Decidable p} (h : ¬ p) : @decide p d = false := decide_eq_false h
theorem dcE {p q : Prop} {d : Decidable p} {e : Decidable q} (h : p ↔ q) : @decide p d = @decide q e := decide_eq_decide.2 h
theorem dcT {p : Prop} {d : Decidable p} : (@decide p d = true) = p := decide_eq_true_eq
theorem dcO {p : Prop} {d : Decidable p} (h : @decide p d = true) : p := of_decide_eq_true h
theorem dcF {p : Prop} {d : Decidable p} (h : @decide p d = false) : ¬ p := of_decide_eq_false h
end Go.Proofs.Ytmpmdacfibgepad
