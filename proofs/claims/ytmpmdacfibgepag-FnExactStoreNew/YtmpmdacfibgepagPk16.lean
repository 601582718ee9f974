/-
  SIn; SArOk; SGet; SAll
-/
import Derived.Test.YtmpmdacfibgepagBase
import Derived.Test.YtmpmdacfibgepagKnN
/-
  spec.l01In.
-/
namespace Go.Proofs.Ytmpmdacfibgepag
open Go.RowKit
set_option maxHeartbeats 400000 in
set_option maxRecDepth 100000 in
theorem sin_b (x lo hi : Int) (b : Bool) (w : World) (h : (lo ≤ x ∧ x ≤ hi ∧ b = true) ∨ ((x < lo ∨ lo ≤ x ∧ ¬ x ≤ hi) ∧ b = false)) :
    Calls Try.prog 50 #[.int .i64 x, .int .i64 lo, .int .i64 hi] w fun e w' => e = .returned (.bool b) ∧ w' = w := by
  rcases h with ⟨h1, h2, rfl⟩ | ⟨h1 | ⟨h1, h2⟩, rfl⟩
  all_goals
    go_enter Try.func50, Try.ntmps50
    go_wp2
    go_ret
    exact ⟨rfl, rfl⟩
theorem sin_any (x lo hi : Int) (w : World) :
    Calls Try.prog 50 #[.int .i64 x, .int .i64 lo, .int .i64 hi] w fun e w' => e = .returned (.bool (decide (lo ≤ x ∧ x ≤ hi))) ∧ w' = w := by
  apply sin_b
  by_cases h : lo ≤ x ∧ x ≤ hi
  · exact .inl ⟨h.1, h.2, decide_eq_true h⟩
  · exact .inr ⟨by omega, decide_eq_false h⟩
end Go.Proofs.Ytmpmdacfibgepag

/-
  spec.ArenaOk, spec.l11Root.
-/
namespace Go.Proofs.Ytmpmdacfibgepag
open Go.RowKit
open Words

/-- The arena's own box. -/
theorem box_at (w : World) (v : Value) : (w.alloc (.cells #[v] 63)).cell? ⟨w.heap.size, 0, none⟩ = some v := (cell_of_row _ _ 0 _ _ _ (heap_alloc_new w _)).trans rfl
theorem kw_at {rs : List Kw} {i : Nat} {r : Kw} (h : rs[i]? = some r) : (rs.map ktell)[i]? = some (ktell r) := by rw [List.getElem?_map, h]; rfl

end Go.Proofs.Ytmpmdacfibgepag

/-
  spec.l11Get, spec.GetAt.
-/
namespace Go.Proofs.Ytmpmdacfibgepag
open Go.RowKit
open Words

/-- A knot's cells, and its children's. -/
theorem KnRd.kids {W : World} {b off len : Nat} {rs : List Kw} (h : KnRd W (some ⟨b, off, none⟩) len rs) {k : Nat} {x : Kn} (hk : (rs.map ktell)[k]? = some x) :
    ∃ ka kc, W.cell? ⟨b, off + k * 2, none⟩ = some (.bool x.leaf) ∧ W.cell? ⟨b, off + k * 2 + 1, none⟩ = some (.slice ka x.kids.length kc) ∧ IRow W ka x.kids.length x.kids := by
  rw [List.getElem?_map] at hk
  obtain ⟨r, hr, rfl⟩ := Option.map_eq_some_iff.1 hk
  obtain ⟨c0, c1⟩ := h.cell hr
  obtain ⟨ka, kc, e, -, kr⟩ := h.2.2.1 r (List.mem_of_getElem? hr)
  exact ⟨ka, kc, c0, by rw [c1, e]; rfl, kr⟩

end Go.Proofs.Ytmpmdacfibgepag

/-
  spec.AllAt.
-/
namespace Go.Proofs.Ytmpmdacfibgepag
open Go.RowKit
open Words

/-- A row of numbers of the call's own. -/
def IOut (w : World) (l : List Int) (e : Ending) (w' : World) : Prop := ∃ v, e = .returned v ∧ w'.ownsRow w.heap.size 3 1 v l.length (icells l) ∧ Below w.heap.size w w'
theorem allT_len (l : List Kn) (r : Int) : (allT l r).length = 16 := by simp [allT]
theorem allT_take (l : List Kn) (r : Int) {k : Nat} (hk : k < 16) : (allT l r).take (k + 1) = (allT l r).take k ++ [getT l r k] := by
  rw [List.take_add_one, allT, List.getElem?_map, List.getElem?_range hk]
  rfl

end Go.Proofs.Ytmpmdacfibgepag
