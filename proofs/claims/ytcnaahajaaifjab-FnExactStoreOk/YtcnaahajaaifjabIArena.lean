/-
  impl's forests: the arena of a forest.
-/
import Derived.Test.YtcnaahajaaifjabPq45
import Derived.Test.YtcnaahajaaifjabPq27
import Derived.Deep.RegionHeld3
namespace Go.Proofs.Ytcnaahajaaifjab
open Go.RowKit
open Words

theorem KidsR.below {W W' : World} {x : Lk} {ks : List Int} (h : KidsR W x ks) (hb : Below W.heap.size W W') : KidsR W' x ks := by
  unfold KidsR at h ⊢
  split at h
  · rename_i hl
    rw [if_pos hl]
    exact h
  · rename_i hl
    rw [if_neg hl]
    refine ⟨h.1, fun k o ho => ?_⟩
    obtain ⟨p, hp, hc⟩ := h.2 k o ho
    refine ⟨p, hp, ?_⟩
    rcases hc with hc | ⟨c, e, hc, hl⟩
    · exact .inl hc
    · have := hb.size
      exact .inr ⟨c, e, (hb.cell (show c < W.heap.size from hl)).trans hc, by omega⟩
theorem KidsR.len {W : World} {x : Lk} {ks : List Int} (h : KidsR W x ks) (h4 : x.Four) : ks.length = 4 := by
  unfold KidsR at h
  split at h
  · rw [h]; exact h4.1
  · exact h.1
/-- The arena under way. -/
def ArSt (w W : World) (z n : Nat) (ss : List Kw) (zs : List Value) : Prop := W.heap[z]? = some (.cells #[.slice none 0 0] 33 (0, 0)) ∧ KFil W (z + 1) (.slice (some ⟨z + 1, 0, none⟩) n n) n ss zs ∧ Below z w W
theorem drop2 {R : List Value} {k n : Nat} (h : R.length = n * 2) (hk : k < n) : ∃ a b, R.drop (k * 2) = a :: b :: R.drop ((k + 1) * 2) := by
  refine ⟨R[k * 2], R[k * 2 + 1], ?_⟩
  rw [List.drop_eq_getElem_cons (by omega), List.drop_eq_getElem_cons (by omega)]
  rw [show k * 2 + 1 + 1 = (k + 1) * 2 by omega]

end Go.Proofs.Ytcnaahajaaifjab
