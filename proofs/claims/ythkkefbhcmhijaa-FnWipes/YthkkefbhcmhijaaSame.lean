/-
  A cell that is written with what it holds: nothing turns.
-/
import Derived.Test.YthkkefbhcmhijaaFRow
namespace Go.Proofs.Ythkkefbhcmhijaa
theorem setCell_same (w : World) (g k : Nat) (u : Value) (h : w.cell? ⟨g, k, none⟩ = some u) : w.setCell ⟨g, k, none⟩ u = w := by
  unfold World.setCell
  have e : ∀ (f : Obj → Obj), (∀ o, w.heap[g]? = some o → f o = o) → w.heap.modify g f = w.heap := by
    intro f hf
    apply Array.ext_getElem?
    intro i
    rw [Array.getElem?_modify]
    split
    · rename_i hi
      subst hi
      cases ho : w.heap[g]? with
      | none => rfl
      | some o => simp [hf o ho]
    · rfl
  rw [e]
  intro o ho
  cases o with
  | cells c t fr =>
    simp only [World.cell?, ho] at h
    have hc : c[k]? = some u := by simpa using h
    obtain ⟨hk, rfl⟩ := Array.getElem?_eq_some_iff.1 hc
    have e2 : c.setIfInBounds k c[k] = c := by
      apply Array.ext_getElem?
      intro i
      rw [Array.getElem?_setIfInBounds]
      split
      · rename_i hi
        subst hi
        simp [hk]
      · rfl
    simp [e2]
  | _ => rfl
end Go.Proofs.Ythkkefbhcmhijaa
