/-
  spec.MarkBad.
-/
import Derived.Test.YtcbhbjglgkaabahSIn
import Derived.Test.YtcbhbjglgkaabahSCopy
import Derived.Test.YtcbhbjglgkaabahFPut
namespace Go.Proofs.Ytcbhbjglgkaabah
open Go.RowKit

theorem block_not_flash {w : World} {B gl n m cap : Nat} {xs : List Value} (h : w.ownsRow B 36 3 (.slice (some ⟨gl, 0, none⟩) n cap) m xs) : ∀ i cs, w.heap[i]? = some (.cells cs 26 (0, 0)) → i ≠ gl := by
  intro i cs hi e
  subst e
  rcases h.2 with ⟨h1, -⟩ | ⟨g, cap, cur, h1, -, h2, -⟩
  · cases h1
  · injection h1 with a1
    simp at a1
    subst a1
    rw [hi] at h2
    simp at h2
theorem FlashOf.setBad {w : World} {B : Nat} {ud : Option Addr} {n ucap : Nat} {bs : List Bk} {k : Nat} (h : FlashOf w B (.slice ud n ucap) bs) (hk : k < n) :
    ∃ gu, ud = some ⟨gu, 0, none⟩ ∧ (∃ x, w.cell? ⟨gu, k * 3, none⟩ = some x) ∧ w.frozen? ⟨gu, k * 3, none⟩ = false ∧ B ≤ gu ∧ (∀ i cs, w.heap[i]? = some (.cells cs 26 (0, 0)) → i ≠ gu) ∧
      ∀ z : Bool, FlashOf (w.setCell ⟨gu, k * 3, none⟩ (.bool z)) B (.slice ud n ucap) (bs.modify k (fun r => (z, r.2))) := by
  obtain ⟨ss, rfl, hs⟩ := h
  obtain ⟨ud', ucap', e, -, -, u3⟩ := frow_form hs.1
  injection e with e1 e2 e3
  subst e1 e2 e3
  obtain ⟨gu, rfl, hgu, -⟩ := u3 (by omega)
  have hr : ss[k]? = some ss[k] := List.getElem?_eq_getElem hk
  generalize ss[k] = r at hr
  obtain ⟨c1, -, -⟩ := kown_cells (k := k) (t := cellOf r) hs.1 (by rw [List.getElem?_map, hr]; rfl)
  refine ⟨gu, rfl, ⟨_, c1⟩, hs.1.frozenAt _, hgu, block_not_flash hs.1, fun z => ⟨ss.set k (z, r.2), modify_tell ss k _ _ hr _ rfl, ?_⟩⟩
  have := hs.bad rfl hr z
  simpa [World.setCell] using this
theorem badF_out {bs : List Bk} {b : Int} (h : ¬ (0 ≤ b ∧ b ≤ (bs.length : Int) - 1)) : badF bs b = bs := by
  unfold badF
  split
  · apply List.ext_getElem?
    intro i
    rw [List.getElem?_modify]
    by_cases hi : b.toNat = i
    · have : bs[i]? = none := List.getElem?_eq_none (by omega)
      simp [this]
    · simp [hi]
  · rfl

end Go.Proofs.Ytcbhbjglgkaabah
