/-
  A block of a flash is written whole.
-/
import Derived.Test.YthkkefbhcmhijaaSBad
namespace Go.Proofs.Ythkkefbhcmhijaa
open Go.RowKit

theorem pair_set {l : List Value} {k : Nat} {v : Value} {H : Nat} (h : l.Pairwise (fun a b => a.ownBlock = none ∨ a.ownBlock ≠ b.ownBlock)) (hl : ∀ a ∈ l, ∀ g, a.ownBlock = some g → g < H) (hv : ∀ g, v.ownBlock = some g → H ≤ g) :
    (l.set k v).Pairwise (fun a b => a.ownBlock = none ∨ a.ownBlock ≠ b.ownBlock) := by
  rw [List.pairwise_iff_getElem] at h ⊢
  intro i j hi hj hij
  have hi2 : i < l.length := by simpa using hi
  have hj2 : j < l.length := by simpa using hj
  rw [List.getElem_set, List.getElem_set]
  by_cases h1 : k = i
  · rw [if_pos h1, if_neg (by omega)]
    cases e : v.ownBlock with
    | none => exact Or.inl rfl
    | some g =>
      refine Or.inr (fun q => ?_)
      have a1 := hv g e
      have a2 := hl _ (List.getElem_mem hj2) g q.symm
      omega
  · rw [if_neg h1]
    by_cases h2 : k = j
    · rw [if_pos h2]
      cases e : l[i].ownBlock with
      | none => exact Or.inl rfl
      | some g =>
        refine Or.inr (fun q => ?_)
        have a1 := hv g q.symm
        have a2 := hl _ (List.getElem_mem hi2) g e
        omega
    · rw [if_neg h2]
      exact h i j hi2 hj2 hij
theorem FlashOf.setBlock {w w' : World} {B : Nat} {ud : Option Addr} {n ucap : Nat} {bs : List Bk} {b : Bk} {k : Nat} {v : Value} {ls : List (Int × ByteArray)} (h : FlashOf w B (.slice ud n ucap) bs) (hk : bs[k]? = some b) (hb : Below w.heap.size w w')
    (hv : w'.ownsRow w.heap.size 41 2 v ls.length (lcells ls)) (hB : B ≤ w.heap.size) :
    ∃ gu, ud = some ⟨gu, 0, none⟩ ∧ (w'.cell? ⟨gu, k * 3, none⟩ = some (.bool b.1) ∧ w'.cell? ⟨gu, k * 3 + 1, none⟩ = some (.int .i64 b.2.1) ∧ ∃ x, w'.cell? ⟨gu, k * 3 + 2, none⟩ = some x) ∧ (∀ j, w'.frozen? ⟨gu, j, none⟩ = false) ∧ B ≤ gu ∧ gu < w.heap.size ∧
      (∀ i cs, w'.heap[i]? = some (.cells cs 26 (0, 0)) → i ≠ gu) ∧
      ∀ (x : Bool) (y : Int) (f : Bk → Bk), f b = (x, y, ls) → FlashOf (((w'.setCell ⟨gu, k * 3, none⟩ (.bool x)).setCell ⟨gu, k * 3 + 1, none⟩ (.int .i64 y)).setCell ⟨gu, k * 3 + 2, none⟩ v) B (.slice ud n ucap) (bs.modify k f) := by
  obtain ⟨ss, rfl, hs0⟩ := h
  rw [List.getElem?_map] at hk
  obtain ⟨r, hr, rfl⟩ := Option.map_eq_some_iff.1 hk
  have hkl := (List.getElem?_eq_some_iff.1 hr).1
  obtain ⟨ud', ucap', e, -, -, u3⟩ := frow_form hs0.1
  injection e with e1 e2 e3
  subst e1 e2 e3
  obtain ⟨gu, rfl, hgu, hgl⟩ := u3 (by omega)
  have hs := hs0.below hb (Nat.le_refl _)
  obtain ⟨c1, c2, c3⟩ := kown_cells (k := k) (t := cellOf r) hs.1 (by rw [List.getElem?_map, hr]; rfl)
  refine ⟨gu, rfl, ⟨c1, c2, _, c3⟩, fun j => hs.1.frozenAt j, hgu, hgl, block_not_flash hs.1, fun x y f hf => ⟨ss.set k (x, y, v, ls), modify_tell ss k r f hr _ hf.symm, ?_⟩⟩
  have hkc : (ss.map cellOf)[k]? = some (cellOf r) := by rw [List.getElem?_map, hr]; rfl
  have hkc1 : k < (ss.map cellOf).length := by simpa using hkl
  have o1 := fown_set hs.1 rfl (k * 3) (.bool x)
  have o2 := fown_set o1 rfl (k * 3 + 1) (.int .i64 y)
  have o3 := fown_set o2 rfl (k * 3 + 2) v
  have hl3 : ∀ q ls2, LeafIn w' B w'.heap.size q ls2 → LeafIn (((w'.setCell ⟨gu, k * 3, none⟩ (.bool x)).setCell ⟨gu, k * 3 + 1, none⟩ (.int .i64 y)).setCell ⟨gu, k * 3 + 2, none⟩ v) B w'.heap.size q ls2 := fun q ls2 hq => by
    have a1 : LeafIn (w'.setCell ⟨gu, k * 3, none⟩ (.bool x)) B w'.heap.size q ls2 := ⟨hq.1.kept (grown_cell _ gu _ _) (leaf_ne hs.1 hq.1), hq.2⟩
    have a2 : LeafIn ((w'.setCell ⟨gu, k * 3, none⟩ (.bool x)).setCell ⟨gu, k * 3 + 1, none⟩ (.int .i64 y)) B w'.heap.size q ls2 := ⟨a1.1.kept (grown_cell _ gu _ _) (leaf_ne o1 a1.1), a1.2⟩
    exact ⟨a2.1.kept (grown_cell _ gu _ _) (leaf_ne o2 a2.1), a2.2⟩
  rw [(kcells_upd (ss.map cellOf) k (cellOf r) hkc).1 x, (kcells_upd ((ss.map cellOf).set k (x, (cellOf r).2.1, (cellOf r).2.2)) k (x, (cellOf r).2.1, (cellOf r).2.2) (by rw [List.getElem?_set_self hkc1])).2.1 y, List.set_set,
    (kcells_upd ((ss.map cellOf).set k (x, y, (cellOf r).2.2)) k (x, y, (cellOf r).2.2) (by rw [List.getElem?_set_self hkc1])).2.2 v, List.set_set] at o3
  have hz : ((((w'.setCell ⟨gu, k * 3, none⟩ (.bool x)).setCell ⟨gu, k * 3 + 1, none⟩ (.int .i64 y)).setCell ⟨gu, k * 3 + 2, none⟩ v).heap.size) = w'.heap.size := by simp [World.setCell]
  rw [hz]
  refine ⟨?_, fun g hg => Nat.lt_of_lt_of_le (hs.2.1 g hg) hb.size, fun q hq => ?_, ?_⟩
  · rw [List.map_set, List.length_set]
    exact o3
  · rcases List.mem_or_eq_of_mem_set hq with h1 | h1
    · exact hl3 _ _ ((hs.2.2.1 q h1).up hb.size)
    · subst h1
      exact hl3 _ _ ⟨own_down hv hB, fun g hg => (own_block_lt hv g hg).2⟩
  · rw [List.map_set]
    refine pair_set (H := w.heap.size) hs.2.2.2 (fun a ha g hg => ?_) (fun g hg => (own_block_lt hv g hg).1)
    obtain ⟨q, hq, rfl⟩ := List.mem_map.1 ha
    exact (hs0.2.2.1 q hq).2 g hg
end Go.Proofs.Ythkkefbhcmhijaa
