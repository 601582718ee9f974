/-
  SProg; SBad; FBlk; Make4; SWipe; Cells; Same
-/
import Derived.Test.YtiicghepilbgfaaGreatDoorPk30
import Derived.Test.YtiicghepilbgfaaGreatDoorPk31
import Derived.Test.YtiicghepilbgfaaGreatDoorFRow
/-
  spec.Program.
-/
namespace Go.Proofs.YtiicghepilbgfaaGreatDoor
open Go.RowKit

theorem mayP_yes {bs : List Bk} {b leaf : Int} {t : ByteArray} (hok : flOk bs = true) (h : mayP bs b leaf t = true) : ∃ (k j : Nat) (r : Bk), b = k ∧ leaf = j ∧ bs[k]? = some r ∧ j < 4 ∧ r.2.2.length = 4 := by
  unfold mayP at h
  cases hb : bs[b.toNat]? with
  | none => rw [hb] at h; cases h
  | some r =>
    rw [hb] at h
    have h := of_decide_eq_true h
    refine ⟨b.toNat, nextB r.2.2, r, by omega, h.2.2.2.1, hb, by omega, ?_⟩
    simp only [flOk, Bool.and_eq_true, List.all_eq_true] at hok
    have h2 := hok.2 r (List.mem_of_getElem? hb)
    simp only [blkOk, Bool.and_eq_true, decide_eq_true_eq] at h2
    exact h2.1.1

end Go.Proofs.YtiicghepilbgfaaGreatDoor

/-
  spec.MarkBad.
-/
namespace Go.Proofs.YtiicghepilbgfaaGreatDoor
open Go.RowKit

theorem block_not_flash {w : World} {B gl n m cap : Nat} {xs : List Value} (h : w.ownsRow B 99 3 (.slice (some ⟨gl, 0, none⟩) n cap) m xs) : ∀ i cs, w.heap[i]? = some (.cells cs 49 (0, 0)) → i ≠ gl := by
  intro i cs hi e
  subst e
  rcases h.2 with ⟨h1, -⟩ | ⟨g, cap, cur, h1, -, h2, -⟩
  · cases h1
  · injection h1 with a1
    simp at a1
    subst a1
    rw [hi] at h2
    simp at h2
theorem FlashOf.setBad {w : World} {B : Nat} {ud : Option Addr} {n ucap : Nat} {bs : List Bk} {k : Nat} (h : FlashOf w B (.slice ud n ucap) bs) (hk : k < n) :
    ∃ gu, ud = some ⟨gu, 0, none⟩ ∧ (∃ x, w.cell? ⟨gu, k * 3, none⟩ = some x) ∧ w.frozen? ⟨gu, k * 3, none⟩ = false ∧ B ≤ gu ∧ (∀ i cs, w.heap[i]? = some (.cells cs 49 (0, 0)) → i ≠ gu) ∧
      ∀ z : Bool, FlashOf (w.setCell ⟨gu, k * 3, none⟩ (.bool z)) B (.slice ud n ucap) (bs.modify k (fun r => (z, r.2))) := by
  obtain ⟨ss, rfl, hs⟩ := h
  obtain ⟨ud', ucap', e, -, -, u3⟩ := frow_form hs.1
  injection e with e1 e2 e3
  subst e1 e2 e3
  obtain ⟨gu, rfl, hgu, -⟩ := u3 (by omega)
  have hr : ss[k]? = some ss[k] := List.getElem?_eq_getElem hk
  generalize ss[k] = r at hr
  obtain ⟨c1, -, -⟩ := kown_cells (k := k) (t := cellOf r) hs.1 (by rw [List.getElem?_map, hr]; rfl)
  refine ⟨gu, rfl, ⟨_, c1⟩, hs.1.frozenAt _, hgu, block_not_flash hs.1, fun z => ⟨ss.set k (z, r.2), modify_tell ss k _ _ hr _ rfl, ?_⟩⟩
  have := hs.bad rfl hr z
  simpa [World.setCell] using this
theorem badF_out {bs : List Bk} {b : Int} (h : ¬ (0 ≤ b ∧ b ≤ (bs.length : Int) - 1)) : badF bs b = bs := by
  unfold badF
  split
  · apply List.ext_getElem?
    intro i
    rw [List.getElem?_modify]
    by_cases hi : b.toNat = i
    · have : bs[i]? = none := List.getElem?_eq_none (by omega)
      simp [this]
    · simp [hi]
  · rfl

end Go.Proofs.YtiicghepilbgfaaGreatDoor

/-
  A block of a flash is written whole.
-/
namespace Go.Proofs.YtiicghepilbgfaaGreatDoor
open Go.RowKit

theorem pair_set {l : List Value} {k : Nat} {v : Value} {H : Nat} (h : l.Pairwise (fun a b => a.ownBlock = none ∨ a.ownBlock ≠ b.ownBlock)) (hl : ∀ a ∈ l, ∀ g, a.ownBlock = some g → g < H) (hv : ∀ g, v.ownBlock = some g → H ≤ g) :
    (l.set k v).Pairwise (fun a b => a.ownBlock = none ∨ a.ownBlock ≠ b.ownBlock) := by
  rw [List.pairwise_iff_getElem] at h ⊢
  intro i j hi hj hij
  have hi2 : i < l.length := by simpa using hi
  have hj2 : j < l.length := by simpa using hj
  rw [List.getElem_set, List.getElem_set]
  by_cases h1 : k = i
  · rw [if_pos h1, if_neg (by omega)]
    cases e : v.ownBlock with
    | none => exact Or.inl rfl
    | some g =>
      refine Or.inr (fun q => ?_)
      have a1 := hv g e
      have a2 := hl _ (List.getElem_mem hj2) g q.symm
      omega
  · rw [if_neg h1]
    by_cases h2 : k = j
    · rw [if_pos h2]
      cases e : l[i].ownBlock with
      | none => exact Or.inl rfl
      | some g =>
        refine Or.inr (fun q => ?_)
        have a1 := hv g q.symm
        have a2 := hl _ (List.getElem_mem hi2) g e
        omega
    · rw [if_neg h2]
      exact h i j hi2 hj2 hij
theorem FlashOf.setBlock {w w' : World} {B : Nat} {ud : Option Addr} {n ucap : Nat} {bs : List Bk} {b : Bk} {k : Nat} {v : Value} {ls : List (Int × ByteArray)} (h : FlashOf w B (.slice ud n ucap) bs) (hk : bs[k]? = some b) (hb : Below w.heap.size w w')
    (hv : w'.ownsRow w.heap.size 130 2 v ls.length (lcells ls)) (hB : B ≤ w.heap.size) :
    ∃ gu, ud = some ⟨gu, 0, none⟩ ∧ (w'.cell? ⟨gu, k * 3, none⟩ = some (.bool b.1) ∧ w'.cell? ⟨gu, k * 3 + 1, none⟩ = some (.int .i64 b.2.1) ∧ ∃ x, w'.cell? ⟨gu, k * 3 + 2, none⟩ = some x) ∧ (∀ j, w'.frozen? ⟨gu, j, none⟩ = false) ∧ B ≤ gu ∧ gu < w.heap.size ∧
      (∀ i cs, w'.heap[i]? = some (.cells cs 49 (0, 0)) → i ≠ gu) ∧
      ∀ (x : Bool) (y : Int) (f : Bk → Bk), f b = (x, y, ls) → FlashOf (((w'.setCell ⟨gu, k * 3, none⟩ (.bool x)).setCell ⟨gu, k * 3 + 1, none⟩ (.int .i64 y)).setCell ⟨gu, k * 3 + 2, none⟩ v) B (.slice ud n ucap) (bs.modify k f) := by
  obtain ⟨ss, rfl, hs0⟩ := h
  rw [List.getElem?_map] at hk
  obtain ⟨r, hr, rfl⟩ := Option.map_eq_some_iff.1 hk
  have hkl := (List.getElem?_eq_some_iff.1 hr).1
  obtain ⟨ud', ucap', e, -, -, u3⟩ := frow_form hs0.1
  injection e with e1 e2 e3
  subst e1 e2 e3
  obtain ⟨gu, rfl, hgu, hgl⟩ := u3 (by omega)
  have hs := hs0.below hb (Nat.le_refl _)
  obtain ⟨c1, c2, c3⟩ := kown_cells (k := k) (t := cellOf r) hs.1 (by rw [List.getElem?_map, hr]; rfl)
  refine ⟨gu, rfl, ⟨c1, c2, _, c3⟩, fun j => hs.1.frozenAt j, hgu, hgl, block_not_flash hs.1, fun x y f hf => ⟨ss.set k (x, y, v, ls), modify_tell ss k r f hr _ hf.symm, ?_⟩⟩
  have hkc : (ss.map cellOf)[k]? = some (cellOf r) := by rw [List.getElem?_map, hr]; rfl
  have hkc1 : k < (ss.map cellOf).length := by simpa using hkl
  have o1 := fown_set hs.1 rfl (k * 3) (.bool x)
  have o2 := fown_set o1 rfl (k * 3 + 1) (.int .i64 y)
  have o3 := fown_set o2 rfl (k * 3 + 2) v
  have hl3 : ∀ q ls2, LeafIn w' B w'.heap.size q ls2 → LeafIn (((w'.setCell ⟨gu, k * 3, none⟩ (.bool x)).setCell ⟨gu, k * 3 + 1, none⟩ (.int .i64 y)).setCell ⟨gu, k * 3 + 2, none⟩ v) B w'.heap.size q ls2 := fun q ls2 hq => by
    have a1 : LeafIn (w'.setCell ⟨gu, k * 3, none⟩ (.bool x)) B w'.heap.size q ls2 := ⟨hq.1.kept (grown_cell _ gu _ _) (leaf_ne hs.1 hq.1), hq.2⟩
    have a2 : LeafIn ((w'.setCell ⟨gu, k * 3, none⟩ (.bool x)).setCell ⟨gu, k * 3 + 1, none⟩ (.int .i64 y)) B w'.heap.size q ls2 := ⟨a1.1.kept (grown_cell _ gu _ _) (leaf_ne o1 a1.1), a1.2⟩
    exact ⟨a2.1.kept (grown_cell _ gu _ _) (leaf_ne o2 a2.1), a2.2⟩
  rw [(kcells_upd (ss.map cellOf) k (cellOf r) hkc).1 x, (kcells_upd ((ss.map cellOf).set k (x, (cellOf r).2.1, (cellOf r).2.2)) k (x, (cellOf r).2.1, (cellOf r).2.2) (by rw [List.getElem?_set_self hkc1])).2.1 y, List.set_set,
    (kcells_upd ((ss.map cellOf).set k (x, y, (cellOf r).2.2)) k (x, y, (cellOf r).2.2) (by rw [List.getElem?_set_self hkc1])).2.2 v, List.set_set] at o3
  have hz : ((((w'.setCell ⟨gu, k * 3, none⟩ (.bool x)).setCell ⟨gu, k * 3 + 1, none⟩ (.int .i64 y)).setCell ⟨gu, k * 3 + 2, none⟩ v).heap.size) = w'.heap.size := by simp [World.setCell]
  rw [hz]
  refine ⟨?_, fun g hg => Nat.lt_of_lt_of_le (hs.2.1 g hg) hb.size, fun q hq => ?_, ?_⟩
  · rw [List.map_set, List.length_set]
    exact o3
  · rcases List.mem_or_eq_of_mem_set hq with h1 | h1
    · exact hl3 _ _ ((hs.2.2.1 q h1).up hb.size)
    · subst h1
      exact hl3 _ _ ⟨own_down hv hB, fun g hg => (own_block_lt hv g hg).2⟩
  · rw [List.map_set]
    refine pair_set (H := w.heap.size) hs.2.2.2 (fun a ha g hg => ?_) (fun g hg => (own_block_lt hv g hg).1)
    obtain ⟨q, hq, rfl⟩ := List.mem_map.1 ha
    exact (hs0.2.2.1 q hq).2 g hg
end Go.Proofs.YtiicghepilbgfaaGreatDoor

/-
  make([]impl.Leaf, 4).
-/
namespace Go.Proofs.YtiicghepilbgfaaGreatDoor
open Go.RowKit

def leaf4 : Array Value := #[.int .i64 0, .string ⟨#[]⟩, .int .i64 0, .string ⟨#[]⟩, .int .i64 0, .string ⟨#[]⟩, .int .i64 0, .string ⟨#[]⟩]
theorem made4 : madeCells #[Value.int .i64 0, Value.string ⟨#[]⟩] (4 * 2) = leaf4 := by
  apply Array.toList_inj.1
  simp [madeCells]
  rfl
theorem make4 (w : World) : (Instr.makeSlice 97 (.int .i64 4) (.int .i64 4)).run Tryz.prog w = .ok (.slice (some ⟨w.heap.size, 0, none⟩) 4 4) (w.alloc (.cells leaf4 130)) := by
  obtain ⟨i0, hi0, hz0, hz1, hz2⟩ := info_parts infoLeaf
  have hr := run_make (P := Tryz.prog) w 97 130 i0 (.agg #[.int .i64 0, .string ⟨#[]⟩]) Tryz.underlying97 hi0 hz0 .i64 .i64 4 4 (by omega) (Int.le_refl _) (by rw [hz2]; omega) (by omega)
  rw [hz1] at hr
  rw [← made4]
  exact hr
theorem own4 (w : World) : (w.alloc (.cells leaf4 130)).ownsRow w.heap.size 130 2 (.slice (some ⟨w.heap.size, 0, none⟩) 4 4) blank4.length (lcells blank4) :=
  ⟨rfl, .inr ⟨w.heap.size, 4, leaf4, rfl, Nat.le_refl _, heap_alloc_new w _, Nat.le_refl _, by unfold maxLen; omega, rfl, rfl⟩⟩
end Go.Proofs.YtiicghepilbgfaaGreatDoor

/-
  spec.Wipe.
-/
namespace Go.Proofs.YtiicghepilbgfaaGreatDoor
open Go.RowKit

theorem mayW_out {bs : List Bk} {b : Int} (h : ¬ (0 ≤ b ∧ b ≤ (bs.length : Int) - 1)) : mayW bs b = false := by
  unfold mayW
  cases hb : bs[b.toNat]? with
  | none => rfl
  | some r =>
    have := (List.getElem?_eq_some_iff.1 hb).1
    exact decide_eq_false (fun hh => h ⟨hh.1, by omega⟩)
theorem mayW_in {bs : List Bk} {b : Int} {r : Bk} (h0 : 0 ≤ b) (hr : bs[b.toNat]? = some r) : mayW bs b = decide (r.1 = false ∧ r.2.1 ≠ 1000000000) := by
  unfold mayW
  rw [hr]
  simp [h0]
theorem flOk_wear {bs : List Bk} {b : Bk} (h : flOk bs = true) (hb : b ∈ bs) : 0 ≤ b.2.1 ∧ b.2.1 ≤ 1000000000 := by
  simp only [flOk, Bool.and_eq_true, List.all_eq_true] at h
  have h2 := h.2 b hb
  simp only [blkOk, Bool.and_eq_true, decide_eq_true_eq] at h2
  exact h2.1.2

end Go.Proofs.YtiicghepilbgfaaGreatDoor

/-
  The cells of a block that is laid anew.
-/
namespace Go.Proofs.YtiicghepilbgfaaGreatDoor
open Go.RowKit

theorem cells_new (w : World) (cs : Array Value) (t : TypeId) (g : Nat) (hg : w.heap.size = g) : ∀ (j : Nat) (u : Value), cs.toList[j]? = some u → (w.alloc (.cells cs t)).cell? ((⟨g, 0, none⟩ : Addr).add j) = some u := by
  intro j u hj
  subst hg
  rw [addr_at, cell_of_row _ _ j _ _ _ (heap_alloc_new w (.cells cs t))]
  simpa using hj
theorem blk_one (x : Bool) (y : Int) (a : Option Addr) (n c : Nat) : ∀ u ∈ [Value.bool x, Value.int .i64 y, Value.slice a n c], u.oneCell' = true := by
  intro u hu
  simp at hu
  rcases hu with h | h | h <;> subst h <;> rfl
end Go.Proofs.YtiicghepilbgfaaGreatDoor

/-
  A cell that is written with what it holds: nothing turns.
-/
namespace Go.Proofs.YtiicghepilbgfaaGreatDoor
theorem setCell_same (w : World) (g k : Nat) (u : Value) (h : w.cell? ⟨g, k, none⟩ = some u) : w.setCell ⟨g, k, none⟩ u = w := by
  unfold World.setCell
  have e : ∀ (f : Obj → Obj), (∀ o, w.heap[g]? = some o → f o = o) → w.heap.modify g f = w.heap := by
    intro f hf
    apply Array.ext_getElem?
    intro i
    rw [Array.getElem?_modify]
    split
    · rename_i hi
      subst hi
      cases ho : w.heap[g]? with
      | none => rfl
      | some o => simp [hf o ho]
    · rfl
  rw [e]
  intro o ho
  cases o with
  | cells c t fr =>
    simp only [World.cell?, ho] at h
    have hc : c[k]? = some u := by simpa using h
    obtain ⟨hk, rfl⟩ := Array.getElem?_eq_some_iff.1 hc
    have e2 : c.setIfInBounds k c[k] = c := by
      apply Array.ext_getElem?
      intro i
      rw [Array.getElem?_setIfInBounds]
      split
      · rename_i hi
        subst hi
        simp [hk]
      · rfl
    simp [e2]
  | _ => rfl
end Go.Proofs.YtiicghepilbgfaaGreatDoor
