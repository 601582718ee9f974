/-
  A leaf, or the wear, of the copy is written.
-/
import Derived.Test.YthkkefbhcmhijaaAfter
import Derived.Test.YthkkefbhcmhijaaSBad
import Derived.Deep.AppendLies
namespace Go.Proofs.Ythkkefbhcmhijaa
open Go.RowKit

theorem FlashOf.setWear {w : World} {B : Nat} {ud : Option Addr} {n ucap : Nat} {bs : List Bk} {k : Nat} {b : Bk} (h : FlashOf w B (.slice ud n ucap) bs) (hk : bs[k]? = some b) :
    ∃ gu, ud = some ⟨gu, 0, none⟩ ∧ w.cell? ⟨gu, k * 3 + 1, none⟩ = some (.int .i64 b.2.1) ∧ w.frozen? ⟨gu, k * 3 + 1, none⟩ = false ∧ B ≤ gu ∧ (∀ i cs, w.heap[i]? = some (.cells cs 26 (0, 0)) → i ≠ gu) ∧
      ∀ z : Int, FlashOf (w.setCell ⟨gu, k * 3 + 1, none⟩ (.int .i64 z)) B (.slice ud n ucap) (bs.modify k (fun r => (r.1, z, r.2.2))) := by
  obtain ⟨ss, rfl, hs⟩ := h
  rw [List.getElem?_map] at hk
  obtain ⟨r, hr, rfl⟩ := Option.map_eq_some_iff.1 hk
  obtain ⟨ud', ucap', e, -, -, u3⟩ := frow_form hs.1
  injection e with e1 e2 e3
  subst e1 e2 e3
  have hkl := (List.getElem?_eq_some_iff.1 hr).1
  obtain ⟨gu, rfl, hgu, -⟩ := u3 (by omega)
  obtain ⟨-, c2, -⟩ := kown_cells (k := k) (t := cellOf r) hs.1 (by rw [List.getElem?_map, hr]; rfl)
  refine ⟨gu, rfl, c2, hs.1.frozenAt _, hgu, block_not_flash hs.1, fun z => ⟨ss.set k (r.1, z, r.2.2), modify_tell ss k _ _ hr _ rfl, ?_⟩⟩
  have := hs.wear rfl hr z
  simpa [World.setCell] using this
theorem After.wear {w w' : World} {g2 : Nat} {ud : Option Addr} {n ucap : Nat} {bs : List Bk} {k : Nat} {b : Bk} (h : After w w' g2 (.slice ud n ucap) bs) (hk : bs[k]? = some b) :
    ∃ gu, ud = some ⟨gu, 0, none⟩ ∧ w'.cell? ⟨gu, k * 3 + 1, none⟩ = some (.int .i64 b.2.1) ∧ w'.frozen? ⟨gu, k * 3 + 1, none⟩ = false ∧ ∀ z : Int, After w (w'.setCell ⟨gu, k * 3 + 1, none⟩ (.int .i64 z)) g2 (.slice ud n ucap) (bs.modify k (fun r => (r.1, z, r.2.2))) := by
  obtain ⟨h1, h2, h3, h4⟩ := h
  obtain ⟨gu, rfl, c, f, hB, hne, hput⟩ := h3.setWear hk
  exact ⟨gu, rfl, c, f, fun z => ⟨row_set_ne h1 (hne _ _ h1) _ _, row_set_ne h2 (hne _ _ h2) _ _, hput z, h4.setCell (p := ⟨gu, k * 3 + 1, none⟩) (by show _ ≤ gu; omega) _⟩⟩
theorem After.put {w w' : World} {g2 : Nat} {ud : Option Addr} {n ucap : Nat} {bs : List Bk} {k j : Nat} {b : Bk} (h : After w w' g2 (.slice ud n ucap) bs) (hk : bs[k]? = some b) (hj : j < b.2.2.length) :
    ∃ gu gl lcap, ud = some ⟨gu, 0, none⟩ ∧ w'.cell? ⟨gu, k * 3 + 2, none⟩ = some (.slice (some ⟨gl, 0, none⟩) b.2.2.length lcap) ∧ (∃ x, w'.cell? ⟨gl, j * 2, none⟩ = some x) ∧ (∃ x, w'.cell? ⟨gl, j * 2 + 1, none⟩ = some x) ∧
      w'.frozen? ⟨gl, j * 2, none⟩ = false ∧ w'.frozen? ⟨gl, j * 2 + 1, none⟩ = false ∧
      ∀ (z : Int) (t : ByteArray), After w ((w'.setCell ⟨gl, j * 2, none⟩ (.int .i64 z)).setCell ⟨gl, j * 2 + 1, none⟩ (.string t)) g2 (.slice ud n ucap) (bs.modify k (fun r => (r.1, r.2.1, r.2.2.set j (z, t)))) := by
  obtain ⟨h1, h2, h3, h4⟩ := h
  obtain ⟨gu, gl, lcap, rfl, c, x1, x2, f1, f2, hB, -, hne, hput⟩ := h3.put hk hj
  refine ⟨gu, gl, lcap, rfl, c, x1, x2, f1, f2, fun z t => ⟨row_set_ne (row_set_ne h1 (hne _ _ h1) _ _) (hne _ _ h1) _ _, row_set_ne (row_set_ne h2 (hne _ _ h2) _ _) (hne _ _ h2) _ _, hput z t, ?_⟩⟩
  exact (h4.setCell (p := ⟨gl, j * 2, none⟩) (by show _ ≤ gl; omega) _).setCell (p := ⟨gl, j * 2 + 1, none⟩) (by show _ ≤ gl; omega) _
theorem After.apart {w w' : World} {g2 gu gl m lcap : Nat} {n ucap : Nat} {bs : List Bk} {k : Nat} {b : Bk} (h : After w w' g2 (.slice (some ⟨gu, 0, none⟩) n ucap) bs) (hk : bs[k]? = some b) (hc : w'.cell? ⟨gu, k * 3 + 2, none⟩ = some (.slice (some ⟨gl, 0, none⟩) m lcap)) : gu ≠ gl := by
  obtain ⟨ss, rfl, hs⟩ := h.2.2.1
  rw [List.getElem?_map] at hk
  obtain ⟨r, hr, rfl⟩ := Option.map_eq_some_iff.1 hk
  obtain ⟨ud', ucap', e, -, -, u3⟩ := frow_form hs.1
  injection e with e1 e2 e3
  subst e1 e2 e3
  obtain ⟨-, -, c3⟩ := kown_cells (k := k) (t := cellOf r) hs.1 (by rw [List.getElem?_map, hr]; rfl)
  rw [hc] at c3
  injection c3 with c3
  have hl := hs.2.2.1 r (List.mem_of_getElem? hr)
  intro e
  refine leaf_not_block hs.1 hl.1 gu rfl ?_
  show (cellOf r).2.2.ownBlock = some gu
  rw [← c3, e]
  rfl
theorem wipe_nouse {bs : List Bk} {b : Int} (h : ¬ useP bs b) : wipeF bs b = (bs, false) := by
  unfold wipeF
  cases ho : flOk bs with
  | false => rfl
  | true =>
    have : mayW bs b = false := by
      unfold mayW
      cases hb : bs[b.toNat]? with
      | none => rfl
      | some r => exact decide_eq_false (fun hh => h ⟨ho, hh.1, r, hb, hh.2.1⟩)
    rw [this]
    rfl
theorem wipe_in {bs : List Bk} {k : Nat} {r : Bk} (ho : flOk bs = true) (hr : bs[k]? = some r) (hf : r.1 = false) :
    (r.2.1 = 1000000000 → wipeF bs (k : Int) = (bs, false)) ∧ (r.2.1 ≠ 1000000000 → wipeF bs (k : Int) = (bs.modify k (fun r => (false, r.2.1 + 1, blank4)), true)) := by
  unfold wipeF mayW
  rw [ho, Int.toNat_natCast, hr]
  simp only [Bool.true_and, decide_eq_true_eq]
  refine ⟨fun hh => ?_, fun hh => ?_⟩
  · rw [if_neg (fun hq => hq.2.2 hh)]
  · rw [if_pos ⟨by omega, hf, hh⟩]
theorem wear_in {bs : List Bk} {b : Bk} (h : flOk bs = true) (hb : b ∈ bs) : 0 ≤ b.2.1 ∧ b.2.1 ≤ 1000000000 := by
  simp only [flOk, Bool.and_eq_true, List.all_eq_true] at h
  have h2 := h.2 b hb
  simp only [blkOk, Bool.and_eq_true, decide_eq_true_eq] at h2
  exact h2.1.2
/-- The first j leaves are blank. -/
def blanked (j : Nat) (ls : List (Int × ByteArray)) : List (Int × ByteArray) := List.replicate j (0, ⟨#[]⟩) ++ ls.drop j
theorem blanked_len {j : Nat} {ls : List (Int × ByteArray)} (h : j ≤ ls.length) : (blanked j ls).length = ls.length := by simp [blanked]; omega
theorem blanked_succ {j : Nat} {ls : List (Int × ByteArray)} (h : j < ls.length) : (blanked j ls).set j (0, ⟨#[]⟩) = blanked (j + 1) ls := by
  unfold blanked
  rw [List.set_append_right _ _ (by simp), List.length_replicate, Nat.sub_self, List.drop_eq_getElem_cons h, List.set_cons_zero, List.replicate_succ', List.append_assoc]
  rfl
theorem blanked_four {ls : List (Int × ByteArray)} (h : ls.length = 4) : blanked 4 ls = blank4 := by
  unfold blanked
  rw [List.drop_eq_nil_of_le (by omega), List.append_nil]
  rfl
theorem modify_at {bs : List Bk} {k : Nat} {r q : Bk} (hr : bs[k]? = some r) : (bs.modify k (fun _ => q))[k]? = some q := by
  rw [List.getElem?_modify, hr]
  simp
theorem modify_modify (bs : List Bk) (k : Nat) (q : Bk) (f : Bk → Bk) : (bs.modify k (fun _ => q)).modify k f = bs.modify k (fun _ => f q) := by
  apply List.ext_getElem?
  intro i
  simp only [List.getElem?_modify]
  by_cases hi : k = i
  · subst hi
    cases bs[k]? <;> simp
  · simp [hi]
theorem modify_eq {bs : List Bk} {k : Nat} {r : Bk} (f : Bk → Bk) (hr : bs[k]? = some r) : bs.modify k f = bs.modify k (fun _ => f r) := by
  apply List.ext_getElem?
  intro i
  simp only [List.getElem?_modify]
  by_cases hi : k = i
  · subst hi
    rw [hr]
    simp
  · simp [hi]
end Go.Proofs.Ythkkefbhcmhijaa
