/-
  What is read of a flash.
-/
import Derived.Test.YthkkefbhcmhijaaPq4
namespace Go.Proofs.Ythkkefbhcmhijaa

theorem read_out {bs : List Bk} {b leaf : Int} (h : ¬ (0 ≤ b ∧ b ≤ (bs.length : Int) - 1)) : readF bs b leaf = (⟨#[]⟩, false) := by
  unfold readF
  cases hb : bs[b.toNat]? with
  | none => rfl
  | some r =>
    have := (List.getElem?_eq_some_iff.1 hb).1
    simp only
    cases hl : r.2.2[leaf.toNat]? with
    | none => rfl
    | some t => exact if_neg (fun hh => h ⟨hh.1, by omega⟩)
theorem read_leaf_out {bs : List Bk} {k : Nat} {r : Bk} {leaf : Int} (hr : bs[k]? = some r) (h : ¬ (0 ≤ leaf ∧ leaf ≤ (r.2.2.length : Int) - 1)) : readF bs (k : Int) leaf = (⟨#[]⟩, false) := by
  unfold readF
  rw [Int.toNat_natCast, hr]
  simp only
  cases hl : r.2.2[leaf.toNat]? with
  | none => rfl
  | some t =>
    have := (List.getElem?_eq_some_iff.1 hl).1
    exact if_neg (fun hh => h ⟨hh.2.1, by omega⟩)
theorem read_in {bs : List Bk} {k j : Nat} {r : Bk} {t : Int × ByteArray} (hr : bs[k]? = some r) (ht : r.2.2[j]? = some t) : (t.1 = 1 → readF bs (k : Int) (j : Int) = (t.2, true)) ∧ (t.1 ≠ 1 → readF bs (k : Int) (j : Int) = (⟨#[]⟩, false)) := by
  unfold readF
  rw [Int.toNat_natCast, hr]
  simp only
  rw [Int.toNat_natCast, ht]
  exact ⟨fun h => if_pos ⟨by omega, by omega, h⟩, fun h => if_neg (fun hh => h hh.2.2)⟩
end Go.Proofs.Ythkkefbhcmhijaa
