/-
  Flashes that can be read, by what they tell: copied, written, wiped.
-/
import Derived.Test.YthgfhjfnlecolapStMath
import Derived.Test.YthgfhjfnlecolapPk6
import Derived.Test.YthgfhjfnlecolapSProg
import Derived.Test.YthgfhjfnlecolapSWipe
import Derived.Test.YthgfhjfnlecolapIProg
import Derived.Test.YthgfhjfnlecolapIWipe
namespace Go.Proofs.Ythgfhjfnlecolap
open Go.RowKit

def RdB (w : World) (v : Value) (bs : List Bk) : Prop := ∃ rs : List Rw, rs.map tellOf = bs ∧ FlashRd w v rs
/-- Neither long lists nor long texts. -/
def Sml (bs : List Bk) : Prop := bs.length ≤ 1048576 ∧ ∀ r ∈ bs, r.2.2.length ≤ 1048576 ∧ ∀ t ∈ r.2.2, t.2.size ≤ 1048576
theorem RdB.below {w w' : World} {v : Value} {bs : List Bk} (h : RdB w v bs) (hb : Below w.heap.size w w') : RdB w' v bs := by
  obtain ⟨rs, e, h⟩ := h
  exact ⟨rs, e, h.below hb⟩
theorem RdB.form {w : World} {v : Value} {bs : List Bk} (h : RdB w v bs) : ∃ ad cap, v = .slice ad bs.length cap := by
  obtain ⟨rs, rfl, vd, vc, e, -⟩ := h
  exact ⟨vd, vc, by rw [e, List.length_map]⟩
theorem FlashOf.rdb {w : World} {B : Nat} {v : Value} {bs : List Bk} (h : FlashOf w B v bs) : RdB w v bs := by
  obtain ⟨ss, e, h⟩ := h
  exact ⟨ss, e, h.rd⟩
theorem Fla.rdb {w : World} {lo hi : Nat} {v : Value} {bs : List Bk} (h : Fla lo hi v bs w) : RdB w v bs := by
  obtain ⟨ss, e, h⟩ := h
  exact ⟨ss, e, h.rd⟩
theorem RdB.lens {w : World} {v : Value} {bs : List Bk} (h : RdB w v bs) (hs : Sml bs) : ∃ rs : List Rw, rs.map tellOf = bs ∧ FlashRd w v rs ∧ rs.length ≤ 1048576 ∧ (∀ r ∈ rs, r.2.2.2.length ≤ 1048576) ∧ TxB rs := by
  obtain ⟨rs, rfl, h⟩ := h
  refine ⟨rs, rfl, h, by have := hs.1; rwa [List.length_map] at this, fun r hr => (hs.2 _ (List.mem_map_of_mem (f := tellOf) hr)).1, fun r hr t ht => (hs.2 _ (List.mem_map_of_mem (f := tellOf) hr)).2 t ht⟩
theorem Sml.modify {bs : List Bk} (h : Sml bs) (k : Nat) (f : Bk → Bk) (hf : ∀ r ∈ bs, (f r).2.2.length ≤ 1048576 ∧ ∀ t ∈ (f r).2.2, t.2.size ≤ 1048576) : Sml (bs.modify k f) := by
  refine ⟨by rw [List.length_modify]; exact h.1, fun r hr => ?_⟩
  obtain ⟨i, hi, rfl⟩ := List.getElem_of_mem hr
  rw [List.length_modify] at hi
  rw [List.getElem_modify]
  split
  · exact hf _ (List.getElem_mem _)
  · exact h.2 _ (List.getElem_mem _)
theorem Sml.prog {bs : List Bk} (h : Sml bs) (b leaf : Int) (t : ByteArray) : Sml (programF bs b leaf t).1 := by
  unfold programF
  split
  · rename_i h1
    rw [Bool.and_eq_true] at h1
    have ht : t.size ≤ 120 := by
      have h2 := h1.2
      unfold mayP at h2
      split at h2
      · cases h2
      · exact (of_decide_eq_true h2).2.2.2.2.2
    refine h.modify _ _ (fun r hr => ⟨by rw [List.length_set]; exact (h.2 r hr).1, fun u hu => ?_⟩)
    rcases List.mem_or_eq_of_mem_set hu with hu | rfl
    · exact (h.2 r hr).2 u hu
    · simp only; omega
  · exact h
theorem Sml.wipe {bs : List Bk} (h : Sml bs) (b : Int) : Sml (wipeF bs b).1 := by
  unfold wipeF
  split
  · refine h.modify _ _ (fun r hr => ⟨by simp [blank4], fun u hu => ?_⟩)
    simp only [blank4, List.mem_cons, List.not_mem_nil, or_false] at hu
    rcases hu with rfl | rfl | rfl | rfl <;> exact Nat.zero_le _
  · exact h
theorem Sml.step {bs : List Bk} (h : Sml bs) (s : Stp) : Sml (doF bs s).1 := by
  unfold doF
  split
  · exact h.prog _ _ _
  · split
    · exact h.wipe _
    · exact h
theorem Sml.all {bs : List Bk} (h : Sml bs) (l : List Stp) : Sml (doAll bs l).1 := by
  induction l generalizing bs with
  | nil => exact h
  | cons s l ih =>
    simp only [doAll]
    split
    · exact ih (h.step s)
    · exact h
theorem Sml.torn {bs : List Bk} (h : Sml bs) (s : Stp) (hd : (doF bs s).2 = true) : Sml (tornF bs s) := by
  obtain ⟨k, r, h1, h2, h3, h4, h5, -⟩ := do_place hd
  unfold tornF
  split
  · rename_i hs
    obtain ⟨j, -, -, -, -, hz⟩ := h5 hs
    refine h.modify _ _ (fun r hr => ⟨by rw [List.length_set]; exact (h.2 r hr).1, fun u hu => ?_⟩)
    rcases List.mem_or_eq_of_mem_set hu with hu | rfl
    · exact (h.2 r hr).2 u hu
    · simp only [halfT_size]; omega
  · refine h.modify _ _ (fun r hr => ⟨by rw [List.length_replicate]; exact (h.2 r hr).1, fun u hu => ?_⟩)
    rw [List.mem_replicate] at hu
    rw [hu.2]
    exact Nat.zero_le _

theorem scopy_b (v : Value) (bs : List Bk) (w : World) (hs : Sml bs) (ha : RdB w v bs) :
    Calls Try.prog 48 #[.agg #[v]] w fun e w' => ∃ u, e = .returned (.agg #[u]) ∧ FlashOf w' w.heap.size u bs ∧ Below w.heap.size w w' := by
  obtain ⟨rs, rfl, h, l, ll, lt⟩ := ha.lens hs
  exact scopy_rd v rs w l ll h
theorem icopy_b (v : Value) (bs : List Bk) (w : World) (hs : Sml bs) (ha : RdB w v bs) :
    Calls Try.prog 52 #[.agg #[v]] w fun e w' => ∃ u, e = .returned (.agg #[u]) ∧ FlashOf w' w.heap.size u bs ∧ Below w.heap.size w w' := by
  obtain ⟨rs, rfl, h, l, ll, lt⟩ := ha.lens hs
  exact icopy_rd v rs w l ll lt h
theorem sprog_b (v : Value) (bs : List Bk) (b leaf : Int) (t : ByteArray) (w : World) (hs : Sml bs) (ha : RdB w v bs) :
    Calls Try.prog 46 #[.agg #[v], .int .i64 b, .int .i64 leaf, .string t] w fun e w' => ∃ u, e = .returned (.tuple #[.agg #[u], .bool (programF bs b leaf t).2]) ∧ FlashOf w' w.heap.size u (programF bs b leaf t).1 ∧ Below w.heap.size w w' := by
  obtain ⟨rs, rfl, h, l, ll, lt⟩ := ha.lens hs
  exact sprog_rd v rs b leaf t w l ll h
theorem iprog_b (v : Value) (bs : List Bk) (b leaf : Int) (t : ByteArray) (w : World) (hs : Sml bs) (ha : RdB w v bs) :
    Calls Try.prog 110 #[.agg #[v], .int .i64 b, .int .i64 leaf, .string t] w fun e w' => ∃ u, e = .returned (.tuple #[.agg #[u], .bool (programF bs b leaf t).2]) ∧ FlashOf w' w.heap.size u (programF bs b leaf t).1 ∧ Below w.heap.size w w' := by
  obtain ⟨rs, rfl, h, l, ll, lt⟩ := ha.lens hs
  exact iprog_rd v rs b leaf t w l ll lt h
theorem swipe_b (v : Value) (bs : List Bk) (b : Int) (w : World) (hs : Sml bs) (ha : RdB w v bs) :
    Calls Try.prog 47 #[.agg #[v], .int .i64 b] w fun e w' => ∃ u, e = .returned (.tuple #[.agg #[u], .bool (wipeF bs b).2]) ∧ FlashOf w' w.heap.size u (wipeF bs b).1 ∧ Below w.heap.size w w' := by
  obtain ⟨rs, rfl, h, l, ll, lt⟩ := ha.lens hs
  exact swipe_rd v rs b w l ll h
theorem iwipe_b (v : Value) (bs : List Bk) (b : Int) (w : World) (hs : Sml bs) (ha : RdB w v bs) :
    Calls Try.prog 114 #[.agg #[v], .int .i64 b] w fun e w' => ∃ u, e = .returned (.tuple #[.agg #[u], .bool (wipeF bs b).2]) ∧ FlashOf w' w.heap.size u (wipeF bs b).1 ∧ Below w.heap.size w w' := by
  obtain ⟨rs, rfl, h, l, ll, lt⟩ := ha.lens hs
  exact iwipe_rd v rs b w l ll lt h
end Go.Proofs.Ythgfhjfnlecolap
