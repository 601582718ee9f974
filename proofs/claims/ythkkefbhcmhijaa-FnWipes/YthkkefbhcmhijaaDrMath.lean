/-
  What the chapter says of the flashes of the laws FnWipes and FnPrograms.
-/
import Derived.Test.YthkkefbhcmhijaaTr
namespace Go.Proofs.Ythkkefbhcmhijaa
open Go.RowKit

theorem wi_math {bs : List Bk} {k : Nat} {r : Bk} (h : Right 20 bs) (hr : bs[k]? = some r) :
    ((r.1 = true → wipeF bs (k : Int) = (bs, false)) ∧ (r.1 = false → wipeF bs (k : Int) = (bs.modify k (fun r => (false, r.2.1 + 1, blank4)), true))) ∧ (wipeF (badF bs (k : Int)) (k : Int)).2 = false ∧ (∀ leaf t, (programF (badF bs (k : Int)) (k : Int) leaf t).2 = false) ∧ readF bs (k : Int) 4 = (⟨#[]⟩, false) := by
  have hmem := List.mem_of_getElem? hr
  have hw := h.2 r hmem
  have hno : ¬ useP (badF bs (k : Int)) (k : Int) := by
    rintro ⟨-, -, q, hq, hf⟩
    unfold badF at hq
    rw [if_pos (by omega), Int.toNat_natCast, List.getElem?_modify, hr] at hq
    simp at hq
    rw [← hq] at hf
    cases hf
  refine ⟨⟨fun hb => wipe_nouse ?_, fun hb => (wipe_in h.1 hr hb).2 (by omega)⟩, by rw [wipe_nouse hno], fun leaf t => by rw [prog_nouse hno], read_leaf_out hr ?_⟩
  · rintro ⟨-, -, q, hq, hf⟩
    rw [Int.toNat_natCast, hr] at hq
    cases hq
    rw [hb] at hf
    cases hf
  · have := h.lens.2.2 r hmem
    omega
theorem prog_no {w : World} {B : Nat} {v : Value} {bs : List Bk} {n b leaf : Int} {t : ByteArray} (h : FlashOf w B v bs) (hr : Right n bs) (hf : (programF bs b leaf t).2 = false) :
    Calls Try.prog 9 #[.agg #[v], .int .i64 b, .int .i64 leaf, .string t] w fun e w' => ∃ ad c L, e = .returned (.tuple #[.agg #[.slice ad L c], .bool false]) ∧ Below w.heap.size w w' := by
  refine (prog_fo b leaf t h hr).mono ?_
  rintro e w' ⟨u, rfl, fo, hb⟩
  obtain ⟨ad, c, rfl⟩ := fo.form
  rw [hf]
  exact ⟨ad, c, _, rfl, hb⟩
/-- A cell that is neither among those held nor of a flash held is written. -/
theorem Tr.aside {w wi : World} {cs : List (Nat × Array Value × TypeId)} {fs : List (Nat × Nat × Value × List Bk)} {g : Nat} (h : Tr w wi cs fs) (hg : w.heap.size ≤ g) (hc : ∀ c ∈ cs, c.1 ≠ g) (hf : ∀ f ∈ fs, f.2.1 ≤ g ∨ g < f.1) (i : Nat) (v : Value) : Tr w (wi.setCell ⟨g, i, none⟩ v) cs fs := by
  obtain ⟨h1, h2, h3⟩ := h
  refine ⟨h1.setCell (p := ⟨g, i, none⟩) hg v, fun c hq => row_set_ne (h2 c hq) (hc c hq) i v, fun f hq => ?_⟩
  obtain ⟨a, ss, e, fl⟩ := h3 f hq
  refine ⟨by simpa [World.setCell] using a, ss, e, fl.kept (fun q q1 q2 => Below.heap_setCell _ _ _ _ (fun e => ?_))⟩
  have := hf f hq
  simp only at e
  omega
theorem Tr.past {w w7 w9 : World} {cs : List (Nat × Array Value × TypeId)} {fs : List (Nat × Nat × Value × List Bk)} {g : Nat} (h7 : Tr w w7 cs fs) (h9 : Tr w w9 cs fs) (hg : w7.heap.size ≤ g) (i : Nat) (v : Value) : Tr w (w9.setCell ⟨g, i, none⟩ v) cs fs := by
  refine h9.aside ?_ (fun c hc e => ?_) (fun f hf => Or.inl ?_) i v
  · have := h7.1.size
    omega
  · have := (Array.getElem?_eq_some_iff.1 (h7.2.1 c hc)).1
    omega
  · have := (h7.2.2 f hf).1
    omega
/-- What is programmed on a right flash, at its next leaf. -/
theorem pg_math {bs : List Bk} {k : Nat} {r : Bk} {t : ByteArray} (h : Right 20 bs) (hr : bs[k]? = some r) (ht : fillsP t = true) :
    (¬ (nextB r.2.2 < 4 ∧ r.1 = false) → programF bs (k : Int) ((nextB r.2.2 : Nat) : Int) t = (bs, false)) ∧
    (nextB r.2.2 < 4 → r.1 = false → programF bs (k : Int) ((nextB r.2.2 : Nat) : Int) t = (putLeaf bs k (nextB r.2.2) t, true) ∧
      readF (putLeaf bs k (nextB r.2.2) t) (k : Int) ((nextB r.2.2 : Nat) : Int) = (t, true) ∧ (programF (putLeaf bs k (nextB r.2.2) t) (k : Int) ((nextB r.2.2 : Nat) : Int) t).2 = false ∧
      (programF bs (k : Int) (((nextB r.2.2 : Nat) : Int) + 1) t).2 = false ∧ (putLeaf bs k (nextB r.2.2) t)[k]? = some (r.1, r.2.1, r.2.2.set (nextB r.2.2) (1, t)) ∧ nextB (r.2.2.set (nextB r.2.2) (1, t)) = nextB r.2.2 + 1) := by
  have hmem := List.mem_of_getElem? hr
  have h4 := h.lens.2.2 r hmem
  have hb := (flOk_open h.1).2 r hmem
  have hle := nextB_le4 r.2.2 h4
  refine ⟨fun hn => ?_, fun hj hf => ?_⟩
  · cases hq : r.1 with
    | false => exact (prog_in h.1 hr hq).2 (fun hh => hn ⟨by have := hh.1; omega, hq⟩)
    | true =>
      refine prog_nouse ?_
      rintro ⟨-, -, q, hq2, hf⟩
      rw [Int.toNat_natCast, hr] at hq2
      cases hq2
      rw [hq] at hf
      cases hf
  · have hp : (putLeaf bs k (nextB r.2.2) t)[k]? = some (r.1, r.2.1, r.2.2.set (nextB r.2.2) (1, t)) := by
      unfold putLeaf
      rw [List.getElem?_modify, hr]
      simp
    have hns := nextB_set hb hj 1 t (by omega)
    have hprog : programF bs (k : Int) ((nextB r.2.2 : Nat) : Int) t = (putLeaf bs k (nextB r.2.2) t, true) := by
      have := (prog_in (leaf := ((nextB r.2.2 : Nat) : Int)) (t := t) h.1 hr hf).1 ⟨by omega, rfl, ht⟩
      rw [Int.toNat_natCast] at this
      exact this
    have hR := h.prog (k : Int) ((nextB r.2.2 : Nat) : Int) t
    rw [hprog] at hR
    refine ⟨hprog, ?_, ?_, ?_, hp, hns⟩
    · exact (read_in (t := (1, t)) hp (by rw [List.getElem?_set_self (by omega)])).1 rfl
    · rw [(prog_in hR.1 hp hf).2 (fun hh => by have := hh.2.1; simp only [hns] at this; omega)]
    · rw [(prog_in h.1 hr hf).2 (fun hh => by have := hh.2.1; omega)]
end Go.Proofs.Ythkkefbhcmhijaa
