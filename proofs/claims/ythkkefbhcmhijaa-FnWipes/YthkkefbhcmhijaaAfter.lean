/-
  Where a function of the program stands that has copied the flash: the result's cell, the copy's cell, and the copy.
-/
import Derived.Test.YthkkefbhcmhijaaICopy
import Derived.Test.YthkkefbhcmhijaaIUse
import Derived.Test.YthkkefbhcmhijaaFPut
namespace Go.Proofs.Ythkkefbhcmhijaa
open Go.RowKit

def After (w w' : World) (g2 : Nat) (v : Value) (bs : List Bk) : Prop :=
  w'.heap[w.heap.size + 1]? = some (.cells #[.slice none 0 0] 26 (0, 0)) ∧ w'.heap[g2]? = some (.cells #[v] 26 (0, 0)) ∧ FlashOf w' (w.heap.size + 2) v bs ∧ Below w.heap.size w w'
theorem After.below {w w' w'' : World} {g2 : Nat} {v : Value} {bs : List Bk} (h : After w w' g2 v bs) (hb : Below w'.heap.size w' w'') : After w w'' g2 v bs := by
  obtain ⟨h1, h2, h3, h4⟩ := h
  exact ⟨(hb.block _ (Array.getElem?_eq_some_iff.1 h1).1).trans h1, (hb.block _ (Array.getElem?_eq_some_iff.1 h2).1).trans h2, h3.below hb, h4.trans (hb.mono h4.size)⟩
theorem after_start {w w1 : World} {arg v : Value} {bs : List Bk} (fo : FlashOf w1 (w.heap.size + 2) v bs) (b1 : Below (w.heap.size + 2) ((w.alloc (.cells #[arg] 26)).alloc (.cells #[.slice none 0 0] 26)) w1) : After w (w1.alloc (.cells #[v] 26)) w1.heap.size v bs := by
  have hb0 := ((Below.refl w.heap.size w).alloc (Nat.le_refl _) (.cells #[arg] 26)).alloc (by simp) (.cells #[.slice none 0 0] 26)
  have r1 := heap_alloc_new (w.alloc (.cells #[arg] 26)) (.cells #[.slice none 0 0] 26)
  rw [show (w.alloc (.cells #[arg] 26)).heap.size = w.heap.size + 1 by simp] at r1
  have hs := b1.size
  simp at hs
  have b2 := (Below.refl w1.heap.size w1).alloc (Nat.le_refl _) (.cells #[v] 26)
  exact ⟨(b2.block _ (by omega)).trans ((b1.block _ (by omega)).trans r1), heap_alloc_new w1 _, fo.below b2, (hb0.trans (b1.mono (by omega))).trans (b2.mono (by omega))⟩
theorem tell_get {rs ss : List Rw} (h : rs.map tellOf = ss.map tellOf) (k : Nat) (r : Rw) (hr : rs[k]? = some r) : ∃ s, ss[k]? = some s ∧ tellOf r = tellOf s := by
  have h1 := congrArg (fun l : List Bk => l[k]?) h
  simp only [List.getElem?_map, hr, Option.map_some] at h1
  cases hs : ss[k]? with
  | none => rw [hs] at h1; cases h1
  | some s =>
    rw [hs] at h1
    exact ⟨s, rfl, by simpa using h1⟩
theorem tell_lens {ss rs : List Rw} (h : ss.map tellOf = rs.map tellOf) (hl : rs.length ≤ 1048576) (hll : ∀ r ∈ rs, r.2.2.2.length ≤ 1048576) : ss.length ≤ 1048576 ∧ ∀ r ∈ ss, r.2.2.2.length ≤ 1048576 := by
  have h1 := congrArg List.length h
  simp only [List.length_map] at h1
  refine ⟨by omega, fun r hr => ?_⟩
  obtain ⟨k, hk, rfl⟩ := List.getElem_of_mem hr
  obtain ⟨s, hs, e⟩ := tell_get h k _ (List.getElem?_eq_getElem hk)
  have h2 := congrArg (fun x : Bk => x.2.2.length) e
  simp only [tellOf] at h2
  rw [h2]
  exact hll s (List.mem_of_getElem? hs)
theorem tell_tx {ss rs : List Rw} (h : ss.map tellOf = rs.map tellOf) (hx : TxB rs) : TxB ss := by
  intro r hr
  obtain ⟨k, hk, rfl⟩ := List.getElem_of_mem hr
  obtain ⟨s, hs, e⟩ := tell_get h k _ (List.getElem?_eq_getElem hk)
  have h2 := congrArg (fun x : Bk => x.2.2) e
  simp only [tellOf] at h2
  rw [h2]
  exact hx s (List.mem_of_getElem? hs)
theorem use_yes {ss : List Rw} {b : Int} (h : useP (ss.map tellOf) b) : ∃ (k : Nat) (s : Rw), b = k ∧ ss[k]? = some s ∧ s.1 = false := by
  obtain ⟨-, h0, r, hr, hf⟩ := h
  rw [List.getElem?_map] at hr
  obtain ⟨s, hs, rfl⟩ := Option.map_eq_some_iff.1 hr
  exact ⟨b.toNat, s, by omega, hs, hf⟩
theorem flOk_four {bs : List Bk} {b : Bk} (h : flOk bs = true) (hb : b ∈ bs) : b.2.2.length = 4 := by
  simp only [flOk, Bool.and_eq_true, List.all_eq_true] at h
  have h2 := h.2 b hb
  simp only [blkOk, Bool.and_eq_true, decide_eq_true_eq] at h2
  exact h2.1.1
theorem prog_nouse {bs : List Bk} {b leaf : Int} {t : ByteArray} (h : ¬ useP bs b) : programF bs b leaf t = (bs, false) := by
  unfold programF
  cases ho : flOk bs with
  | false => rfl
  | true =>
    have : mayP bs b leaf t = false := by
      unfold mayP
      cases hb : bs[b.toNat]? with
      | none => rfl
      | some r => exact decide_eq_false (fun hh => h ⟨ho, hh.1, r, hb, hh.2.1⟩)
    rw [this]
    rfl
theorem prog_in {bs : List Bk} {k : Nat} {r : Bk} {leaf : Int} {t : ByteArray} (ho : flOk bs = true) (hr : bs[k]? = some r) (hf : r.1 = false) :
    (leaf < 4 ∧ leaf = (nextB r.2.2 : Nat) ∧ fillsP t = true → programF bs (k : Int) leaf t = (putLeaf bs k leaf.toNat t, true)) ∧ (¬ (leaf < 4 ∧ leaf = (nextB r.2.2 : Nat) ∧ fillsP t = true) → programF bs (k : Int) leaf t = (bs, false)) := by
  unfold programF mayP
  rw [ho, Int.toNat_natCast, hr]
  simp only [Bool.true_and, fillsP, decide_eq_true_eq]
  refine ⟨fun hh => ?_, fun hh => ?_⟩
  · rw [if_pos ⟨by omega, hf, hh.1, hh.2.1, by omega, by omega⟩]
  · rw [if_neg (fun hq => hh ⟨hq.2.2.1, hq.2.2.2.1, by omega, by omega⟩)]
end Go.Proofs.Ythkkefbhcmhijaa
