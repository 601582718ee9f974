/-
  A flash that grows by a block; leaves appended to a row of none.
-/
import Derived.Test.YthkkefbhcmhijaaFOf
import Derived.Test.YthkkefbhcmhijaaRd
namespace Go.Proofs.Ythkkefbhcmhijaa
open Go.RowKit

theorem leaf_grown {w w' : World} {B hi : Nat} {v u : Value} {n : Nat} {xs : List Value} {ls : List (Int × ByteArray)} (hv : w.ownsRow B 33 3 v n xs) (hg : w.grownBy w' v.ownBlock) (h : LeafIn w B hi u ls) : LeafIn w' B hi u ls := by
  refine ⟨h.1.kept hg ?_, h.2⟩
  cases hq : v.ownBlock with
  | none =>
    cases hu : u.ownBlock with
    | none => exact Or.inl rfl
    | some g => exact Or.inr (by simp)
  | some g => exact Or.inr (leaf_not_block hv h.1 g hq)
theorem FlashIn.snoc {w w' : World} {B B' : Nat} {v v' : Value} {d : List Rw} {r : Rw} (h : FlashIn w B w.heap.size v d) (hg : w.grownBy w' v.ownBlock)
    (ho : w'.ownsRow B 33 3 v' (d.length + 1) (kcells (d.map cellOf) ++ [.bool r.1, .int .i64 r.2.1, r.2.2.1])) (hl : w.ownsRow B' 41 2 r.2.2.1 r.2.2.2.length (lcells r.2.2.2)) (hB : B ≤ B')
    (hfresh : ∀ q ∈ d, ∀ g, q.2.2.1.ownBlock = some g → g < B') : FlashIn w' B w'.heap.size v' (d ++ [r]) := by
  have hs := hg.size
  refine ⟨?_, fun g hq => (own_block_lt ho g hq).2, fun q hq => ?_, ?_⟩
  · rw [List.map_append, List.length_append, kcells_app]
    exact ho
  · rcases List.mem_append.1 hq with hq | hq
    · exact (leaf_grown h.1 hg (h.2.2.1 q hq)).up hs
    · rw [List.mem_singleton] at hq
      subst hq
      exact (leaf_grown h.1 hg ⟨own_down hl hB, fun g hq => (own_block_lt hl g hq).2⟩).up hs
  · rw [List.map_append, List.pairwise_append]
    refine ⟨h.2.2.2, by simp, fun a ha b hb2 => ?_⟩
    obtain ⟨q, hq, rfl⟩ := List.mem_map.1 ha
    simp at hb2
    subst hb2
    cases e1 : q.2.2.1.ownBlock with
    | none => exact Or.inl rfl
    | some g =>
      refine Or.inr (fun e => ?_)
      have k1 := hfresh q hq g e1
      have k2 := (own_block_lt hl g e.symm).1
      omega
theorem FlashIn.cellb {w : World} {B : Nat} {v : Value} {rs : List Rw} (h : FlashIn w B w.heap.size v rs) {g : Nat} (hg : g < B) (i : Nat) (u : Value) : FlashIn (w.setCell ⟨g, i, none⟩ u) B (w.setCell ⟨g, i, none⟩ u).heap.size v rs := by
  have := h.kept (w' := w.setCell ⟨g, i, none⟩ u) (fun k h1 _ => Below.heap_setCell _ _ _ _ (by show k ≠ g; omega))
  simpa [World.setCell] using this
theorem empty_leaves (w : World) : (w.alloc (.cells #[] 41)).ownsRow w.heap.size 41 2 (.slice (some ⟨w.heap.size, 0, none⟩) 0 0) 0 (lcells []) :=
  ⟨rfl, .inr ⟨w.heap.size, 0, #[], rfl, Nat.le_refl _, heap_alloc_new w _, Nat.le_refl _, by unfold maxLen; omega, rfl, rfl⟩⟩
/-- append([]Leaf{}, ls...), wherever they lie. -/
theorem leaf_append_rd (w : World) {ops : Array Oper} {rest : List Oper} {o : Oper} {a : Act} {Q : Exit → Act → World → Prop} (hg : o.guard = none) (s x : Operand)
    (hop : o.op = Op.call { callee := Callee.builtin Builtin.append, args := #[s, x], argTypes := #[31, 31] }) (g : Nat) (hs : a.eval s = .slice (some ⟨g, 0, none⟩) 0 0)
    (hown : w.ownsRow g 41 2 (.slice (some ⟨g, 0, none⟩) 0 0) 0 (lcells [])) (ao : Option Addr) (c : Nat) (ls : List (Int × ByteArray)) (hx : a.eval x = .slice ao ls.length c) (hl : ls.length ≤ 1048576)
    (hsrc : LeafRd w (.slice ao ls.length c) ls)
    (hK : ∀ v' w', w'.ownsRow g 41 2 v' ls.length (lcells ls) → w.grownBy w' (some g) → wpList Try.prog ops Q rest (a.put o.dst v') w') : wpList Try.prog ops Q (o :: rest) a w := by
  obtain ⟨i0, hi, hz0, hz1, hz2⟩ := info_parts infoLeaf
  have hgl := (own_block_lt hown g rfl).2
  by_cases h0 : ls.length = 0
  · have hls : ls = [] := List.eq_nil_of_length_eq_zero h0
    subst hls
    refine wpList_append_fits_any w hg s x _ hop g _ i0 2 Try.underlying31 hi hz1 g 0 0 [] hs hown ao 0 c [] hx rfl ?_ (by simp) (by simp) (Nat.le_refl _) (fun w' h1 h2 => hK _ w' h1 h2)
    exact fun hn => ⟨rfl, hsrc.none0 hn⟩
  · obtain ⟨g', o', rfl⟩ := hsrc.head (by omega)
    refine wpList_append_own w hg s x _ hop g _ i0 (.agg #[.int .i64 0, .string ⟨#[]⟩]) 2 24 Try.underlying31 hi hz0 hz1 hz2 rfl (by decide) _ 0 [] hs hown ⟨g', o', none⟩ ls.length c (lcells ls) hx (lcells_len ls) (fun j u hj => by rw [addr_offR]; exact hsrc.cells j u hj) (lcells_one ls) (by unfold maxLen; omega) (by omega) (by omega) ?_
    intro v' w' h1 h2 _
    rw [Nat.zero_add] at h1
    exact hK v' w' h1 h2
/-- append([]Leaf{}, ls...). -/
theorem leaf_append (w : World) {ops : Array Oper} {rest : List Oper} {o : Oper} {a : Act} {Q : Exit → Act → World → Prop} (hg : o.guard = none) (s x : Operand)
    (hop : o.op = Op.call { callee := Callee.builtin Builtin.append, args := #[s, x], argTypes := #[31, 31] }) (g : Nat) (hs : a.eval s = .slice (some ⟨g, 0, none⟩) 0 0)
    (hown : w.ownsRow g 41 2 (.slice (some ⟨g, 0, none⟩) 0 0) 0 (lcells [])) (ao : Option Addr) (c : Nat) (ls : List (Int × ByteArray)) (hx : a.eval x = .slice ao ls.length c) (hl : ls.length ≤ 1048576) (B : Nat)
    (hsrc : w.ownsRow B 41 2 (.slice ao ls.length c) ls.length (lcells ls))
    (hK : ∀ v' w', w'.ownsRow g 41 2 v' ls.length (lcells ls) → w.grownBy w' (some g) → wpList Try.prog ops Q rest (a.put o.dst v') w') : wpList Try.prog ops Q (o :: rest) a w := by
  obtain ⟨i0, hi, hz0, hz1, hz2⟩ := info_parts infoLeaf
  obtain ⟨ad, cap, e, h1, h2, h3⟩ := frow_form hsrc
  injection e with e1 e2 e3
  subst e1 e3
  have hgl := (own_block_lt hown g rfl).2
  by_cases h0 : ls.length = 0
  · have hls : ls = [] := List.eq_nil_of_length_eq_zero h0
    subst hls
    refine wpList_append_fits_any w hg s x _ hop g _ i0 2 Try.underlying31 hi hz1 g 0 0 [] hs hown ao 0 c [] hx rfl ?_ (by simp) (by simp) (Nat.le_refl _) (fun w' h1 h2 => hK _ w' h1 h2)
    intro hn
    rcases hsrc.2 with ⟨h, -⟩ | ⟨g', cap', cur, h, -⟩
    · injection h with a1 a2 a3
      exact ⟨rfl, a3⟩
    · rw [hn] at h
      cases h
  · obtain ⟨g', rfl, -, -⟩ := h3 (by omega)
    refine wpList_append_own w hg s x _ hop g _ i0 (.agg #[.int .i64 0, .string ⟨#[]⟩]) 2 24 Try.underlying31 hi hz0 hz1 hz2 rfl (by decide) _ 0 [] hs hown ⟨g', 0, none⟩ ls.length c (lcells ls) hx (lcells_len ls) (fun j u hj => hsrc.cells (g := g') rfl j u hj) (lcells_one ls) (by unfold maxLen; omega) (by omega) (by omega) ?_
    intro v' w' h1 h2 _
    rw [Nat.zero_add] at h1
    exact hK v' w' h1 h2
end Go.Proofs.Ythkkefbhcmhijaa
