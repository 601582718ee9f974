/-
  slices.Clone of leaves, and of blocks.
-/
import Derived.Test.YtofamdjjgkgpiabFSnoc
import Derived.Lib.SliceRun
namespace Go.Proofs.Ytofamdjjgkgpiab
open Go.RowKit

set_option maxHeartbeats 400000 in
set_option maxRecDepth 100000 in
theorem icl_leaves (v : Value) (ls : List (Int × ByteArray)) (B : Nat) (w : World) (hl : ls.length ≤ 1048576) (ha : w.ownsRow B 48 2 v ls.length (lcells ls)) :
    Calls Try.prog 55 #[v] w fun e w' => ∃ v', e = .returned v' ∧ w'.ownsRow w.heap.size 48 2 v' ls.length (lcells ls) ∧ Below w.heap.size w w' := by
  rcases ha.2 with ⟨rfl, h0⟩ | ⟨g, cap, cur, rfl, -⟩
  · have hls : ls = [] := List.eq_nil_of_length_eq_zero h0
    subst hls
    clear ha h0
    have hn := Lib.run_eql_slice_nil (P := Try.prog) w 39 _ none 0 0 0 0 Try.underlying39
    simp only [Option.isNone] at hn
    go_enter Try.func55, Try.ntmps55
    go_wp2
    go_ret
    exact ⟨_, rfl, ⟨rfl, .inl ⟨rfl, rfl⟩⟩, Below.refl _ _⟩
  · have hB1 := (Below.refl w.heap.size w).alloc (Nat.le_refl _) (.cells #[] 48)
    have OS := hide (own_below ha hB1)
    have O1 := hide (empty_leaves w)
    have HB1 := hide hB1
    clear ha hB1
    have hn := Lib.run_eql_slice_nil (P := Try.prog) w 39 _ (some ⟨g, 0, none⟩) ls.length cap 0 0 Try.underlying39
    simp only [Option.isNone] at hn
    go_enter Try.func55, Try.ntmps55
    go_wp2_with (at_builtin; refine leaf_append _ rfl _ _ rfl w.heap.size rfl O1.out (some ⟨g, 0, none⟩) cap ls rfl hl B OS.out ?_)
    intro v' w3 o3 g3
    have HB3 := hide (HB1.out.grown g3 HB1.out.size (fun i hi2 => by cases hi2; omega))
    have O3 := hide o3
    obtain ⟨ad, capv, rfl, -⟩ := frow_form o3
    clear g3 o3
    go_wp2
    go_ret
    exact ⟨_, rfl, O3.out, HB3.out⟩

theorem empty_blocks (w : World) : (w.alloc (.cells #[] 41)).ownsRow w.heap.size 41 3 (.slice (some ⟨w.heap.size, 0, none⟩) 0 0) 0 (kcells []) :=
  ⟨rfl, .inr ⟨w.heap.size, 0, #[], rfl, Nat.le_refl _, heap_alloc_new w _, Nat.le_refl _, by unfold maxLen; omega, rfl, rfl⟩⟩
/-- append([]Block{}, bs...). -/
theorem blk_append (w : World) {ops : Array Oper} {rest : List Oper} {o : Oper} {a : Act} {Q : Exit → Act → World → Prop} (hg : o.guard = none) (s x : Operand)
    (hop : o.op = Op.call { callee := Callee.builtin Builtin.append, args := #[s, x], argTypes := #[32, 32] }) (g : Nat) (hs : a.eval s = .slice (some ⟨g, 0, none⟩) 0 0)
    (hown : w.ownsRow g 41 3 (.slice (some ⟨g, 0, none⟩) 0 0) 0 (kcells [])) (ao : Option Addr) (c : Nat) (ls : List (Bool × Int × Value)) (hx : a.eval x = .slice ao ls.length c) (hl : ls.length ≤ 1048576) (hone : ∀ v ∈ kcells ls, v.oneCell' = true) (B : Nat)
    (hsrc : w.ownsRow B 41 3 (.slice ao ls.length c) ls.length (kcells ls))
    (hK : ∀ v' w', w'.ownsRow g 41 3 v' ls.length (kcells ls) → w.grownBy w' (some g) → wpList Try.prog ops Q rest (a.put o.dst v') w') : wpList Try.prog ops Q (o :: rest) a w := by
  obtain ⟨i0, hi, hz0, hz1, hz2⟩ := info_parts infoBlock
  obtain ⟨ad, cap, e, h1, h2, h3⟩ := frow_form hsrc
  injection e with e1 e2 e3
  subst e1 e3
  have hgl := (own_block_lt hown g rfl).2
  by_cases h0 : ls.length = 0
  · have hls : ls = [] := List.eq_nil_of_length_eq_zero h0
    subst hls
    refine wpList_append_fits_any w hg s x _ hop g _ i0 3 Try.underlying32 hi hz1 g 0 0 [] hs hown ao 0 c [] hx rfl ?_ (by simp) (by simp) (Nat.le_refl _) (fun w' h1 h2 => hK _ w' h1 h2)
    intro hn
    rcases hsrc.2 with ⟨h, -⟩ | ⟨g', cap', cur, h, -⟩
    · injection h with a1 a2 a3
      exact ⟨rfl, a3⟩
    · rw [hn] at h
      cases h
  · obtain ⟨g', rfl, -, -⟩ := h3 (by omega)
    refine wpList_append_own w hg s x _ hop g _ i0 (.agg #[.bool false, .int .i64 0, .slice none 0 0]) 3 40 Try.underlying32 hi hz0 hz1 hz2 rfl (by decide) _ 0 [] hs hown ⟨g', 0, none⟩ ls.length c (kcells ls) hx (kcells_len ls) (fun j u hj => hsrc.cells (g := g') rfl j u hj) hone (by unfold maxLen; omega) (by omega) (by omega) ?_
    intro v' w' h1 h2 _
    rw [Nat.zero_add] at h1
    exact hK v' w' h1 h2
set_option maxHeartbeats 400000 in
set_option maxRecDepth 100000 in
theorem icl_blocks (v : Value) (ls : List (Bool × Int × Value)) (B : Nat) (w : World) (hl : ls.length ≤ 1048576) (hone : ∀ v ∈ kcells ls, v.oneCell' = true) (ha : w.ownsRow B 41 3 v ls.length (kcells ls)) :
    Calls Try.prog 54 #[v] w fun e w' => ∃ v', e = .returned v' ∧ w'.ownsRow w.heap.size 41 3 v' ls.length (kcells ls) ∧ Below w.heap.size w w' := by
  have HONE := hide hone
  clear hone
  rcases ha.2 with ⟨rfl, h0⟩ | ⟨g, cap, cur, rfl, -⟩
  · have hls : ls = [] := List.eq_nil_of_length_eq_zero h0
    subst hls
    clear ha h0
    have hn := Lib.run_eql_slice_nil (P := Try.prog) w 32 _ none 0 0 0 0 Try.underlying32
    simp only [Option.isNone] at hn
    go_enter Try.func54, Try.ntmps54
    go_wp2
    go_ret
    exact ⟨_, rfl, ⟨rfl, .inl ⟨rfl, rfl⟩⟩, Below.refl _ _⟩
  · have hB1 := (Below.refl w.heap.size w).alloc (Nat.le_refl _) (.cells #[] 41)
    have OS := hide (own_below ha hB1)
    have O1 := hide (empty_blocks w)
    have HB1 := hide hB1
    clear ha hB1
    have hn := Lib.run_eql_slice_nil (P := Try.prog) w 32 _ (some ⟨g, 0, none⟩) ls.length cap 0 0 Try.underlying32
    simp only [Option.isNone] at hn
    go_enter Try.func54, Try.ntmps54
    go_wp2_with (at_builtin; refine blk_append _ rfl _ _ rfl w.heap.size rfl O1.out (some ⟨g, 0, none⟩) cap ls rfl hl HONE.out B OS.out ?_)
    intro v' w3 o3 g3
    have HB3 := hide (HB1.out.grown g3 HB1.out.size (fun i hi2 => by cases hi2; omega))
    have O3 := hide o3
    obtain ⟨ad, capv, rfl, -⟩ := frow_form o3
    clear g3 o3
    go_wp2
    go_ret
    exact ⟨_, rfl, O3.out, HB3.out⟩
end Go.Proofs.Ytofamdjjgkgpiab
