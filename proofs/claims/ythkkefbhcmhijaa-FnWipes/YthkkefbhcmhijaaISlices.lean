/-
  slices.Clone of leaves, and of blocks.
-/
import Derived.Test.YthkkefbhcmhijaaFSnoc
import Derived.Test.YthkkefbhcmhijaaCopyM
import Derived.Lib.SliceRun
namespace Go.Proofs.Ythkkefbhcmhijaa
open Go.RowKit

set_option maxHeartbeats 400000 in
set_option maxRecDepth 100000 in
theorem icl_leaves_rd (v : Value) (ls : List (Int × ByteArray)) (w : World) (hl : ls.length ≤ 1048576) (ha : LeafRd w v ls) :
    Calls Try.prog 35 #[v] w fun e w' => ∃ v', e = .returned v' ∧ w'.ownsRow w.heap.size 41 2 v' ls.length (lcells ls) ∧ Below w.heap.size w w' := by
  have ha1 := ha
  obtain ⟨ld, lc, rfl, h0, -⟩ := ha1
  cases ld with
  | none =>
    have hls : ls = [] := by
      cases hq : ls with
      | nil => rfl
      | cons t l =>
        obtain ⟨gl, o, e⟩ := ha.head (by rw [hq]; simp)
        cases e
    subst hls
    obtain rfl := h0 rfl
    clear ha h0
    have hn := Lib.run_eql_slice_nil (P := Try.prog) w 31 _ none 0 0 0 0 Try.underlying31
    simp only [Option.isNone] at hn
    go_enter Try.func35, Try.ntmps35
    go_wp2
    go_ret
    exact ⟨_, rfl, ⟨rfl, .inl ⟨rfl, rfl⟩⟩, Below.refl _ _⟩
  | some aq =>
    have hB1 := (Below.refl w.heap.size w).alloc (Nat.le_refl _) (.cells #[] 41)
    have OS := hide (ha.below hB1)
    have O1 := hide (empty_leaves w)
    have HB1 := hide hB1
    clear ha hB1 h0
    have hn := Lib.run_eql_slice_nil (P := Try.prog) w 31 _ (some aq) ls.length lc 0 0 Try.underlying31
    simp only [Option.isNone] at hn
    go_enter Try.func35, Try.ntmps35
    go_wp2_with (at_builtin; refine leaf_append_rd _ rfl _ _ rfl w.heap.size rfl O1.out (some aq) lc ls rfl hl OS.out ?_)
    intro v' w3 o3 g3
    have HB3 := hide (HB1.out.grown g3 HB1.out.size (fun i hi2 => by cases hi2; omega))
    have O3 := hide o3
    obtain ⟨ad, capv, rfl, -⟩ := frow_form o3
    clear g3 o3
    go_wp2
    go_ret
    exact ⟨_, rfl, O3.out, HB3.out⟩
theorem empty_blocks (w : World) : (w.alloc (.cells #[] 33)).ownsRow w.heap.size 33 3 (.slice (some ⟨w.heap.size, 0, none⟩) 0 0) 0 (kcells []) :=
  ⟨rfl, .inr ⟨w.heap.size, 0, #[], rfl, Nat.le_refl _, heap_alloc_new w _, Nat.le_refl _, by unfold maxLen; omega, rfl, rfl⟩⟩
theorem FlashRd.cells {w : World} {g n cap : Nat} {rs : List Rw} (h : FlashRd w (.slice (some ⟨g, 0, none⟩) n cap) rs) (j : Nat) (u : Value) (hj : (kcells (rs.map cellOf))[j]? = some u) : w.cell? ⟨g, j, none⟩ = some u := by
  have hlt := (List.getElem?_eq_some_iff.1 hj).1
  rw [kcells_len, List.length_map] at hlt
  obtain ⟨r, hr⟩ : ∃ r, rs[j / 3]? = some r := ⟨_, List.getElem?_eq_getElem (by omega)⟩
  obtain ⟨g', e, ⟨c1, c2, c3⟩, -⟩ := h.at hr
  injection e with e
  injection e with e
  subst e
  obtain ⟨k1, k2, k3⟩ := kcells_at (rs.map cellOf) (j / 3) (cellOf r) (by rw [List.getElem?_map, hr]; rfl)
  have hm : j % 3 = 0 ∨ j % 3 = 1 ∨ j % 3 = 2 := by omega
  rcases hm with hm | hm | hm
  · have e : j / 3 * 3 = j := by omega
    rw [e, hj] at k1
    rw [e] at c1
    cases k1
    exact c1
  · have e : j / 3 * 3 + 1 = j := by omega
    rw [e, hj] at k2
    rw [e] at c2
    cases k2
    exact c2
  · have e : j / 3 * 3 + 2 = j := by omega
    rw [e, hj] at k3
    rw [e] at c3
    cases k3
    exact c3
theorem FlashRd.slices {w : World} {v : Value} {rs : List Rw} (h : FlashRd w v rs) : ∀ r ∈ rs, ∃ a n c, r.2.2.1 = .slice a n c := by
  intro r hr
  obtain ⟨k, hk, rfl⟩ := List.getElem_of_mem hr
  obtain ⟨vd, vc, rfl, -, h⟩ := h
  obtain ⟨g, -, -, ld, lc, e, -⟩ := h k _ (List.getElem?_eq_getElem hk)
  exact ⟨_, _, _, e⟩
/-- append([]Block{}, bs...). -/
theorem blk_append_rd (w : World) {ops : Array Oper} {rest : List Oper} {o : Oper} {a : Act} {Q : Exit → Act → World → Prop} (hg : o.guard = none) (s x : Operand)
    (hop : o.op = Op.call { callee := Callee.builtin Builtin.append, args := #[s, x], argTypes := #[24, 24] }) (g : Nat) (hs : a.eval s = .slice (some ⟨g, 0, none⟩) 0 0)
    (hown : w.ownsRow g 33 3 (.slice (some ⟨g, 0, none⟩) 0 0) 0 (kcells [])) (ao : Option Addr) (c : Nat) (rs : List Rw) (hx : a.eval x = .slice ao rs.length c) (hl : rs.length ≤ 1048576) (hone : ∀ v ∈ kcells (rs.map cellOf), v.oneCell' = true)
    (hsrc : FlashRd w (.slice ao rs.length c) rs)
    (hK : ∀ v' w', w'.ownsRow g 33 3 v' rs.length (kcells (rs.map cellOf)) → w.grownBy w' (some g) → wpList Try.prog ops Q rest (a.put o.dst v') w') : wpList Try.prog ops Q (o :: rest) a w := by
  obtain ⟨i0, hi, hz0, hz1, hz2⟩ := info_parts infoBlock
  have hgl := (own_block_lt hown g rfl).2
  by_cases h0 : rs.length = 0
  · have hls : rs = [] := List.eq_nil_of_length_eq_zero h0
    subst hls
    refine wpList_append_fits_any w hg s x _ hop g _ i0 3 Try.underlying24 hi hz1 g 0 0 [] hs hown ao 0 c [] hx rfl ?_ (by simp) (by simp) (Nat.le_refl _) (fun w' h1 h2 => hK _ w' h1 h2)
    intro hn
    obtain ⟨vd, vc, e, h, -⟩ := hsrc
    injection e with e1 e2 e3
    subst e1 e3
    exact ⟨rfl, h hn⟩
  · obtain ⟨g', rfl⟩ := hsrc.head (by omega)
    refine wpList_append_own w hg s x _ hop g _ i0 (.agg #[.bool false, .int .i64 0, .slice none 0 0]) 3 40 Try.underlying24 hi hz0 hz1 hz2 rfl (by decide) _ 0 [] hs hown ⟨g', 0, none⟩ rs.length c (kcells (rs.map cellOf)) hx (by rw [kcells_len, List.length_map]) (fun j u hj => by rw [addr_at]; exact hsrc.cells j u hj) hone (by unfold maxLen; omega) (by omega) (by omega) ?_
    intro v' w' h1 h2 _
    rw [Nat.zero_add] at h1
    exact hK v' w' h1 h2
set_option maxHeartbeats 400000 in
set_option maxRecDepth 100000 in
theorem icl_blocks_rd (v : Value) (rs : List Rw) (w : World) (hl : rs.length ≤ 1048576) (ha : FlashRd w v rs) :
    Calls Try.prog 34 #[v] w fun e w' => ∃ v', e = .returned v' ∧ w'.ownsRow w.heap.size 33 3 v' rs.length (kcells (rs.map cellOf)) ∧ Below w.heap.size w w' := by
  have HONE := hide (kcells_one rs ha.slices)
  have ha1 := ha
  obtain ⟨ld, lc, rfl, h0, -⟩ := ha1
  cases ld with
  | none =>
    have hls : rs = [] := by
      cases hq : rs with
      | nil => rfl
      | cons t l =>
        obtain ⟨gl, e⟩ := ha.head (by rw [hq]; simp)
        cases e
    subst hls
    obtain rfl := h0 rfl
    clear ha h0
    have hn := Lib.run_eql_slice_nil (P := Try.prog) w 24 _ none 0 0 0 0 Try.underlying24
    simp only [Option.isNone] at hn
    go_enter Try.func34, Try.ntmps34
    go_wp2
    go_ret
    exact ⟨_, rfl, ⟨rfl, .inl ⟨rfl, rfl⟩⟩, Below.refl _ _⟩
  | some aq =>
    have hB1 := (Below.refl w.heap.size w).alloc (Nat.le_refl _) (.cells #[] 33)
    have OS := hide (ha.below hB1)
    have O1 := hide (empty_blocks w)
    have HB1 := hide hB1
    clear ha hB1 h0
    have hn := Lib.run_eql_slice_nil (P := Try.prog) w 24 _ (some aq) rs.length lc 0 0 Try.underlying24
    simp only [Option.isNone] at hn
    go_enter Try.func34, Try.ntmps34
    go_wp2_with (at_builtin; refine blk_append_rd _ rfl _ _ rfl w.heap.size rfl O1.out (some aq) lc rs rfl hl HONE.out OS.out ?_)
    intro v' w3 o3 g3
    have HB3 := hide (HB1.out.grown g3 HB1.out.size (fun i hi2 => by cases hi2; omega))
    have O3 := hide o3
    obtain ⟨ad, capv, rfl, -⟩ := frow_form o3
    clear g3 o3
    go_wp2
    go_ret
    exact ⟨_, rfl, O3.out, HB3.out⟩
end Go.Proofs.Ythkkefbhcmhijaa
