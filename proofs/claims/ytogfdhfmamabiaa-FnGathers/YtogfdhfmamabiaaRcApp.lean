/-
  append([]Rec{}, list...).
-/
import Derived.Test.YtogfdhfmamabiaaTxN
namespace Go.Proofs.Ytogfdhfmamabiaa
open Go.RowKit
open Words

theorem addr_off2 (b off j : Nat) : (⟨b, off, none⟩ : Addr).add j = ⟨b, off + j, none⟩ := by
  simp only [Addr.add]
  split <;> simp_all
theorem empty_recs (w : World) : (w.alloc (.cells #[] 34)).ownsRow w.heap.size 34 4 (.slice (some ⟨w.heap.size, 0, none⟩) 0 0) 0 (rccells []) :=
  ⟨rfl, .inr ⟨w.heap.size, 0, #[], rfl, Nat.le_refl _, heap_alloc_new w _, Nat.le_refl _, by unfold maxLen; omega, rfl, rfl⟩⟩
theorem rccells_back (M : List (Int × Int × Int × Int)) (i : Nat) (v : Value) (h : (rccells M)[i]? = some v) : ∃ x, M[i / 4]? = some x ∧ (rccell x)[i % 4]? = some v := by
  have hl := (List.getElem?_eq_some_iff.1 h).1
  rw [rccells_len] at hl
  obtain ⟨x, hx⟩ : ∃ x, M[i / 4]? = some x := ⟨_, List.getElem?_eq_getElem (by omega)⟩
  obtain ⟨u, hu⟩ : ∃ u, (rccell x)[i % 4]? = some u := ⟨_, List.getElem?_eq_getElem (by show i % 4 < 4; omega)⟩
  have := rccells_at M (i / 4) x hx (i % 4) u hu
  rw [show i / 4 * 4 + i % 4 = i by omega, h] at this
  cases this
  exact ⟨x, hx, hu⟩
theorem RcRow.cells {w : World} {b off len : Nat} {ls : List (Int × Int × Int × Int)} (h : RcRow w (some ⟨b, off, none⟩) len ls) (j : Nat) (u : Value) (hj : (rccells ls)[j]? = some u) : w.cell? ⟨b, off + j, none⟩ = some u := by
  obtain ⟨x, hx, hu⟩ := rccells_back ls j u hj
  obtain ⟨b', off', e, -, c0, c1, c2, c3⟩ := h.at hx
  injection e with e
  injection e with e1 e2
  subst e1
  subst e2
  have hm : j = j / 4 * 4 + j % 4 := by omega
  have h4 : j % 4 < 4 := by omega
  generalize j % 4 = m at hm h4 hu
  rw [hm, ← Nat.add_assoc]
  match m, h4, hu with
  | 0, _, hu => simp only [rccell] at hu; simp at hu; subst hu; simpa using c0
  | 1, _, hu => simp only [rccell] at hu; simp at hu; subst hu; exact c1
  | 2, _, hu => simp only [rccell] at hu; simp at hu; subst hu; exact c2
  | 3, _, hu => simp only [rccell] at hu; simp at hu; subst hu; exact c3
/-- append([]Rec{}, ls...), wherever they lie. -/
theorem rec_append_rd (w : World) {ops : Array Oper} {rest : List Oper} {o : Oper} {a : Act} {Q : Exit → Act → World → Prop} (hg : o.guard = none) (s x : Operand)
    (hop : o.op = Op.call { callee := Callee.builtin Builtin.append, args := #[s, x], argTypes := #[29, 29] }) (g : Nat) (hs : a.eval s = .slice (some ⟨g, 0, none⟩) 0 0)
    (hown : w.ownsRow g 34 4 (.slice (some ⟨g, 0, none⟩) 0 0) 0 (rccells [])) (v : Value) (ls : List (Int × Int × Int × Int)) (hx : a.eval x = v) (hl : ls.length ≤ 1048576)
    (hsrc : RcSl w v ls)
    (hK : ∀ v' w', w'.ownsRow g 34 4 v' ls.length (rccells ls) → w.grownBy w' (some g) → wpList Try.prog ops Q rest (a.put o.dst v') w') : wpList Try.prog ops Q (o :: rest) a w := by
  obtain ⟨i0, hi, hz0, hz1, hz2⟩ := info_parts infoRc
  obtain ⟨ao, c, rfl, hc0, hrow⟩ := hsrc
  have hgl := (own_block_lt hown g rfl).2
  by_cases h0 : ls.length = 0
  · have hls : ls = [] := List.eq_nil_of_length_eq_zero h0
    subst hls
    refine wpList_append_fits_any w hg s x _ hop g _ i0 4 Try.underlying29 hi hz1 g 0 0 [] hs hown ao 0 c [] hx rfl ?_ (by simp) (by simp) (Nat.le_refl _) (fun w' h1 h2 => hK _ w' h1 h2)
    exact fun hn => ⟨rfl, hc0 hn⟩
  · obtain ⟨b, off, rfl, -, -⟩ := hrow.2.2.2 (by omega)
    refine wpList_append_own w hg s x _ hop g _ i0 (.agg #[.int .i64 0, .int .i64 0, .int .i64 0, .int .i64 0]) 4 32 Try.underlying29 hi hz0 hz1 hz2 rfl (by decide) _ 0 [] hs hown ⟨b, off, none⟩ ls.length c (rccells ls) hx (rccells_len ls) (fun j u hj => by rw [addr_off2]; exact hrow.cells j u hj) (rccells_one ls) (by unfold maxLen; omega) (by omega) (by omega) ?_
    intro v' w' h1 h2 _
    rw [Nat.zero_add] at h1
    exact hK v' w' h1 h2
end Go.Proofs.Ytogfdhfmamabiaa
