/-
  FnExactNextBlank.
-/
import Derived.Test.YtcfkbemlldfnnanFSz
import Derived.Test.YtcfkbemlldfnnanFTo
import Derived.Test.YtcfkbemlldfnnanFEq
import Derived.Test.YtcfkbemlldfnnanSNext
import Derived.Test.YtcfkbemlldfnnanINext
import Derived.Deep.RegionHeld3
namespace Go.Proofs.Ytcfkbemlldfnnan
open Go.RowKit

theorem three_cells {w : World} {g : Nat} {x y z : Value} {t : TypeId} (h : w.heap[g]? = some (.cells #[x, y, z] t (0, 0))) : w.cell? ⟨g, 0, none⟩ = some x ∧ w.cell? ⟨g, 1, none⟩ = some y ∧ w.cell? ⟨g, 2, none⟩ = some z := ⟨cell_of_row _ _ 0 _ _ _ h, cell_of_row _ _ 1 _ _ _ h, cell_of_row _ _ 2 _ _ _ h⟩
theorem row_down {w w' : World} {g : Nat} {o : Obj} (h : w.heap[g]? = some o) (hb : Below w.heap.size w w') : w'.heap[g]? = some o := (hb.block _ (Array.getElem?_eq_some_iff.1 h).1).trans h

set_option maxHeartbeats 800000 in
set_option maxRecDepth 100000 in
theorem lawNext_any (r : Rw) (w : World) (h : BkOne w r) :
    Calls Try.prog 3 #[.agg #[.bool r.1, .int .i64 r.2.1, r.2.2.1]] w fun e w' => e = .returned (.bool true) ∧ Below w.heap.size w w' := by
  obtain ⟨x, y, v, ls⟩ := r
  obtain ⟨a, n, cap, e0, h⟩ := h
  simp only at e0 h ⊢
  subst e0
  have R0 := hide (heap_alloc_new w (.cells #[.bool x, .int .i64 y, .slice a n cap] 24))
  have HB0 := hide ((Below.refl w.heap.size w).alloc (Nat.le_refl _) (.cells #[.bool x, .int .i64 y, .slice a n cap] 24))
  have H : Hid (BkOne w (x, y, .slice a n cap, ls)) := ⟨a, n, cap, rfl, h⟩
  have hn := h.1
  subst hn
  clear h
  go_enter Try.func3, Try.ntmps3
  go_wp2_with fail
  refine (szBlock_any (x, y, .slice a ls.length cap, ls) 1048576 _ (Nat.le_refl _) (H.out.below HB0.out)).mono ?_
  rintro e w1 ⟨⟨q, rfl, q1, q2, -⟩, b1⟩
  simp only at q2
  have R1 := hide (row_down R0.out b1)
  have HB1 := hide (HB0.out.trans (b1.mono HB0.out.size))
  obtain ⟨k0, k1, k2⟩ := three_cells R1.out
  clear b1 R0 HB0
  by_cases hq : q < 0
  · clear q2
    go_wp2
    go_ret
    exact ⟨rfl, HB1.out⟩
  · have hl : ls.length ≤ 1048576 := by have := q2 (by omega); omega
    clear q2
    go_wp2_with fail
    refine (toBlock_any (x, y, .slice a ls.length cap, ls) _ hl (H.out.below HB1.out)).mono ?_
    rintro e w2 ⟨v1, rfl, o1, b2⟩
    simp only at o1 ⊢
    have R2 := hide (row_down R1.out b2)
    have HB2 := hide (HB1.out.trans (b2.mono HB1.out.size))
    have O1 := hide o1
    obtain ⟨d1, c1, rfl, -⟩ := frow_form o1
    clear b2 R1 HB1 k0 k1 k2 o1
    go_wp2_with fail
    refine (snext_any x y _ ls _ _ hl O1.out).mono ?_
    rintro e w3 ⟨rfl, b3⟩
    have R3 := hide (row_down R2.out b3)
    have HB3 := hide (HB2.out.trans (b3.mono HB2.out.size))
    obtain ⟨k0, k1, k2⟩ := three_cells R3.out
    clear b3 R2 HB2 O1
    generalize hN : nextB ls = N
    have HN := hide hN
    clear hN
    go_wp2_with fail
    refine (toBlock_any (x, y, .slice a ls.length cap, ls) _ hl (H.out.below HB3.out)).mono ?_
    rintro e w4 ⟨v2, rfl, o4, b4⟩
    simp only at o4 ⊢
    obtain ⟨d2, c2, rfl, -⟩ := frow_form o4
    have b5 := b4.alloc b4.size (.cells #[.bool x, .int .i64 y, .slice d2 ls.length c2] 29)
    have R5 := hide (row_down R3.out b5)
    have HB5 := hide (HB3.out.trans (b5.mono HB3.out.size))
    have X5 := hide (heap_alloc_new w4 (.cells #[.bool x, .int .i64 y, .slice d2 ls.length c2] 29))
    have O5 := hide (o4.alloc (.cells #[.bool x, .int .i64 y, .slice d2 ls.length c2] 29))
    clear b4 b5 R3 HB3 k0 k1 k2 o4
    go_wp2_with fail
    generalize w4.alloc (.cells #[.bool x, .int .i64 y, .slice d2 ls.length c2] 29) = w5 at R5 HB5 X5 O5 ⊢
    refine (inext_any x y _ ls _ _ hl O5.out).mono ?_
    rintro e w6 ⟨rfl, b6⟩
    rw [HN.out]
    have hne : (((N : Nat) : Int) != ((N : Nat) : Int)) = false := by simp
    have R6 := hide (row_down R5.out b6)
    have X6 := hide (row_down X5.out b6)
    have HB6 := hide (HB5.out.trans (b6.mono HB5.out.size))
    have O6 : Hid (w6.drew.ownsRow w3.heap.size 54 2 (.slice d2 ls.length c2) ls.length (lcells ls)) := own_below O5.out b6.drew
    obtain ⟨k0, k1, k2⟩ := three_cells R6.out
    obtain ⟨x0, x1, x2⟩ := three_cells X6.out
    have HT : Hid (Calls Try.prog 10 #[.agg #[.bool x, .int .i64 y, .slice a ls.length cap]] w6.drew fun e w' => ∃ d3 c3, e = .returned (.agg #[.bool x, .int .i64 y, .slice d3 ls.length c3]) ∧ ((w'.cell? ⟨w4.heap.size, 0, none⟩ = some (.bool x) ∧ w'.cell? ⟨w4.heap.size, 1, none⟩ = some (.int .i64 y) ∧ w'.cell? ⟨w4.heap.size, 2, none⟩ = some (.slice d2 ls.length c2)) ∧ w'.cell? ⟨w.heap.size, 0, none⟩ = some (.bool x) ∧ w'.cell? ⟨w.heap.size, 1, none⟩ = some (.int .i64 y) ∧ w'.cell? ⟨w.heap.size, 2, none⟩ = some (.slice a ls.length cap)) ∧ Hid (w'.ownsRow w6.drew.heap.size 54 2 (.slice d3 ls.length c3) ls.length (lcells ls) ∧ Below w6.drew.heap.size w6.drew w')) := by
      refine (toBlock_any (x, y, .slice a ls.length cap, ls) _ hl (H.out.below HB6.out.drew)).mono ?_
      rintro e w7 ⟨v3, rfl, o7, b7⟩
      simp only at o7
      obtain ⟨d3, c3, rfl, -⟩ := frow_form o7
      exact ⟨d3, c3, rfl, ⟨three_cells (row_down (w := w6.drew) X6.out b7), three_cells (row_down (w := w6.drew) R6.out b7)⟩, o7, b7⟩
    clear b6 R5 HB5 X5 O5
    go_wp2
    go_region_held3 (fun w' => (w'.cell? ⟨w4.heap.size, 0, none⟩ = some (.bool x) ∧ w'.cell? ⟨w4.heap.size, 1, none⟩ = some (.int .i64 y) ∧ w'.cell? ⟨w4.heap.size, 2, none⟩ = some (.slice d2 ls.length c2)) ∧ w'.cell? ⟨w.heap.size, 0, none⟩ = some (.bool x) ∧ w'.cell? ⟨w.heap.size, 1, none⟩ = some (.int .i64 y) ∧ w'.cell? ⟨w.heap.size, 2, none⟩ = some (.slice a ls.length cap)) (first | go_keep | exact K7 | exact ⟨three_cells (row_down (w := w7) X7.out b8.out), three_cells (row_down (w := w7) R7.out b8.out)⟩) (first
      | (go_at_call 10; with_reducible refine Calls.mono HT.out ?_; rintro en w7 ⟨d3, c3, rfl, K7, P7⟩; have X7 := hide (row_down (w := w6.drew) X6.out P7.out.2); have R7 := hide (row_down (w := w6.drew) R6.out P7.out.2); have O7 := hide (own_below O6.out P7.out.2))
      | (go_at_call 12; with_reducible refine Calls.mono (eqBlock_any x y _ _ ls _ _ _ hl O7.out P7.out.1) ?_; rintro en w8 ⟨rfl, b8'⟩; have b8 := hide b8'; clear b8'))
    all_goals
      have HB8 := hide ((HB6.out.drew.trans (P7.out.2.mono HB6.out.drew.size)).trans (b8.out.mono (HB6.out.drew.trans (P7.out.2.mono HB6.out.drew.size)).size))
      go_wp2
      go_ret
      exact ⟨rfl, HB8.out⟩
end Go.Proofs.Ytcfkbemlldfnnan
