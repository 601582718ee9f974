/-
  SameB; TkL
-/
import Derived.Test.YtcjgjkejhkhknaaPq88
import Derived.Deep.RegionHeld3
import Derived.Laws.StructEq
import Derived.Test.YtcjgjkejhkhknaaPq11
/-
  laws.sameFlash, over flashes that can be read.
-/
namespace Go.Proofs.Ytcjgjkejhkhknaa
open Go.RowKit

theorem RdB.at {w : World} {vd : Option Addr} {n vcap k : Nat} {bs : List Bk} {r : Bk} (h : RdB w (.slice vd n vcap) bs) (hr : bs[k]? = some r) : ∃ g ld lc, vd = some ⟨g, 0, none⟩ ∧ (w.cell? ⟨g, k * 3, none⟩ = some (.bool r.1) ∧ w.cell? ⟨g, k * 3 + 1, none⟩ = some (.int .i64 r.2.1) ∧ w.cell? ⟨g, k * 3 + 2, none⟩ = some (.slice ld r.2.2.length lc)) ∧ LeafRd w (.slice ld r.2.2.length lc) r.2.2 := by
  obtain ⟨rs, rfl, h⟩ := h
  rw [List.getElem?_map] at hr
  obtain ⟨q, hq, rfl⟩ := Option.map_eq_some_iff.1 hr
  obtain ⟨g, e, ⟨c1, c2, c3⟩, hl⟩ := h.at hq
  have hl2 := hl
  obtain ⟨ld, lc, e2, -, -⟩ := hl2
  rw [e2] at c3 hl
  exact ⟨g, ld, lc, e, ⟨c1, c2, c3⟩, hl⟩
set_option maxHeartbeats 400000 in
set_option maxRecDepth 100000 in
theorem same_b (va vb : Value) (bs : List Bk) (w : World) (hs : Sml bs) (ha : RdB w va bs) (hb : RdB w vb bs) :
    Calls Try.prog 21 #[.agg #[va], .agg #[vb]] w fun e w' => e = .returned (.bool true) ∧ Below w.heap.size w w' := by
  obtain ⟨da, cpa, rfl⟩ := ha.form
  obtain ⟨db, cpb, rfl⟩ := hb.form
  have hl := hs.1
  have HA := hide ha
  have HB := hide hb
  have HLL := hide (fun r hr => (hs.2 r hr).1)
  have b0 := ((Below.refl w.heap.size w).alloc (Nat.le_refl _) (.cells #[.slice da bs.length cpa] 28)).alloc (by simp) (.cells #[.slice db bs.length cpb] 28)
  have HB0 := hide b0
  clear ha hb hs b0
  go_enter Try.func21, Try.ntmps21
  go_wp2
  have HCA : Hid (((w.alloc (.cells #[.slice da bs.length cpa] 28)).alloc (.cells #[.slice db bs.length cpb] 28)).heap[w.heap.size]? = some (.cells #[.slice da bs.length cpa] 28 (0, 0))) :=
    (Below.heap_alloc _ _ _ (by simp)).trans (heap_alloc_new w _)
  have hcb := heap_alloc_new (w.alloc (.cells #[.slice da bs.length cpa] 28)) (.cells #[.slice db bs.length cpb] 28)
  rw [show (w.alloc (.cells #[.slice da bs.length cpa] 28)).heap.size = w.heap.size + 1 by simp] at hcb
  have HCB := hide hcb
  have HA0 := hide (HA.out.below HB0.out)
  have HB1 := hide (HB.out.below HB0.out)
  clear hcb HA HB
  generalize (w.alloc (.cells #[.slice da bs.length cpa] 28)).alloc (.cells #[.slice db bs.length cpb] 28) = wA at HB0 HCA HCB HA0 HB1 ⊢
  go_loopw [5] (fun iv wr => ∃ i : Nat, i ≤ bs.length ∧ iv = .int .i64 i ∧ Hid (Below wA.heap.size wA wr)) (fun iv _ => bs.length - (intOf iv).toNat)
  case atStart => exact ⟨0, Nat.zero_le _, rfl, Below.refl _ _⟩
  case round =>
    rename World => wo
    obtain ⟨i, hi, rfl, HW⟩ := hrel
    have ca := cell_of_row _ _ 0 _ _ _ ((HW.out.block _ (Array.getElem?_eq_some_iff.1 HCA.out).1).trans HCA.out)
    have cb := cell_of_row _ _ 0 _ _ _ ((HW.out.block _ (Array.getElem?_eq_some_iff.1 HCB.out).1).trans HCB.out)
    simp at ca cb
    by_cases hlt : (i : Int) < bs.length
    · have hil : i < bs.length := by omega
      have hr : bs[i]? = some bs[i] := List.getElem?_eq_getElem hil
      generalize bs[i] = r at hr
      have hrl := HLL.out r (List.mem_of_getElem? hr)
      obtain ⟨ga, ld1, lc1, e1, ⟨c1, c2, c3⟩, L1⟩ := (HA0.out.below HW.out).at hr
      obtain ⟨gb, ld2, lc2, e2, ⟨d1, d2, d3⟩, L2⟩ := (HB1.out.below HW.out).at hr
      subst e1 e2
      obtain ⟨x, y, ls⟩ := r
      simp only at c1 c2 c3 d1 d2 d3 L1 L2 hrl
      have i0 : (0 : Int) ≤ i := by omega
      have bX := (Below.refl wo.heap.size wo).alloc (Nat.le_refl _) (.cells #[.bool x, .int .i64 y, .slice ld1 ls.length lc1] 39)
      have bXY := bX.alloc (by simp) (.cells #[.bool x, .int .i64 y, .slice ld2 ls.length lc2] 39)
      have cb' := (bX.cell (World.block_lt_of_cell? wo _ cb)).trans cb
      have d1' := (bX.cell (World.block_lt_of_cell? wo _ d1)).trans d1
      have d2' := (bX.cell (World.block_lt_of_cell? wo _ d2)).trans d2
      have d3' := (bX.cell (World.block_lt_of_cell? wo _ d3)).trans d3
      have RX : Hid (((wo.alloc (.cells #[.bool x, .int .i64 y, .slice ld1 ls.length lc1] 39)).alloc (.cells #[.bool x, .int .i64 y, .slice ld2 ls.length lc2] 39)).heap[wo.heap.size]? = some (.cells #[.bool x, .int .i64 y, .slice ld1 ls.length lc1] 39 (0, 0))) := (Below.heap_alloc _ _ _ (by simp)).trans (heap_alloc_new wo _)
      have ry := heap_alloc_new (wo.alloc (.cells #[.bool x, .int .i64 y, .slice ld1 ls.length lc1] 39)) (.cells #[.bool x, .int .i64 y, .slice ld2 ls.length lc2] 39)
      rw [show (wo.alloc (.cells #[.bool x, .int .i64 y, .slice ld1 ls.length lc1] 39)).heap.size = wo.heap.size + 1 by simp] at ry
      have RY := hide ry
      have HXY := hide bXY
      have HL1 := hide (L1.below bXY)
      have HL2 := hide (L2.below bXY)
      have hxx : (x != x) = false := by simp
      have hyy : (y != y) = false := by simp
      clear hr L1 L2 ry bX bXY
      go_wp2
      generalize (wo.alloc (.cells #[.bool x, .int .i64 y, .slice ld1 ls.length lc1] 39)).alloc (.cells #[.bool x, .int .i64 y, .slice ld2 ls.length lc2] 39) = wB at RX RY HXY HL1 HL2 ⊢
      go_loopw [8] (fun iv wr => ∃ j : Nat, j ≤ ls.length ∧ iv = .int .i64 j ∧ Hid (Below wB.heap.size wB wr)) (fun iv _ => ls.length - (intOf iv).toNat)
      case atStart => exact ⟨0, Nat.zero_le _, rfl, Below.refl _ _⟩
      case round =>
        obtain ⟨j, hj, rfl, HI⟩ := hrel
        have x3 : wr.cell? ⟨wo.heap.size, 2, none⟩ = some (.slice ld1 ls.length lc1) := cell_of_row _ _ 2 _ _ _ ((HI.out.block _ (Array.getElem?_eq_some_iff.1 RX.out).1).trans RX.out)
        have y3 : wr.cell? ⟨wo.heap.size + 1, 2, none⟩ = some (.slice ld2 ls.length lc2) := cell_of_row _ _ 2 _ _ _ ((HI.out.block _ (Array.getElem?_eq_some_iff.1 RY.out).1).trans RY.out)
        by_cases hjl : (j : Int) < ls.length
        · have hjl2 : j < ls.length := by omega
          obtain ⟨z, t, ht⟩ : ∃ z t, ls[j]? = some (z, t) := ⟨ls[j].1, ls[j].2, List.getElem?_eq_getElem hjl2⟩
          obtain ⟨g1, o1, e1⟩ := HL1.out.head (by omega)
          subst e1
          obtain ⟨g2, o2, e2⟩ := HL2.out.head (by omega)
          subst e2
          obtain ⟨p1, p2⟩ := (HL1.out.below HI.out).two ht
          obtain ⟨q1, q2⟩ := (HL2.out.below HI.out).two ht
          simp only at p1 p2 q1 q2
          have j0 : (0 : Int) ≤ j := by omega
          have HI2 := hide HI.out.drew
          clear ht
          go_wp2
          go_region_held3 (fun w' => w'.cell? ⟨wo.heap.size, 2, none⟩ = some (.slice (some ⟨g1, o1, none⟩) ls.length lc1) ∧ w'.cell? ⟨wo.heap.size + 1, 2, none⟩ = some (.slice (some ⟨g2, o2, none⟩) ls.length lc2) ∧ w'.cell? ⟨g1, o1 + j * 2, none⟩ = some (.int .i64 z) ∧ w'.cell? ⟨g1, o1 + j * 2 + 1, none⟩ = some (.string t) ∧ w'.cell? ⟨g2, o2 + j * 2, none⟩ = some (.int .i64 z) ∧ w'.cell? ⟨g2, o2 + j * 2 + 1, none⟩ = some (.string t)) (go_keep) (fail)
          all_goals
            go_wp2
            go_roundw
            case rel => exact ⟨j + 1, by omega, by go_num, HI2⟩
            case measure => simp [intOf]; omega
        · have HWW := hide ((HW.out.trans (HXY.out.mono HW.out.size)).trans (HI.out.mono (Nat.le_trans HW.out.size HXY.out.size)))
          go_wp2
          go_roundw
          case rel => exact ⟨i + 1, by omega, by go_num, HWW⟩
          case measure => simp [intOf]; omega
    · have HBE := hide (HB0.out.trans (HW.out.mono HB0.out.size))
      go_wp2
      go_ret
      exact ⟨rfl, HBE.out⟩
end Go.Proofs.Ytcjgjkejhkhknaa

/-
  A call's flash in a cell of its own, among what a law holds.
-/
namespace Go.Proofs.Ytcjgjkejhkhknaa
open Go.RowKit

/-- A call's flash in a cell of its own, the call first. -/
theorem Tk.late {w wi wj : World} {hs : List Hold} {u : Value} {bs : List Bk} {c : Nat} (T : Tk w wi hs) (hb : Below wi.heap.size wi wj) (f : FlashOf wj wi.heap.size u bs) (hc : wj.heap.size = c) :
    ∃ lo hi, Tk w (wj.alloc (.cells #[u] 28)) ((c, c + 1, Cel c #[u] 28) :: (lo, hi, Fla lo hi u bs) :: hs) := ⟨_, _, (T.fla hb f).celln hc _ _⟩
/-- .. or the cell first. -/
theorem Tk.early {w wi wj : World} {hs : List Hold} {u z : Value} {bs : List Bk} (T : Tk w wi hs) (hb : Below (wi.alloc (.cells #[z] 28)).drew.heap.size (wi.alloc (.cells #[z] 28)).drew wj) (f : FlashOf wj (wi.alloc (.cells #[z] 28)).drew.heap.size u bs) :
    wj.cell? ⟨wi.heap.size, 0, none⟩ = some z ∧ wj.frozen? ⟨wi.heap.size, 0, none⟩ = false ∧ ∃ lo hi, Tk w (wj.setCell ⟨wi.heap.size, 0, none⟩ u) ((wi.heap.size, wi.heap.size + 1, Cel wi.heap.size #[u] 28) :: (lo, hi, Fla lo hi u bs) :: hs) := by
  have hz := T.1.size
  have he : (wi.alloc (.cells #[z] 28)).drew.heap.size = wi.heap.size + 1 := alloc_size rfl _
  rw [he] at f
  have T2 := (((T.celln rfl #[z] 28).drew).below hb).put (lo := wi.heap.size + 1) (hi := wj.heap.size) (P := Fla (wi.heap.size + 1) wj.heap.size u bs) (Nat.le_refl _) (Fla.loc _ _ _ _) f
  refine ⟨T2.at 1 0 rfl rfl, T2.fr 1 0 rfl, wi.heap.size + 1, wj.heap.size, T2.write (hs' := (wi.heap.size + 1, wj.heap.size, Fla (wi.heap.size + 1) wj.heap.size u bs) :: hs) 1 rfl hz u (fun x hx => ?_)⟩
  rcases List.mem_cons.1 hx with rfl | hx
  · exact ⟨List.mem_of_getElem? (i := 0) rfl, Or.inr (Nat.le_refl _)⟩
  · exact ⟨List.mem_cons_of_mem _ (List.mem_cons_of_mem _ hx), Or.inl (T.2 x hx).1⟩

end Go.Proofs.Ytcjgjkejhkhknaa
