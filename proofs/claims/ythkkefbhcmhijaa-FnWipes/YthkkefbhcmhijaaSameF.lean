/-
  laws.sameFlash.
-/
import Derived.Test.YthkkefbhcmhijaaFOf
import Derived.Test.YthkkefbhcmhijaaPq4
import Derived.Deep.RegionHeld3
import Derived.Laws.StructEq
namespace Go.Proofs.Ythkkefbhcmhijaa
open Go.RowKit

/-- Leaves that can be read. -/
def RdL (w : World) (ld : Option Addr) (ls : List (Int × ByteArray)) : Prop :=
  ∀ j t, ls[j]? = some t → ∃ gl, ld = some ⟨gl, 0, none⟩ ∧ w.cell? ⟨gl, j * 2, none⟩ = some (.int .i64 t.1) ∧ w.cell? ⟨gl, j * 2 + 1, none⟩ = some (.string t.2)
/-- A flash that can be read, whoever owns it. -/
def RdF (w : World) (gu : Nat) (bs : List Bk) : Prop :=
  ∀ k r, bs[k]? = some r → ∃ ld lcap, (w.cell? ⟨gu, k * 3, none⟩ = some (.bool r.1) ∧ w.cell? ⟨gu, k * 3 + 1, none⟩ = some (.int .i64 r.2.1) ∧ w.cell? ⟨gu, k * 3 + 2, none⟩ = some (.slice ld r.2.2.length lcap)) ∧ RdL w ld r.2.2
theorem RdL.below {w w' : World} {ld : Option Addr} {ls : List (Int × ByteArray)} (h : RdL w ld ls) (hb : Below w.heap.size w w') : RdL w' ld ls := by
  intro j t ht
  obtain ⟨gl, e, c1, c2⟩ := h j t ht
  exact ⟨gl, e, (hb.cell (World.block_lt_of_cell? w _ c1)).trans c1, (hb.cell (World.block_lt_of_cell? w _ c2)).trans c2⟩
theorem RdF.below {w w' : World} {gu : Nat} {bs : List Bk} (h : RdF w gu bs) (hb : Below w.heap.size w w') : RdF w' gu bs := by
  intro k r hr
  obtain ⟨ld, lcap, ⟨c1, c2, c3⟩, hl⟩ := h k r hr
  exact ⟨ld, lcap, ⟨(hb.cell (World.block_lt_of_cell? w _ c1)).trans c1, (hb.cell (World.block_lt_of_cell? w _ c2)).trans c2, (hb.cell (World.block_lt_of_cell? w _ c3)).trans c3⟩, hl.below hb⟩

set_option maxHeartbeats 400000 in
set_option maxRecDepth 100000 in
theorem same_any (ga gb cpa cpb : Nat) (bs : List Bk) (w : World) (hl : bs.length ≤ 1048576) (hll : ∀ r ∈ bs, r.2.2.length ≤ 1048576) (ha : RdF w ga bs) (hb : RdF w gb bs) :
    Calls Try.prog 11 #[.agg #[.slice (some ⟨ga, 0, none⟩) bs.length cpa], .agg #[.slice (some ⟨gb, 0, none⟩) bs.length cpb]] w fun e w' => e = .returned (.bool true) ∧ Below w.heap.size w w' := by
  have HA := hide ha
  have HB := hide hb
  have HLL := hide hll
  have b0 := ((Below.refl w.heap.size w).alloc (Nat.le_refl _) (.cells #[.slice (some ⟨ga, 0, none⟩) bs.length cpa] 26)).alloc (by simp) (.cells #[.slice (some ⟨gb, 0, none⟩) bs.length cpb] 26)
  have HB0 := hide b0
  clear ha hb hll b0
  go_enter Try.func11, Try.ntmps11
  go_wp2
  have HCA : Hid (((w.alloc (.cells #[.slice (some ⟨ga, 0, none⟩) bs.length cpa] 26)).alloc (.cells #[.slice (some ⟨gb, 0, none⟩) bs.length cpb] 26)).heap[w.heap.size]? = some (.cells #[.slice (some ⟨ga, 0, none⟩) bs.length cpa] 26 (0, 0))) :=
    (Below.heap_alloc _ _ _ (by simp)).trans (heap_alloc_new w _)
  have hcb := heap_alloc_new (w.alloc (.cells #[.slice (some ⟨ga, 0, none⟩) bs.length cpa] 26)) (.cells #[.slice (some ⟨gb, 0, none⟩) bs.length cpb] 26)
  rw [show (w.alloc (.cells #[.slice (some ⟨ga, 0, none⟩) bs.length cpa] 26)).heap.size = w.heap.size + 1 by simp] at hcb
  have HCB := hide hcb
  have HA0 := hide (HA.out.below HB0.out)
  have HB1 := hide (HB.out.below HB0.out)
  clear hcb HA HB
  generalize (w.alloc (.cells #[.slice (some ⟨ga, 0, none⟩) bs.length cpa] 26)).alloc (.cells #[.slice (some ⟨gb, 0, none⟩) bs.length cpb] 26) = wA at HB0 HCA HCB HA0 HB1 ⊢
  go_loopw [5] (fun iv wr => ∃ i : Nat, i ≤ bs.length ∧ iv = .int .i64 i ∧ Hid (Below wA.heap.size wA wr)) (fun iv _ => bs.length - (intOf iv).toNat)
  case atStart => exact ⟨0, Nat.zero_le _, rfl, Below.refl _ _⟩
  case round =>
    rename World => wo
    obtain ⟨i, hi, rfl, HW⟩ := hrel
    have ca := cell_of_row _ _ 0 _ _ _ ((HW.out.block _ (Array.getElem?_eq_some_iff.1 HCA.out).1).trans HCA.out)
    have cb := cell_of_row _ _ 0 _ _ _ ((HW.out.block _ (Array.getElem?_eq_some_iff.1 HCB.out).1).trans HCB.out)
    simp at ca cb
    by_cases hlt : (i : Int) < bs.length
    · have hil : i < bs.length := by omega
      have hr : bs[i]? = some bs[i] := List.getElem?_eq_getElem hil
      generalize bs[i] = r at hr
      have hrl := HLL.out r (List.mem_of_getElem? hr)
      obtain ⟨ld1, lc1, ⟨c1, c2, c3⟩, L1⟩ := (HA0.out.below HW.out) i r hr
      obtain ⟨ld2, lc2, ⟨d1, d2, d3⟩, L2⟩ := (HB1.out.below HW.out) i r hr
      obtain ⟨x, y, ls⟩ := r
      simp only at c1 c2 c3 d1 d2 d3 L1 L2 hrl
      have i0 : (0 : Int) ≤ i := by omega
      have bX := (Below.refl wo.heap.size wo).alloc (Nat.le_refl _) (.cells #[.bool x, .int .i64 y, .slice ld1 ls.length lc1] 33)
      have bXY := bX.alloc (by simp) (.cells #[.bool x, .int .i64 y, .slice ld2 ls.length lc2] 33)
      have cb' := (bX.cell (World.block_lt_of_cell? wo _ cb)).trans cb
      have d1' := (bX.cell (World.block_lt_of_cell? wo _ d1)).trans d1
      have d2' := (bX.cell (World.block_lt_of_cell? wo _ d2)).trans d2
      have d3' := (bX.cell (World.block_lt_of_cell? wo _ d3)).trans d3
      have RX : Hid (((wo.alloc (.cells #[.bool x, .int .i64 y, .slice ld1 ls.length lc1] 33)).alloc (.cells #[.bool x, .int .i64 y, .slice ld2 ls.length lc2] 33)).heap[wo.heap.size]? = some (.cells #[.bool x, .int .i64 y, .slice ld1 ls.length lc1] 33 (0, 0))) := (Below.heap_alloc _ _ _ (by simp)).trans (heap_alloc_new wo _)
      have ry := heap_alloc_new (wo.alloc (.cells #[.bool x, .int .i64 y, .slice ld1 ls.length lc1] 33)) (.cells #[.bool x, .int .i64 y, .slice ld2 ls.length lc2] 33)
      rw [show (wo.alloc (.cells #[.bool x, .int .i64 y, .slice ld1 ls.length lc1] 33)).heap.size = wo.heap.size + 1 by simp] at ry
      have RY := hide ry
      have HXY := hide bXY
      have HL1 := hide (L1.below bXY)
      have HL2 := hide (L2.below bXY)
      have hxx : (x != x) = false := by simp
      have hyy : (y != y) = false := by simp
      clear hr L1 L2 ry bX bXY
      go_wp2
      generalize (wo.alloc (.cells #[.bool x, .int .i64 y, .slice ld1 ls.length lc1] 33)).alloc (.cells #[.bool x, .int .i64 y, .slice ld2 ls.length lc2] 33) = wB at RX RY HXY HL1 HL2 ⊢
      go_loopw [8] (fun iv wr => ∃ j : Nat, j ≤ ls.length ∧ iv = .int .i64 j ∧ Hid (Below wB.heap.size wB wr)) (fun iv _ => ls.length - (intOf iv).toNat)
      case atStart => exact ⟨0, Nat.zero_le _, rfl, Below.refl _ _⟩
      case round =>
        obtain ⟨j, hj, rfl, HI⟩ := hrel
        have x3 : wr.cell? ⟨wo.heap.size, 2, none⟩ = some (.slice ld1 ls.length lc1) := cell_of_row _ _ 2 _ _ _ ((HI.out.block _ (Array.getElem?_eq_some_iff.1 RX.out).1).trans RX.out)
        have y3 : wr.cell? ⟨wo.heap.size + 1, 2, none⟩ = some (.slice ld2 ls.length lc2) := cell_of_row _ _ 2 _ _ _ ((HI.out.block _ (Array.getElem?_eq_some_iff.1 RY.out).1).trans RY.out)
        by_cases hjl : (j : Int) < ls.length
        · have hjl2 : j < ls.length := by omega
          obtain ⟨z, t, ht⟩ : ∃ z t, ls[j]? = some (z, t) := ⟨ls[j].1, ls[j].2, List.getElem?_eq_getElem hjl2⟩
          obtain ⟨g1, rfl, p1, p2⟩ := (HL1.out.below HI.out) j _ ht
          obtain ⟨g2, rfl, q1, q2⟩ := (HL2.out.below HI.out) j _ ht
          simp only at p1 p2 q1 q2
          have j0 : (0 : Int) ≤ j := by omega
          have HI2 := hide HI.out.drew
          clear ht
          go_wp2
          go_region_held3 (fun w' => w'.cell? ⟨wo.heap.size, 2, none⟩ = some (.slice (some ⟨g1, 0, none⟩) ls.length lc1) ∧ w'.cell? ⟨wo.heap.size + 1, 2, none⟩ = some (.slice (some ⟨g2, 0, none⟩) ls.length lc2) ∧ w'.cell? ⟨g1, j * 2, none⟩ = some (.int .i64 z) ∧ w'.cell? ⟨g1, j * 2 + 1, none⟩ = some (.string t) ∧ w'.cell? ⟨g2, j * 2, none⟩ = some (.int .i64 z) ∧ w'.cell? ⟨g2, j * 2 + 1, none⟩ = some (.string t)) (go_keep) (fail)
          all_goals
            go_wp2
            go_roundw
            case rel => exact ⟨j + 1, by omega, by go_num, HI2⟩
            case measure => simp [intOf]; omega
        · have HWW := hide ((HW.out.trans (HXY.out.mono HW.out.size)).trans (HI.out.mono (Nat.le_trans HW.out.size HXY.out.size)))
          go_wp2
          go_roundw
          case rel => exact ⟨i + 1, by omega, by go_num, HWW⟩
          case measure => simp [intOf]; omega
    · have HBE := hide (HB0.out.trans (HW.out.mono HB0.out.size))
      go_wp2
      go_ret
      exact ⟨rfl, HBE.out⟩
end Go.Proofs.Ythkkefbhcmhijaa
