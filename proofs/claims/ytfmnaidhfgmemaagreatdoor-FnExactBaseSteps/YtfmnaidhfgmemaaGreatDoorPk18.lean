/-
  SOk; SCopy
-/
import Derived.Test.YtfmnaidhfgmemaaGreatDoorPk17
import Derived.Test.YtfmnaidhfgmemaaGreatDoorPk12
import Derived.Test.YtfmnaidhfgmemaaGreatDoorPk13
namespace Go.Proofs.YtfmnaidhfgmemaaGreatDoor
open Go.RowKit
set_option maxHeartbeats 400000 in
set_option maxRecDepth 100000 in
theorem sok_rd (v : Value) (rs : List Rw) (w : World) (hl : rs.length ≤ 1048576) (hll : ∀ r ∈ rs, r.2.2.2.length ≤ 1048576) (ha : FlashRd w v rs) :
    Calls Tryz.prog 94 #[.agg #[v]] w fun e w' => e = .returned (.bool (flOk (rs.map tellOf))) ∧ Below w.heap.size w w' := by
  have ha1 := ha
  obtain ⟨ad, capa, rfl, -, -⟩ := ha1
  have HB := hide ((Below.refl w.heap.size w).alloc (Nat.le_refl _) (.cells #[.slice ad rs.length capa] 39))
  have HA := hide (ha.below HB.out)
  have hcb := cell_of_row _ _ 0 _ _ _ (heap_alloc_new w (.cells #[.slice ad rs.length capa] 39))
  have HCB : Hid ((w.alloc (.cells #[.slice ad rs.length capa] 39)).cell? ⟨w.heap.size, 0, none⟩ = some (.slice ad rs.length capa)) := hcb
  have HSZ := hide (show (w.alloc (.cells #[.slice ad rs.length capa] 39)).heap.size = w.heap.size + 1 by simp)
  have HLL := hide hll
  clear ha hcb hll
  go_enter Tryz.func94, Tryz.ntmps94
  go_wp2
  generalize w.alloc (.cells #[.slice ad rs.length capa] 39) = wA at HB HA HCB HSZ ⊢
  go_loopw [3] (fun iv wr => ∃ k : Nat, k ≤ rs.length ∧ iv = .int .i64 k ∧ Hid (∀ r ∈ (rs.take k), blkOk (tellOf r) = true) ∧ Hid (Below wA.heap.size wA wr)) (fun iv _ => rs.length - (intOf iv).toNat)
  case atStart => exact ⟨0, Nat.zero_le _, rfl, (show ∀ r ∈ rs.take 0, blkOk (tellOf r) = true by simp), Below.refl _ _⟩
  case round =>
    rename World => wo
    obtain ⟨k, hk, rfl, HN, HW⟩ := hrel
    have hcb : wo.cell? ⟨w.heap.size, 0, none⟩ = some (.slice ad rs.length capa) := (HW.out.cell (show w.heap.size < wA.heap.size by have := HSZ.out; omega)).trans HCB.out
    have HBW := hide (HB.out.trans (HW.out.mono HB.out.size))
    have hbs := HB.out.size
    by_cases hlt : (k : Int) < rs.length
    · have hkl : k < rs.length := by omega
      have hr : rs[k]? = some rs[k] := List.getElem?_eq_getElem hkl
      have htk : rs.take (k + 1) = rs.take k ++ [rs[k]] := List.take_succ_eq_append_getElem hkl
      generalize rs[k] = r at hr htk
      have hmem := List.mem_of_getElem? hr
      have hrl := HLL.out r hmem
      obtain ⟨g, eg, ⟨c1, c2, c3⟩, hlf⟩ := (HA.out.below HW.out).at hr
      subst eg
      obtain ⟨x, y, u, ls⟩ := r
      simp only at c1 c2 c3
      simp only at hlf hrl
      have hlf2 := hlf
      obtain ⟨ld, capl, rfl, -, -⟩ := hlf2
      have HLF := hide hlf
      have HTK := hide htk
      have HMEM := hide hmem
      have k0 : (0 : Int) ≤ k := by omega
      clear hr htk hlf hmem
      have HBM := hide (List.mem_map_of_mem (f := tellOf) HMEM.out)
      have HBA := hide (HBW.out.alloc (by have := HBW.out.size; exact this) (.cells #[.bool x, .int .i64 y, .slice ld ls.length capl] 80))
      by_cases hl4 : ls.length = 4
      · have hl4b : ((ls.length : Int) != 4) = false := by rw [hl4]; rfl
        have HL4 := hide hl4
        clear hl4
        have HWB := hide ((Below.refl wo.heap.size wo).alloc (Nat.le_refl _) (.cells #[.bool x, .int .i64 y, .slice ld ls.length capl] 80))
        have hci := cell_of_row _ _ 2 _ _ _ (heap_alloc_new wo (.cells #[.bool x, .int .i64 y, .slice ld ls.length capl] 80))
        have HCI : Hid ((wo.alloc (.cells #[.bool x, .int .i64 y, .slice ld ls.length capl] 80)).cell? ⟨wo.heap.size, 2, none⟩ = some (.slice ld ls.length capl)) := hci
        have HSB := hide (show (wo.alloc (.cells #[.bool x, .int .i64 y, .slice ld ls.length capl] 80)).heap.size = wo.heap.size + 1 by simp)
        clear hci
        by_cases hy : 0 ≤ y ∧ y ≤ 1000000000
        · have HY := hide hy
          have hyd : decide (0 ≤ y ∧ y ≤ 1000000000) = true := decide_eq_true hy
          clear hy
          go_wp2_with fail
          refine (sin_any y 0 1000000000 _).mono ?_
          rintro e w1 ⟨rfl, rfl⟩
          rw [hyd]
          clear hyd
          go_wp2
          generalize wo.alloc (.cells #[.bool x, .int .i64 y, .slice ld ls.length capl] 80) = wB at HBA HWB HCI HSB ⊢
          go_loopw [5] (fun iv wr => ∃ j : Nat, j ≤ ls.length ∧ iv = .int .i64 j ∧ Hid (∀ i, i < j → leafAt ls i = true) ∧ Hid (Below wB.heap.size wB wr)) (fun iv _ => ls.length - (intOf iv).toNat)
          case atStart => exact ⟨0, Nat.zero_le _, rfl, (show ∀ i, i < 0 → leafAt ls i = true from fun i hi => by omega), Below.refl _ _⟩
          case round =>
            obtain ⟨j, hj, rfl, HJ, HI⟩ := hrel
            have hci : wr.cell? ⟨wo.heap.size, 2, none⟩ = some (.slice ld ls.length capl) := (HI.out.cell (show wo.heap.size < wB.heap.size by have := HSB.out; omega)).trans HCI.out
            have HBI := hide (HBA.out.trans (HI.out.mono HBA.out.size))
            by_cases hjl : (j : Int) < ls.length
            · obtain ⟨gl, lo, el⟩ := HLF.out.head (by omega)
              subst el
              have hjl2 : j < ls.length := by omega
              obtain ⟨z, t, ht⟩ : ∃ z t, ls[j]? = some (z, t) := ⟨ls[j].1, ls[j].2, List.getElem?_eq_getElem hjl2⟩
              have HOW := hide ((HLF.out.below HWB.out).below HI.out)
              obtain ⟨d1, d2⟩ := HOW.out.two ht
              simp only at d1 d2
              have HT := hide ht
              have j0 : (0 : Int) ≤ j := by omega
              clear ht
              have HCT : Hid (∀ w1, Below wr.heap.size wr w1 → w1.cell? ⟨wo.heap.size, 2, none⟩ = some (.slice (some ⟨gl, lo, none⟩) ls.length capl) ∧ LeafRd w1 (.slice (some ⟨gl, lo, none⟩) ls.length capl) ls) := fun w1 hb1 => by
                have s1 := HSB.out
                have s2 := HI.out.size
                exact ⟨(hb1.cell (show wo.heap.size < wr.heap.size by omega)).trans hci, HOW.out.below hb1⟩
              cases hlo : leafOk (z, t) with
              | false =>
                have HE : Hid (flOk (rs.map tellOf) = false) := flOk_no HBM.out (blkOk_no (b := tellOf (x, y, .slice (some ⟨gl, lo, none⟩) ls.length capl, ls)) hjl2 (leafAt_no HT.out hlo))
                go_wp2_with fail
                refine (sleaf_any z t _).mono ?_
                rintro e w1 ⟨rfl, hb1⟩
                rw [hlo]
                have HB1 := hide (HBI.out.trans (hb1.mono HBI.out.size))
                clear hb1
                go_wp2
                go_ret
                exact ⟨by rw [HE.out]; rfl, HB1.out⟩
              | true =>
                have HLO := hide hlo
                cases j with
                | zero =>
                  simp only [Nat.zero_mul, Nat.add_zero] at d1 d2
                  go_wp2_with fail
                  refine (sleaf_any z t _).mono ?_
                  rintro e w1 ⟨rfl, hb1⟩
                  rw [hlo]
                  have HI1 := hide (HI.out.trans (hb1.mono HI.out.size))
                  obtain ⟨q1, q2⟩ := HCT.out w1 hb1
                  clear hb1 q2
                  go_wp2
                  refine ⟨⟨1, by omega, rfl, (show ∀ i, i < 1 → leafAt ls i = true from fun i hi => ?_), HI1⟩, by simp [intOf]; omega⟩
                  obtain rfl : i = 0 := by omega
                  exact leafAt_zero HT.out HLO.out
                | succ m =>
                  have hm : m < ls.length := by omega
                  obtain ⟨zp, tp, hp⟩ : ∃ z t, ls[m]? = some (z, t) := ⟨ls[m].1, ls[m].2, List.getElem?_eq_getElem hm⟩
                  have HP := hide hp
                  clear hp
                  have HNX : zp ≠ 0 ∨ z = 0 → Hid (∀ i, i < m + 1 + 1 → leafAt ls i = true) := fun hq i hi => by
                    by_cases h1 : i = m + 1
                    · subst h1
                      exact leafAt_yes HT.out HP.out HLO.out hq
                    · exact HJ.out i (by omega)
                  by_cases hz1 : zp = 0
                  · by_cases hz2 : z = 0
                    · have HN2 := HNX (Or.inr hz2)
                      have e1 : (zp == 0) = true := by simp [hz1]
                      have e2 : (z != 0) = false := by simp [hz2]
                      clear HNX hz1 hz2
                      go_wp2_with fail
                      refine (sleaf_any z t _).mono ?_
                      rintro e w1 ⟨rfl, hb1⟩
                      rw [hlo]
                      have HI1 := hide (HI.out.trans (hb1.mono HI.out.size))
                      obtain ⟨q1, q2⟩ := HCT.out w1 hb1
                      obtain ⟨p1, -⟩ := q2.two HT.out
                      obtain ⟨p2, -⟩ := q2.two HP.out
                      simp only at p1 p2
                      clear hb1 q2
                      go_wp2
                      exact ⟨⟨m + 1 + 1, by omega, rfl, HN2, HI1⟩, by simp [intOf]; omega⟩
                    · have e1 : (zp == 0) = true := by simp [hz1]
                      have e2 : (z != 0) = true := by simp [hz2]
                      have HE : Hid (flOk (rs.map tellOf) = false) := flOk_no HBM.out (blkOk_no (b := tellOf (x, y, .slice (some ⟨gl, lo, none⟩) ls.length capl, ls)) hjl2 (leafAt_bad HT.out HP.out hz1 hz2))
                      clear HNX hz1 hz2
                      go_wp2_with fail
                      refine (sleaf_any z t _).mono ?_
                      rintro e w1 ⟨rfl, hb1⟩
                      rw [hlo]
                      have HI1 := hide (HI.out.trans (hb1.mono HI.out.size))
                      have HB1 := hide (HBI.out.trans (hb1.mono HBI.out.size))
                      obtain ⟨q1, q2⟩ := HCT.out w1 hb1
                      obtain ⟨p1, -⟩ := q2.two HT.out
                      obtain ⟨p2, -⟩ := q2.two HP.out
                      simp only at p1 p2
                      clear hb1 q2
                      go_wp2
                      go_ret
                      exact ⟨by rw [HE.out]; rfl, HB1.out⟩
                  · have HN2 := HNX (Or.inl hz1)
                    have e1 : (zp == 0) = false := by simpa using hz1
                    clear HNX hz1
                    go_wp2_with fail
                    refine (sleaf_any z t _).mono ?_
                    rintro e w1 ⟨rfl, hb1⟩
                    rw [hlo]
                    have HI1 := hide (HI.out.trans (hb1.mono HI.out.size))
                    have HB1 := hide (HBI.out.trans (hb1.mono HBI.out.size))
                    obtain ⟨q1, q2⟩ := HCT.out w1 hb1
                    obtain ⟨p1, -⟩ := q2.two HT.out
                    obtain ⟨p2, -⟩ := q2.two HP.out
                    simp only at p1 p2
                    clear hb1 q2
                    go_wp2
                    exact ⟨⟨m + 1 + 1, by omega, rfl, HN2, HI1⟩, by simp [intOf]; omega⟩
            · have hje : j = ls.length := by omega
              have HOKB : Hid (∀ r ∈ rs.take (k + 1), blkOk (tellOf r) = true) := by
                show ∀ r ∈ rs.take (k + 1), blkOk (tellOf r) = true
                intro r hr
                rw [HTK.out] at hr
                rcases List.mem_append.1 hr with hr | hr
                · exact HN.out r hr
                · rw [List.mem_singleton] at hr
                  subst hr
                  exact blkOk_yes (b := (x, y, ls)) HL4.out HY.out (fun i hi => HJ.out i (by rw [hje]; exact hi))
              have HWK := hide ((HW.out.trans (HWB.out.mono HW.out.size)).trans (HI.out.mono (Nat.le_trans HW.out.size HWB.out.size)))
              clear hje
              go_wp2
              go_roundw
              case rel => exact ⟨k + 1, by omega, by go_num, HOKB, HWK⟩
              case measure => simp [intOf]; omega
        · have HE : Hid (flOk (rs.map tellOf) = false) := flOk_no HBM.out (blkOk_wear hy)
          have hyd : decide (0 ≤ y ∧ y ≤ 1000000000) = false := decide_eq_false hy
          clear hy
          go_wp2_with fail
          refine (sin_any y 0 1000000000 _).mono ?_
          rintro e w1 ⟨rfl, rfl⟩
          rw [hyd]
          clear hyd
          go_wp2
          go_ret
          exact ⟨by rw [HE.out]; rfl, HBA.out⟩
      · have hl4b : ((ls.length : Int) != 4) = true := by simp; omega
        have HE : Hid (flOk (rs.map tellOf) = false) := flOk_no HBM.out (blkOk_len hl4)
        go_wp2
        go_ret
        exact ⟨by rw [HE.out]; rfl, HBA.out⟩
    · have hke : k = rs.length := by omega
      have hn := HN.out
      rw [hke, List.take_of_length_le (Nat.le_refl _)] at hn
      have HE : Hid (flOk (rs.map tellOf) = decide (3 ≤ (rs.length : Int) ∧ (rs.length : Int) ≤ 10)) := by
        show _ = _
        rw [flOk_all (fun b hb => by obtain ⟨r, hr, rfl⟩ := List.mem_map.1 hb; exact hn r hr)]
        congr 1
        apply propext
        rw [List.length_map]
        omega
      clear hn hke
      go_wp2_with fail
      refine (sin_any (rs.length : Int) 3 10 _).mono ?_
      rintro e w1 ⟨rfl, rfl⟩
      rw [← HE.out]
      clear HE
      go_wp2
      go_ret
      exact ⟨rfl, HBW.out⟩
end Go.Proofs.YtfmnaidhfgmemaaGreatDoor

namespace Go.Proofs.YtfmnaidhfgmemaaGreatDoor
open Go.RowKit
theorem new_cells (w : World) (cs : Array Value) (t : TypeId) (g : Nat) (hg : w.heap.size = g) : ∀ (j : Nat) (u : Value), cs.toList[j]? = some u → (w.alloc (.cells cs t)).cell? ((⟨g, 0, none⟩ : Addr).add j) = some u := by
  intro j u hj
  subst hg
  rw [addr_at, cell_of_row _ _ j _ _ _ (heap_alloc_new w (.cells cs t))]
  simpa using hj
theorem one_blk (x : Bool) (y : Int) (a : Option Addr) (n c : Nat) : ∀ u ∈ [Value.bool x, Value.int .i64 y, Value.slice a n c], u.oneCell' = true := by
  intro u hu
  simp at hu
  rcases hu with h | h | h <;> subst h <;> rfl
def CopyS (w wr : World) (arg out : Value) (d : List Rw) : Prop :=
  wr.heap[w.heap.size]? = some (.cells #[arg] 39 (0, 0)) ∧ wr.heap[w.heap.size + 1]? = some (.cells #[.slice none 0 0] 39 (0, 0)) ∧ wr.heap[w.heap.size + 1 + 1]? = some (.cells #[out] 39 (0, 0)) ∧
    FlashIn wr (w.heap.size + 3) wr.heap.size out d ∧ Below w.heap.size w wr
theorem copy_start (w : World) (arg : Value) : CopyS w (((w.alloc (.cells #[arg] 39)).alloc (.cells #[.slice none 0 0] 39)).alloc (.cells #[.slice none 0 0] 39)) arg (.slice none 0 0) [] := by
  refine ⟨?_, ?_, ?_, ⟨⟨rfl, .inl ⟨rfl, rfl⟩⟩, fun g hg => (by cases hg), fun r hr => (by cases hr), List.Pairwise.nil⟩, (((Below.refl _ _).alloc (Nat.le_refl _) _).alloc (by simp) _).alloc (by simp; omega) _⟩
  · rw [Below.heap_alloc _ _ _ (by simp; omega), Below.heap_alloc _ _ _ (by simp)]
    exact heap_alloc_new w _
  · rw [Below.heap_alloc _ _ _ (by simp)]
    have := heap_alloc_new (w.alloc (.cells #[arg] 39)) (.cells #[.slice none 0 0] 39)
    rw [show (w.alloc (.cells #[arg] 39)).heap.size = w.heap.size + 1 by simp] at this
    exact this
  · have := heap_alloc_new ((w.alloc (.cells #[arg] 39)).alloc (.cells #[.slice none 0 0] 39)) (.cells #[.slice none 0 0] 39)
    rw [show ((w.alloc (.cells #[arg] 39)).alloc (.cells #[.slice none 0 0] 39)).heap.size = w.heap.size + 1 + 1 by simp] at this
    exact this
theorem CopyS.below {w wr w' : World} {arg out : Value} {d : List Rw} (h : CopyS w wr arg out d) (hb : Below wr.heap.size wr w') : CopyS w w' arg out d := by
  obtain ⟨h1, h2, h3, h4, h5⟩ := h
  have l3 := (Array.getElem?_eq_some_iff.1 h3).1
  exact ⟨(hb.block _ (by omega)).trans h1, (hb.block _ (by omega)).trans h2, (hb.block _ (by omega)).trans h3, (h4.below hb (Nat.le_refl _)).up hb.size, h5.trans (hb.mono h5.size)⟩
theorem CopyS.snoc {w wr w' : World} {arg out out' : Value} {d : List Rw} {r : Rw} {B' : Nat} (h : CopyS w wr arg out d) (hg : wr.grownBy w' out.ownBlock)
    (ho : w'.ownsRow (w.heap.size + 3) 80 3 out' (d.length + 1) (kcells (d.map cellOf) ++ [.bool r.1, .int .i64 r.2.1, r.2.2.1])) (hl : wr.ownsRow B' 119 2 r.2.2.1 r.2.2.2.length (lcells r.2.2.2)) (hB : w.heap.size + 3 ≤ B')
    (hfresh : ∀ q ∈ d, ∀ g, q.2.2.1.ownBlock = some g → g < B') : CopyS w (w'.setCell ⟨w.heap.size + 1 + 1, 0, none⟩ out') arg out' (d ++ [r]) := by
  obtain ⟨h1, h2, h3, h4, h5⟩ := h
  have l3 := (Array.getElem?_eq_some_iff.1 h3).1
  have hne : ∀ i, i < w.heap.size + 3 → some i ≠ out.ownBlock := fun i hi e => by
    have := (own_block_lt h4.1 i e.symm).1
    omega
  have hf := h4.snoc hg ho hl hB hfresh
  refine ⟨row_set_ne ((hg.block _ (by omega) (hne _ (by omega))).trans h1) (by omega) _ _, row_set_ne ((hg.block _ (by omega) (hne _ (by omega))).trans h2) (by omega) _ _, row_set ((hg.block _ (by omega) (hne _ (by omega))).trans h3) 0 out', hf.cellb (by omega) 0 out', ?_⟩
  exact (h5.trans ((Below.refl w.heap.size wr).grown hg h5.size (fun k hk => by have := (own_block_lt h4.1 k hk).1; omega))).setCell (p := ⟨w.heap.size + 1 + 1, 0, none⟩) (by show _ ≤ _ + 1 + 1; omega) _
set_option maxHeartbeats 800000 in
set_option maxRecDepth 100000 in
theorem scopy_rd (v : Value) (rs : List Rw) (w : World) (hl : rs.length ≤ 1048576) (hll : ∀ r ∈ rs, r.2.2.2.length ≤ 1048576) (ha : FlashRd w v rs) :
    Calls Tryz.prog 100 #[.agg #[v]] w fun e w' => ∃ u, e = .returned (.agg #[u]) ∧ FlashOf w' w.heap.size u (rs.map tellOf) ∧ Below w.heap.size w w' := by
  obtain ⟨i0, hi0, hz0, hz1, hz2⟩ := info_parts infoBlock
  have ha1 := ha
  obtain ⟨ad, capa, rfl, -, -⟩ := ha1
  have HLL := hide hll
  have HA0 := hide ha
  clear ha hll
  have HST := hide (copy_start w (.slice ad rs.length capa))
  go_enter Tryz.func100, Tryz.ntmps100
  go_wp2
  go_loopw [4] (fun iv wr => ∃ (k : Nat) (out : Value) (d : List Rw), k ≤ rs.length ∧ iv = .int .i64 k ∧ Hid (d.length = k) ∧ Hid (d.map tellOf = (rs.take k).map tellOf) ∧ Hid (CopyS w wr (.slice ad rs.length capa) out d)) (fun iv _ => rs.length - (intOf iv).toNat)
  case atStart => exact ⟨0, _, [], Nat.zero_le _, rfl, rfl, rfl, HST⟩
  case round =>
    obtain ⟨k, out, d, hk, rfl, HD, HT, HS⟩ := hrel
    obtain ⟨s1, s2, s3, s4, s5⟩ := HS.out
    have HB := hide s5
    have hsz := s5.size
    have l3 := (Array.getElem?_eq_some_iff.1 s3).1
    have hcb : wr.cell? ⟨w.heap.size, 0, none⟩ = some (.slice ad rs.length capa) := cell_of_row _ _ 0 _ _ _ s1
    have hres : wr.cell? ⟨w.heap.size + 1, 0, none⟩ = some (.slice none 0 0) := cell_of_row _ _ 0 _ _ _ s2
    have hout : wr.cell? ⟨w.heap.size + 1 + 1, 0, none⟩ = some out := cell_of_row _ _ 0 _ _ _ s3
    have fres := frozen_of_row _ _ 0 _ _ s2
    have fout := frozen_of_row _ _ 0 _ _ s3
    obtain ⟨od, ocap, rfl, -, -, -⟩ := frow_form s4.1
    have HF := hide s4
    have S2 := hide s2
    clear s1 s2 s3 s4 s5
    by_cases hlt : (k : Int) < rs.length
    · have hkl : k < rs.length := by omega
      have hr : rs[k]? = some rs[k] := List.getElem?_eq_getElem hkl
      have htk : rs.take (k + 1) = rs.take k ++ [rs[k]] := List.take_succ_eq_append_getElem hkl
      generalize rs[k] = r at hr htk
      have hmem := List.mem_of_getElem? hr
      have hrl := HLL.out r hmem
      obtain ⟨g, eg, ⟨c1, c2, c3⟩, hlf⟩ := (HA0.out.below HB.out).at hr
      subst eg
      obtain ⟨x, y, u, ls⟩ := r
      simp only at c1 c2 c3
      simp only at hlf hrl
      have hlf2 := hlf
      obtain ⟨ld, capl, rfl, -, -⟩ := hlf2
      have k0 : (0 : Int) ≤ k := by omega
      have HTK := hide htk
      have hB1 := (Below.refl wr.heap.size wr).alloc (Nat.le_refl _) (.cells #[.bool x, .int .i64 y, .slice ld ls.length capl] 80)
      have hB2 := hB1.alloc hB1.size (.cells #[] 119)
      have OS := hide (hlf.below hB2)
      have o1 := empty_leaves (wr.alloc (.cells #[.bool x, .int .i64 y, .slice ld ls.length capl] 80))
      rw [show (wr.alloc (.cells #[.bool x, .int .i64 y, .slice ld ls.length capl] 80)).heap.size = wr.heap.size + 1 by simp] at o1
      have O1 := hide o1
      have HB2 := hide hB2
      have r1 := (Below.heap_alloc (wr.alloc (.cells #[.bool x, .int .i64 y, .slice ld ls.length capl] 80)) (.cells #[] 119) wr.heap.size (by simp)).trans (heap_alloc_new wr (.cells #[.bool x, .int .i64 y, .slice ld ls.length capl] 80))
      have R1 := hide r1
      have HS2 := hide (show ((wr.alloc (.cells #[.bool x, .int .i64 y, .slice ld ls.length capl] 80)).alloc (.cells #[] 119)).heap.size = wr.heap.size + 1 + 1 by simp)
      clear hr htk hmem hlf hB1 hB2 o1 r1
      go_wp2_with (at_builtin; refine leaf_append_rd _ rfl _ _ rfl (wr.heap.size + 1) rfl O1.out ld capl ls rfl hrl OS.out ?_)
      intro v' w3 o3 g3
      have z3 := g3.size
      rw [HS2.out] at z3
      have r3 := (g3.block wr.heap.size (by rw [HS2.out]; omega) (by simp)).trans R1.out
      have b3 := HB2.out.grown g3 HB2.out.size (fun i hi2 => by cases hi2; omega)
      obtain ⟨vd, vcap, rfl, -, -, -⟩ := frow_form o3
      have e0 : w3.cell? ⟨wr.heap.size, 0, none⟩ = some (.bool x) := cell_of_row _ _ 0 _ _ _ r3
      have e1 : w3.cell? ⟨wr.heap.size, 1, none⟩ = some (.int .i64 y) := cell_of_row _ _ 1 _ _ _ r3
      have e2 : w3.cell? ⟨wr.heap.size, 2, none⟩ = some (.slice ld ls.length capl) := cell_of_row _ _ 2 _ _ _ r3
      have f2 := frozen_of_row _ _ 2 _ _ r3
      have hout3 : w3.cell? ⟨w.heap.size + 1 + 1, 0, none⟩ = some (.slice od d.length ocap) := (b3.cell (show w.heap.size + 1 + 1 < wr.heap.size from l3)).trans hout
      have b5 := (b3.setCell (p := ⟨wr.heap.size, 2, none⟩) (Nat.le_refl _) (.slice vd ls.length vcap)).alloc (by simp [World.setCell]; omega) (.cells #[.bool x, .int .i64 y, .slice vd ls.length vcap] 80)
      have CS5 := hide (HS.out.below b5)
      have o5 := (own_cell (own_down o3 (Nat.le_refl _)) (show wr.heap.size < wr.heap.size + 1 by omega) 2 (.slice vd ls.length vcap)).alloc (.cells #[.bool x, .int .i64 y, .slice vd ls.length vcap] 80)
      have O5 := hide o5
      have HN5 := hide (new_cells (w3.setCell ⟨wr.heap.size, 2, none⟩ (.slice vd ls.length vcap)) #[.bool x, .int .i64 y, .slice vd ls.length vcap] 80 w3.heap.size (by simp [World.setCell]))
      have HZ5 := hide (show w.heap.size + 3 ≤ ((w3.setCell ⟨wr.heap.size, 2, none⟩ (.slice vd ls.length vcap)).alloc (.cells #[.bool x, .int .i64 y, .slice vd ls.length vcap] 80)).heap.size by simp [World.setCell]; omega)
      have hdl : d.length ≤ 1048576 := by have := HD.out; omega
      clear r3 o3 g3 b3 b5 o5 hout
      go_wp2_with (at_builtin; refine wpList_append_own _ rfl _ _ 37 rfl (w.heap.size + 3) 80 i0 (.agg #[.bool false, .int .i64 0, .slice none 0 0]) 3 40 Tryz.underlying37 hi0 hz0 hz1 hz2 rfl (by decide) _ d.length (kcells (d.map cellOf)) rfl CS5.out.2.2.2.1.1 ⟨w3.heap.size, 0, none⟩ 1 1 [Value.bool x, Value.int .i64 y, Value.slice vd ls.length vcap] rfl rfl HN5.out (one_blk _ _ _ _ _) (by unfold maxLen; omega) (by omega) HZ5.out ?_)
      intro out' w6 o6 g6 _
      have hfr : ∀ q ∈ d, ∀ g, q.2.2.1.ownBlock = some g → g < wr.heap.size + 1 := fun q hq g hq2 => by
        have := (HF.out.2.2.1 q hq).2 g hq2
        omega
      have c7 := CopyS.snoc (r := (x, y, .slice vd ls.length vcap, ls)) CS5.out g6 o6 O5.out (by omega) hfr
      have cell5 := CS5.out
      obtain ⟨-, -, t3, t4, -⟩ := cell5
      have hn6 : some (w.heap.size + 1 + 1) ≠ (Value.slice od d.length ocap).ownBlock := fun e => by
        have := (own_block_lt t4.1 _ e.symm).1
        omega
      have t6 := (g6.block _ ((Array.getElem?_eq_some_iff.1 t3).1) hn6).trans t3
      have x6 : w6.cell? ⟨w.heap.size + 1 + 1, 0, none⟩ = some (.slice od d.length ocap) := cell_of_row _ _ 0 _ _ _ t6
      have y6 := frozen_of_row _ _ 0 _ _ t6
      obtain ⟨od', ocap', rfl, -, -, -⟩ := frow_form o6
      have C7 := hide c7
      have HD7 : Hid ((d ++ [((x, y, .slice vd ls.length vcap, ls) : Rw)]).length = k + 1) := by show _ = _; rw [List.length_append, HD.out]; rfl
      have HT7 : Hid ((d ++ [((x, y, .slice vd ls.length vcap, ls) : Rw)]).map tellOf = (rs.take (k + 1)).map tellOf) := by show _ = _; rw [List.map_append, HT.out, HTK.out, List.map_append]; rfl
      clear c7 t3 t4 t6 g6 o6 hn6 hfr
      go_wp2
      go_roundw
      case rel => exact ⟨k + 1, _, _, by omega, by go_num, HD7, HT7, C7⟩
      case measure => simp [intOf]; omega
    · have hke : k = rs.length := by omega
      have ht := HT.out
      rw [hke, List.take_of_length_le (Nat.le_refl _)] at ht
      have HT2 := hide ht
      have Q2 := hide (row_set S2.out 0 (.slice od d.length ocap))
      have HF2 := hide (HF.out.cellb (show w.heap.size + 1 < w.heap.size + 3 by omega) 0 (.slice od d.length ocap))
      clear hke ht
      go_wp2
      exact bodyPost_ret (results_cell_row rfl _ _ (w.heap.size + 1) 39 _ (0, 0) _ rfl Q2.out Tryz.underlying39 rfl infoFlash1) rfl ⟨_, rfl, ⟨d, HT2.out, HF2.out.down (show w.heap.size ≤ w.heap.size + 3 by omega)⟩, HB.out.setCell (p := ⟨w.heap.size + 1, 0, none⟩) (by show _ ≤ _ + 1; omega) _⟩
end Go.Proofs.YtfmnaidhfgmemaaGreatDoor
