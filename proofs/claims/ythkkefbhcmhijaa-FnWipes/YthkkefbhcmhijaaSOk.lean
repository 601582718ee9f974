/-
  spec.FlashOk.
-/
import Derived.Test.YthkkefbhcmhijaaSLeaf
import Derived.Test.YthkkefbhcmhijaaFOf
import Derived.Test.YthkkefbhcmhijaaRd
namespace Go.Proofs.Ythkkefbhcmhijaa
open Go.RowKit

set_option maxHeartbeats 400000 in
set_option maxRecDepth 100000 in
theorem sok_rd (v : Value) (rs : List Rw) (w : World) (hl : rs.length ≤ 1048576) (hll : ∀ r ∈ rs, r.2.2.2.length ≤ 1048576) (ha : FlashRd w v rs) :
    Calls Try.prog 40 #[.agg #[v]] w fun e w' => e = .returned (.bool (flOk (rs.map tellOf))) ∧ Below w.heap.size w w' := by
  have ha1 := ha
  obtain ⟨ad, capa, rfl, -, -⟩ := ha1
  have HB := hide ((Below.refl w.heap.size w).alloc (Nat.le_refl _) (.cells #[.slice ad rs.length capa] 26))
  have HA := hide (ha.below HB.out)
  have hcb := cell_of_row _ _ 0 _ _ _ (heap_alloc_new w (.cells #[.slice ad rs.length capa] 26))
  have HCB : Hid ((w.alloc (.cells #[.slice ad rs.length capa] 26)).cell? ⟨w.heap.size, 0, none⟩ = some (.slice ad rs.length capa)) := hcb
  have HSZ := hide (show (w.alloc (.cells #[.slice ad rs.length capa] 26)).heap.size = w.heap.size + 1 by simp)
  have HLL := hide hll
  clear ha hcb hll
  go_enter Try.func40, Try.ntmps40
  go_wp2
  generalize w.alloc (.cells #[.slice ad rs.length capa] 26) = wA at HB HA HCB HSZ ⊢
  go_loopw [3] (fun iv wr => ∃ k : Nat, k ≤ rs.length ∧ iv = .int .i64 k ∧ Hid (∀ r ∈ (rs.take k), blkOk (tellOf r) = true) ∧ Hid (Below wA.heap.size wA wr)) (fun iv _ => rs.length - (intOf iv).toNat)
  case atStart => exact ⟨0, Nat.zero_le _, rfl, (show ∀ r ∈ rs.take 0, blkOk (tellOf r) = true by simp), Below.refl _ _⟩
  case round =>
    rename World => wo
    obtain ⟨k, hk, rfl, HN, HW⟩ := hrel
    have hcb : wo.cell? ⟨w.heap.size, 0, none⟩ = some (.slice ad rs.length capa) := (HW.out.cell (show w.heap.size < wA.heap.size by have := HSZ.out; omega)).trans HCB.out
    have HBW := hide (HB.out.trans (HW.out.mono HB.out.size))
    have hbs := HB.out.size
    by_cases hlt : (k : Int) < rs.length
    · have hkl : k < rs.length := by omega
      have hr : rs[k]? = some rs[k] := List.getElem?_eq_getElem hkl
      have htk : rs.take (k + 1) = rs.take k ++ [rs[k]] := List.take_succ_eq_append_getElem hkl
      generalize rs[k] = r at hr htk
      have hmem := List.mem_of_getElem? hr
      have hrl := HLL.out r hmem
      obtain ⟨g, eg, ⟨c1, c2, c3⟩, hlf⟩ := (HA.out.below HW.out).at hr
      subst eg
      obtain ⟨x, y, u, ls⟩ := r
      simp only at c1 c2 c3
      simp only at hlf hrl
      have hlf2 := hlf
      obtain ⟨ld, capl, rfl, -, -⟩ := hlf2
      have HLF := hide hlf
      have HTK := hide htk
      have HMEM := hide hmem
      have k0 : (0 : Int) ≤ k := by omega
      clear hr htk hlf hmem
      have HBM := hide (List.mem_map_of_mem (f := tellOf) HMEM.out)
      have HBA := hide (HBW.out.alloc (by have := HBW.out.size; exact this) (.cells #[.bool x, .int .i64 y, .slice ld ls.length capl] 33))
      by_cases hl4 : ls.length = 4
      · have hl4b : ((ls.length : Int) != 4) = false := by rw [hl4]; rfl
        have HL4 := hide hl4
        clear hl4
        have HWB := hide ((Below.refl wo.heap.size wo).alloc (Nat.le_refl _) (.cells #[.bool x, .int .i64 y, .slice ld ls.length capl] 33))
        have hci := cell_of_row _ _ 2 _ _ _ (heap_alloc_new wo (.cells #[.bool x, .int .i64 y, .slice ld ls.length capl] 33))
        have HCI : Hid ((wo.alloc (.cells #[.bool x, .int .i64 y, .slice ld ls.length capl] 33)).cell? ⟨wo.heap.size, 2, none⟩ = some (.slice ld ls.length capl)) := hci
        have HSB := hide (show (wo.alloc (.cells #[.bool x, .int .i64 y, .slice ld ls.length capl] 33)).heap.size = wo.heap.size + 1 by simp)
        clear hci
        by_cases hy : 0 ≤ y ∧ y ≤ 1000000000
        · have HY := hide hy
          have hyd : decide (0 ≤ y ∧ y ≤ 1000000000) = true := decide_eq_true hy
          clear hy
          go_wp2_with fail
          refine (sin_any y 0 1000000000 _).mono ?_
          rintro e w1 ⟨rfl, rfl⟩
          rw [hyd]
          clear hyd
          go_wp2
          generalize wo.alloc (.cells #[.bool x, .int .i64 y, .slice ld ls.length capl] 33) = wB at HBA HWB HCI HSB ⊢
          go_loopw [5] (fun iv wr => ∃ j : Nat, j ≤ ls.length ∧ iv = .int .i64 j ∧ Hid (∀ i, i < j → leafAt ls i = true) ∧ Hid (Below wB.heap.size wB wr)) (fun iv _ => ls.length - (intOf iv).toNat)
          case atStart => exact ⟨0, Nat.zero_le _, rfl, (show ∀ i, i < 0 → leafAt ls i = true from fun i hi => by omega), Below.refl _ _⟩
          case round =>
            obtain ⟨j, hj, rfl, HJ, HI⟩ := hrel
            have hci : wr.cell? ⟨wo.heap.size, 2, none⟩ = some (.slice ld ls.length capl) := (HI.out.cell (show wo.heap.size < wB.heap.size by have := HSB.out; omega)).trans HCI.out
            have HBI := hide (HBA.out.trans (HI.out.mono HBA.out.size))
            by_cases hjl : (j : Int) < ls.length
            · obtain ⟨gl, lo, el⟩ := HLF.out.head (by omega)
              subst el
              have hjl2 : j < ls.length := by omega
              obtain ⟨z, t, ht⟩ : ∃ z t, ls[j]? = some (z, t) := ⟨ls[j].1, ls[j].2, List.getElem?_eq_getElem hjl2⟩
              have HOW := hide ((HLF.out.below HWB.out).below HI.out)
              obtain ⟨d1, d2⟩ := HOW.out.two ht
              simp only at d1 d2
              have HT := hide ht
              have j0 : (0 : Int) ≤ j := by omega
              clear ht
              have HCT : Hid (∀ w1, Below wr.heap.size wr w1 → w1.cell? ⟨wo.heap.size, 2, none⟩ = some (.slice (some ⟨gl, lo, none⟩) ls.length capl) ∧ LeafRd w1 (.slice (some ⟨gl, lo, none⟩) ls.length capl) ls) := fun w1 hb1 => by
                have s1 := HSB.out
                have s2 := HI.out.size
                exact ⟨(hb1.cell (show wo.heap.size < wr.heap.size by omega)).trans hci, HOW.out.below hb1⟩
              cases hlo : leafOk (z, t) with
              | false =>
                have HE : Hid (flOk (rs.map tellOf) = false) := flOk_no HBM.out (blkOk_no (b := tellOf (x, y, .slice (some ⟨gl, lo, none⟩) ls.length capl, ls)) hjl2 (leafAt_no HT.out hlo))
                go_wp2_with fail
                refine (sleaf_any z t _).mono ?_
                rintro e w1 ⟨rfl, hb1⟩
                rw [hlo]
                have HB1 := hide (HBI.out.trans (hb1.mono HBI.out.size))
                clear hb1
                go_wp2
                go_ret
                exact ⟨by rw [HE.out]; rfl, HB1.out⟩
              | true =>
                have HLO := hide hlo
                cases j with
                | zero =>
                  simp only [Nat.zero_mul, Nat.add_zero] at d1 d2
                  go_wp2_with fail
                  refine (sleaf_any z t _).mono ?_
                  rintro e w1 ⟨rfl, hb1⟩
                  rw [hlo]
                  have HI1 := hide (HI.out.trans (hb1.mono HI.out.size))
                  obtain ⟨q1, q2⟩ := HCT.out w1 hb1
                  clear hb1 q2
                  go_wp2
                  refine ⟨⟨1, by omega, rfl, (show ∀ i, i < 1 → leafAt ls i = true from fun i hi => ?_), HI1⟩, by simp [intOf]; omega⟩
                  obtain rfl : i = 0 := by omega
                  exact leafAt_zero HT.out HLO.out
                | succ m =>
                  have hm : m < ls.length := by omega
                  obtain ⟨zp, tp, hp⟩ : ∃ z t, ls[m]? = some (z, t) := ⟨ls[m].1, ls[m].2, List.getElem?_eq_getElem hm⟩
                  have HP := hide hp
                  clear hp
                  have HNX : zp ≠ 0 ∨ z = 0 → Hid (∀ i, i < m + 1 + 1 → leafAt ls i = true) := fun hq i hi => by
                    by_cases h1 : i = m + 1
                    · subst h1
                      exact leafAt_yes HT.out HP.out HLO.out hq
                    · exact HJ.out i (by omega)
                  by_cases hz1 : zp = 0
                  · by_cases hz2 : z = 0
                    · have HN2 := HNX (Or.inr hz2)
                      have e1 : (zp == 0) = true := by simp [hz1]
                      have e2 : (z != 0) = false := by simp [hz2]
                      clear HNX hz1 hz2
                      go_wp2_with fail
                      refine (sleaf_any z t _).mono ?_
                      rintro e w1 ⟨rfl, hb1⟩
                      rw [hlo]
                      have HI1 := hide (HI.out.trans (hb1.mono HI.out.size))
                      obtain ⟨q1, q2⟩ := HCT.out w1 hb1
                      obtain ⟨p1, -⟩ := q2.two HT.out
                      obtain ⟨p2, -⟩ := q2.two HP.out
                      simp only at p1 p2
                      clear hb1 q2
                      go_wp2
                      exact ⟨⟨m + 1 + 1, by omega, rfl, HN2, HI1⟩, by simp [intOf]; omega⟩
                    · have e1 : (zp == 0) = true := by simp [hz1]
                      have e2 : (z != 0) = true := by simp [hz2]
                      have HE : Hid (flOk (rs.map tellOf) = false) := flOk_no HBM.out (blkOk_no (b := tellOf (x, y, .slice (some ⟨gl, lo, none⟩) ls.length capl, ls)) hjl2 (leafAt_bad HT.out HP.out hz1 hz2))
                      clear HNX hz1 hz2
                      go_wp2_with fail
                      refine (sleaf_any z t _).mono ?_
                      rintro e w1 ⟨rfl, hb1⟩
                      rw [hlo]
                      have HI1 := hide (HI.out.trans (hb1.mono HI.out.size))
                      have HB1 := hide (HBI.out.trans (hb1.mono HBI.out.size))
                      obtain ⟨q1, q2⟩ := HCT.out w1 hb1
                      obtain ⟨p1, -⟩ := q2.two HT.out
                      obtain ⟨p2, -⟩ := q2.two HP.out
                      simp only at p1 p2
                      clear hb1 q2
                      go_wp2
                      go_ret
                      exact ⟨by rw [HE.out]; rfl, HB1.out⟩
                  · have HN2 := HNX (Or.inl hz1)
                    have e1 : (zp == 0) = false := by simpa using hz1
                    clear HNX hz1
                    go_wp2_with fail
                    refine (sleaf_any z t _).mono ?_
                    rintro e w1 ⟨rfl, hb1⟩
                    rw [hlo]
                    have HI1 := hide (HI.out.trans (hb1.mono HI.out.size))
                    have HB1 := hide (HBI.out.trans (hb1.mono HBI.out.size))
                    obtain ⟨q1, q2⟩ := HCT.out w1 hb1
                    obtain ⟨p1, -⟩ := q2.two HT.out
                    obtain ⟨p2, -⟩ := q2.two HP.out
                    simp only at p1 p2
                    clear hb1 q2
                    go_wp2
                    exact ⟨⟨m + 1 + 1, by omega, rfl, HN2, HI1⟩, by simp [intOf]; omega⟩
            · have hje : j = ls.length := by omega
              have HOKB : Hid (∀ r ∈ rs.take (k + 1), blkOk (tellOf r) = true) := by
                show ∀ r ∈ rs.take (k + 1), blkOk (tellOf r) = true
                intro r hr
                rw [HTK.out] at hr
                rcases List.mem_append.1 hr with hr | hr
                · exact HN.out r hr
                · rw [List.mem_singleton] at hr
                  subst hr
                  exact blkOk_yes (b := (x, y, ls)) HL4.out HY.out (fun i hi => HJ.out i (by rw [hje]; exact hi))
              have HWK := hide ((HW.out.trans (HWB.out.mono HW.out.size)).trans (HI.out.mono (Nat.le_trans HW.out.size HWB.out.size)))
              clear hje
              go_wp2
              go_roundw
              case rel => exact ⟨k + 1, by omega, by go_num, HOKB, HWK⟩
              case measure => simp [intOf]; omega
        · have HE : Hid (flOk (rs.map tellOf) = false) := flOk_no HBM.out (blkOk_wear hy)
          have hyd : decide (0 ≤ y ∧ y ≤ 1000000000) = false := decide_eq_false hy
          clear hy
          go_wp2_with fail
          refine (sin_any y 0 1000000000 _).mono ?_
          rintro e w1 ⟨rfl, rfl⟩
          rw [hyd]
          clear hyd
          go_wp2
          go_ret
          exact ⟨by rw [HE.out]; rfl, HBA.out⟩
      · have hl4b : ((ls.length : Int) != 4) = true := by simp; omega
        have HE : Hid (flOk (rs.map tellOf) = false) := flOk_no HBM.out (blkOk_len hl4)
        go_wp2
        go_ret
        exact ⟨by rw [HE.out]; rfl, HBA.out⟩
    · have hke : k = rs.length := by omega
      have hn := HN.out
      rw [hke, List.take_of_length_le (Nat.le_refl _)] at hn
      have HE : Hid (flOk (rs.map tellOf) = decide (3 ≤ (rs.length : Int) ∧ (rs.length : Int) ≤ 10)) := by
        show _ = _
        rw [flOk_all (fun b hb => by obtain ⟨r, hr, rfl⟩ := List.mem_map.1 hb; exact hn r hr)]
        congr 1
        apply propext
        rw [List.length_map]
        omega
      clear hn hke
      go_wp2_with fail
      refine (sin_any (rs.length : Int) 3 10 _).mono ?_
      rintro e w1 ⟨rfl, rfl⟩
      rw [← HE.out]
      clear HE
      go_wp2
      go_ret
      exact ⟨rfl, HBW.out⟩
theorem sok_any (v : Value) (rs : List Rw) (lo hi : Nat) (w : World) (hl : rs.length ≤ 1048576) (hll : ∀ r ∈ rs, r.2.2.2.length ≤ 1048576) (_hh : hi ≤ w.heap.size) (ha : FlashIn w lo hi v rs) :
    Calls Try.prog 40 #[.agg #[v]] w fun e w' => e = .returned (.bool (flOk (rs.map tellOf))) ∧ Below w.heap.size w w' := sok_rd v rs w hl hll ha.rd
end Go.Proofs.Ythkkefbhcmhijaa
