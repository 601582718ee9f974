/-
  impl.FlashOk.
-/
import Derived.Test.YthkkefbhcmhijaaIBlk
namespace Go.Proofs.Ythkkefbhcmhijaa
open Go.RowKit

set_option maxHeartbeats 400000 in
set_option maxRecDepth 100000 in
theorem iok_any (v : Value) (rs : List Rw) (lo hi : Nat) (w : World) (hl : rs.length ≤ 1048576) (hll : ∀ r ∈ rs, r.2.2.2.length ≤ 1048576) (hh : hi ≤ w.heap.size) (ha : FlashIn w lo hi v rs) :
    Calls Try.prog 10 #[.agg #[v]] w fun e w' => e = .returned (.bool (flOk (rs.map tellOf))) ∧ Below w.heap.size w w' := by
  have h1 := ha.1
  obtain ⟨ad, capa, rfl, a1, a2, a3⟩ := frow_form h1
  unfold maxLen at a2
  have A3 := hide a3
  have HLL := hide hll
  have HB := hide ((Below.refl w.heap.size w).alloc (Nat.le_refl _) (.cells #[.slice ad rs.length capa] 26))
  have HA := hide (ha.below HB.out hh)
  clear a3 ha hll h1
  by_cases hc : 3 ≤ (rs.length : Int) ∧ (rs.length : Int) ≤ 10
  · have hcd : decide (3 ≤ (rs.length : Int) ∧ (rs.length : Int) ≤ 10) = true := decide_eq_true hc
    have HC := hide hc
    clear hc
    go_enter Try.func10, Try.ntmps10
    go_wp2_with fail
    refine (icount_any (rs.length : Int) _).mono ?_
    rintro e w1 ⟨rfl, rfl⟩
    rw [hcd]
    clear hcd
    have hcb := cell_of_row _ _ 0 _ _ _ (heap_alloc_new w (.cells #[.slice ad rs.length capa] 26))
    have HCB : Hid ((w.alloc (.cells #[.slice ad rs.length capa] 26)).cell? ⟨w.heap.size, 0, none⟩ = some (.slice ad rs.length capa)) := hcb
    have HSZ := hide (show (w.alloc (.cells #[.slice ad rs.length capa] 26)).heap.size = w.heap.size + 1 by simp)
    clear hcb
    generalize w.alloc (.cells #[.slice ad rs.length capa] 26) = wA at HB HA HCB HSZ ⊢
    have hcb := HCB.out
    go_wp2
    clear hcb
    go_loopw [12] (fun iv wr => ∃ k : Nat, k ≤ rs.length ∧ iv = .int .i64 k ∧ Hid (∀ r ∈ (rs.take k), blkOk (tellOf r) = true) ∧ Hid (Below wA.heap.size wA wr)) (fun iv _ => rs.length - (intOf iv).toNat)
    case atStart => exact ⟨0, Nat.zero_le _, rfl, (show ∀ r ∈ rs.take 0, blkOk (tellOf r) = true by simp), Below.refl _ _⟩
    case round =>
      obtain ⟨k, hk, rfl, HN, HW⟩ := hrel
      have hcb : wr.cell? ⟨w.heap.size, 0, none⟩ = some (.slice ad rs.length capa) := (HW.out.cell (show w.heap.size < wA.heap.size by have := HSZ.out; omega)).trans HCB.out
      have HBW := hide (HB.out.trans (HW.out.mono HB.out.size))
      have hbs := HB.out.size
      by_cases hlt : (k : Int) < rs.length
      · obtain ⟨g, rfl, hg1, hg⟩ := A3.out (by omega)
        have hkl : k < rs.length := by omega
        have hr : rs[k]? = some rs[k] := List.getElem?_eq_getElem hkl
        have htk : rs.take (k + 1) = rs.take k ++ [rs[k]] := List.take_succ_eq_append_getElem hkl
        generalize rs[k] = r at hr htk
        have hmem := List.mem_of_getElem? hr
        have hrl := HLL.out r hmem
        have HF := hide (HA.out.below HW.out (by omega))
        have hlf := HF.out.2.2.1 r hmem
        obtain ⟨c1, c2, c3⟩ := kown_cells (k := k) (t := cellOf r) HF.out.1 (by rw [List.getElem?_map, hr]; rfl)
        obtain ⟨x, y, u, ls⟩ := r
        simp only [cellOf] at c1 c2 c3
        simp only at hlf hrl
        have HLF := hide hlf
        have HTK := hide htk
        have HBM := hide (List.mem_map_of_mem (f := tellOf) hmem)
        have k0 : (0 : Int) ≤ k := by omega
        have hgw : g < wr.heap.size := by have := HW.out.size; omega
        clear hr htk hlf hmem
        cases hbk : blkOk (x, y, ls) with
        | false =>
          have HE : Hid (flOk (rs.map tellOf) = false) := flOk_no HBM.out hbk
          go_wp2_with fail
          refine (iblk_any g (k * 3) x y _ ls lo _ hrl hgw c1 c2 c3 HLF.out.1).mono ?_
          rintro e w2 ⟨rfl, hb2⟩
          rw [hbk]
          have HB2 := hide (HBW.out.trans (hb2.mono HBW.out.size))
          clear hb2
          go_wp2
          go_ret
          exact ⟨by rw [HE.out]; rfl, HB2.out⟩
        | true =>
          have HOKB : Hid (∀ r ∈ rs.take (k + 1), blkOk (tellOf r) = true) := by
            show ∀ r ∈ rs.take (k + 1), blkOk (tellOf r) = true
            intro r hr
            rw [HTK.out] at hr
            rcases List.mem_append.1 hr with hr | hr
            · exact HN.out r hr
            · rw [List.mem_singleton] at hr
              subst hr
              exact hbk
          go_wp2_with fail
          refine (iblk_any g (k * 3) x y _ ls lo _ hrl hgw c1 c2 c3 HLF.out.1).mono ?_
          rintro e w2 ⟨rfl, hb2⟩
          rw [hbk]
          have HW2 := hide (HW.out.trans (hb2.mono HW.out.size))
          clear hb2
          go_wp2
          go_roundw
          case rel => exact ⟨k + 1, by omega, by go_num, HOKB, HW2⟩
          case measure => simp [intOf]; omega
      · have hke : k = rs.length := by omega
        have hn := HN.out
        rw [hke, List.take_of_length_le (Nat.le_refl _)] at hn
        have HE : Hid (flOk (rs.map tellOf) = true) := by
          show _ = _
          rw [flOk_all (fun b hb => by obtain ⟨r, hr, rfl⟩ := List.mem_map.1 hb; exact hn r hr)]
          rw [List.length_map]
          exact decide_eq_true (by have := HC.out; omega)
        clear hn hke
        go_wp2
        go_ret
        exact ⟨by rw [HE.out]; rfl, HBW.out⟩
  · have hcd : decide (3 ≤ (rs.length : Int) ∧ (rs.length : Int) ≤ 10) = false := decide_eq_false hc
    have HE : Hid (flOk (rs.map tellOf) = false) := by
      show _ = _
      unfold flOk
      rw [List.length_map, decide_eq_false (by omega)]
      rfl
    clear hc
    go_enter Try.func10, Try.ntmps10
    go_wp2_with fail
    refine (icount_any (rs.length : Int) _).mono ?_
    rintro e w1 ⟨rfl, rfl⟩
    rw [hcd]
    clear hcd
    go_wp2
    go_ret
    exact ⟨by rw [HE.out]; rfl, HB.out⟩
end Go.Proofs.Ythkkefbhcmhijaa
