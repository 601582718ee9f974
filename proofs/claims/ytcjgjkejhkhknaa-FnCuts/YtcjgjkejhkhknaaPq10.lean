/-
  IBlk; IOk
-/
import Derived.Test.YtcjgjkejhkhknaaPq9
/-
  (*impl.Block).isRight.
-/
namespace Go.Proofs.Ytcjgjkejhkhknaa
open Go.RowKit


set_option maxHeartbeats 400000 in
set_option maxRecDepth 100000 in
theorem iblk_any (g o : Nat) (x : Bool) (y : Int) (v : Value) (ls : List (Int × ByteArray)) (B : Nat) (w : World) (hl : ls.length ≤ 1048576) (hg : g < w.heap.size) (c1 : w.cell? ⟨g, o, none⟩ = some (.bool x)) (c2 : w.cell? ⟨g, o + 1, none⟩ = some (.int .i64 y)) (c3 : w.cell? ⟨g, o + 2, none⟩ = some v)
    (ha : w.ownsRow B 94 2 v ls.length (lcells ls)) :
    Calls Try.prog 88 #[.pointer (some ⟨g, o, none⟩)] w fun e w' => e = .returned (.bool (blkOk (x, y, ls))) ∧ Below w.heap.size w w' := by
  obtain ⟨ad, capa, rfl, a1, a2, a3⟩ := frow_form ha
  unfold maxLen at a2
  have A3 := hide a3
  have HA := hide ha
  clear a3 ha
  by_cases h4 : ls.length = 4
  · have h4b : ((ls.length : Int) != 4) = false := by rw [h4]; rfl
    have H4 := hide h4
    clear h4
    by_cases hy : 0 ≤ y ∧ y ≤ 1000000000
    · have HY := hide hy
      have y1 : decide (y < 0) = false := decide_eq_false (by omega)
      have y2 : decide (y > 1000000000) = false := decide_eq_false (by omega)
      have hy1 := hy.1
      have hy2 := hy.2
      clear hy
      go_enter Try.func88, Try.ntmps88
      go_wp2_with fail
      refine (inext_any x y _ ls B _ hl HA.out).mono ?_
      rintro e w1 ⟨rfl, hb1⟩
      have hc3 : w1.cell? ⟨g, o + 2, none⟩ = some (.slice ad ls.length capa) := (hb1.cell hg).trans c3
      have HA1 := hide (own_below HA.out hb1)
      have HB1 := hide hb1
      have hg1 : g < w1.heap.size := Nat.lt_of_lt_of_le hg hb1.size
      generalize hq : nextB ls = q
      have HQ := hide hq
      clear hb1 hq
      go_wp2
      go_loopw [35] (fun iv wr => ∃ k : Nat, k ≤ ls.length ∧ iv = .int .i64 k ∧ Hid (∀ (i : Nat) (t : Int × ByteArray), i < k → ls[i]? = some t → leafOk t = true ∧ (q < i → t.1 = 0)) ∧ wr = w1) (fun iv _ => ls.length - (intOf iv).toNat)
      case atStart => exact ⟨0, Nat.zero_le _, rfl, (show ∀ (i : Nat) (t : Int × ByteArray), i < 0 → ls[i]? = some t → leafOk t = true ∧ (q < i → t.1 = 0) from fun i t hi => by omega), rfl⟩
      case round =>
        obtain ⟨k, hk, rfl, HN, rfl⟩ := hrel
        by_cases hlt : (k : Int) < ls.length
        · obtain ⟨gl, rfl, _, hgl⟩ := A3.out (by omega)
          have hkl : k < ls.length := by omega
          obtain ⟨z, t, ht⟩ : ∃ z t, ls[k]? = some (z, t) := ⟨ls[k].1, ls[k].2, List.getElem?_eq_getElem hkl⟩
          obtain ⟨d1, d2⟩ := lown_cells HA1.out ht
          simp only at d1 d2
          have HT := hide ht
          have k0 : (0 : Int) ≤ k := by omega
          clear ht
          cases hlo : leafOk (z, t) with
          | false =>
            have HE : Hid (blkOk (x, y, ls) = false) := blkOk_no (b := (x, y, ls)) hkl (leafAt_no HT.out hlo)
            go_wp2_with fail
            refine (ileaf_any gl (k * 2) z t _ d1 d2).mono ?_
            rintro e w2 ⟨rfl, rfl⟩
            rw [hlo]
            go_wp2
            go_ret
            exact ⟨by rw [HE.out]; rfl, HB1.out⟩
          | true =>
            have HLO := hide hlo
            have HNX : (q < k → z = 0) → Hid (∀ (i : Nat) (t : Int × ByteArray), i < k + 1 → ls[i]? = some t → leafOk t = true ∧ (q < i → t.1 = 0)) := fun hq i u hi hu => by
              by_cases h1 : i = k
              · subst h1
                rw [HT.out] at hu
                cases hu
                exact ⟨HLO.out, hq⟩
              · exact HN.out i u (by omega) hu
            by_cases hqk : (q : Int) < k
            · by_cases hz : z = 0
              · have HN2 := HNX (fun _ => hz)
                have e1 : (z != 0) = false := by simp [hz]
                clear HNX hz
                go_wp2_with fail
                refine (ileaf_any gl (k * 2) z t _ d1 d2).mono ?_
                rintro e w2 ⟨rfl, rfl⟩
                rw [hlo]
                go_wp2
                go_roundw
                case rel => exact ⟨k + 1, by omega, by go_num, HN2, (by first | rfl | trivial)⟩
                case measure => simp [intOf]; omega
              · have HE : Hid (blkOk (x, y, ls) = false) := blkOk_behind (b := (x, y, ls)) H4.out HT.out (by have := HQ.out; simp only [this]; omega) hz
                have e1 : (z != 0) = true := by simp [hz]
                clear HNX hz
                go_wp2_with fail
                refine (ileaf_any gl (k * 2) z t _ d1 d2).mono ?_
                rintro e w2 ⟨rfl, rfl⟩
                rw [hlo]
                go_wp2
                go_ret
                exact ⟨by rw [HE.out]; rfl, HB1.out⟩
            · have HN2 := HNX (fun h => by omega)
              clear HNX
              go_wp2_with fail
              refine (ileaf_any gl (k * 2) z t _ d1 d2).mono ?_
              rintro e w2 ⟨rfl, rfl⟩
              rw [hlo]
              go_wp2
              go_roundw
              case rel => exact ⟨k + 1, by omega, by go_num, HN2, (by first | rfl | trivial)⟩
              case measure => simp [intOf]; omega
        · have hke : k = ls.length := by omega
          have HE : Hid (blkOk (x, y, ls) = true) := blkOk_each (b := (x, y, ls)) H4.out HY.out (fun i t hi => by
            have := HN.out i t (by have := (List.getElem?_eq_some_iff.1 hi).1; simp only at this; omega) hi
            exact ⟨this.1, fun h => this.2 (by rw [← HQ.out]; exact h)⟩)
          clear hke
          go_wp2
          go_ret
          exact ⟨by rw [HE.out]; rfl, HB1.out⟩
    · have HE : Hid (blkOk (x, y, ls) = false) := blkOk_wear hy
      by_cases hy0 : y < 0
      · go_enter Try.func88, Try.ntmps88
        go_wp2
        go_ret
        exact ⟨by rw [HE.out]; rfl, Below.refl _ _⟩
      · have hy1 : 1000000000 < y := by omega
        go_enter Try.func88, Try.ntmps88
        go_wp2
        go_ret
        exact ⟨by rw [HE.out]; rfl, Below.refl _ _⟩
  · have hl4b : ((ls.length : Int) != 4) = true := by simp; omega
    have HE : Hid (blkOk (x, y, ls) = false) := blkOk_len h4
    go_enter Try.func88, Try.ntmps88
    go_wp2
    go_ret
    exact ⟨by rw [HE.out]; rfl, Below.refl _ _⟩
end Go.Proofs.Ytcjgjkejhkhknaa

/-
  impl.FlashOk.
-/
namespace Go.Proofs.Ytcjgjkejhkhknaa
open Go.RowKit

set_option maxHeartbeats 400000 in
set_option maxRecDepth 100000 in
theorem iok_any (v : Value) (rs : List Rw) (lo hi : Nat) (w : World) (hl : rs.length ≤ 1048576) (hll : ∀ r ∈ rs, r.2.2.2.length ≤ 1048576) (hh : hi ≤ w.heap.size) (ha : FlashIn w lo hi v rs) :
    Calls Try.prog 44 #[.agg #[v]] w fun e w' => e = .returned (.bool (flOk (rs.map tellOf))) ∧ Below w.heap.size w w' := by
  have h1 := ha.1
  obtain ⟨ad, capa, rfl, a1, a2, a3⟩ := frow_form h1
  unfold maxLen at a2
  have A3 := hide a3
  have HLL := hide hll
  have HB := hide ((Below.refl w.heap.size w).alloc (Nat.le_refl _) (.cells #[.slice ad rs.length capa] 28))
  have HA := hide (ha.below HB.out hh)
  clear a3 ha hll h1
  by_cases hc : 3 ≤ (rs.length : Int) ∧ (rs.length : Int) ≤ 10
  · have hcd : decide (3 ≤ (rs.length : Int) ∧ (rs.length : Int) ≤ 10) = true := decide_eq_true hc
    have HC := hide hc
    clear hc
    go_enter Try.func44, Try.ntmps44
    go_wp2_with fail
    refine (icount_any (rs.length : Int) _).mono ?_
    rintro e w1 ⟨rfl, rfl⟩
    rw [hcd]
    clear hcd
    have hcb := cell_of_row _ _ 0 _ _ _ (heap_alloc_new w (.cells #[.slice ad rs.length capa] 28))
    have HCB : Hid ((w.alloc (.cells #[.slice ad rs.length capa] 28)).cell? ⟨w.heap.size, 0, none⟩ = some (.slice ad rs.length capa)) := hcb
    have HSZ := hide (show (w.alloc (.cells #[.slice ad rs.length capa] 28)).heap.size = w.heap.size + 1 by simp)
    clear hcb
    generalize w.alloc (.cells #[.slice ad rs.length capa] 28) = wA at HB HA HCB HSZ ⊢
    have hcb := HCB.out
    go_wp2
    clear hcb
    go_loopw [12] (fun iv wr => ∃ k : Nat, k ≤ rs.length ∧ iv = .int .i64 k ∧ Hid (∀ r ∈ (rs.take k), blkOk (tellOf r) = true) ∧ Hid (Below wA.heap.size wA wr)) (fun iv _ => rs.length - (intOf iv).toNat)
    case atStart => exact ⟨0, Nat.zero_le _, rfl, (show ∀ r ∈ rs.take 0, blkOk (tellOf r) = true by simp), Below.refl _ _⟩
    case round =>
      obtain ⟨k, hk, rfl, HN, HW⟩ := hrel
      have hcb : wr.cell? ⟨w.heap.size, 0, none⟩ = some (.slice ad rs.length capa) := (HW.out.cell (show w.heap.size < wA.heap.size by have := HSZ.out; omega)).trans HCB.out
      have HBW := hide (HB.out.trans (HW.out.mono HB.out.size))
      have hbs := HB.out.size
      by_cases hlt : (k : Int) < rs.length
      · obtain ⟨g, rfl, hg1, hg⟩ := A3.out (by omega)
        have hkl : k < rs.length := by omega
        have hr : rs[k]? = some rs[k] := List.getElem?_eq_getElem hkl
        have htk : rs.take (k + 1) = rs.take k ++ [rs[k]] := List.take_succ_eq_append_getElem hkl
        generalize rs[k] = r at hr htk
        have hmem := List.mem_of_getElem? hr
        have hrl := HLL.out r hmem
        have HF := hide (HA.out.below HW.out (by omega))
        have hlf := HF.out.2.2.1 r hmem
        obtain ⟨c1, c2, c3⟩ := kown_cells (k := k) (t := cellOf r) HF.out.1 (by rw [List.getElem?_map, hr]; rfl)
        obtain ⟨x, y, u, ls⟩ := r
        simp only [cellOf] at c1 c2 c3
        simp only at hlf hrl
        have HLF := hide hlf
        have HTK := hide htk
        have HBM := hide (List.mem_map_of_mem (f := tellOf) hmem)
        have k0 : (0 : Int) ≤ k := by omega
        have hgw : g < wr.heap.size := by have := HW.out.size; omega
        clear hr htk hlf hmem
        cases hbk : blkOk (x, y, ls) with
        | false =>
          have HE : Hid (flOk (rs.map tellOf) = false) := flOk_no HBM.out hbk
          go_wp2_with fail
          refine (iblk_any g (k * 3) x y _ ls lo _ hrl hgw c1 c2 c3 HLF.out.1).mono ?_
          rintro e w2 ⟨rfl, hb2⟩
          rw [hbk]
          have HB2 := hide (HBW.out.trans (hb2.mono HBW.out.size))
          clear hb2
          go_wp2
          go_ret
          exact ⟨by rw [HE.out]; rfl, HB2.out⟩
        | true =>
          have HOKB : Hid (∀ r ∈ rs.take (k + 1), blkOk (tellOf r) = true) := by
            show ∀ r ∈ rs.take (k + 1), blkOk (tellOf r) = true
            intro r hr
            rw [HTK.out] at hr
            rcases List.mem_append.1 hr with hr | hr
            · exact HN.out r hr
            · rw [List.mem_singleton] at hr
              subst hr
              exact hbk
          go_wp2_with fail
          refine (iblk_any g (k * 3) x y _ ls lo _ hrl hgw c1 c2 c3 HLF.out.1).mono ?_
          rintro e w2 ⟨rfl, hb2⟩
          rw [hbk]
          have HW2 := hide (HW.out.trans (hb2.mono HW.out.size))
          clear hb2
          go_wp2
          go_roundw
          case rel => exact ⟨k + 1, by omega, by go_num, HOKB, HW2⟩
          case measure => simp [intOf]; omega
      · have hke : k = rs.length := by omega
        have hn := HN.out
        rw [hke, List.take_of_length_le (Nat.le_refl _)] at hn
        have HE : Hid (flOk (rs.map tellOf) = true) := by
          show _ = _
          rw [flOk_all (fun b hb => by obtain ⟨r, hr, rfl⟩ := List.mem_map.1 hb; exact hn r hr)]
          rw [List.length_map]
          exact decide_eq_true (by have := HC.out; omega)
        clear hn hke
        go_wp2
        go_ret
        exact ⟨by rw [HE.out]; rfl, HBW.out⟩
  · have hcd : decide (3 ≤ (rs.length : Int) ∧ (rs.length : Int) ≤ 10) = false := decide_eq_false hc
    have HE : Hid (flOk (rs.map tellOf) = false) := by
      show _ = _
      unfold flOk
      rw [List.length_map, decide_eq_false (by omega)]
      rfl
    clear hc
    go_enter Try.func44, Try.ntmps44
    go_wp2_with fail
    refine (icount_any (rs.length : Int) _).mono ?_
    rintro e w1 ⟨rfl, rfl⟩
    rw [hcd]
    clear hcd
    go_wp2
    go_ret
    exact ⟨by rw [HE.out]; rfl, HB.out⟩
end Go.Proofs.Ytcjgjkejhkhknaa
