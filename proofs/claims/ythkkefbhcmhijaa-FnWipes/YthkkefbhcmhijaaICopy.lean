/-
  impl.copiedFlash.
-/
import Derived.Test.YthkkefbhcmhijaaCopyM
import Derived.Test.YthkkefbhcmhijaaISlices
import Derived.Test.YthkkefbhcmhijaaPq4
import Derived.Test.YthkkefbhcmhijaaPq34
namespace Go.Proofs.Ythkkefbhcmhijaa
open Go.RowKit

set_option maxHeartbeats 800000 in
set_option maxRecDepth 100000 in
theorem icopy_rd (v : Value) (rs : List Rw) (w : World) (hl : rs.length ≤ 1048576) (hll : ∀ r ∈ rs, r.2.2.2.length ≤ 1048576) (htx : TxB rs) (ha : FlashRd w v rs) :
    Calls Try.prog 19 #[.agg #[v]] w fun e w' => ∃ u, e = .returned (.agg #[u]) ∧ FlashOf w' w.heap.size u (rs.map tellOf) ∧ Below w.heap.size w w' := by
  have HLL := hide hll
  have HTX := hide htx
  have h1 := ha
  obtain ⟨vd, vcap, rfl, -, -⟩ := h1
  have hb0 := ((Below.refl w.heap.size w).alloc (Nat.le_refl _) (.cells #[.slice vd rs.length vcap] 26)).alloc (by simp) (.cells #[.slice none 0 0] 26)
  have HB0 := hide hb0
  have HA := hide (ha.below hb0)
  have r1 := heap_alloc_new (w.alloc (.cells #[.slice vd rs.length vcap] 26)) (.cells #[.slice none 0 0] 26)
  rw [show (w.alloc (.cells #[.slice vd rs.length vcap] 26)).heap.size = w.heap.size + 1 by simp] at r1
  have R1 := hide r1
  have HZ := hide (show ((w.alloc (.cells #[.slice vd rs.length vcap] 26)).alloc (.cells #[.slice none 0 0] 26)).heap.size = w.heap.size + 2 by simp)
  clear ha hll htx hb0 r1
  go_enter Try.func19, Try.ntmps19
  go_wp2_with fail
  refine (icl_blocks_rd _ rs _ hl HA.out).mono ?_
  rintro e w1 ⟨v1, rfl, o1, b1⟩
  generalize (w.alloc (.cells #[.slice vd rs.length vcap] 26)).alloc (.cells #[.slice none 0 0] 26) = w0 at HB0 HA R1 HZ o1 b1 ⊢
  obtain ⟨bd, bcap, rfl, -, -, b3⟩ := frow_form o1
  have B3 := hide b3
  have HC1 := hide (CopyI.start o1)
  have HB1 := hide b1
  clear o1 b1 b3
  go_wp2
  go_loopw [13] (fun iv wr => ∃ (k : Nat) (d : List Rw), k ≤ rs.length ∧ iv = .int .i64 k ∧ Hid (d.length = k) ∧ Hid (d.map tellOf = (rs.take k).map tellOf) ∧ Hid (CopyI w0.heap.size wr (.slice bd rs.length bcap) rs d) ∧ Hid (Below w0.heap.size w0 wr)) (fun iv _ => rs.length - (intOf iv).toNat)
  case atStart => exact ⟨0, [], Nat.zero_le _, rfl, rfl, rfl, HC1, HB1⟩
  case round =>
    rename World => wo
    obtain ⟨k, d, hk, rfl, HD, HT, HC, HW⟩ := hrel
    have hsz := HW.out.size
    by_cases hlt : (k : Int) < rs.length
    · obtain ⟨gb, rfl, hgb1, hgb⟩ := B3.out (by omega)
      have hkl : k < rs.length := by omega
      have hr : rs[k]? = some rs[k] := List.getElem?_eq_getElem hkl
      have htk : rs.take (k + 1) = rs.take k ++ [rs[k]] := List.take_succ_eq_append_getElem hkl
      generalize rs[k] = r at hr htk
      have hmem := List.mem_of_getElem? hr
      have hrl := HLL.out r hmem
      have htx := HTX.out r hmem
      obtain ⟨-, -, -, hlf⟩ := (HA.out.below HW.out).at hr
      obtain ⟨x, y, u, ls⟩ := r
      simp only at hlf hrl htx
      have HTX2 := hide htx
      have HR : Hid (rs[d.length]? = some (x, y, u, ls)) := by show _ = _; rw [HD.out]; exact hr
      obtain ⟨c1, c2, c3⟩ := HC.out.at rfl HR.out
      rw [HD.out] at c1 c2 c3
      simp only at c1 c2 c3
      have hlf2 := hlf
      obtain ⟨ld, capl, rfl, -, -⟩ := hlf2
      have k0 : (0 : Int) ≤ k := by omega
      have HTK := hide htk
      have HLF := hide hlf
      have hgw : gb < wo.heap.size := by
        have := (HC.out.1.lt gb rfl).2
        exact this
      clear hr htk hmem hlf htx
      go_wp2_with fail
      refine (icl_leaves_rd _ ls _ hrl HLF.out).mono ?_
      rintro e w2 ⟨v2, rfl, o2, b2⟩
      have hs2 := b2.size
      have s2 := HC.out.step (x := x) (y := y) rfl HR.out b2 o2 hsz
      obtain ⟨l2, cap2, rfl, -, -, l3⟩ := frow_form o2
      have L3 := hide l3
      have o3 := (HC.out.below b2).1
      have f2 := o3.frozenAt (k * 3 + 2)
      have c3' : w2.cell? ⟨gb, k * 3 + 2, none⟩ = some (.slice ld ls.length capl) := (b2.cell hgw).trans c3
      rw [HD.out] at s2
      have HS2 := hide s2
      have HWX := hide ((HW.out.trans (b2.mono hsz)).setCell (p := ⟨gb, k * 3 + 2, none⟩) hgb1 (.slice l2 ls.length cap2))
      have HD2 : Hid ((d ++ [((x, y, .slice l2 ls.length cap2, ls) : Rw)]).length = k + 1) := by show _ = _; rw [List.length_append, HD.out]; rfl
      have HT2 : Hid ((d ++ [((x, y, .slice l2 ls.length cap2, ls) : Rw)]).map tellOf = (rs.take (k + 1)).map tellOf) := by show _ = _; rw [List.map_append, HT.out, HTK.out, List.map_append]; rfl
      have hq := row_cell_set o3 (k * 3 + 2) (.slice l2 ls.length cap2) (by rw [HD.out.symm]; exact (HC.out.below b2).lt3 HR.out)
      clear o2 o3 l3 b2 s2 c1 c2
      go_wp2
      generalize w2.setCell ⟨gb, k * 3 + 2, none⟩ (.slice l2 ls.length cap2) = wX at HS2 HWX hq ⊢
      go_loopw [32] (fun iv wr => ∃ j : Nat, j ≤ ls.length ∧ iv = .int .i64 j ∧ Hid (Below wX.heap.size wX wr)) (fun iv _ => ls.length - (intOf iv).toNat)
      case atStart => exact ⟨0, Nat.zero_le _, rfl, Below.refl _ _⟩
      case round =>
        obtain ⟨j, hj, rfl, HI⟩ := hrel
        have hsi := HI.out.size
        have hq2 : wr.cell? ⟨gb, k * 3 + 2, none⟩ = some (.slice l2 ls.length cap2) := (HI.out.cell (World.block_lt_of_cell? wX _ hq)).trans hq
        by_cases hjl : (j : Int) < ls.length
        · obtain ⟨gl, rfl, hl1, hl2⟩ := L3.out (by omega)
          have hjl2 : j < ls.length := by omega
          obtain ⟨z, t, ht⟩ : ∃ z t, ls[j]? = some (z, t) := ⟨ls[j].1, ls[j].2, List.getElem?_eq_getElem hjl2⟩
          have hts := HTX2.out _ (List.mem_of_getElem? ht)
          simp only at hts
          have hlx := (HS2.out.below HI.out).2.1 (x, y, .slice (some ⟨gl, 0, none⟩) ls.length cap2, ls) (List.mem_append_right _ (List.mem_singleton_self _))
          simp only at hlx
          obtain ⟨d1, d2⟩ := lown_cells hlx.1 ht
          simp only at d1 d2
          have HT3 := hide ht
          have HLX := hide hlx
          have j0 : (0 : Int) ≤ j := by omega
          have hglw : gl < wr.heap.size := World.block_lt_of_cell? wr _ d1
          clear ht hlx
          go_wp2_with fail
          refine (fclone_any t _ hts).mono ?_
          rintro e w4 ⟨rfl, b4⟩
          have d4 : w4.cell? ⟨gl, j * 2 + 1, none⟩ = some (.string t) := (b4.cell hglw).trans d2
          have f4 := (own_below HLX.out.1 b4).frozenAt (j * 2 + 1)
          have B4 := hide (HI.out.trans (b4.mono hsi))
          have SM := hide (setCell_same w4 gl (j * 2 + 1) (.string t) d4)
          clear b4
          go_wp2
          go_roundw
          case rel => exact ⟨j + 1, by omega, by go_num, (by rw [SM.out]; exact B4)⟩
          case measure => simp [intOf]; omega
        · have HCW := hide (HS2.out.below HI.out)
          have HWW := hide (HWX.out.trans (HI.out.mono HWX.out.size))
          go_wp2
          go_roundw
          case rel => exact ⟨k + 1, _, by omega, by go_num, HD2, HT2, HCW, HWW⟩
          case measure => simp [intOf]; omega
    · have hke : k = rs.length := by omega
      have hf := HC.out.done (by rw [HD.out]; exact hke)
      have ht := HT.out
      rw [hke, List.take_of_length_le (Nat.le_refl _)] at ht
      have hz := HZ.out
      have q1 := (HW.out.block (w.heap.size + 1) (by omega)).trans R1.out
      have c1 : wo.cell? ⟨w.heap.size + 1, 0, none⟩ = some (.slice none 0 0) := cell_of_row _ _ 0 _ _ _ q1
      have f1 := frozen_of_row _ _ 0 _ _ q1
      have Q1 := hide (row_set q1 0 (.slice bd rs.length bcap))
      have G := hide (FlashOf.cell (show FlashOf wo w0.heap.size _ (rs.map tellOf) from ⟨d, ht, hf⟩) (show w.heap.size + 1 < w0.heap.size by omega) 0 (.slice bd rs.length bcap))
      have HBE := hide ((HB0.out.trans (HW.out.mono (by omega))).setCell (p := ⟨w.heap.size + 1, 0, none⟩) (by show _ ≤ _ + 1; omega) (.slice bd rs.length bcap))
      have HDN := hide (show w.heap.size ≤ w0.heap.size by omega)
      clear hke hf ht hz q1
      go_wp2
      exact bodyPost_ret (results_cell_row rfl _ _ (w.heap.size + 1) 26 _ (0, 0) _ rfl Q1.out Try.underlying26 rfl infoFlash1) rfl ⟨_, rfl, G.out.down HDN.out, HBE.out⟩
theorem icopy_any (v : Value) (rs : List Rw) (lo hi : Nat) (w : World) (hl : rs.length ≤ 1048576) (hll : ∀ r ∈ rs, r.2.2.2.length ≤ 1048576) (htx : TxB rs) (_hh : hi ≤ w.heap.size) (ha : FlashIn w lo hi v rs) :
    Calls Try.prog 19 #[.agg #[v]] w fun e w' => ∃ u, e = .returned (.agg #[u]) ∧ FlashOf w' w.heap.size u (rs.map tellOf) ∧ Below w.heap.size w w' := icopy_rd v rs w hl hll htx ha.rd
end Go.Proofs.Ythkkefbhcmhijaa
