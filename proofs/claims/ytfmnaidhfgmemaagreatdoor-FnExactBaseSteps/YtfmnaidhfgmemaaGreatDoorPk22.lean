/-
  ICopy; IAt; IUse; After
-/
import Derived.Test.YtfmnaidhfgmemaaGreatDoorPk21
import Derived.Test.YtfmnaidhfgmemaaGreatDoorPk13
import Derived.Test.YtfmnaidhfgmemaaGreatDoorPk12
import Derived.Test.YtfmnaidhfgmemaaGreatDoorPk16
import Derived.Test.YtfmnaidhfgmemaaGreatDoorPk19
namespace Go.Proofs.YtfmnaidhfgmemaaGreatDoor
open Go.RowKit
set_option maxHeartbeats 800000 in
set_option maxRecDepth 100000 in
theorem icopy_rd (v : Value) (rs : List Rw) (w : World) (hl : rs.length ≤ 1048576) (hll : ∀ r ∈ rs, r.2.2.2.length ≤ 1048576) (htx : TxB rs) (ha : FlashRd w v rs) :
    Calls Tryz.prog 236 #[.agg #[v]] w fun e w' => ∃ u, e = .returned (.agg #[u]) ∧ FlashOf w' w.heap.size u (rs.map tellOf) ∧ Below w.heap.size w w' := by
  have HLL := hide hll
  have HTX := hide htx
  have h1 := ha
  obtain ⟨vd, vcap, rfl, -, -⟩ := h1
  have hb0 := ((Below.refl w.heap.size w).alloc (Nat.le_refl _) (.cells #[.slice vd rs.length vcap] 39)).alloc (by simp) (.cells #[.slice none 0 0] 39)
  have HB0 := hide hb0
  have HA := hide (ha.below hb0)
  have r1 := heap_alloc_new (w.alloc (.cells #[.slice vd rs.length vcap] 39)) (.cells #[.slice none 0 0] 39)
  rw [show (w.alloc (.cells #[.slice vd rs.length vcap] 39)).heap.size = w.heap.size + 1 by simp] at r1
  have R1 := hide r1
  have HZ := hide (show ((w.alloc (.cells #[.slice vd rs.length vcap] 39)).alloc (.cells #[.slice none 0 0] 39)).heap.size = w.heap.size + 2 by simp)
  clear ha hll htx hb0 r1
  go_enter Tryz.func236, Tryz.ntmps236
  go_wp2_with fail
  refine (icl_blocks_rd _ rs _ hl HA.out).mono ?_
  rintro e w1 ⟨v1, rfl, o1, b1⟩
  generalize (w.alloc (.cells #[.slice vd rs.length vcap] 39)).alloc (.cells #[.slice none 0 0] 39) = w0 at HB0 HA R1 HZ o1 b1 ⊢
  obtain ⟨bd, bcap, rfl, -, -, b3⟩ := frow_form o1
  have B3 := hide b3
  have HC1 := hide (CopyI.start o1)
  have HB1 := hide b1
  clear o1 b1 b3
  go_wp2
  go_loopw [13] (fun iv wr => ∃ (k : Nat) (d : List Rw), k ≤ rs.length ∧ iv = .int .i64 k ∧ Hid (d.length = k) ∧ Hid (d.map tellOf = (rs.take k).map tellOf) ∧ Hid (CopyI w0.heap.size wr (.slice bd rs.length bcap) rs d) ∧ Hid (Below w0.heap.size w0 wr)) (fun iv _ => rs.length - (intOf iv).toNat)
  case atStart => exact ⟨0, [], Nat.zero_le _, rfl, rfl, rfl, HC1, HB1⟩
  case round =>
    rename World => wo
    obtain ⟨k, d, hk, rfl, HD, HT, HC, HW⟩ := hrel
    have hsz := HW.out.size
    by_cases hlt : (k : Int) < rs.length
    · obtain ⟨gb, rfl, hgb1, hgb⟩ := B3.out (by omega)
      have hkl : k < rs.length := by omega
      have hr : rs[k]? = some rs[k] := List.getElem?_eq_getElem hkl
      have htk : rs.take (k + 1) = rs.take k ++ [rs[k]] := List.take_succ_eq_append_getElem hkl
      generalize rs[k] = r at hr htk
      have hmem := List.mem_of_getElem? hr
      have hrl := HLL.out r hmem
      have htx := HTX.out r hmem
      obtain ⟨-, -, -, hlf⟩ := (HA.out.below HW.out).at hr
      obtain ⟨x, y, u, ls⟩ := r
      simp only at hlf hrl htx
      have HTX2 := hide htx
      have HR : Hid (rs[d.length]? = some (x, y, u, ls)) := by show _ = _; rw [HD.out]; exact hr
      obtain ⟨c1, c2, c3⟩ := HC.out.at rfl HR.out
      rw [HD.out] at c1 c2 c3
      simp only at c1 c2 c3
      have hlf2 := hlf
      obtain ⟨ld, capl, rfl, -, -⟩ := hlf2
      have k0 : (0 : Int) ≤ k := by omega
      have HTK := hide htk
      have HLF := hide hlf
      have hgw : gb < wo.heap.size := by
        have := (HC.out.1.lt gb rfl).2
        exact this
      clear hr htk hmem hlf htx
      go_wp2_with fail
      refine (icl_leaves_rd _ ls _ hrl HLF.out).mono ?_
      rintro e w2 ⟨v2, rfl, o2, b2⟩
      have hs2 := b2.size
      have s2 := HC.out.step (x := x) (y := y) rfl HR.out b2 o2 hsz
      obtain ⟨l2, cap2, rfl, -, -, l3⟩ := frow_form o2
      have L3 := hide l3
      have o3 := (HC.out.below b2).1
      have f2 := o3.frozenAt (k * 3 + 2)
      have c3' : w2.cell? ⟨gb, k * 3 + 2, none⟩ = some (.slice ld ls.length capl) := (b2.cell hgw).trans c3
      rw [HD.out] at s2
      have HS2 := hide s2
      have HWX := hide ((HW.out.trans (b2.mono hsz)).setCell (p := ⟨gb, k * 3 + 2, none⟩) hgb1 (.slice l2 ls.length cap2))
      have HD2 : Hid ((d ++ [((x, y, .slice l2 ls.length cap2, ls) : Rw)]).length = k + 1) := by show _ = _; rw [List.length_append, HD.out]; rfl
      have HT2 : Hid ((d ++ [((x, y, .slice l2 ls.length cap2, ls) : Rw)]).map tellOf = (rs.take (k + 1)).map tellOf) := by show _ = _; rw [List.map_append, HT.out, HTK.out, List.map_append]; rfl
      have hq := row_cell_set o3 (k * 3 + 2) (.slice l2 ls.length cap2) (by rw [HD.out.symm]; exact (HC.out.below b2).lt3 HR.out)
      clear o2 o3 l3 b2 s2 c1 c2
      go_wp2
      generalize w2.setCell ⟨gb, k * 3 + 2, none⟩ (.slice l2 ls.length cap2) = wX at HS2 HWX hq ⊢
      go_loopw [32] (fun iv wr => ∃ j : Nat, j ≤ ls.length ∧ iv = .int .i64 j ∧ Hid (Below wX.heap.size wX wr)) (fun iv _ => ls.length - (intOf iv).toNat)
      case atStart => exact ⟨0, Nat.zero_le _, rfl, Below.refl _ _⟩
      case round =>
        obtain ⟨j, hj, rfl, HI⟩ := hrel
        have hsi := HI.out.size
        have hq2 : wr.cell? ⟨gb, k * 3 + 2, none⟩ = some (.slice l2 ls.length cap2) := (HI.out.cell (World.block_lt_of_cell? wX _ hq)).trans hq
        by_cases hjl : (j : Int) < ls.length
        · obtain ⟨gl, rfl, hl1, hl2⟩ := L3.out (by omega)
          have hjl2 : j < ls.length := by omega
          obtain ⟨z, t, ht⟩ : ∃ z t, ls[j]? = some (z, t) := ⟨ls[j].1, ls[j].2, List.getElem?_eq_getElem hjl2⟩
          have hts := HTX2.out _ (List.mem_of_getElem? ht)
          simp only at hts
          have hlx := (HS2.out.below HI.out).2.1 (x, y, .slice (some ⟨gl, 0, none⟩) ls.length cap2, ls) (List.mem_append_right _ (List.mem_singleton_self _))
          simp only at hlx
          obtain ⟨d1, d2⟩ := lown_cells hlx.1 ht
          simp only at d1 d2
          have HT3 := hide ht
          have HLX := hide hlx
          have j0 : (0 : Int) ≤ j := by omega
          have hglw : gl < wr.heap.size := World.block_lt_of_cell? wr _ d1
          clear ht hlx
          go_wp2_with fail
          refine (fclone_any t _ hts).mono ?_
          rintro e w4 ⟨rfl, b4⟩
          have d4 : w4.cell? ⟨gl, j * 2 + 1, none⟩ = some (.string t) := (b4.cell hglw).trans d2
          have f4 := (own_below HLX.out.1 b4).frozenAt (j * 2 + 1)
          have B4 := hide (HI.out.trans (b4.mono hsi))
          have SM := hide (setCell_same w4 gl (j * 2 + 1) (.string t) d4)
          clear b4
          go_wp2
          go_roundw
          case rel => exact ⟨j + 1, by omega, by go_num, (by rw [SM.out]; exact B4)⟩
          case measure => simp [intOf]; omega
        · have HCW := hide (HS2.out.below HI.out)
          have HWW := hide (HWX.out.trans (HI.out.mono HWX.out.size))
          go_wp2
          go_roundw
          case rel => exact ⟨k + 1, _, by omega, by go_num, HD2, HT2, HCW, HWW⟩
          case measure => simp [intOf]; omega
    · have hke : k = rs.length := by omega
      have hf := HC.out.done (by rw [HD.out]; exact hke)
      have ht := HT.out
      rw [hke, List.take_of_length_le (Nat.le_refl _)] at ht
      have hz := HZ.out
      have q1 := (HW.out.block (w.heap.size + 1) (by omega)).trans R1.out
      have c1 : wo.cell? ⟨w.heap.size + 1, 0, none⟩ = some (.slice none 0 0) := cell_of_row _ _ 0 _ _ _ q1
      have f1 := frozen_of_row _ _ 0 _ _ q1
      have Q1 := hide (row_set q1 0 (.slice bd rs.length bcap))
      have G := hide (FlashOf.cell (show FlashOf wo w0.heap.size _ (rs.map tellOf) from ⟨d, ht, hf⟩) (show w.heap.size + 1 < w0.heap.size by omega) 0 (.slice bd rs.length bcap))
      have HBE := hide ((HB0.out.trans (HW.out.mono (by omega))).setCell (p := ⟨w.heap.size + 1, 0, none⟩) (by show _ ≤ _ + 1; omega) (.slice bd rs.length bcap))
      have HDN := hide (show w.heap.size ≤ w0.heap.size by omega)
      clear hke hf ht hz q1
      go_wp2
      exact bodyPost_ret (results_cell_row rfl _ _ (w.heap.size + 1) 39 _ (0, 0) _ rfl Q1.out Tryz.underlying39 rfl infoFlash1) rfl ⟨_, rfl, G.out.down HDN.out, HBE.out⟩
end Go.Proofs.YtfmnaidhfgmemaaGreatDoor

namespace Go.Proofs.YtfmnaidhfgmemaaGreatDoor
open Go.RowKit
set_option maxHeartbeats 400000 in
set_option maxRecDepth 100000 in
theorem iat_in (g n cap k : Nat) (w : World) (_hn : n ≤ 1048576) (hk : k < n) :
    Calls Tryz.prog 60 #[.agg #[.slice (some ⟨g, 0, none⟩) n cap], .int .i64 k] w fun e w' => e = .returned (.pointer (some ⟨g, k * 3, none⟩)) ∧ Below w.heap.size w w' := by
  have HB := hide ((Below.refl w.heap.size w).alloc (Nat.le_refl _) (.cells #[.slice (some ⟨g, 0, none⟩) n cap] 39))
  have h1 : (0 : Int) ≤ k := by omega
  have h2 : (k : Int) < n := by omega
  go_enter Tryz.func60, Tryz.ntmps60
  go_wp2
  go_ret
  exact ⟨rfl, HB.out⟩
set_option maxHeartbeats 400000 in
set_option maxRecDepth 100000 in
theorem iat_out (ad : Option Addr) (n cap : Nat) (b : Int) (w : World) (_hn : n ≤ 1048576) (hb : ¬ (0 ≤ b ∧ b ≤ (n : Int) - 1)) :
    Calls Tryz.prog 60 #[.agg #[.slice ad n cap], .int .i64 b] w fun e w' => e = .returned (.pointer none) ∧ Below w.heap.size w w' := by
  have HB := hide ((Below.refl w.heap.size w).alloc (Nat.le_refl _) (.cells #[.slice ad n cap] 39))
  by_cases h0 : b < 0
  · go_enter Tryz.func60, Tryz.ntmps60
    go_wp2
    go_ret
    exact ⟨rfl, HB.out⟩
  · have h1 : (n : Int) ≤ b := by omega
    clear hb
    go_enter Tryz.func60, Tryz.ntmps60
    go_wp2
    go_ret
    exact ⟨rfl, HB.out⟩
set_option maxHeartbeats 400000 in
set_option maxRecDepth 100000 in
theorem ilat_in (g o gl n cap k : Nat) (w : World) (_hn : n ≤ 1048576) (hk : k < n) (hc : w.cell? ⟨g, o + 2, none⟩ = some (.slice (some ⟨gl, 0, none⟩) n cap)) :
    Calls Tryz.prog 174 #[.pointer (some ⟨g, o, none⟩), .int .i64 k] w fun e w' => e = .returned (.pointer (some ⟨gl, k * 2, none⟩)) ∧ w' = w := by
  have h1 : (0 : Int) ≤ k := by omega
  have h2 : (k : Int) < n := by omega
  go_enter Tryz.func174, Tryz.ntmps174
  go_wp2
  go_ret
  exact ⟨rfl, rfl⟩
set_option maxHeartbeats 400000 in
set_option maxRecDepth 100000 in
theorem ilat_out (g o n cap : Nat) (ad : Option Addr) (b : Int) (w : World) (_hn : n ≤ 1048576) (hb : ¬ (0 ≤ b ∧ b ≤ (n : Int) - 1)) (hc : w.cell? ⟨g, o + 2, none⟩ = some (.slice ad n cap)) :
    Calls Tryz.prog 174 #[.pointer (some ⟨g, o, none⟩), .int .i64 b] w fun e w' => e = .returned (.pointer none) ∧ w' = w := by
  by_cases h0 : b < 0
  · go_enter Tryz.func174, Tryz.ntmps174
    go_wp2
    go_ret
    exact ⟨rfl, rfl⟩
  · have h1 : (n : Int) ≤ b := by omega
    clear hb
    go_enter Tryz.func174, Tryz.ntmps174
    go_wp2
    go_ret
    exact ⟨rfl, rfl⟩
end Go.Proofs.YtfmnaidhfgmemaaGreatDoor

namespace Go.Proofs.YtfmnaidhfgmemaaGreatDoor
open Go.RowKit
def useP (bs : List Bk) (b : Int) : Prop := flOk bs = true ∧ 0 ≤ b ∧ ∃ r, bs[b.toNat]? = some r ∧ r.1 = false
set_option maxHeartbeats 400000 in
set_option maxRecDepth 100000 in
theorem iuse_yes (g n cap k : Nat) (rs : List Rw) (r : Rw) (lo hi : Nat) (w : World) (hl : rs.length ≤ 1048576) (hll : ∀ r ∈ rs, r.2.2.2.length ≤ 1048576) (hh : hi ≤ w.heap.size) (ha : FlashIn w lo hi (.slice (some ⟨g, 0, none⟩) n cap) rs)
    (ho : flOk (rs.map tellOf) = true) (hr : rs[k]? = some r) (hb : r.1 = false) :
    Calls Tryz.prog 237 #[.agg #[.slice (some ⟨g, 0, none⟩) n cap], .int .i64 k] w fun e w' => e = .returned (.pointer (some ⟨g, k * 3, none⟩)) ∧ Below w.heap.size w w' := by
  obtain ⟨ad, capa, e, a1, a2, a3⟩ := frow_form ha.1
  injection e with e1 e2 e3
  subst e1 e2 e3
  have hkl := (List.getElem?_eq_some_iff.1 hr).1
  have HLL := hide hll
  have HA := hide ha
  have HR := hide hr
  obtain ⟨g', e, hg1, hg⟩ := a3 (by omega)
  have HGG := hide e
  have hgg : g' = g := by have := HGG.out; simp at this; exact this.symm
  subst hgg
  have HB0 := hide ((Below.refl w.heap.size w).alloc (Nat.le_refl _) (.cells #[.slice (some ⟨g', 0, none⟩) rs.length cap] 39))
  have R0 := hide (heap_alloc_new w (.cells #[.slice (some ⟨g', 0, none⟩) rs.length cap] 39))
  have HA0 := hide (ha.below HB0.out hh)
  have HZ0 := hide (show (w.alloc (.cells #[.slice (some ⟨g', 0, none⟩) rs.length cap] 39)).heap.size = w.heap.size + 1 by simp)
  clear a3 ha hll hr HGG
  go_enter Tryz.func237, Tryz.ntmps237
  go_wp2_with fail
  refine (iok_any _ rs lo hi _ hl HLL.out (by rw [HZ0.out]; omega) HA0.out).mono ?_
  rintro e w1 ⟨rfl, hb1⟩
  rw [ho]
  have HB1 := hide (HB0.out.trans (hb1.mono HB0.out.size))
  have r1 := (hb1.block w.heap.size (by rw [HZ0.out]; omega)).trans R0.out
  have k1 := cell_of_row _ _ 0 _ _ _ r1
  simp at k1
  clear hb1 r1
  go_wp2_with fail
  refine (iat_in g' rs.length cap k _ hl hkl).mono ?_
  rintro e w2 ⟨rfl, hb2⟩
  have HB2 := hide (HB1.out.trans (hb2.mono HB1.out.size))
  clear hb2 HB1
  obtain ⟨c1, -, -⟩ := kown_cells (k := k) (t := cellOf r) HA.out.1 (by rw [List.getElem?_map, HR.out]; rfl)
  have c1 : w2.cell? ⟨g', k * 3, none⟩ = some (.bool r.1) := (HB2.out.cell hg).trans c1
  rw [hb] at c1
  go_wp2
  go_ret
  exact ⟨rfl, HB2.out⟩
set_option maxHeartbeats 400000 in
set_option maxRecDepth 100000 in
theorem iuse_no (v : Value) (rs : List Rw) (lo hi : Nat) (b : Int) (w : World) (hl : rs.length ≤ 1048576) (hll : ∀ r ∈ rs, r.2.2.2.length ≤ 1048576) (hh : hi ≤ w.heap.size) (ha : FlashIn w lo hi v rs) (hno : ¬ useP (rs.map tellOf) b) :
    Calls Tryz.prog 237 #[.agg #[v], .int .i64 b] w fun e w' => e = .returned (.pointer none) ∧ Below w.heap.size w w' := by
  have h1 := ha.1
  obtain ⟨ad, capa, rfl, a1, a2, a3⟩ := frow_form h1
  have HLL := hide hll
  have HA := hide ha
  have A3 := hide a3
  have HNO := hide hno
  clear a3 ha hll h1 hno
  cases ho : flOk (rs.map tellOf) with
  | false =>
    have HB0 := hide ((Below.refl w.heap.size w).alloc (Nat.le_refl _) (.cells #[.slice ad rs.length capa] 39))
    have R0 := hide (heap_alloc_new w (.cells #[.slice ad rs.length capa] 39))
    have HA0 := hide (HA.out.below HB0.out hh)
    have HZ0 := hide (show (w.alloc (.cells #[.slice ad rs.length capa] 39)).heap.size = w.heap.size + 1 by simp)
    go_enter Tryz.func237, Tryz.ntmps237
    go_wp2_with fail
    refine (iok_any _ rs lo hi _ hl HLL.out (by rw [HZ0.out]; omega) HA0.out).mono ?_
    rintro e w1 ⟨rfl, hb1⟩
    rw [ho]
    have HB1 := hide (HB0.out.trans (hb1.mono HB0.out.size))
    have r1 := (hb1.block w.heap.size (by rw [HZ0.out]; omega)).trans R0.out
    have k1 := cell_of_row _ _ 0 _ _ _ r1
    simp at k1
    clear hb1 r1
    go_wp2
    go_ret
    exact ⟨rfl, HB1.out⟩
  | true =>
    by_cases hb : 0 ≤ b ∧ b ≤ (rs.length : Int) - 1
    · obtain ⟨k, rfl⟩ : ∃ k : Nat, b = k := ⟨b.toNat, by omega⟩
      have hkl : k < rs.length := by omega
      have hr : rs[k]? = some rs[k] := List.getElem?_eq_getElem hkl
      generalize rs[k] = r at hr
      have hbad : r.1 = true := by
        cases hq : r.1 with
        | true => rfl
        | false => exact absurd (show useP (rs.map tellOf) (k : Int) from ⟨ho, by omega, tellOf r, by rw [Int.toNat_natCast, List.getElem?_map, hr]; rfl, hq⟩) HNO.out
      obtain ⟨g, rfl, hg1, hg⟩ := A3.out (by omega)
      have HR := hide hr
      have HB0 := hide ((Below.refl w.heap.size w).alloc (Nat.le_refl _) (.cells #[.slice (some ⟨g, 0, none⟩) rs.length capa] 39))
      have R0 := hide (heap_alloc_new w (.cells #[.slice (some ⟨g, 0, none⟩) rs.length capa] 39))
      have HA0 := hide (HA.out.below HB0.out hh)
      have HZ0 := hide (show (w.alloc (.cells #[.slice (some ⟨g, 0, none⟩) rs.length capa] 39)).heap.size = w.heap.size + 1 by simp)
      clear hr hb HNO
      go_enter Tryz.func237, Tryz.ntmps237
      go_wp2_with fail
      refine (iok_any _ rs lo hi _ hl HLL.out (by rw [HZ0.out]; omega) HA0.out).mono ?_
      rintro e w1 ⟨rfl, hb1⟩
      rw [ho]
      have HB1 := hide (HB0.out.trans (hb1.mono HB0.out.size))
      have r1 := (hb1.block w.heap.size (by rw [HZ0.out]; omega)).trans R0.out
      have k1 := cell_of_row _ _ 0 _ _ _ r1
      simp at k1
      clear hb1 r1
      go_wp2_with fail
      refine (iat_in g rs.length capa k _ hl hkl).mono ?_
      rintro e w2 ⟨rfl, hb2⟩
      have HB2 := hide (HB1.out.trans (hb2.mono HB1.out.size))
      clear hb2 HB1
      obtain ⟨c1, -, -⟩ := kown_cells (k := k) (t := cellOf r) HA.out.1 (by rw [List.getElem?_map, HR.out]; rfl)
      have c1 : w2.cell? ⟨g, k * 3, none⟩ = some (.bool r.1) := (HB2.out.cell hg).trans c1
      rw [hbad] at c1
      go_wp2
      go_ret
      exact ⟨rfl, HB2.out⟩
    · have HB0 := hide ((Below.refl w.heap.size w).alloc (Nat.le_refl _) (.cells #[.slice ad rs.length capa] 39))
      have R0 := hide (heap_alloc_new w (.cells #[.slice ad rs.length capa] 39))
      have HA0 := hide (HA.out.below HB0.out hh)
      have HZ0 := hide (show (w.alloc (.cells #[.slice ad rs.length capa] 39)).heap.size = w.heap.size + 1 by simp)
      go_enter Tryz.func237, Tryz.ntmps237
      go_wp2_with fail
      refine (iok_any _ rs lo hi _ hl HLL.out (by rw [HZ0.out]; omega) HA0.out).mono ?_
      rintro e w1 ⟨rfl, hb1⟩
      rw [ho]
      have HB1 := hide (HB0.out.trans (hb1.mono HB0.out.size))
      have r1 := (hb1.block w.heap.size (by rw [HZ0.out]; omega)).trans R0.out
      have k1 := cell_of_row _ _ 0 _ _ _ r1
      simp at k1
      clear hb1 r1
      go_wp2_with fail
      refine (iat_out ad rs.length capa b _ hl hb).mono ?_
      rintro e w2 ⟨rfl, hb2⟩
      have HB2 := hide (HB1.out.trans (hb2.mono HB1.out.size))
      clear hb2 HB1
      go_wp2
      go_ret
      exact ⟨rfl, HB2.out⟩
end Go.Proofs.YtfmnaidhfgmemaaGreatDoor

namespace Go.Proofs.YtfmnaidhfgmemaaGreatDoor
open Go.RowKit
def After (w w' : World) (g2 : Nat) (v : Value) (bs : List Bk) : Prop :=
  w'.heap[w.heap.size + 1]? = some (.cells #[.slice none 0 0] 39 (0, 0)) ∧ w'.heap[g2]? = some (.cells #[v] 39 (0, 0)) ∧ FlashOf w' (w.heap.size + 2) v bs ∧ Below w.heap.size w w'
theorem After.below {w w' w'' : World} {g2 : Nat} {v : Value} {bs : List Bk} (h : After w w' g2 v bs) (hb : Below w'.heap.size w' w'') : After w w'' g2 v bs := by
  obtain ⟨h1, h2, h3, h4⟩ := h
  exact ⟨(hb.block _ (Array.getElem?_eq_some_iff.1 h1).1).trans h1, (hb.block _ (Array.getElem?_eq_some_iff.1 h2).1).trans h2, h3.below hb, h4.trans (hb.mono h4.size)⟩
theorem after_start {w w1 : World} {arg v : Value} {bs : List Bk} (fo : FlashOf w1 (w.heap.size + 2) v bs) (b1 : Below (w.heap.size + 2) ((w.alloc (.cells #[arg] 39)).alloc (.cells #[.slice none 0 0] 39)) w1) : After w (w1.alloc (.cells #[v] 39)) w1.heap.size v bs := by
  have hb0 := ((Below.refl w.heap.size w).alloc (Nat.le_refl _) (.cells #[arg] 39)).alloc (by simp) (.cells #[.slice none 0 0] 39)
  have r1 := heap_alloc_new (w.alloc (.cells #[arg] 39)) (.cells #[.slice none 0 0] 39)
  rw [show (w.alloc (.cells #[arg] 39)).heap.size = w.heap.size + 1 by simp] at r1
  have hs := b1.size
  simp at hs
  have b2 := (Below.refl w1.heap.size w1).alloc (Nat.le_refl _) (.cells #[v] 39)
  exact ⟨(b2.block _ (by omega)).trans ((b1.block _ (by omega)).trans r1), heap_alloc_new w1 _, fo.below b2, (hb0.trans (b1.mono (by omega))).trans (b2.mono (by omega))⟩
theorem tell_get {rs ss : List Rw} (h : rs.map tellOf = ss.map tellOf) (k : Nat) (r : Rw) (hr : rs[k]? = some r) : ∃ s, ss[k]? = some s ∧ tellOf r = tellOf s := by
  have h1 := congrArg (fun l : List Bk => l[k]?) h
  simp only [List.getElem?_map, hr, Option.map_some] at h1
  cases hs : ss[k]? with
  | none => rw [hs] at h1; cases h1
  | some s =>
    rw [hs] at h1
    exact ⟨s, rfl, by simpa using h1⟩
theorem tell_lens {ss rs : List Rw} (h : ss.map tellOf = rs.map tellOf) (hl : rs.length ≤ 1048576) (hll : ∀ r ∈ rs, r.2.2.2.length ≤ 1048576) : ss.length ≤ 1048576 ∧ ∀ r ∈ ss, r.2.2.2.length ≤ 1048576 := by
  have h1 := congrArg List.length h
  simp only [List.length_map] at h1
  refine ⟨by omega, fun r hr => ?_⟩
  obtain ⟨k, hk, rfl⟩ := List.getElem_of_mem hr
  obtain ⟨s, hs, e⟩ := tell_get h k _ (List.getElem?_eq_getElem hk)
  have h2 := congrArg (fun x : Bk => x.2.2.length) e
  simp only [tellOf] at h2
  rw [h2]
  exact hll s (List.mem_of_getElem? hs)
theorem use_yes {ss : List Rw} {b : Int} (h : useP (ss.map tellOf) b) : ∃ (k : Nat) (s : Rw), b = k ∧ ss[k]? = some s ∧ s.1 = false := by
  obtain ⟨-, h0, r, hr, hf⟩ := h
  rw [List.getElem?_map] at hr
  obtain ⟨s, hs, rfl⟩ := Option.map_eq_some_iff.1 hr
  exact ⟨b.toNat, s, by omega, hs, hf⟩
theorem flOk_four {bs : List Bk} {b : Bk} (h : flOk bs = true) (hb : b ∈ bs) : b.2.2.length = 4 := by
  simp only [flOk, Bool.and_eq_true, List.all_eq_true] at h
  have h2 := h.2 b hb
  simp only [blkOk, Bool.and_eq_true, decide_eq_true_eq] at h2
  exact h2.1.1
theorem prog_nouse {bs : List Bk} {b leaf : Int} {t : ByteArray} (h : ¬ useP bs b) : programF bs b leaf t = (bs, false) := by
  unfold programF
  cases ho : flOk bs with
  | false => rfl
  | true =>
    have : mayP bs b leaf t = false := by
      unfold mayP
      cases hb : bs[b.toNat]? with
      | none => rfl
      | some r => exact decide_eq_false (fun hh => h ⟨ho, hh.1, r, hb, hh.2.1⟩)
    rw [this]
    rfl
theorem prog_in {bs : List Bk} {k : Nat} {r : Bk} {leaf : Int} {t : ByteArray} (ho : flOk bs = true) (hr : bs[k]? = some r) (hf : r.1 = false) :
    (leaf < 4 ∧ leaf = (nextB r.2.2 : Nat) ∧ fillsP t = true → programF bs (k : Int) leaf t = (putLeaf bs k leaf.toNat t, true)) ∧ (¬ (leaf < 4 ∧ leaf = (nextB r.2.2 : Nat) ∧ fillsP t = true) → programF bs (k : Int) leaf t = (bs, false)) := by
  unfold programF mayP
  rw [ho, Int.toNat_natCast, hr]
  simp only [Bool.true_and, fillsP, decide_eq_true_eq]
  refine ⟨fun hh => ?_, fun hh => ?_⟩
  · rw [if_pos ⟨by omega, hf, hh.1, hh.2.1, by omega, by omega⟩]
  · rw [if_neg (fun hq => hh ⟨hq.2.2.1, hq.2.2.2.1, by omega, by omega⟩)]
end Go.Proofs.YtfmnaidhfgmemaaGreatDoor
