/-
  spec.FlashNew.
-/
import Derived.Test.YthkkefbhcmhijaaPq13
import Derived.Test.YthkkefbhcmhijaaFPut
import Derived.Deep.RegionLaw
import Derived.Deep.AppendLies
namespace Go.Proofs.Ythkkefbhcmhijaa
open Go.RowKit

def NewS (w wr : World) (out : Value) (d : List Rw) : Prop :=
  wr.heap[w.heap.size]? = some (.cells #[.slice none 0 0] 26 (0, 0)) ∧ wr.heap[w.heap.size + 1]? = some (.cells #[out] 26 (0, 0)) ∧ FlashIn wr (w.heap.size + 2) wr.heap.size out d ∧ Below w.heap.size w wr
theorem NewS.below {w wr w' : World} {out : Value} {d : List Rw} (h : NewS w wr out d) (hb : Below wr.heap.size wr w') : NewS w w' out d := by
  obtain ⟨h2, h3, h4, h5⟩ := h
  have l3 := (Array.getElem?_eq_some_iff.1 h3).1
  exact ⟨(hb.block _ (by omega)).trans h2, (hb.block _ (by omega)).trans h3, (h4.below hb (Nat.le_refl _)).up hb.size, h5.trans (hb.mono h5.size)⟩
theorem NewS.snoc {w wr w' : World} {out out' : Value} {d : List Rw} {r : Rw} {B' : Nat} (h : NewS w wr out d) (hg : wr.grownBy w' out.ownBlock)
    (ho : w'.ownsRow (w.heap.size + 2) 33 3 out' (d.length + 1) (kcells (d.map cellOf) ++ [.bool r.1, .int .i64 r.2.1, r.2.2.1])) (hl : wr.ownsRow B' 41 2 r.2.2.1 r.2.2.2.length (lcells r.2.2.2)) (hB : w.heap.size + 2 ≤ B')
    (hfresh : ∀ q ∈ d, ∀ g, q.2.2.1.ownBlock = some g → g < B') : NewS w (w'.setCell ⟨w.heap.size + 1, 0, none⟩ out') out' (d ++ [r]) := by
  obtain ⟨h2, h3, h4, h5⟩ := h
  have l3 := (Array.getElem?_eq_some_iff.1 h3).1
  have hne : ∀ i, i < w.heap.size + 2 → some i ≠ out.ownBlock := fun i hi e => by
    have := (own_block_lt h4.1 i e.symm).1
    omega
  have hf := h4.snoc hg ho hl hB hfresh
  refine ⟨row_set_ne ((hg.block _ (by omega) (hne _ (by omega))).trans h2) (by omega) _ _, row_set ((hg.block _ (by omega) (hne _ (by omega))).trans h3) _ _, hf.cellb (by omega) _ _, ?_⟩
  exact (h5.trans ((Below.refl w.heap.size wr).grown hg h5.size (fun k hk => by have := (own_block_lt h4.1 k hk).1; omega))).setCell (p := ⟨w.heap.size + 1, 0, none⟩) (by show _ ≤ _ + 1; omega) _
set_option maxHeartbeats 800000 in
set_option maxRecDepth 100000 in
theorem snew_any (n : Int) (w : World) :
    Calls Try.prog 27 #[.int .i64 n] w fun e w' => ∃ u, e = .returned (.tuple #[.agg #[u], .bool (decide (3 ≤ n ∧ n ≤ 10))]) ∧ FlashOf w' w.heap.size u (newF n) ∧ Below w.heap.size w w' := by
  have hb0 := (Below.refl w.heap.size w).alloc (Nat.le_refl _) (.cells #[.slice none 0 0] 26)
  have HB0 := hide hb0
  have R0 := hide (heap_alloc_new w (.cells #[.slice none 0 0] 26))
  have HZ := hide (show (w.alloc (.cells #[.slice none 0 0] 26)).heap.size = w.heap.size + 1 by simp)
  clear hb0
  generalize hq : decide (3 ≤ n ∧ n ≤ 10) = bb
  by_cases hc : 3 ≤ n ∧ n ≤ 10
  · obtain ⟨m, rfl⟩ : ∃ m : Nat, n = m := ⟨n.toNat, by omega⟩
    have hcd : decide (3 ≤ (m : Int) ∧ (m : Int) ≤ 10) = true := decide_eq_true hc
    obtain rfl : bb = true := hq.symm.trans hcd
    clear hq
    have hm1 : 3 ≤ m := by omega
    have hm2 : m ≤ 10 := by omega
    have hm0 : (0 : Int) ≤ m := by omega
    clear hc
    go_enter Try.func27, Try.ntmps27
    go_wp2_with fail
    refine (sin_any (m : Int) 3 10 _).mono ?_
    rintro e w1 ⟨rfl, rfl⟩
    rw [hcd]
    clear hcd
    generalize w.alloc (.cells #[.slice none 0 0] 26) = w1 at HB0 R0 HZ ⊢
    have hb1 := (Below.refl w1.heap.size w1).alloc (Nat.le_refl _) (.cells #[.slice none 0 0] 26)
    have r1 := heap_alloc_new w1 (.cells #[.slice none 0 0] 26)
    have hz := HZ.out
    rw [hz] at r1
    have HS1 : Hid (NewS w (w1.alloc (.cells #[.slice none 0 0] 26)) (.slice none 0 0) []) :=
      ⟨(hb1.block _ (by omega)).trans R0.out, r1, ⟨⟨rfl, .inl ⟨rfl, rfl⟩⟩, fun g hg => (by cases hg), fun r hr => (by cases hr), List.Pairwise.nil⟩, HB0.out.trans (hb1.mono (by omega))⟩
    clear hb1 r1
    go_wp2
    clear hz
    generalize w1.alloc (.cells #[.slice none 0 0] 26) = w2 at HS1 ⊢
    go_loopw [5] (fun iv wr => ∃ (k : Nat) (out : Value) (d : List Rw), k ≤ m ∧ iv = .int .i64 k ∧ Hid (d.length = k) ∧ Hid (d.map tellOf = List.replicate k (false, 0, blank4)) ∧ Hid (NewS w wr out d)) (fun iv _ => m - (intOf iv).toNat)
    case atStart => exact ⟨0, _, [], Nat.zero_le _, rfl, rfl, rfl, HS1⟩
    case round =>
      obtain ⟨k, out, d, hk, rfl, HD, HT, HS⟩ := hrel
      obtain ⟨s2, s3, s4, s5⟩ := HS.out
      have l3 := (Array.getElem?_eq_some_iff.1 s3).1
      have hsz := s5.size
      have hres : wr.cell? ⟨w.heap.size, 0, none⟩ = some (.slice none 0 0) := cell_of_row _ _ 0 _ _ _ s2
      have hout : wr.cell? ⟨w.heap.size + 1, 0, none⟩ = some out := cell_of_row _ _ 0 _ _ _ s3
      have fres := frozen_of_row _ _ 0 _ _ s2
      have fout := frozen_of_row _ _ 0 _ _ s3
      obtain ⟨od, ocap, rfl, -, -, -⟩ := frow_form s4.1
      have HF := hide s4
      have S2 := hide s2
      have HBB := hide s5
      clear s2 s3 s4 s5
      by_cases hlt : (k : Int) < m
      · have k0 : (0 : Int) ≤ k := by omega
        obtain ⟨i0, hi0, hz0, hz1, hz2⟩ := info_parts infoBlock
        have MK := make4
        have hdl : d.length ≤ 10 := by have := HD.out; omega
        have b4 := (((Below.refl wr.heap.size wr).alloc (Nat.le_refl _) (.cells leaf4 41)).alloc (by simp) (.cells #[.bool false, .int .i64 0, .slice (some ⟨wr.heap.size, 0, none⟩) 4 4] 33)).drew
        have HS4 := hide (HS.out.below b4)
        have HB4 := hide b4
        have HL4 : Hid (((wr.alloc (.cells leaf4 41)).alloc (.cells #[.bool false, .int .i64 0, .slice (some ⟨wr.heap.size, 0, none⟩) 4 4] 33)).drew.ownsRow wr.heap.size 41 2 (.slice (some ⟨wr.heap.size, 0, none⟩) 4 4) blank4.length (lcells blank4)) := hide ((own4 wr).alloc (.cells #[.bool false, .int .i64 0, .slice (some ⟨wr.heap.size, 0, none⟩) 4 4] 33))
        have HN4 : Hid (∀ (j : Nat) (u : Value), [Value.bool false, Value.int .i64 0, Value.slice (some ⟨wr.heap.size, 0, none⟩) 4 4][j]? = some u → ((wr.alloc (.cells leaf4 41)).alloc (.cells #[.bool false, .int .i64 0, .slice (some ⟨wr.heap.size, 0, none⟩) 4 4] 33)).drew.cell? ((⟨wr.heap.size + 1, 0, none⟩ : Addr).add j) = some u) := hide (cells_new (wr.alloc (.cells leaf4 41)) #[.bool false, .int .i64 0, .slice (some ⟨wr.heap.size, 0, none⟩) 4 4] 33 (wr.heap.size + 1) (by simp))
        have HZ4 := hide (show w.heap.size + 2 ≤ ((wr.alloc (.cells leaf4 41)).alloc (.cells #[.bool false, .int .i64 0, .slice (some ⟨wr.heap.size, 0, none⟩) 4 4] 33)).drew.heap.size by simp; omega)
        have ka : (wr.alloc (.cells leaf4 41)).cell? ⟨w.heap.size + 1, 0, none⟩ = some (.slice od d.length ocap) := (World.cell?_alloc_lt _ _ _ (show w.heap.size + 1 < wr.heap.size from l3)).trans hout
        have kb : ((wr.alloc (.cells leaf4 41)).alloc (.cells #[.bool false, .int .i64 0, .slice (some ⟨wr.heap.size, 0, none⟩) 4 4] 33)).cell? ⟨w.heap.size + 1, 0, none⟩ = some (.slice od d.length ocap) := (b4.cell (show w.heap.size + 1 < wr.heap.size from l3)).trans hout
        have HNE : Hid (some (w.heap.size + 1) ≠ (Value.slice od d.length ocap).ownBlock) := fun e => by
          have := (own_block_lt HF.out.1 _ e.symm).1
          omega
        clear b4
        go_wp2
        go_region_law (
          (refine step_append_lies _ (by rfl) (.tmp 17) (.tmp 20) 24 (by rfl) (w.heap.size + 2) 33 i0 (.agg #[.bool false, .int .i64 0, .slice none 0 0]) 3 40 Try.underlying24 hi0 hz0 hz1 hz2 rfl (by decide) _ d.length (kcells (d.map cellOf)) (by simp [Act.eval]) HS4.out.2.2.1.1 ⟨wr.heap.size + 1, 0, none⟩ 1 1 [.bool false, .int .i64 0, .slice (some ⟨wr.heap.size, 0, none⟩) 4 4] (by simp [Act.eval]) (by rfl) HN4.out (blk_one _ _ _ _ _) (by omega) (by unfold maxLen; omega) (by omega) HZ4.out _ rfl ?_; intro g6 cap6 w6 o6 gr6 hat hlt6; have t6 := (gr6.block _ ((Array.getElem?_eq_some_iff.1 HS4.out.2.1).1) HNE.out).trans HS4.out.2.1; have x6 : w6.cell? ⟨w.heap.size + 1, 0, none⟩ = some (.slice od d.length ocap) := cell_of_row _ _ 0 _ _ _ t6; have y6 := frozen_of_row _ _ 0 _ _ t6))
        all_goals
          have hfr : ∀ q ∈ d, ∀ g, q.2.2.1.ownBlock = some g → g < wr.heap.size := fun q hq g hq2 => (HF.out.2.2.1 q hq).2 g hq2
          have C7 := hide (NewS.snoc (r := (false, 0, .slice (some ⟨wr.heap.size, 0, none⟩) 4 4, blank4)) HS4.out gr6 o6 HL4.out (by omega) hfr)
          have HD7 : Hid ((d ++ [((false, 0, .slice (some ⟨wr.heap.size, 0, none⟩) 4 4, blank4) : Rw)]).length = k + 1) := by show _ = _; rw [List.length_append, HD.out]; rfl
          have HT7 : Hid ((d ++ [((false, 0, .slice (some ⟨wr.heap.size, 0, none⟩) 4 4, blank4) : Rw)]).map tellOf = List.replicate (k + 1) (false, 0, blank4)) := by show _ = _; rw [List.map_append, HT.out, List.replicate_succ']; rfl
          clear hfr gr6 o6 t6 x6 y6 hat hlt6 ka kb
          go_wp2
          go_roundw
          case rel => exact ⟨k + 1, _, _, by omega, by go_num, HD7, HT7, C7⟩
          case measure => simp [intOf]; omega
      · have hke : k = m := by omega
        have HN : Hid (newF (m : Int) = d.map tellOf) := by
          show _ = _
          unfold newF
          rw [if_pos (by omega), HT.out, hke]
          rfl
        have Q2 := hide (row_set S2.out 0 (.slice od d.length ocap))
        have HF2 := hide (HF.out.cellb (show w.heap.size < w.heap.size + 2 by omega) 0 (.slice od d.length ocap))
        have HBE := hide (HBB.out.setCell (p := ⟨w.heap.size, 0, none⟩) (Nat.le_refl _) (.slice od d.length ocap))
        clear hke
        go_wp2
        exact bodyPost_ret (results_flash2 rfl _ _ w.heap.size _ rfl Q2.out) rfl ⟨_, rfl, by rw [HN.out]; exact ⟨d, rfl, HF2.out.down (by omega)⟩, HBE.out⟩
  · have hcd : decide (3 ≤ n ∧ n ≤ 10) = false := decide_eq_false hc
    have HN : Hid (newF n = []) := by show _ = _; unfold newF; rw [if_neg hc]
    obtain rfl : bb = false := hq.symm.trans hcd
    clear hc hq
    go_enter Try.func27, Try.ntmps27
    go_wp2_with fail
    refine (sin_any n 3 10 _).mono ?_
    rintro e w1 ⟨rfl, rfl⟩
    rw [hcd]
    clear hcd
    have c0 : (w.alloc (.cells #[.slice none 0 0] 26)).cell? ⟨w.heap.size, 0, none⟩ = some (.slice none 0 0) := cell_of_row _ _ 0 _ _ _ R0.out
    have f0 := frozen_of_row _ _ 0 _ _ R0.out
    go_wp2
    exact bodyPost_ret (results_flash2 rfl _ _ w.heap.size _ rfl R0.out) rfl ⟨_, rfl, by rw [HN.out]; exact ⟨[], rfl, ⟨rfl, .inl ⟨rfl, rfl⟩⟩, fun g hg => (by cases hg), fun r hr => (by cases hr), List.Pairwise.nil⟩, HB0.out⟩
end Go.Proofs.Ythkkefbhcmhijaa
