/-
  impl.Wipe.
-/
import Derived.Test.YthkkefbhcmhijaaAfterW
namespace Go.Proofs.Ythkkefbhcmhijaa
open Go.RowKit

set_option maxHeartbeats 800000 in
set_option maxRecDepth 100000 in
theorem iwipe_rd (v : Value) (rs : List Rw) (b : Int) (w : World) (hl : rs.length ≤ 1048576) (hll : ∀ r ∈ rs, r.2.2.2.length ≤ 1048576) (htx : TxB rs) (ha : FlashRd w v rs) :
    Calls Try.prog 13 #[.agg #[v], .int .i64 b] w fun e w' => ∃ u, e = .returned (.tuple #[.agg #[u], .bool (wipeF (rs.map tellOf) b).2]) ∧ FlashOf w' w.heap.size u (wipeF (rs.map tellOf) b).1 ∧ Below w.heap.size w w' := by
  have HLL := hide hll
  have HTX := hide htx
  have h1 := ha
  obtain ⟨vd, vcap, rfl, -, -⟩ := h1
  have hb0 := ((Below.refl w.heap.size w).alloc (Nat.le_refl _) (.cells #[.slice vd rs.length vcap] 26)).alloc (by simp) (.cells #[.slice none 0 0] 26)
  have HA := hide (ha.below hb0)
  have HZ := hide (show ((w.alloc (.cells #[.slice vd rs.length vcap] 26)).alloc (.cells #[.slice none 0 0] 26)).heap.size = w.heap.size + 2 by simp)
  clear ha hll htx hb0
  go_enter Try.func13, Try.ntmps13
  go_wp2_with fail
  refine (icopy_rd _ rs _ hl HLL.out HTX.out HA.out).mono ?_
  rintro e w1 ⟨u, rfl, fo, b1⟩
  obtain ⟨ud, ucap, rfl⟩ := fo.form
  rw [List.length_map] at fo
  rw [List.length_map]
  rw [HZ.out] at fo b1
  have AF2 := hide (after_start fo b1)
  clear fo b1 HA HZ
  go_wp2_with fail
  generalize w1.alloc (.cells #[.slice ud rs.length ucap] 26) = w2 at AF2 ⊢
  generalize w1.heap.size = g2 at AF2 ⊢
  obtain ⟨ss, hss, hin⟩ := AF2.out.2.2.1
  obtain ⟨sl, sll⟩ := tell_lens hss hl HLL.out
  have hlen : ss.length = rs.length := by have := congrArg List.length hss; simpa using this
  have HSS := hide hss
  have HIN := hide hin
  have HSL := hide sll
  clear hss hin sll
  by_cases huse : useP (rs.map tellOf) b
  · have ho := huse.1
    rw [← HSS.out] at huse
    obtain ⟨k, s, rfl, hs, hsf⟩ := use_yes huse
    have hin1 := HIN.out.1
    obtain ⟨ad, acap, e0, -, -, a3⟩ := frow_form hin1
    injection e0 with e1 e2 e3
    subst e1 e3
    obtain ⟨gu, rfl, hgu1, hgu⟩ := a3 (by have := (List.getElem?_eq_some_iff.1 hs).1; omega)
    have hkl := (List.getElem?_eq_some_iff.1 hs).1
    have HSR : Hid ((rs.map tellOf)[k]? = some (tellOf s)) := by show _ = _; rw [← HSS.out, List.getElem?_map, hs]; rfl
    have HS := hide hs
    have HPI := hide (wipe_in ho HSR.out hsf)
    have h4 : s.2.2.2.length = 4 := flOk_four ho (List.mem_of_getElem? HSR.out)
    have hwr : 0 ≤ s.2.1 ∧ s.2.1 ≤ 1000000000 := wear_in ho (List.mem_of_getElem? HSR.out)
    clear huse a3 hin1 e2 hs
    have k0 : (0 : Int) ≤ k := by omega
    refine (iuse_yes gu rs.length ucap k ss s _ _ _ sl HSL.out (Nat.le_refl _) HIN.out (by rw [HSS.out]; exact ho) HS.out hsf).mono ?_
    rintro e w3 ⟨rfl, b3⟩
    have AF3 := hide (AF2.out.below b3)
    clear b3 ho
    obtain ⟨x, y, u2, ls⟩ := s
    simp only at h4 hwr hsf
    subst hsf
    simp only [tellOf] at HPI HSR
    have H4 := hide h4
    obtain ⟨hw1, hw2⟩ := hwr
    clear h4
    obtain ⟨gu', e9, c1, f1, hput⟩ := AF3.out.wear HSR.out
    injection e9 with e9
    injection e9 with e9
    subst e9
    simp only at c1
    by_cases hy : y = 1000000000
    · have HP : Hid (wipeF (rs.map tellOf) (k : Int) = (rs.map tellOf, false)) := HPI.out.1 hy
      have e1 : (y == 1000000000) = true := by simp [hy]
      clear hput hy
      have n1 : w3.cell? ⟨w.heap.size + 1, 0, none⟩ = some (.slice none 0 0) := cell_of_row _ _ 0 _ _ _ AF3.out.1
      have n2 : w3.cell? ⟨g2, 0, none⟩ = some (.slice (some ⟨gu, 0, none⟩) rs.length ucap) := cell_of_row _ _ 0 _ _ _ AF3.out.2.1
      have o1 := frozen_of_row _ _ 0 _ _ AF3.out.1
      have Q1 := hide (row_set AF3.out.1 0 (.slice (some ⟨gu, 0, none⟩) rs.length ucap))
      have G := hide (AF3.out.2.2.1.cell (show w.heap.size + 1 < w.heap.size + 2 by omega) 0 (.slice (some ⟨gu, 0, none⟩) rs.length ucap))
      have HBE := hide (AF3.out.2.2.2.setCell (p := ⟨w.heap.size + 1, 0, none⟩) (by show _ ≤ _ + 1; omega) (.slice (some ⟨gu, 0, none⟩) rs.length ucap))
      go_wp2
      exact bodyPost_ret (results_flash2 rfl _ _ (w.heap.size + 1) _ rfl Q1.out) rfl ⟨_, by rw [HP.out]; rfl, by rw [HP.out]; exact G.out.down (by omega), HBE.out⟩
    · have HP : Hid (wipeF (rs.map tellOf) (k : Int) = ((rs.map tellOf).modify k (fun r => (false, r.2.1 + 1, blank4)), true)) := HPI.out.2 hy
      have e1 : (y == 1000000000) = false := by simpa using hy
      have hwy : IntKind.i64.wrap (y + 1) = y + 1 := by rw [IntKind.wrap_i64]; omega
      have hput := hput (y + 1)
      rw [modify_eq _ HSR.out] at hput
      simp only at hput
      have AF4 := hide hput
      obtain ⟨gu', gl, lcap, e9, c9, -, -, -, -, -⟩ := hput.put (j := 0) (modify_at HSR.out) (by show 0 < ls.length; rw [H4.out]; omega)
      injection e9 with e9
      injection e9 with e9
      subst e9
      simp only at c9
      clear hy hput
      go_wp2
      generalize w3.setCell ⟨gu, k * 3 + 1, none⟩ (.int .i64 (y + 1)) = w4 at AF4 c9 ⊢
      go_loopw [36] (fun iv wr => ∃ j : Nat, j ≤ 4 ∧ iv = .int .i64 j ∧ Hid (After w wr g2 (.slice (some ⟨gu, 0, none⟩) rs.length ucap) ((rs.map tellOf).modify k (fun _ => (false, y + 1, blanked j ls)))) ∧ Hid (wr.cell? ⟨gu, k * 3 + 2, none⟩ = some (.slice (some ⟨gl, 0, none⟩) ls.length lcap))) (fun iv _ => 4 - (intOf iv).toNat)
      case atStart => exact ⟨0, Nat.zero_le _, rfl, AF4, c9⟩
      case round =>
        obtain ⟨j, hj, rfl, AF, C⟩ := hrel
        have hl4 := H4.out
        by_cases hlt : (j : Int) < ls.length
        · have j0 : (0 : Int) ≤ j := by omega
          obtain ⟨gu', gl', lcap', e9, c8, ⟨x1, d1⟩, ⟨x2, d2⟩, g1, g2', hput⟩ := AF.out.put (j := j) (modify_at HSR.out) (by show j < (blanked j ls).length; rw [blanked_len (by omega)]; omega)
          injection e9 with e9
          injection e9 with e9
          subst e9
          simp only [blanked_len (show j ≤ ls.length by omega)] at c8
          have c8' := C.out
          rw [c8] at c8'
          injection c8' with c8'
          injection c8' with c11 c12 c13
          injection c11 with c11
          injection c11 with c11
          subst c11
          have hput := hput 0 ⟨#[]⟩
          rw [modify_modify] at hput
          simp only [blanked_succ (show j < ls.length by omega)] at hput
          have AF5 := hide hput
          have c9 : (((wr.setCell ⟨gl', j * 2, none⟩ (.int .i64 0)).setCell ⟨gl', j * 2 + 1, none⟩ (.string ⟨#[]⟩)).cell? ⟨gu, k * 3 + 2, none⟩) = some (.slice (some ⟨gl', 0, none⟩) ls.length lcap) := cell_two C.out (AF.out.apart (modify_at HSR.out) C.out)
          have C9 := hide c9
          clear hput c9 c12 c13 hl4
          go_wp2
          go_roundw
          case rel => exact ⟨j + 1, by have := H4.out; omega, by go_num, AF5, C9⟩
          case measure =>
            have := H4.out
            simp [intOf]
            omega
        · have hj4 : j = 4 := by omega
          subst hj4
          have AF5 := AF
          rw [blanked_four H4.out] at AF5
          have HP2 : Hid (wipeF (rs.map tellOf) (k : Int) = ((rs.map tellOf).modify k (fun _ => (false, y + 1, blank4)), true)) := by show _ = _; rw [HP.out, modify_eq _ HSR.out]
          clear HP AF hl4
          have HP := HP2
          clear HP2
          have n1 : wr.cell? ⟨w.heap.size + 1, 0, none⟩ = some (.slice none 0 0) := cell_of_row _ _ 0 _ _ _ AF5.out.1
          have n2 : wr.cell? ⟨g2, 0, none⟩ = some (.slice (some ⟨gu, 0, none⟩) rs.length ucap) := cell_of_row _ _ 0 _ _ _ AF5.out.2.1
          have o1 := frozen_of_row _ _ 0 _ _ AF5.out.1
          have Q1 := hide (row_set AF5.out.1 0 (.slice (some ⟨gu, 0, none⟩) rs.length ucap))
          have G := hide (AF5.out.2.2.1.cell (show w.heap.size + 1 < w.heap.size + 2 by omega) 0 (.slice (some ⟨gu, 0, none⟩) rs.length ucap))
          have HBE := hide (AF5.out.2.2.2.setCell (p := ⟨w.heap.size + 1, 0, none⟩) (by show _ ≤ _ + 1; omega) (.slice (some ⟨gu, 0, none⟩) rs.length ucap))
          go_wp2
          exact bodyPost_ret (results_flash2 rfl _ _ (w.heap.size + 1) _ rfl Q1.out) rfl ⟨_, by rw [HP.out]; rfl, by rw [HP.out]; exact G.out.down (by omega), HBE.out⟩
  · have HP : Hid (wipeF (rs.map tellOf) b = (rs.map tellOf, false)) := wipe_nouse huse
    refine (iuse_no _ ss _ _ b _ sl HSL.out (Nat.le_refl _) HIN.out (by rw [HSS.out]; exact huse)).mono ?_
    rintro e w3 ⟨rfl, b3⟩
    have AF3 := hide (AF2.out.below b3)
    clear b3 huse
    have n1 : w3.cell? ⟨w.heap.size + 1, 0, none⟩ = some (.slice none 0 0) := cell_of_row _ _ 0 _ _ _ AF3.out.1
    have n2 : w3.cell? ⟨g2, 0, none⟩ = some (.slice ud rs.length ucap) := cell_of_row _ _ 0 _ _ _ AF3.out.2.1
    have o1 := frozen_of_row _ _ 0 _ _ AF3.out.1
    have Q1 := hide (row_set AF3.out.1 0 (.slice ud rs.length ucap))
    have G := hide (AF3.out.2.2.1.cell (show w.heap.size + 1 < w.heap.size + 2 by omega) 0 (.slice ud rs.length ucap))
    have HBE := hide (AF3.out.2.2.2.setCell (p := ⟨w.heap.size + 1, 0, none⟩) (by show _ ≤ _ + 1; omega) (.slice ud rs.length ucap))
    go_wp2
    exact bodyPost_ret (results_flash2 rfl _ _ (w.heap.size + 1) _ rfl Q1.out) rfl ⟨_, by rw [HP.out]; rfl, by rw [HP.out]; exact G.out.down (by omega), HBE.out⟩
theorem iwipe_any (v : Value) (rs : List Rw) (lo hi : Nat) (b : Int) (w : World) (hl : rs.length ≤ 1048576) (hll : ∀ r ∈ rs, r.2.2.2.length ≤ 1048576) (htx : TxB rs) (_hh : hi ≤ w.heap.size) (ha : FlashIn w lo hi v rs) :
    Calls Try.prog 13 #[.agg #[v], .int .i64 b] w fun e w' => ∃ u, e = .returned (.tuple #[.agg #[u], .bool (wipeF (rs.map tellOf) b).2]) ∧ FlashOf w' w.heap.size u (wipeF (rs.map tellOf) b).1 ∧ Below w.heap.size w w' := iwipe_rd v rs b w hl hll htx ha.rd
end Go.Proofs.Ythkkefbhcmhijaa
