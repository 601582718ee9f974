/-
  impl.Program.
-/
import Derived.Test.YthkkefbhcmhijaaAfter
namespace Go.Proofs.Ythkkefbhcmhijaa
open Go.RowKit

set_option maxHeartbeats 500000 in
set_option maxRecDepth 100000 in
theorem iprog_rd (v : Value) (rs : List Rw) (b leaf : Int) (t : ByteArray) (w : World) (hl : rs.length ≤ 1048576) (hll : ∀ r ∈ rs, r.2.2.2.length ≤ 1048576) (htx : TxB rs) (ha : FlashRd w v rs) :
    Calls Try.prog 9 #[.agg #[v], .int .i64 b, .int .i64 leaf, .string t] w fun e w' => ∃ u, e = .returned (.tuple #[.agg #[u], .bool (programF (rs.map tellOf) b leaf t).2]) ∧ FlashOf w' w.heap.size u (programF (rs.map tellOf) b leaf t).1 ∧ Below w.heap.size w w' := by
  have HLL := hide hll
  have HTX := hide htx
  have h1 := ha
  obtain ⟨vd, vcap, rfl, -, -⟩ := h1
  have hb0 := ((Below.refl w.heap.size w).alloc (Nat.le_refl _) (.cells #[.slice vd rs.length vcap] 26)).alloc (by simp) (.cells #[.slice none 0 0] 26)
  have HA := hide (ha.below hb0)
  have HZ := hide (show ((w.alloc (.cells #[.slice vd rs.length vcap] 26)).alloc (.cells #[.slice none 0 0] 26)).heap.size = w.heap.size + 2 by simp)
  clear ha hll htx hb0
  go_enter Try.func9, Try.ntmps9
  go_wp2_with fail
  refine (icopy_rd _ rs _ hl HLL.out HTX.out HA.out).mono ?_
  rintro e w1 ⟨u, rfl, fo, b1⟩
  obtain ⟨ud, ucap, rfl⟩ := fo.form
  rw [List.length_map] at fo
  rw [List.length_map]
  rw [HZ.out] at fo b1
  have AF2 := hide (after_start fo b1)
  clear fo b1 HA HZ
  go_wp2_with fail
  generalize w1.alloc (.cells #[.slice ud rs.length ucap] 26) = w2 at AF2 ⊢
  generalize w1.heap.size = g2 at AF2 ⊢
  obtain ⟨ss, hss, hin⟩ := AF2.out.2.2.1
  obtain ⟨sl, sll⟩ := tell_lens hss hl HLL.out
  have hlen : ss.length = rs.length := by have := congrArg List.length hss; simpa using this
  have HSS := hide hss
  have HIN := hide hin
  have HSL := hide sll
  clear hss hin sll
  by_cases huse : useP (rs.map tellOf) b
  · have ho := huse.1
    rw [← HSS.out] at huse
    obtain ⟨k, s, rfl, hs, hsf⟩ := use_yes huse
    have hin1 := HIN.out.1
    obtain ⟨ad, acap, e0, -, -, a3⟩ := frow_form hin1
    injection e0 with e1 e2 e3
    subst e1 e3
    obtain ⟨gu, rfl, hgu1, hgu⟩ := a3 (by have := (List.getElem?_eq_some_iff.1 hs).1; omega)
    have hkl := (List.getElem?_eq_some_iff.1 hs).1
    have HSR : Hid ((rs.map tellOf)[k]? = some (tellOf s)) := by show _ = _; rw [← HSS.out, List.getElem?_map, hs]; rfl
    have HS := hide hs
    have HO := hide ho
    have HPI := hide (prog_in (leaf := leaf) (t := t) ho HSR.out hsf)
    clear huse a3 hin1 e2 hs
    have k0 : (0 : Int) ≤ k := by omega
    refine (iuse_yes gu rs.length ucap k ss s _ _ _ sl HSL.out (Nat.le_refl _) HIN.out (by rw [HSS.out]; exact ho) HS.out hsf).mono ?_
    rintro e w3 ⟨rfl, b3⟩
    have AF3 := hide (AF2.out.below b3)
    have hin3 := HIN.out.below b3 (Nat.le_refl _)
    obtain ⟨c1, c2, c3⟩ := kown_cells (k := k) (t := cellOf s) (by have := hin3.1; rw [hlen] at this; exact this) (by rw [List.getElem?_map, HS.out]; rfl)
    have hlf := hin3.2.2.1 s (List.mem_of_getElem? HS.out)
    have hsl := HSL.out s (List.mem_of_getElem? HS.out)
    obtain ⟨x, y, u2, ls⟩ := s
    simp only [cellOf] at c1 c2 c3
    simp only at hlf hsl hsf
    subst hsf
    have h4 : ls.length = 4 := flOk_four ho (List.mem_of_getElem? HSR.out)
    obtain ⟨ld, lcap, rfl, -, -, -⟩ := frow_form hlf.1
    have HLF := hide hlf
    have H4 := hide h4
    clear b3 hin3 hlf h4 ho
    have hg3 : gu < w3.heap.size := World.block_lt_of_cell? w3 _ c1
    go_wp2_with fail
    refine (inext_any false y _ ls (w.heap.size + 2) _ hsl HLF.out.1).mono ?_
    rintro e w4 ⟨rfl, b4⟩
    have AF4 := hide (AF3.out.below b4)
    have c4 : w4.cell? ⟨gu, k * 3 + 2, none⟩ = some (.slice ld ls.length lcap) := (b4.cell hg3).trans c3
    have hpi := HPI.out
    simp only [tellOf] at hpi
    have HPI := hide hpi
    clear b4 c1 c2 hpi
    by_cases hnx : leaf = (nextB ls : Nat)
    · have hnb : (leaf != ((nextB ls : Nat) : Int)) = false := by simp [hnx]
      have HNX := hide hnx
      clear hnx
      go_wp2_with fail
      refine (fills_any t _).mono ?_
      rintro e w5 ⟨rfl, rfl⟩
      clear hnb
      cases hf : fillsP t with
      | false =>
        have HP : Hid (programF (rs.map tellOf) (k : Int) leaf t = (rs.map tellOf, false)) := by show _ = _; exact HPI.out.2 (fun h => by rw [hf] at h; cases h.2.2)
        clear hf
        have n1 : w5.cell? ⟨w.heap.size + 1, 0, none⟩ = some (.slice none 0 0) := cell_of_row _ _ 0 _ _ _ AF4.out.1
        have n2 : w5.cell? ⟨g2, 0, none⟩ = some (.slice (some ⟨gu, 0, none⟩) rs.length ucap) := cell_of_row _ _ 0 _ _ _ AF4.out.2.1
        have o1 := frozen_of_row _ _ 0 _ _ AF4.out.1
        have Q1 := hide (row_set AF4.out.1 0 (.slice (some ⟨gu, 0, none⟩) rs.length ucap))
        have G := hide (AF4.out.2.2.1.cell (show w.heap.size + 1 < w.heap.size + 2 by omega) 0 (.slice (some ⟨gu, 0, none⟩) rs.length ucap))
        have HBE := hide (AF4.out.2.2.2.setCell (p := ⟨w.heap.size + 1, 0, none⟩) (by show _ ≤ _ + 1; omega) (.slice (some ⟨gu, 0, none⟩) rs.length ucap))
        go_wp2
        exact bodyPost_ret (results_flash2 rfl _ _ (w.heap.size + 1) _ rfl Q1.out) rfl ⟨_, by rw [HP.out]; rfl, by rw [HP.out]; exact G.out.down (by omega), HBE.out⟩
      | true =>
        have ht : t.size ≤ 1048576 := by
          have := of_decide_eq_true hf
          omega
        by_cases hj : nextB ls < 4
        · have HP : Hid (programF (rs.map tellOf) (k : Int) leaf t = (putLeaf (rs.map tellOf) k leaf.toNat t, true)) := by show _ = _; exact HPI.out.1 ⟨by have := HNX.out; omega, HNX.out, hf⟩
          have hx := HNX.out
          obtain ⟨j, hje⟩ : ∃ j, nextB ls = j := ⟨_, rfl⟩
          rw [hje] at hx hj
          subst hx
          have hj4 := H4.out
          obtain ⟨ad9, cap9, e9, -, -, l9⟩ := frow_form HLF.out.1
          injection e9 with e10 e11 e12
          subst e10 e12
          obtain ⟨gl, rfl, -, -⟩ := l9 (by omega)
          clear e11 l9
          have hg4 := World.block_lt_of_cell? _ _ c4
          go_wp2_with fail
          refine (ilat_in gu (k * 3) gl ls.length lcap j _ (by omega) (by omega) c4).mono ?_
          rintro e w6 ⟨rfl, rfl⟩
          clear hf hj4
          go_wp2_with fail
          refine (fclone_any t _ ht).mono ?_
          rintro e w7 ⟨rfl, b7⟩
          have AF7 := hide (AF4.out.below b7)
          have c7 : w7.cell? ⟨gu, k * 3 + 2, none⟩ = some (.slice (some ⟨gl, 0, none⟩) ls.length lcap) := (b7.cell hg4).trans c4
          obtain ⟨gu', gl', lcap', e9, c9, ⟨x1, d1⟩, ⟨x2, d2⟩, f1, f2, hgl, -, hne, hput⟩ := AF7.out.2.2.1.put (j := j) HSR.out (by show j < ls.length; rw [H4.out]; exact hj)
          injection e9 with e9
          injection e9 with e9
          subst e9
          rw [c7] at c9
          simp only [tellOf] at c9
          injection c9 with c9
          injection c9 with c9 c10 c11
          injection c9 with c9
          injection c9 with c9
          subst c9
          have HPUT := hide (hput 1 t)
          have HP2 : Hid (programF (rs.map tellOf) (k : Int) (j : Int) t = ((rs.map tellOf).modify k (fun r => (r.1, r.2.1, r.2.2.set j (1, t))), true)) := by show _ = _; rw [HP.out]; rfl
          have U1 := hide AF7.out.1
          have U2 := hide AF7.out.2.1
          have v1 := row_set_ne (row_set_ne U1.out (hne _ _ U1.out) (j * 2) (.int .i64 1)) (hne _ _ U1.out) (j * 2 + 1) (.string t)
          have v2 := row_set_ne (row_set_ne U2.out (hne _ _ U2.out) (j * 2) (.int .i64 1)) (hne _ _ U2.out) (j * 2 + 1) (.string t)
          have x5 : ((w7.setCell ⟨gl, j * 2, none⟩ (.int .i64 1)).setCell ⟨gl, j * 2 + 1, none⟩ (.string t)).cell? ⟨w.heap.size + 1, 0, none⟩ = some (.slice none 0 0) := cell_of_row _ _ 0 _ _ _ v1
          have y5 : ((w7.setCell ⟨gl, j * 2, none⟩ (.int .i64 1)).setCell ⟨gl, j * 2 + 1, none⟩ (.string t)).cell? ⟨g2, 0, none⟩ = some (.slice (some ⟨gu, 0, none⟩) rs.length ucap) := cell_of_row _ _ 0 _ _ _ v2
          have n1 : w7.cell? ⟨w.heap.size + 1, 0, none⟩ = some (.slice none 0 0) := cell_of_row _ _ 0 _ _ _ U1.out
          have n2 : w7.cell? ⟨g2, 0, none⟩ = some (.slice (some ⟨gu, 0, none⟩) rs.length ucap) := cell_of_row _ _ 0 _ _ _ U2.out
          have o1 := frozen_of_row _ _ 0 _ _ U1.out
          have hne1 : g2 ≠ gl := hne _ _ U2.out
          have hne2 : w.heap.size + 1 ≠ gl := hne _ _ U1.out
          have G := hide (HPUT.out.cell (show w.heap.size + 1 < w.heap.size + 2 by omega) 0 (.slice (some ⟨gu, 0, none⟩) rs.length ucap))
          have Q1 := hide (row_set v1 0 (.slice (some ⟨gu, 0, none⟩) rs.length ucap))
          have HBE := hide (((AF7.out.2.2.2.setCell (p := ⟨gl, j * 2, none⟩) (by show _ ≤ gl; omega) (.int .i64 1)).setCell (p := ⟨gl, j * 2 + 1, none⟩) (by show _ ≤ gl; omega) (.string t)).setCell (p := ⟨w.heap.size + 1, 0, none⟩) (by show _ ≤ _ + 1; omega) (.slice (some ⟨gu, 0, none⟩) rs.length ucap))
          clear hput hne v1 v2 b7 c10 c11
          go_wp2
          exact bodyPost_ret (results_flash2 rfl _ _ (w.heap.size + 1) _ rfl Q1.out) rfl ⟨_, by rw [HP2.out]; rfl, by rw [HP2.out]; exact G.out.down (by omega), HBE.out⟩
        · have HP : Hid (programF (rs.map tellOf) (k : Int) leaf t = (rs.map tellOf, false)) := by show _ = _; exact HPI.out.2 (fun h => by have := h.1; have := HNX.out; omega)
          have hj4 := H4.out
          have hnl : ¬ (0 ≤ leaf ∧ leaf ≤ (ls.length : Int) - 1) := by have := HNX.out; omega
          clear hf ht hj hj4
          go_wp2_with fail
          refine (ilat_out gu (k * 3) ls.length lcap ld leaf _ (by omega) hnl c4).mono ?_
          rintro e w6 ⟨rfl, rfl⟩
          clear hnl
          have n1 : w6.cell? ⟨w.heap.size + 1, 0, none⟩ = some (.slice none 0 0) := cell_of_row _ _ 0 _ _ _ AF4.out.1
          have n2 : w6.cell? ⟨g2, 0, none⟩ = some (.slice (some ⟨gu, 0, none⟩) rs.length ucap) := cell_of_row _ _ 0 _ _ _ AF4.out.2.1
          have o1 := frozen_of_row _ _ 0 _ _ AF4.out.1
          have Q1 := hide (row_set AF4.out.1 0 (.slice (some ⟨gu, 0, none⟩) rs.length ucap))
          have G := hide (AF4.out.2.2.1.cell (show w.heap.size + 1 < w.heap.size + 2 by omega) 0 (.slice (some ⟨gu, 0, none⟩) rs.length ucap))
          have HBE := hide (AF4.out.2.2.2.setCell (p := ⟨w.heap.size + 1, 0, none⟩) (by show _ ≤ _ + 1; omega) (.slice (some ⟨gu, 0, none⟩) rs.length ucap))
          go_wp2
          exact bodyPost_ret (results_flash2 rfl _ _ (w.heap.size + 1) _ rfl Q1.out) rfl ⟨_, by rw [HP.out]; rfl, by rw [HP.out]; exact G.out.down (by omega), HBE.out⟩
    · have hnb : (leaf != ((nextB ls : Nat) : Int)) = true := by simpa using hnx
      have HP : Hid (programF (rs.map tellOf) (k : Int) leaf t = (rs.map tellOf, false)) := by show _ = _; exact HPI.out.2 (fun h => hnx h.2.1)
      clear hnx
      have n1 : w4.cell? ⟨w.heap.size + 1, 0, none⟩ = some (.slice none 0 0) := cell_of_row _ _ 0 _ _ _ AF4.out.1
      have n2 : w4.cell? ⟨g2, 0, none⟩ = some (.slice (some ⟨gu, 0, none⟩) rs.length ucap) := cell_of_row _ _ 0 _ _ _ AF4.out.2.1
      have o1 := frozen_of_row _ _ 0 _ _ AF4.out.1
      have Q1 := hide (row_set AF4.out.1 0 (.slice (some ⟨gu, 0, none⟩) rs.length ucap))
      have G := hide (AF4.out.2.2.1.cell (show w.heap.size + 1 < w.heap.size + 2 by omega) 0 (.slice (some ⟨gu, 0, none⟩) rs.length ucap))
      have HBE := hide (AF4.out.2.2.2.setCell (p := ⟨w.heap.size + 1, 0, none⟩) (by show _ ≤ _ + 1; omega) (.slice (some ⟨gu, 0, none⟩) rs.length ucap))
      go_wp2
      exact bodyPost_ret (results_flash2 rfl _ _ (w.heap.size + 1) _ rfl Q1.out) rfl ⟨_, by rw [HP.out]; rfl, by rw [HP.out]; exact G.out.down (by omega), HBE.out⟩
  · have HP : Hid (programF (rs.map tellOf) b leaf t = (rs.map tellOf, false)) := prog_nouse huse
    refine (iuse_no _ ss _ _ b _ sl HSL.out (Nat.le_refl _) HIN.out (by rw [HSS.out]; exact huse)).mono ?_
    rintro e w3 ⟨rfl, b3⟩
    have AF3 := hide (AF2.out.below b3)
    clear b3 huse
    have n1 : w3.cell? ⟨w.heap.size + 1, 0, none⟩ = some (.slice none 0 0) := cell_of_row _ _ 0 _ _ _ AF3.out.1
    have n2 : w3.cell? ⟨g2, 0, none⟩ = some (.slice ud rs.length ucap) := cell_of_row _ _ 0 _ _ _ AF3.out.2.1
    have o1 := frozen_of_row _ _ 0 _ _ AF3.out.1
    have Q1 := hide (row_set AF3.out.1 0 (.slice ud rs.length ucap))
    have G := hide (AF3.out.2.2.1.cell (show w.heap.size + 1 < w.heap.size + 2 by omega) 0 (.slice ud rs.length ucap))
    have HBE := hide (AF3.out.2.2.2.setCell (p := ⟨w.heap.size + 1, 0, none⟩) (by show _ ≤ _ + 1; omega) (.slice ud rs.length ucap))
    go_wp2
    exact bodyPost_ret (results_flash2 rfl _ _ (w.heap.size + 1) _ rfl Q1.out) rfl ⟨_, by rw [HP.out]; rfl, by rw [HP.out]; exact G.out.down (by omega), HBE.out⟩
theorem iprog_any (v : Value) (rs : List Rw) (lo hi : Nat) (b leaf : Int) (t : ByteArray) (w : World) (hl : rs.length ≤ 1048576) (hll : ∀ r ∈ rs, r.2.2.2.length ≤ 1048576) (htx : TxB rs) (_hh : hi ≤ w.heap.size) (ha : FlashIn w lo hi v rs) :
    Calls Try.prog 9 #[.agg #[v], .int .i64 b, .int .i64 leaf, .string t] w fun e w' => ∃ u, e = .returned (.tuple #[.agg #[u], .bool (programF (rs.map tellOf) b leaf t).2]) ∧ FlashOf w' w.heap.size u (programF (rs.map tellOf) b leaf t).1 ∧ Below w.heap.size w w' := iprog_rd v rs b leaf t w hl hll htx ha.rd
end Go.Proofs.Ythkkefbhcmhijaa
