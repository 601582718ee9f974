/-
  IProg; AfterW; IWipe
-/
import Derived.Test.YtfmnaidhfgmemaaGreatDoorPk22
import Derived.Test.YtfmnaidhfgmemaaGreatDoorPk20
import Derived.Deep.AppendLies
namespace Go.Proofs.YtfmnaidhfgmemaaGreatDoor
open Go.RowKit
set_option maxHeartbeats 500000 in
set_option maxRecDepth 100000 in
theorem iprog_rd (v : Value) (rs : List Rw) (b leaf : Int) (t : ByteArray) (w : World) (hl : rs.length ≤ 1048576) (hll : ∀ r ∈ rs, r.2.2.2.length ≤ 1048576) (htx : TxB rs) (ha : FlashRd w v rs) :
    Calls Tryz.prog 235 #[.agg #[v], .int .i64 b, .int .i64 leaf, .string t] w fun e w' => ∃ u, e = .returned (.tuple #[.agg #[u], .bool (programF (rs.map tellOf) b leaf t).2]) ∧ FlashOf w' w.heap.size u (programF (rs.map tellOf) b leaf t).1 ∧ Below w.heap.size w w' := by
  have HLL := hide hll
  have HTX := hide htx
  have h1 := ha
  obtain ⟨vd, vcap, rfl, -, -⟩ := h1
  have hb0 := ((Below.refl w.heap.size w).alloc (Nat.le_refl _) (.cells #[.slice vd rs.length vcap] 39)).alloc (by simp) (.cells #[.slice none 0 0] 39)
  have HA := hide (ha.below hb0)
  have HZ := hide (show ((w.alloc (.cells #[.slice vd rs.length vcap] 39)).alloc (.cells #[.slice none 0 0] 39)).heap.size = w.heap.size + 2 by simp)
  clear ha hll htx hb0
  go_enter Tryz.func235, Tryz.ntmps235
  go_wp2_with fail
  refine (icopy_rd _ rs _ hl HLL.out HTX.out HA.out).mono ?_
  rintro e w1 ⟨u, rfl, fo, b1⟩
  obtain ⟨ud, ucap, rfl⟩ := fo.form
  rw [List.length_map] at fo
  rw [List.length_map]
  rw [HZ.out] at fo b1
  have AF2 := hide (after_start fo b1)
  clear fo b1 HA HZ
  go_wp2_with fail
  generalize w1.alloc (.cells #[.slice ud rs.length ucap] 39) = w2 at AF2 ⊢
  generalize w1.heap.size = g2 at AF2 ⊢
  obtain ⟨ss, hss, hin⟩ := AF2.out.2.2.1
  obtain ⟨sl, sll⟩ := tell_lens hss hl HLL.out
  have hlen : ss.length = rs.length := by have := congrArg List.length hss; simpa using this
  have HSS := hide hss
  have HIN := hide hin
  have HSL := hide sll
  clear hss hin sll
  by_cases huse : useP (rs.map tellOf) b
  · have ho := huse.1
    rw [← HSS.out] at huse
    obtain ⟨k, s, rfl, hs, hsf⟩ := use_yes huse
    have hin1 := HIN.out.1
    obtain ⟨ad, acap, e0, -, -, a3⟩ := frow_form hin1
    injection e0 with e1 e2 e3
    subst e1 e3
    obtain ⟨gu, rfl, hgu1, hgu⟩ := a3 (by have := (List.getElem?_eq_some_iff.1 hs).1; omega)
    have hkl := (List.getElem?_eq_some_iff.1 hs).1
    have HSR : Hid ((rs.map tellOf)[k]? = some (tellOf s)) := by show _ = _; rw [← HSS.out, List.getElem?_map, hs]; rfl
    have HS := hide hs
    have HO := hide ho
    have HPI := hide (prog_in (leaf := leaf) (t := t) ho HSR.out hsf)
    clear huse a3 hin1 e2 hs
    have k0 : (0 : Int) ≤ k := by omega
    refine (iuse_yes gu rs.length ucap k ss s _ _ _ sl HSL.out (Nat.le_refl _) HIN.out (by rw [HSS.out]; exact ho) HS.out hsf).mono ?_
    rintro e w3 ⟨rfl, b3⟩
    have AF3 := hide (AF2.out.below b3)
    have hin3 := HIN.out.below b3 (Nat.le_refl _)
    obtain ⟨c1, c2, c3⟩ := kown_cells (k := k) (t := cellOf s) (by have := hin3.1; rw [hlen] at this; exact this) (by rw [List.getElem?_map, HS.out]; rfl)
    have hlf := hin3.2.2.1 s (List.mem_of_getElem? HS.out)
    have hsl := HSL.out s (List.mem_of_getElem? HS.out)
    obtain ⟨x, y, u2, ls⟩ := s
    simp only [cellOf] at c1 c2 c3
    simp only at hlf hsl hsf
    subst hsf
    have h4 : ls.length = 4 := flOk_four ho (List.mem_of_getElem? HSR.out)
    obtain ⟨ld, lcap, rfl, -, -, -⟩ := frow_form hlf.1
    have HLF := hide hlf
    have H4 := hide h4
    clear b3 hin3 hlf h4 ho
    have hg3 : gu < w3.heap.size := World.block_lt_of_cell? w3 _ c1
    go_wp2_with fail
    refine (inext_any false y _ ls (w.heap.size + 2) _ hsl HLF.out.1).mono ?_
    rintro e w4 ⟨rfl, b4⟩
    have AF4 := hide (AF3.out.below b4)
    have c4 : w4.cell? ⟨gu, k * 3 + 2, none⟩ = some (.slice ld ls.length lcap) := (b4.cell hg3).trans c3
    have hpi := HPI.out
    simp only [tellOf] at hpi
    have HPI := hide hpi
    clear b4 c1 c2 hpi
    by_cases hnx : leaf = (nextB ls : Nat)
    · have hnb : (leaf != ((nextB ls : Nat) : Int)) = false := by simp [hnx]
      have HNX := hide hnx
      clear hnx
      go_wp2_with fail
      refine (fills_any t _).mono ?_
      rintro e w5 ⟨rfl, rfl⟩
      clear hnb
      cases hf : fillsP t with
      | false =>
        have HP : Hid (programF (rs.map tellOf) (k : Int) leaf t = (rs.map tellOf, false)) := by show _ = _; exact HPI.out.2 (fun h => by rw [hf] at h; cases h.2.2)
        clear hf
        have n1 : w5.cell? ⟨w.heap.size + 1, 0, none⟩ = some (.slice none 0 0) := cell_of_row _ _ 0 _ _ _ AF4.out.1
        have n2 : w5.cell? ⟨g2, 0, none⟩ = some (.slice (some ⟨gu, 0, none⟩) rs.length ucap) := cell_of_row _ _ 0 _ _ _ AF4.out.2.1
        have o1 := frozen_of_row _ _ 0 _ _ AF4.out.1
        have Q1 := hide (row_set AF4.out.1 0 (.slice (some ⟨gu, 0, none⟩) rs.length ucap))
        have G := hide (AF4.out.2.2.1.cell (show w.heap.size + 1 < w.heap.size + 2 by omega) 0 (.slice (some ⟨gu, 0, none⟩) rs.length ucap))
        have HBE := hide (AF4.out.2.2.2.setCell (p := ⟨w.heap.size + 1, 0, none⟩) (by show _ ≤ _ + 1; omega) (.slice (some ⟨gu, 0, none⟩) rs.length ucap))
        go_wp2
        exact bodyPost_ret (results_flash2 rfl _ _ (w.heap.size + 1) _ rfl Q1.out) rfl ⟨_, by rw [HP.out]; rfl, by rw [HP.out]; exact G.out.down (by omega), HBE.out⟩
      | true =>
        have ht : t.size ≤ 1048576 := by
          have := of_decide_eq_true hf
          omega
        by_cases hj : nextB ls < 4
        · have HP : Hid (programF (rs.map tellOf) (k : Int) leaf t = (putLeaf (rs.map tellOf) k leaf.toNat t, true)) := by show _ = _; exact HPI.out.1 ⟨by have := HNX.out; omega, HNX.out, hf⟩
          have hx := HNX.out
          obtain ⟨j, hje⟩ : ∃ j, nextB ls = j := ⟨_, rfl⟩
          rw [hje] at hx hj
          subst hx
          have hj4 := H4.out
          obtain ⟨ad9, cap9, e9, -, -, l9⟩ := frow_form HLF.out.1
          injection e9 with e10 e11 e12
          subst e10 e12
          obtain ⟨gl, rfl, -, -⟩ := l9 (by omega)
          clear e11 l9
          have hg4 := World.block_lt_of_cell? _ _ c4
          go_wp2_with fail
          refine (ilat_in gu (k * 3) gl ls.length lcap j _ (by omega) (by omega) c4).mono ?_
          rintro e w6 ⟨rfl, rfl⟩
          clear hf hj4
          go_wp2_with fail
          refine (fclone_any t _ ht).mono ?_
          rintro e w7 ⟨rfl, b7⟩
          have AF7 := hide (AF4.out.below b7)
          have c7 : w7.cell? ⟨gu, k * 3 + 2, none⟩ = some (.slice (some ⟨gl, 0, none⟩) ls.length lcap) := (b7.cell hg4).trans c4
          obtain ⟨gu', gl', lcap', e9, c9, ⟨x1, d1⟩, ⟨x2, d2⟩, f1, f2, hgl, -, hne, hput⟩ := AF7.out.2.2.1.put (j := j) HSR.out (by show j < ls.length; rw [H4.out]; exact hj)
          injection e9 with e9
          injection e9 with e9
          subst e9
          rw [c7] at c9
          simp only [tellOf] at c9
          injection c9 with c9
          injection c9 with c9 c10 c11
          injection c9 with c9
          injection c9 with c9
          subst c9
          have HPUT := hide (hput 1 t)
          have HP2 : Hid (programF (rs.map tellOf) (k : Int) (j : Int) t = ((rs.map tellOf).modify k (fun r => (r.1, r.2.1, r.2.2.set j (1, t))), true)) := by show _ = _; rw [HP.out]; rfl
          have U1 := hide AF7.out.1
          have U2 := hide AF7.out.2.1
          have v1 := row_set_ne (row_set_ne U1.out (hne _ _ U1.out) (j * 2) (.int .i64 1)) (hne _ _ U1.out) (j * 2 + 1) (.string t)
          have v2 := row_set_ne (row_set_ne U2.out (hne _ _ U2.out) (j * 2) (.int .i64 1)) (hne _ _ U2.out) (j * 2 + 1) (.string t)
          have x5 : ((w7.setCell ⟨gl, j * 2, none⟩ (.int .i64 1)).setCell ⟨gl, j * 2 + 1, none⟩ (.string t)).cell? ⟨w.heap.size + 1, 0, none⟩ = some (.slice none 0 0) := cell_of_row _ _ 0 _ _ _ v1
          have y5 : ((w7.setCell ⟨gl, j * 2, none⟩ (.int .i64 1)).setCell ⟨gl, j * 2 + 1, none⟩ (.string t)).cell? ⟨g2, 0, none⟩ = some (.slice (some ⟨gu, 0, none⟩) rs.length ucap) := cell_of_row _ _ 0 _ _ _ v2
          have n1 : w7.cell? ⟨w.heap.size + 1, 0, none⟩ = some (.slice none 0 0) := cell_of_row _ _ 0 _ _ _ U1.out
          have n2 : w7.cell? ⟨g2, 0, none⟩ = some (.slice (some ⟨gu, 0, none⟩) rs.length ucap) := cell_of_row _ _ 0 _ _ _ U2.out
          have o1 := frozen_of_row _ _ 0 _ _ U1.out
          have hne1 : g2 ≠ gl := hne _ _ U2.out
          have hne2 : w.heap.size + 1 ≠ gl := hne _ _ U1.out
          have G := hide (HPUT.out.cell (show w.heap.size + 1 < w.heap.size + 2 by omega) 0 (.slice (some ⟨gu, 0, none⟩) rs.length ucap))
          have Q1 := hide (row_set v1 0 (.slice (some ⟨gu, 0, none⟩) rs.length ucap))
          have HBE := hide (((AF7.out.2.2.2.setCell (p := ⟨gl, j * 2, none⟩) (by show _ ≤ gl; omega) (.int .i64 1)).setCell (p := ⟨gl, j * 2 + 1, none⟩) (by show _ ≤ gl; omega) (.string t)).setCell (p := ⟨w.heap.size + 1, 0, none⟩) (by show _ ≤ _ + 1; omega) (.slice (some ⟨gu, 0, none⟩) rs.length ucap))
          clear hput hne v1 v2 b7 c10 c11
          go_wp2
          exact bodyPost_ret (results_flash2 rfl _ _ (w.heap.size + 1) _ rfl Q1.out) rfl ⟨_, by rw [HP2.out]; rfl, by rw [HP2.out]; exact G.out.down (by omega), HBE.out⟩
        · have HP : Hid (programF (rs.map tellOf) (k : Int) leaf t = (rs.map tellOf, false)) := by show _ = _; exact HPI.out.2 (fun h => by have := h.1; have := HNX.out; omega)
          have hj4 := H4.out
          have hnl : ¬ (0 ≤ leaf ∧ leaf ≤ (ls.length : Int) - 1) := by have := HNX.out; omega
          clear hf ht hj hj4
          go_wp2_with fail
          refine (ilat_out gu (k * 3) ls.length lcap ld leaf _ (by omega) hnl c4).mono ?_
          rintro e w6 ⟨rfl, rfl⟩
          clear hnl
          have n1 : w6.cell? ⟨w.heap.size + 1, 0, none⟩ = some (.slice none 0 0) := cell_of_row _ _ 0 _ _ _ AF4.out.1
          have n2 : w6.cell? ⟨g2, 0, none⟩ = some (.slice (some ⟨gu, 0, none⟩) rs.length ucap) := cell_of_row _ _ 0 _ _ _ AF4.out.2.1
          have o1 := frozen_of_row _ _ 0 _ _ AF4.out.1
          have Q1 := hide (row_set AF4.out.1 0 (.slice (some ⟨gu, 0, none⟩) rs.length ucap))
          have G := hide (AF4.out.2.2.1.cell (show w.heap.size + 1 < w.heap.size + 2 by omega) 0 (.slice (some ⟨gu, 0, none⟩) rs.length ucap))
          have HBE := hide (AF4.out.2.2.2.setCell (p := ⟨w.heap.size + 1, 0, none⟩) (by show _ ≤ _ + 1; omega) (.slice (some ⟨gu, 0, none⟩) rs.length ucap))
          go_wp2
          exact bodyPost_ret (results_flash2 rfl _ _ (w.heap.size + 1) _ rfl Q1.out) rfl ⟨_, by rw [HP.out]; rfl, by rw [HP.out]; exact G.out.down (by omega), HBE.out⟩
    · have hnb : (leaf != ((nextB ls : Nat) : Int)) = true := by simpa using hnx
      have HP : Hid (programF (rs.map tellOf) (k : Int) leaf t = (rs.map tellOf, false)) := by show _ = _; exact HPI.out.2 (fun h => hnx h.2.1)
      clear hnx
      have n1 : w4.cell? ⟨w.heap.size + 1, 0, none⟩ = some (.slice none 0 0) := cell_of_row _ _ 0 _ _ _ AF4.out.1
      have n2 : w4.cell? ⟨g2, 0, none⟩ = some (.slice (some ⟨gu, 0, none⟩) rs.length ucap) := cell_of_row _ _ 0 _ _ _ AF4.out.2.1
      have o1 := frozen_of_row _ _ 0 _ _ AF4.out.1
      have Q1 := hide (row_set AF4.out.1 0 (.slice (some ⟨gu, 0, none⟩) rs.length ucap))
      have G := hide (AF4.out.2.2.1.cell (show w.heap.size + 1 < w.heap.size + 2 by omega) 0 (.slice (some ⟨gu, 0, none⟩) rs.length ucap))
      have HBE := hide (AF4.out.2.2.2.setCell (p := ⟨w.heap.size + 1, 0, none⟩) (by show _ ≤ _ + 1; omega) (.slice (some ⟨gu, 0, none⟩) rs.length ucap))
      go_wp2
      exact bodyPost_ret (results_flash2 rfl _ _ (w.heap.size + 1) _ rfl Q1.out) rfl ⟨_, by rw [HP.out]; rfl, by rw [HP.out]; exact G.out.down (by omega), HBE.out⟩
  · have HP : Hid (programF (rs.map tellOf) b leaf t = (rs.map tellOf, false)) := prog_nouse huse
    refine (iuse_no _ ss _ _ b _ sl HSL.out (Nat.le_refl _) HIN.out (by rw [HSS.out]; exact huse)).mono ?_
    rintro e w3 ⟨rfl, b3⟩
    have AF3 := hide (AF2.out.below b3)
    clear b3 huse
    have n1 : w3.cell? ⟨w.heap.size + 1, 0, none⟩ = some (.slice none 0 0) := cell_of_row _ _ 0 _ _ _ AF3.out.1
    have n2 : w3.cell? ⟨g2, 0, none⟩ = some (.slice ud rs.length ucap) := cell_of_row _ _ 0 _ _ _ AF3.out.2.1
    have o1 := frozen_of_row _ _ 0 _ _ AF3.out.1
    have Q1 := hide (row_set AF3.out.1 0 (.slice ud rs.length ucap))
    have G := hide (AF3.out.2.2.1.cell (show w.heap.size + 1 < w.heap.size + 2 by omega) 0 (.slice ud rs.length ucap))
    have HBE := hide (AF3.out.2.2.2.setCell (p := ⟨w.heap.size + 1, 0, none⟩) (by show _ ≤ _ + 1; omega) (.slice ud rs.length ucap))
    go_wp2
    exact bodyPost_ret (results_flash2 rfl _ _ (w.heap.size + 1) _ rfl Q1.out) rfl ⟨_, by rw [HP.out]; rfl, by rw [HP.out]; exact G.out.down (by omega), HBE.out⟩
end Go.Proofs.YtfmnaidhfgmemaaGreatDoor

namespace Go.Proofs.YtfmnaidhfgmemaaGreatDoor
open Go.RowKit
theorem FlashOf.setWear {w : World} {B : Nat} {ud : Option Addr} {n ucap : Nat} {bs : List Bk} {k : Nat} {b : Bk} (h : FlashOf w B (.slice ud n ucap) bs) (hk : bs[k]? = some b) :
    ∃ gu, ud = some ⟨gu, 0, none⟩ ∧ w.cell? ⟨gu, k * 3 + 1, none⟩ = some (.int .i64 b.2.1) ∧ w.frozen? ⟨gu, k * 3 + 1, none⟩ = false ∧ B ≤ gu ∧ (∀ i cs, w.heap[i]? = some (.cells cs 39 (0, 0)) → i ≠ gu) ∧
      ∀ z : Int, FlashOf (w.setCell ⟨gu, k * 3 + 1, none⟩ (.int .i64 z)) B (.slice ud n ucap) (bs.modify k (fun r => (r.1, z, r.2.2))) := by
  obtain ⟨ss, rfl, hs⟩ := h
  rw [List.getElem?_map] at hk
  obtain ⟨r, hr, rfl⟩ := Option.map_eq_some_iff.1 hk
  obtain ⟨ud', ucap', e, -, -, u3⟩ := frow_form hs.1
  injection e with e1 e2 e3
  subst e1 e2 e3
  have hkl := (List.getElem?_eq_some_iff.1 hr).1
  obtain ⟨gu, rfl, hgu, -⟩ := u3 (by omega)
  obtain ⟨-, c2, -⟩ := kown_cells (k := k) (t := cellOf r) hs.1 (by rw [List.getElem?_map, hr]; rfl)
  refine ⟨gu, rfl, c2, hs.1.frozenAt _, hgu, block_not_flash hs.1, fun z => ⟨ss.set k (r.1, z, r.2.2), modify_tell ss k _ _ hr _ rfl, ?_⟩⟩
  have := hs.wear rfl hr z
  simpa [World.setCell] using this
theorem After.wear {w w' : World} {g2 : Nat} {ud : Option Addr} {n ucap : Nat} {bs : List Bk} {k : Nat} {b : Bk} (h : After w w' g2 (.slice ud n ucap) bs) (hk : bs[k]? = some b) :
    ∃ gu, ud = some ⟨gu, 0, none⟩ ∧ w'.cell? ⟨gu, k * 3 + 1, none⟩ = some (.int .i64 b.2.1) ∧ w'.frozen? ⟨gu, k * 3 + 1, none⟩ = false ∧ ∀ z : Int, After w (w'.setCell ⟨gu, k * 3 + 1, none⟩ (.int .i64 z)) g2 (.slice ud n ucap) (bs.modify k (fun r => (r.1, z, r.2.2))) := by
  obtain ⟨h1, h2, h3, h4⟩ := h
  obtain ⟨gu, rfl, c, f, hB, hne, hput⟩ := h3.setWear hk
  exact ⟨gu, rfl, c, f, fun z => ⟨row_set_ne h1 (hne _ _ h1) _ _, row_set_ne h2 (hne _ _ h2) _ _, hput z, h4.setCell (p := ⟨gu, k * 3 + 1, none⟩) (by show _ ≤ gu; omega) _⟩⟩
theorem After.put {w w' : World} {g2 : Nat} {ud : Option Addr} {n ucap : Nat} {bs : List Bk} {k j : Nat} {b : Bk} (h : After w w' g2 (.slice ud n ucap) bs) (hk : bs[k]? = some b) (hj : j < b.2.2.length) :
    ∃ gu gl lcap, ud = some ⟨gu, 0, none⟩ ∧ w'.cell? ⟨gu, k * 3 + 2, none⟩ = some (.slice (some ⟨gl, 0, none⟩) b.2.2.length lcap) ∧ (∃ x, w'.cell? ⟨gl, j * 2, none⟩ = some x) ∧ (∃ x, w'.cell? ⟨gl, j * 2 + 1, none⟩ = some x) ∧
      w'.frozen? ⟨gl, j * 2, none⟩ = false ∧ w'.frozen? ⟨gl, j * 2 + 1, none⟩ = false ∧
      ∀ (z : Int) (t : ByteArray), After w ((w'.setCell ⟨gl, j * 2, none⟩ (.int .i64 z)).setCell ⟨gl, j * 2 + 1, none⟩ (.string t)) g2 (.slice ud n ucap) (bs.modify k (fun r => (r.1, r.2.1, r.2.2.set j (z, t)))) := by
  obtain ⟨h1, h2, h3, h4⟩ := h
  obtain ⟨gu, gl, lcap, rfl, c, x1, x2, f1, f2, hB, -, hne, hput⟩ := h3.put hk hj
  refine ⟨gu, gl, lcap, rfl, c, x1, x2, f1, f2, fun z t => ⟨row_set_ne (row_set_ne h1 (hne _ _ h1) _ _) (hne _ _ h1) _ _, row_set_ne (row_set_ne h2 (hne _ _ h2) _ _) (hne _ _ h2) _ _, hput z t, ?_⟩⟩
  exact (h4.setCell (p := ⟨gl, j * 2, none⟩) (by show _ ≤ gl; omega) _).setCell (p := ⟨gl, j * 2 + 1, none⟩) (by show _ ≤ gl; omega) _
theorem After.apart {w w' : World} {g2 gu gl m lcap : Nat} {n ucap : Nat} {bs : List Bk} {k : Nat} {b : Bk} (h : After w w' g2 (.slice (some ⟨gu, 0, none⟩) n ucap) bs) (hk : bs[k]? = some b) (hc : w'.cell? ⟨gu, k * 3 + 2, none⟩ = some (.slice (some ⟨gl, 0, none⟩) m lcap)) : gu ≠ gl := by
  obtain ⟨ss, rfl, hs⟩ := h.2.2.1
  rw [List.getElem?_map] at hk
  obtain ⟨r, hr, rfl⟩ := Option.map_eq_some_iff.1 hk
  obtain ⟨ud', ucap', e, -, -, u3⟩ := frow_form hs.1
  injection e with e1 e2 e3
  subst e1 e2 e3
  obtain ⟨-, -, c3⟩ := kown_cells (k := k) (t := cellOf r) hs.1 (by rw [List.getElem?_map, hr]; rfl)
  rw [hc] at c3
  injection c3 with c3
  have hl := hs.2.2.1 r (List.mem_of_getElem? hr)
  intro e
  refine leaf_not_block hs.1 hl.1 gu rfl ?_
  show (cellOf r).2.2.ownBlock = some gu
  rw [← c3, e]
  rfl
theorem wipe_nouse {bs : List Bk} {b : Int} (h : ¬ useP bs b) : wipeF bs b = (bs, false) := by
  unfold wipeF
  cases ho : flOk bs with
  | false => rfl
  | true =>
    have : mayW bs b = false := by
      unfold mayW
      cases hb : bs[b.toNat]? with
      | none => rfl
      | some r => exact decide_eq_false (fun hh => h ⟨ho, hh.1, r, hb, hh.2.1⟩)
    rw [this]
    rfl
theorem wipe_in {bs : List Bk} {k : Nat} {r : Bk} (ho : flOk bs = true) (hr : bs[k]? = some r) (hf : r.1 = false) :
    (r.2.1 = 1000000000 → wipeF bs (k : Int) = (bs, false)) ∧ (r.2.1 ≠ 1000000000 → wipeF bs (k : Int) = (bs.modify k (fun r => (false, r.2.1 + 1, blank4)), true)) := by
  unfold wipeF mayW
  rw [ho, Int.toNat_natCast, hr]
  simp only [Bool.true_and, decide_eq_true_eq]
  refine ⟨fun hh => ?_, fun hh => ?_⟩
  · rw [if_neg (fun hq => hq.2.2 hh)]
  · rw [if_pos ⟨by omega, hf, hh⟩]
theorem wear_in {bs : List Bk} {b : Bk} (h : flOk bs = true) (hb : b ∈ bs) : 0 ≤ b.2.1 ∧ b.2.1 ≤ 1000000000 := by
  simp only [flOk, Bool.and_eq_true, List.all_eq_true] at h
  have h2 := h.2 b hb
  simp only [blkOk, Bool.and_eq_true, decide_eq_true_eq] at h2
  exact h2.1.2
def blanked (j : Nat) (ls : List (Int × ByteArray)) : List (Int × ByteArray) := List.replicate j (0, ⟨#[]⟩) ++ ls.drop j
theorem blanked_len {j : Nat} {ls : List (Int × ByteArray)} (h : j ≤ ls.length) : (blanked j ls).length = ls.length := by simp [blanked]; omega
theorem blanked_succ {j : Nat} {ls : List (Int × ByteArray)} (h : j < ls.length) : (blanked j ls).set j (0, ⟨#[]⟩) = blanked (j + 1) ls := by
  unfold blanked
  rw [List.set_append_right _ _ (by simp), List.length_replicate, Nat.sub_self, List.drop_eq_getElem_cons h, List.set_cons_zero, List.replicate_succ', List.append_assoc]
  rfl
theorem blanked_four {ls : List (Int × ByteArray)} (h : ls.length = 4) : blanked 4 ls = blank4 := by
  unfold blanked
  rw [List.drop_eq_nil_of_le (by omega), List.append_nil]
  rfl
theorem modify_at {bs : List Bk} {k : Nat} {r q : Bk} (hr : bs[k]? = some r) : (bs.modify k (fun _ => q))[k]? = some q := by
  rw [List.getElem?_modify, hr]
  simp
theorem modify_modify (bs : List Bk) (k : Nat) (q : Bk) (f : Bk → Bk) : (bs.modify k (fun _ => q)).modify k f = bs.modify k (fun _ => f q) := by
  apply List.ext_getElem?
  intro i
  simp only [List.getElem?_modify]
  by_cases hi : k = i
  · subst hi
    cases bs[k]? <;> simp
  · simp [hi]
theorem modify_eq {bs : List Bk} {k : Nat} {r : Bk} (f : Bk → Bk) (hr : bs[k]? = some r) : bs.modify k f = bs.modify k (fun _ => f r) := by
  apply List.ext_getElem?
  intro i
  simp only [List.getElem?_modify]
  by_cases hi : k = i
  · subst hi
    rw [hr]
    simp
  · simp [hi]
end Go.Proofs.YtfmnaidhfgmemaaGreatDoor

namespace Go.Proofs.YtfmnaidhfgmemaaGreatDoor
open Go.RowKit
set_option maxHeartbeats 800000 in
set_option maxRecDepth 100000 in
theorem iwipe_rd (v : Value) (rs : List Rw) (b : Int) (w : World) (hl : rs.length ≤ 1048576) (hll : ∀ r ∈ rs, r.2.2.2.length ≤ 1048576) (htx : TxB rs) (ha : FlashRd w v rs) :
    Calls Tryz.prog 241 #[.agg #[v], .int .i64 b] w fun e w' => ∃ u, e = .returned (.tuple #[.agg #[u], .bool (wipeF (rs.map tellOf) b).2]) ∧ FlashOf w' w.heap.size u (wipeF (rs.map tellOf) b).1 ∧ Below w.heap.size w w' := by
  have HLL := hide hll
  have HTX := hide htx
  have h1 := ha
  obtain ⟨vd, vcap, rfl, -, -⟩ := h1
  have hb0 := ((Below.refl w.heap.size w).alloc (Nat.le_refl _) (.cells #[.slice vd rs.length vcap] 39)).alloc (by simp) (.cells #[.slice none 0 0] 39)
  have HA := hide (ha.below hb0)
  have HZ := hide (show ((w.alloc (.cells #[.slice vd rs.length vcap] 39)).alloc (.cells #[.slice none 0 0] 39)).heap.size = w.heap.size + 2 by simp)
  clear ha hll htx hb0
  go_enter Tryz.func241, Tryz.ntmps241
  go_wp2_with fail
  refine (icopy_rd _ rs _ hl HLL.out HTX.out HA.out).mono ?_
  rintro e w1 ⟨u, rfl, fo, b1⟩
  obtain ⟨ud, ucap, rfl⟩ := fo.form
  rw [List.length_map] at fo
  rw [List.length_map]
  rw [HZ.out] at fo b1
  have AF2 := hide (after_start fo b1)
  clear fo b1 HA HZ
  go_wp2_with fail
  generalize w1.alloc (.cells #[.slice ud rs.length ucap] 39) = w2 at AF2 ⊢
  generalize w1.heap.size = g2 at AF2 ⊢
  obtain ⟨ss, hss, hin⟩ := AF2.out.2.2.1
  obtain ⟨sl, sll⟩ := tell_lens hss hl HLL.out
  have hlen : ss.length = rs.length := by have := congrArg List.length hss; simpa using this
  have HSS := hide hss
  have HIN := hide hin
  have HSL := hide sll
  clear hss hin sll
  by_cases huse : useP (rs.map tellOf) b
  · have ho := huse.1
    rw [← HSS.out] at huse
    obtain ⟨k, s, rfl, hs, hsf⟩ := use_yes huse
    have hin1 := HIN.out.1
    obtain ⟨ad, acap, e0, -, -, a3⟩ := frow_form hin1
    injection e0 with e1 e2 e3
    subst e1 e3
    obtain ⟨gu, rfl, hgu1, hgu⟩ := a3 (by have := (List.getElem?_eq_some_iff.1 hs).1; omega)
    have hkl := (List.getElem?_eq_some_iff.1 hs).1
    have HSR : Hid ((rs.map tellOf)[k]? = some (tellOf s)) := by show _ = _; rw [← HSS.out, List.getElem?_map, hs]; rfl
    have HS := hide hs
    have HPI := hide (wipe_in ho HSR.out hsf)
    have h4 : s.2.2.2.length = 4 := flOk_four ho (List.mem_of_getElem? HSR.out)
    have hwr : 0 ≤ s.2.1 ∧ s.2.1 ≤ 1000000000 := wear_in ho (List.mem_of_getElem? HSR.out)
    clear huse a3 hin1 e2 hs
    have k0 : (0 : Int) ≤ k := by omega
    refine (iuse_yes gu rs.length ucap k ss s _ _ _ sl HSL.out (Nat.le_refl _) HIN.out (by rw [HSS.out]; exact ho) HS.out hsf).mono ?_
    rintro e w3 ⟨rfl, b3⟩
    have AF3 := hide (AF2.out.below b3)
    clear b3 ho
    obtain ⟨x, y, u2, ls⟩ := s
    simp only at h4 hwr hsf
    subst hsf
    simp only [tellOf] at HPI HSR
    have H4 := hide h4
    obtain ⟨hw1, hw2⟩ := hwr
    clear h4
    obtain ⟨gu', e9, c1, f1, hput⟩ := AF3.out.wear HSR.out
    injection e9 with e9
    injection e9 with e9
    subst e9
    simp only at c1
    by_cases hy : y = 1000000000
    · have HP : Hid (wipeF (rs.map tellOf) (k : Int) = (rs.map tellOf, false)) := HPI.out.1 hy
      have e1 : (y == 1000000000) = true := by simp [hy]
      clear hput hy
      have n1 : w3.cell? ⟨w.heap.size + 1, 0, none⟩ = some (.slice none 0 0) := cell_of_row _ _ 0 _ _ _ AF3.out.1
      have n2 : w3.cell? ⟨g2, 0, none⟩ = some (.slice (some ⟨gu, 0, none⟩) rs.length ucap) := cell_of_row _ _ 0 _ _ _ AF3.out.2.1
      have o1 := frozen_of_row _ _ 0 _ _ AF3.out.1
      have Q1 := hide (row_set AF3.out.1 0 (.slice (some ⟨gu, 0, none⟩) rs.length ucap))
      have G := hide (AF3.out.2.2.1.cell (show w.heap.size + 1 < w.heap.size + 2 by omega) 0 (.slice (some ⟨gu, 0, none⟩) rs.length ucap))
      have HBE := hide (AF3.out.2.2.2.setCell (p := ⟨w.heap.size + 1, 0, none⟩) (by show _ ≤ _ + 1; omega) (.slice (some ⟨gu, 0, none⟩) rs.length ucap))
      go_wp2
      exact bodyPost_ret (results_flash2 rfl _ _ (w.heap.size + 1) _ rfl Q1.out) rfl ⟨_, by rw [HP.out]; rfl, by rw [HP.out]; exact G.out.down (by omega), HBE.out⟩
    · have HP : Hid (wipeF (rs.map tellOf) (k : Int) = ((rs.map tellOf).modify k (fun r => (false, r.2.1 + 1, blank4)), true)) := HPI.out.2 hy
      have e1 : (y == 1000000000) = false := by simpa using hy
      have hwy : IntKind.i64.wrap (y + 1) = y + 1 := by rw [IntKind.wrap_i64]; omega
      have hput := hput (y + 1)
      rw [modify_eq _ HSR.out] at hput
      simp only at hput
      have AF4 := hide hput
      obtain ⟨gu', gl, lcap, e9, c9, -, -, -, -, -⟩ := hput.put (j := 0) (modify_at HSR.out) (by show 0 < ls.length; rw [H4.out]; omega)
      injection e9 with e9
      injection e9 with e9
      subst e9
      simp only at c9
      clear hy hput
      go_wp2
      generalize w3.setCell ⟨gu, k * 3 + 1, none⟩ (.int .i64 (y + 1)) = w4 at AF4 c9 ⊢
      go_loopw [36] (fun iv wr => ∃ j : Nat, j ≤ 4 ∧ iv = .int .i64 j ∧ Hid (After w wr g2 (.slice (some ⟨gu, 0, none⟩) rs.length ucap) ((rs.map tellOf).modify k (fun _ => (false, y + 1, blanked j ls)))) ∧ Hid (wr.cell? ⟨gu, k * 3 + 2, none⟩ = some (.slice (some ⟨gl, 0, none⟩) ls.length lcap))) (fun iv _ => 4 - (intOf iv).toNat)
      case atStart => exact ⟨0, Nat.zero_le _, rfl, AF4, c9⟩
      case round =>
        obtain ⟨j, hj, rfl, AF, C⟩ := hrel
        have hl4 := H4.out
        by_cases hlt : (j : Int) < ls.length
        · have j0 : (0 : Int) ≤ j := by omega
          obtain ⟨gu', gl', lcap', e9, c8, ⟨x1, d1⟩, ⟨x2, d2⟩, g1, g2', hput⟩ := AF.out.put (j := j) (modify_at HSR.out) (by show j < (blanked j ls).length; rw [blanked_len (by omega)]; omega)
          injection e9 with e9
          injection e9 with e9
          subst e9
          simp only [blanked_len (show j ≤ ls.length by omega)] at c8
          have c8' := C.out
          rw [c8] at c8'
          injection c8' with c8'
          injection c8' with c11 c12 c13
          injection c11 with c11
          injection c11 with c11
          subst c11
          have hput := hput 0 ⟨#[]⟩
          rw [modify_modify] at hput
          simp only [blanked_succ (show j < ls.length by omega)] at hput
          have AF5 := hide hput
          have c9 : (((wr.setCell ⟨gl', j * 2, none⟩ (.int .i64 0)).setCell ⟨gl', j * 2 + 1, none⟩ (.string ⟨#[]⟩)).cell? ⟨gu, k * 3 + 2, none⟩) = some (.slice (some ⟨gl', 0, none⟩) ls.length lcap) := cell_two C.out (AF.out.apart (modify_at HSR.out) C.out)
          have C9 := hide c9
          clear hput c9 c12 c13 hl4
          go_wp2
          go_roundw
          case rel => exact ⟨j + 1, by have := H4.out; omega, by go_num, AF5, C9⟩
          case measure =>
            have := H4.out
            simp [intOf]
            omega
        · have hj4 : j = 4 := by omega
          subst hj4
          have AF5 := AF
          rw [blanked_four H4.out] at AF5
          have HP2 : Hid (wipeF (rs.map tellOf) (k : Int) = ((rs.map tellOf).modify k (fun _ => (false, y + 1, blank4)), true)) := by show _ = _; rw [HP.out, modify_eq _ HSR.out]
          clear HP AF hl4
          have HP := HP2
          clear HP2
          have n1 : wr.cell? ⟨w.heap.size + 1, 0, none⟩ = some (.slice none 0 0) := cell_of_row _ _ 0 _ _ _ AF5.out.1
          have n2 : wr.cell? ⟨g2, 0, none⟩ = some (.slice (some ⟨gu, 0, none⟩) rs.length ucap) := cell_of_row _ _ 0 _ _ _ AF5.out.2.1
          have o1 := frozen_of_row _ _ 0 _ _ AF5.out.1
          have Q1 := hide (row_set AF5.out.1 0 (.slice (some ⟨gu, 0, none⟩) rs.length ucap))
          have G := hide (AF5.out.2.2.1.cell (show w.heap.size + 1 < w.heap.size + 2 by omega) 0 (.slice (some ⟨gu, 0, none⟩) rs.length ucap))
          have HBE := hide (AF5.out.2.2.2.setCell (p := ⟨w.heap.size + 1, 0, none⟩) (by show _ ≤ _ + 1; omega) (.slice (some ⟨gu, 0, none⟩) rs.length ucap))
          go_wp2
          exact bodyPost_ret (results_flash2 rfl _ _ (w.heap.size + 1) _ rfl Q1.out) rfl ⟨_, by rw [HP.out]; rfl, by rw [HP.out]; exact G.out.down (by omega), HBE.out⟩
  · have HP : Hid (wipeF (rs.map tellOf) b = (rs.map tellOf, false)) := wipe_nouse huse
    refine (iuse_no _ ss _ _ b _ sl HSL.out (Nat.le_refl _) HIN.out (by rw [HSS.out]; exact huse)).mono ?_
    rintro e w3 ⟨rfl, b3⟩
    have AF3 := hide (AF2.out.below b3)
    clear b3 huse
    have n1 : w3.cell? ⟨w.heap.size + 1, 0, none⟩ = some (.slice none 0 0) := cell_of_row _ _ 0 _ _ _ AF3.out.1
    have n2 : w3.cell? ⟨g2, 0, none⟩ = some (.slice ud rs.length ucap) := cell_of_row _ _ 0 _ _ _ AF3.out.2.1
    have o1 := frozen_of_row _ _ 0 _ _ AF3.out.1
    have Q1 := hide (row_set AF3.out.1 0 (.slice ud rs.length ucap))
    have G := hide (AF3.out.2.2.1.cell (show w.heap.size + 1 < w.heap.size + 2 by omega) 0 (.slice ud rs.length ucap))
    have HBE := hide (AF3.out.2.2.2.setCell (p := ⟨w.heap.size + 1, 0, none⟩) (by show _ ≤ _ + 1; omega) (.slice ud rs.length ucap))
    go_wp2
    exact bodyPost_ret (results_flash2 rfl _ _ (w.heap.size + 1) _ rfl Q1.out) rfl ⟨_, by rw [HP.out]; rfl, by rw [HP.out]; exact G.out.down (by omega), HBE.out⟩
end Go.Proofs.YtfmnaidhfgmemaaGreatDoor
