/-
  spec.Program.
-/
import Derived.Test.YthkkefbhcmhijaaSMay
import Derived.Test.YthkkefbhcmhijaaSOk
import Derived.Test.YthkkefbhcmhijaaSCopy
import Derived.Test.YthkkefbhcmhijaaFPut
namespace Go.Proofs.Ythkkefbhcmhijaa
open Go.RowKit

theorem mayP_yes {bs : List Bk} {b leaf : Int} {t : ByteArray} (hok : flOk bs = true) (h : mayP bs b leaf t = true) : ∃ (k j : Nat) (r : Bk), b = k ∧ leaf = j ∧ bs[k]? = some r ∧ j < 4 ∧ r.2.2.length = 4 := by
  unfold mayP at h
  cases hb : bs[b.toNat]? with
  | none => rw [hb] at h; cases h
  | some r =>
    rw [hb] at h
    have h := of_decide_eq_true h
    refine ⟨b.toNat, nextB r.2.2, r, by omega, h.2.2.2.1, hb, by omega, ?_⟩
    simp only [flOk, Bool.and_eq_true, List.all_eq_true] at hok
    have h2 := hok.2 r (List.mem_of_getElem? hb)
    simp only [blkOk, Bool.and_eq_true, decide_eq_true_eq] at h2
    exact h2.1.1

set_option maxHeartbeats 1600000 in
set_option maxRecDepth 100000 in
theorem sprog_rd (v : Value) (rs : List Rw) (b leaf : Int) (t : ByteArray) (w : World) (hl : rs.length ≤ 1048576) (hll : ∀ r ∈ rs, r.2.2.2.length ≤ 1048576) (ha : FlashRd w v rs) :
    Calls Try.prog 30 #[.agg #[v], .int .i64 b, .int .i64 leaf, .string t] w fun e w' => ∃ u, e = .returned (.tuple #[.agg #[u], .bool (programF (rs.map tellOf) b leaf t).2]) ∧ FlashOf w' w.heap.size u (programF (rs.map tellOf) b leaf t).1 ∧ Below w.heap.size w w' := by
  have HLL := hide hll
  have h1 := ha
  obtain ⟨vd, vcap, rfl, -, -⟩ := h1
  have hb0 := ((Below.refl w.heap.size w).alloc (Nat.le_refl _) (.cells #[.slice vd rs.length vcap] 26)).alloc (by simp) (.cells #[.slice none 0 0] 26)
  have HB0 := hide hb0
  have HA := hide (ha.below hb0)
  have r0 := (Below.heap_alloc (w.alloc (.cells #[.slice vd rs.length vcap] 26)) (.cells #[.slice none 0 0] 26) w.heap.size (by simp)).trans (heap_alloc_new w (.cells #[.slice vd rs.length vcap] 26))
  have r1 := heap_alloc_new (w.alloc (.cells #[.slice vd rs.length vcap] 26)) (.cells #[.slice none 0 0] 26)
  rw [show (w.alloc (.cells #[.slice vd rs.length vcap] 26)).heap.size = w.heap.size + 1 by simp] at r1
  have R0 := hide r0
  have R1 := hide r1
  have HZ := hide (show ((w.alloc (.cells #[.slice vd rs.length vcap] 26)).alloc (.cells #[.slice none 0 0] 26)).heap.size = w.heap.size + 2 by simp)
  clear ha hll hb0 r0 r1
  go_enter Try.func30, Try.ntmps30
  go_wp2_with fail
  refine (scopy_rd _ rs _ hl HLL.out HA.out).mono ?_
  rintro e w1 ⟨u, rfl, fo, b1⟩
  obtain ⟨ud, ucap, rfl⟩ := fo.form
  rw [List.length_map] at fo
  rw [List.length_map]
  have z1 := b1.size
  have HA1 := hide (HA.out.below b1)
  rw [HZ.out] at fo b1 z1
  have q0 := (b1.block _ (by omega)).trans R0.out
  have q1 := (b1.block _ (by omega)).trans R1.out
  have b2 := (Below.refl w1.heap.size w1).alloc (Nat.le_refl _) (.cells #[.slice ud rs.length ucap] 26)
  have q2 := heap_alloc_new w1 (.cells #[.slice ud rs.length ucap] 26)
  have p0 := (b2.block _ (by omega)).trans q0
  have p1 := (b2.block _ (by omega)).trans q1
  have HB2 := hide ((HB0.out.trans (b1.mono (by omega))).trans (b2.mono (by omega)))
  have HF2 := hide (fo.below b2)
  have HA2 := hide (HA1.out.below b2)
  have P0 := hide p0
  have P1 := hide p1
  have P2 := hide q2
  have HZ2 := hide (show (w1.alloc (.cells #[.slice ud rs.length ucap] 26)).heap.size = w1.heap.size + 1 by simp)
  have k0 : (w1.alloc (.cells #[.slice ud rs.length ucap] 26)).cell? ⟨w.heap.size, 0, none⟩ = some (.slice vd rs.length vcap) := cell_of_row _ _ 0 _ _ _ p0
  clear p0 p1 q0 q1 q2 b1 b2 fo
  go_wp2_with fail
  refine (sok_rd _ rs _ hl HLL.out HA2.out).mono ?_
  rintro e w3 ⟨rfl, b3⟩
  have z3 := b3.size
  have HA3 := hide (HA2.out.below b3)
  rw [HZ2.out] at b3 z3
  have t0 := (b3.block _ (by omega)).trans P0.out
  have t1 := (b3.block _ (by omega)).trans P1.out
  have t2 := (b3.block _ (by omega)).trans P2.out
  have HB3 := hide (HB2.out.trans (b3.mono (by omega)))
  have HF3 := hide (HF2.out.below (by rw [HZ2.out]; exact b3))
  have m0 : w3.cell? ⟨w.heap.size, 0, none⟩ = some (.slice vd rs.length vcap) := cell_of_row _ _ 0 _ _ _ t0
  have m1 : w3.cell? ⟨w.heap.size + 1, 0, none⟩ = some (.slice none 0 0) := cell_of_row _ _ 0 _ _ _ t1
  have m2 : w3.cell? ⟨w1.heap.size, 0, none⟩ = some (.slice ud rs.length ucap) := cell_of_row _ _ 0 _ _ _ t2
  have f1 := frozen_of_row _ _ 0 _ _ t1
  have T1 := hide t1
  have T2 := hide t2
  clear t0 t2 t1 b3 k0
  cases hok : flOk (rs.map tellOf) with
  | false =>
    have HP : Hid (programF (rs.map tellOf) b leaf t = (rs.map tellOf, false)) := by show _ = _; simp [programF, hok]
    have G := hide (HF3.out.cell (show w.heap.size + 1 < w.heap.size + 2 by omega) 0 (.slice ud rs.length ucap))
    have Q1 := hide (row_set T1.out 0 (.slice ud rs.length ucap))
    have HBE := hide (HB3.out.setCell (p := ⟨w.heap.size + 1, 0, none⟩) (by show _ ≤ _ + 1; omega) (.slice ud rs.length ucap))
    clear hok
    go_wp2
    exact bodyPost_ret (results_flash2 rfl _ _ (w.heap.size + 1) _ rfl Q1.out) rfl ⟨_, by rw [HP.out]; rfl, by rw [HP.out]; exact G.out.down (by omega), HBE.out⟩
  | true =>
    have HOK := hide hok
    clear hok
    go_wp2_with fail
    refine (smay_rd _ rs b leaf t _ hl HLL.out HA3.out).mono ?_
    rintro e w4 ⟨rfl, b4⟩
    have z4 := b4.size
    have t1 := (b4.block _ (by omega)).trans T1.out
    have t2 := (b4.block _ (by omega)).trans T2.out
    have HB4 := hide (HB3.out.trans (b4.mono (by omega)))
    have HF4 := hide (HF3.out.below b4)
    have n1 : w4.cell? ⟨w.heap.size + 1, 0, none⟩ = some (.slice none 0 0) := cell_of_row _ _ 0 _ _ _ t1
    have n2 : w4.cell? ⟨w1.heap.size, 0, none⟩ = some (.slice ud rs.length ucap) := cell_of_row _ _ 0 _ _ _ t2
    have o1 := frozen_of_row _ _ 0 _ _ t1
    have U1 := hide t1
    have U2 := hide t2
    clear m0 m1 m2 f1 t1 t2 b4
    cases hm : mayP (rs.map tellOf) b leaf t with
    | false =>
      have HP : Hid (programF (rs.map tellOf) b leaf t = (rs.map tellOf, false)) := by show _ = _; simp [programF, hm]
      have G := hide (HF4.out.cell (show w.heap.size + 1 < w.heap.size + 2 by omega) 0 (.slice ud rs.length ucap))
      have Q1 := hide (row_set U1.out 0 (.slice ud rs.length ucap))
      have HBE := hide (HB4.out.setCell (p := ⟨w.heap.size + 1, 0, none⟩) (by show _ ≤ _ + 1; omega) (.slice ud rs.length ucap))
      clear hm
      go_wp2
      exact bodyPost_ret (results_flash2 rfl _ _ (w.heap.size + 1) _ rfl Q1.out) rfl ⟨_, by rw [HP.out]; rfl, by rw [HP.out]; exact G.out.down (by omega), HBE.out⟩
    | true =>
      have HP0 : Hid (programF (rs.map tellOf) b leaf t = (putLeaf (rs.map tellOf) b.toNat leaf.toNat t, true)) := by show _ = _; simp [programF, hm, HOK.out]
      obtain ⟨k, j, r, rfl, rfl, hr, hj4, hr4⟩ := mayP_yes HOK.out hm
      obtain ⟨gu, gl, lcap, rfl, c3, ⟨x1, d1⟩, ⟨x2, d2⟩, f1, f2, hgl, hgu, hne, hput⟩ := HF4.out.put (j := j) hr (by omega)
      rw [hr4] at c3
      have hk1 := (List.getElem?_eq_some_iff.1 hr).1
      rw [List.length_map] at hk1
      have hkl : (k : Int) < rs.length := by omega
      have k0 : (0 : Int) ≤ k := by omega
      have j0 : (0 : Int) ≤ j := by omega
      have j4 : (j : Int) < 4 := by omega
      have HPUT := hide (hput 1 t)
      have HP : Hid (programF (rs.map tellOf) (k : Int) (j : Int) t = ((rs.map tellOf).modify k (fun r => (r.1, r.2.1, r.2.2.set j (1, t))), true)) := by show _ = _; rw [HP0.out]; rfl
      have v1 := row_set_ne (row_set_ne U1.out (hne _ _ U1.out) (j * 2) (.int .i64 1)) (hne _ _ U1.out) (j * 2 + 1) (.string t)
      have v2 := row_set_ne (row_set_ne U2.out (hne _ _ U2.out) (j * 2) (.int .i64 1)) (hne _ _ U2.out) (j * 2 + 1) (.string t)
      have x5 : ((w4.setCell ⟨gl, j * 2, none⟩ (.int .i64 1)).setCell ⟨gl, j * 2 + 1, none⟩ (.string t)).cell? ⟨w.heap.size + 1, 0, none⟩ = some (.slice none 0 0) := cell_of_row _ _ 0 _ _ _ v1
      have y5 : ((w4.setCell ⟨gl, j * 2, none⟩ (.int .i64 1)).setCell ⟨gl, j * 2 + 1, none⟩ (.string t)).cell? ⟨w1.heap.size, 0, none⟩ = some (.slice (some ⟨gu, 0, none⟩) rs.length ucap) := cell_of_row _ _ 0 _ _ _ v2
      have hne1 : w1.heap.size ≠ gl := hne _ _ U2.out
      have hne2 : w.heap.size + 1 ≠ gl := hne _ _ U1.out
      have G := hide (HPUT.out.cell (show w.heap.size + 1 < w.heap.size + 2 by omega) 0 (.slice (some ⟨gu, 0, none⟩) rs.length ucap))
      have Q1 := hide (row_set v1 0 (.slice (some ⟨gu, 0, none⟩) rs.length ucap))
      have HBE := hide (((HB4.out.setCell (p := ⟨gl, j * 2, none⟩) (by show _ ≤ gl; omega) (.int .i64 1)).setCell (p := ⟨gl, j * 2 + 1, none⟩) (by show _ ≤ gl; omega) (.string t)).setCell (p := ⟨w.heap.size + 1, 0, none⟩) (by show _ ≤ _ + 1; omega) (.slice (some ⟨gu, 0, none⟩) rs.length ucap))
      clear hput hm hr hr4 HP0 hne v1 v2
      go_wp2
      exact bodyPost_ret (results_flash2 rfl _ _ (w.heap.size + 1) _ rfl Q1.out) rfl ⟨_, by rw [HP.out]; rfl, by rw [HP.out]; exact G.out.down (by omega), HBE.out⟩
theorem sprog_any (v : Value) (rs : List Rw) (lo hi : Nat) (b leaf : Int) (t : ByteArray) (w : World) (hl : rs.length ≤ 1048576) (hll : ∀ r ∈ rs, r.2.2.2.length ≤ 1048576) (_hh : hi ≤ w.heap.size) (ha : FlashIn w lo hi v rs) :
    Calls Try.prog 30 #[.agg #[v], .int .i64 b, .int .i64 leaf, .string t] w fun e w' => ∃ u, e = .returned (.tuple #[.agg #[u], .bool (programF (rs.map tellOf) b leaf t).2]) ∧ FlashOf w' w.heap.size u (programF (rs.map tellOf) b leaf t).1 ∧ Below w.heap.size w w' := sprog_rd v rs b leaf t w hl hll ha.rd
end Go.Proofs.Ythkkefbhcmhijaa
