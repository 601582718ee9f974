/-
  impl.MarkBad.
-/
import Derived.Test.YthkkefbhcmhijaaAfter
import Derived.Test.YthkkefbhcmhijaaSBad
namespace Go.Proofs.Ythkkefbhcmhijaa
open Go.RowKit

set_option maxHeartbeats 1600000 in
set_option maxRecDepth 100000 in
theorem ibad_rd (v : Value) (rs : List Rw) (b : Int) (w : World) (hl : rs.length ≤ 1048576) (hll : ∀ r ∈ rs, r.2.2.2.length ≤ 1048576) (htx : TxB rs) (ha : FlashRd w v rs) :
    Calls Try.prog 14 #[.agg #[v], .int .i64 b] w fun e w' => ∃ u, e = .returned (.agg #[u]) ∧ FlashOf w' w.heap.size u (badF (rs.map tellOf) b) ∧ Below w.heap.size w w' := by
  have HLL := hide hll
  have HTX := hide htx
  have h1 := ha
  obtain ⟨vd, vcap, rfl, -, -⟩ := h1
  have hb0 := ((Below.refl w.heap.size w).alloc (Nat.le_refl _) (.cells #[.slice vd rs.length vcap] 26)).alloc (by simp) (.cells #[.slice none 0 0] 26)
  have HA := hide (ha.below hb0)
  have HZ := hide (show ((w.alloc (.cells #[.slice vd rs.length vcap] 26)).alloc (.cells #[.slice none 0 0] 26)).heap.size = w.heap.size + 2 by simp)
  clear ha hll htx hb0
  go_enter Try.func14, Try.ntmps14
  go_wp2_with fail
  refine (icopy_rd _ rs _ hl HLL.out HTX.out HA.out).mono ?_
  rintro e w1 ⟨u, rfl, fo, b1⟩
  obtain ⟨ud, ucap, rfl⟩ := fo.form
  rw [List.length_map] at fo
  rw [List.length_map]
  rw [HZ.out] at fo b1
  have AF2 := hide (after_start fo b1)
  clear fo b1 HA HZ
  go_wp2_with fail
  generalize w1.alloc (.cells #[.slice ud rs.length ucap] 26) = w2 at AF2 ⊢
  generalize w1.heap.size = g2 at AF2 ⊢
  obtain ⟨ss, hss, hin⟩ := AF2.out.2.2.1
  obtain ⟨sl, sll⟩ := tell_lens hss hl HLL.out
  have hlen : ss.length = rs.length := by have := congrArg List.length hss; simpa using this
  have HSS := hide hss
  have HIN := hide hin
  have HSL := hide sll
  clear hss hin sll
  by_cases hb : 0 ≤ b ∧ b ≤ (rs.length : Int) - 1
  · obtain ⟨k, rfl⟩ : ∃ k : Nat, b = k := ⟨b.toNat, by omega⟩
    have hkl : k < rs.length := by omega
    obtain ⟨gu0, rfl, -, -, -, -, -⟩ := AF2.out.2.2.1.setBad (k := k) hkl
    refine (iat_in gu0 rs.length ucap k _ hl hkl).mono ?_
    rintro e w3 ⟨rfl, b3⟩
    have AF3 := hide (AF2.out.below b3)
    clear b3
    obtain ⟨gu, e9, ⟨x1, d1⟩, f2, hgu, hne, hput⟩ := AF3.out.2.2.1.setBad (k := k) hkl
    injection e9 with e9
    injection e9 with e9
    subst e9
    have k1 : (0 : Int) ≤ k := by omega
    have HPUT := hide (hput true)
    have HP : Hid (badF (rs.map tellOf) (k : Int) = (rs.map tellOf).modify k (fun r => (true, r.2))) := by show _ = _; unfold badF; rw [if_pos k1]; rfl
    have P1 := hide AF3.out.1
    have P2 := hide AF3.out.2.1
    have m1 : w3.cell? ⟨w.heap.size + 1, 0, none⟩ = some (.slice none 0 0) := cell_of_row _ _ 0 _ _ _ P1.out
    have m2 : w3.cell? ⟨g2, 0, none⟩ = some (.slice (some ⟨gu0, 0, none⟩) rs.length ucap) := cell_of_row _ _ 0 _ _ _ P2.out
    have f1 := frozen_of_row _ _ 0 _ _ P1.out
    have v1 := row_set_ne P1.out (hne _ _ P1.out) (k * 3) (.bool true)
    have v2 := row_set_ne P2.out (hne _ _ P2.out) (k * 3) (.bool true)
    have x5 : (w3.setCell ⟨gu0, k * 3, none⟩ (.bool true)).cell? ⟨w.heap.size + 1, 0, none⟩ = some (.slice none 0 0) := cell_of_row _ _ 0 _ _ _ v1
    have y5 : (w3.setCell ⟨gu0, k * 3, none⟩ (.bool true)).cell? ⟨g2, 0, none⟩ = some (.slice (some ⟨gu0, 0, none⟩) rs.length ucap) := cell_of_row _ _ 0 _ _ _ v2
    have hne1 : g2 ≠ gu0 := hne _ _ P2.out
    have hne2 : w.heap.size + 1 ≠ gu0 := hne _ _ P1.out
    have G := hide (HPUT.out.cell (show w.heap.size + 1 < w.heap.size + 2 by omega) 0 (.slice (some ⟨gu0, 0, none⟩) rs.length ucap))
    have Q1 := hide (row_set v1 0 (.slice (some ⟨gu0, 0, none⟩) rs.length ucap))
    have HBE := hide ((AF3.out.2.2.2.setCell (p := ⟨gu0, k * 3, none⟩) (by show _ ≤ gu0; omega) (.bool true)).setCell (p := ⟨w.heap.size + 1, 0, none⟩) (by show _ ≤ _ + 1; omega) (.slice (some ⟨gu0, 0, none⟩) rs.length ucap))
    clear hput hne v1 v2 hb
    go_wp2
    exact bodyPost_ret (results_cell_row rfl _ _ (w.heap.size + 1) 26 _ (0, 0) _ rfl Q1.out Try.underlying26 rfl infoFlash1) rfl ⟨_, rfl, by rw [HP.out]; exact G.out.down (by omega), HBE.out⟩
  · have HP : Hid (badF (rs.map tellOf) b = rs.map tellOf) := badF_out (by rw [List.length_map]; exact hb)
    refine (iat_out ud rs.length ucap b _ hl hb).mono ?_
    rintro e w3 ⟨rfl, b3⟩
    have AF3 := hide (AF2.out.below b3)
    clear b3 hb
    have n1 : w3.cell? ⟨w.heap.size + 1, 0, none⟩ = some (.slice none 0 0) := cell_of_row _ _ 0 _ _ _ AF3.out.1
    have n2 : w3.cell? ⟨g2, 0, none⟩ = some (.slice ud rs.length ucap) := cell_of_row _ _ 0 _ _ _ AF3.out.2.1
    have o1 := frozen_of_row _ _ 0 _ _ AF3.out.1
    have Q1 := hide (row_set AF3.out.1 0 (.slice ud rs.length ucap))
    have G := hide (AF3.out.2.2.1.cell (show w.heap.size + 1 < w.heap.size + 2 by omega) 0 (.slice ud rs.length ucap))
    have HBE := hide (AF3.out.2.2.2.setCell (p := ⟨w.heap.size + 1, 0, none⟩) (by show _ ≤ _ + 1; omega) (.slice ud rs.length ucap))
    go_wp2
    exact bodyPost_ret (results_cell_row rfl _ _ (w.heap.size + 1) 26 _ (0, 0) _ rfl Q1.out Try.underlying26 rfl infoFlash1) rfl ⟨_, rfl, by rw [HP.out]; exact G.out.down (by omega), HBE.out⟩
theorem ibad_any (v : Value) (rs : List Rw) (lo hi : Nat) (b : Int) (w : World) (hl : rs.length ≤ 1048576) (hll : ∀ r ∈ rs, r.2.2.2.length ≤ 1048576) (htx : TxB rs) (_hh : hi ≤ w.heap.size) (ha : FlashIn w lo hi v rs) :
    Calls Try.prog 14 #[.agg #[v], .int .i64 b] w fun e w' => ∃ u, e = .returned (.agg #[u]) ∧ FlashOf w' w.heap.size u (badF (rs.map tellOf) b) ∧ Below w.heap.size w w' := ibad_rd v rs b w hl hll htx ha.rd
end Go.Proofs.Ythkkefbhcmhijaa
