/-
  spec.MarkBad.
-/
import Derived.Test.YthkkefbhcmhijaaPq13
import Derived.Test.YthkkefbhcmhijaaSCopy
import Derived.Test.YthkkefbhcmhijaaFPut
namespace Go.Proofs.Ythkkefbhcmhijaa
open Go.RowKit

theorem block_not_flash {w : World} {B gl n m cap : Nat} {xs : List Value} (h : w.ownsRow B 33 3 (.slice (some ⟨gl, 0, none⟩) n cap) m xs) : ∀ i cs, w.heap[i]? = some (.cells cs 26 (0, 0)) → i ≠ gl := by
  intro i cs hi e
  subst e
  rcases h.2 with ⟨h1, -⟩ | ⟨g, cap, cur, h1, -, h2, -⟩
  · cases h1
  · injection h1 with a1
    simp at a1
    subst a1
    rw [hi] at h2
    simp at h2
theorem FlashOf.setBad {w : World} {B : Nat} {ud : Option Addr} {n ucap : Nat} {bs : List Bk} {k : Nat} (h : FlashOf w B (.slice ud n ucap) bs) (hk : k < n) :
    ∃ gu, ud = some ⟨gu, 0, none⟩ ∧ (∃ x, w.cell? ⟨gu, k * 3, none⟩ = some x) ∧ w.frozen? ⟨gu, k * 3, none⟩ = false ∧ B ≤ gu ∧ (∀ i cs, w.heap[i]? = some (.cells cs 26 (0, 0)) → i ≠ gu) ∧
      ∀ z : Bool, FlashOf (w.setCell ⟨gu, k * 3, none⟩ (.bool z)) B (.slice ud n ucap) (bs.modify k (fun r => (z, r.2))) := by
  obtain ⟨ss, rfl, hs⟩ := h
  obtain ⟨ud', ucap', e, -, -, u3⟩ := frow_form hs.1
  injection e with e1 e2 e3
  subst e1 e2 e3
  obtain ⟨gu, rfl, hgu, -⟩ := u3 (by omega)
  have hr : ss[k]? = some ss[k] := List.getElem?_eq_getElem hk
  generalize ss[k] = r at hr
  obtain ⟨c1, -, -⟩ := kown_cells (k := k) (t := cellOf r) hs.1 (by rw [List.getElem?_map, hr]; rfl)
  refine ⟨gu, rfl, ⟨_, c1⟩, hs.1.frozenAt _, hgu, block_not_flash hs.1, fun z => ⟨ss.set k (z, r.2), modify_tell ss k _ _ hr _ rfl, ?_⟩⟩
  have := hs.bad rfl hr z
  simpa [World.setCell] using this
theorem badF_out {bs : List Bk} {b : Int} (h : ¬ (0 ≤ b ∧ b ≤ (bs.length : Int) - 1)) : badF bs b = bs := by
  unfold badF
  split
  · apply List.ext_getElem?
    intro i
    rw [List.getElem?_modify]
    by_cases hi : b.toNat = i
    · have : bs[i]? = none := List.getElem?_eq_none (by omega)
      simp [this]
    · simp [hi]
  · rfl

set_option maxHeartbeats 800000 in
set_option maxRecDepth 100000 in
theorem sbad_any (v : Value) (rs : List Rw) (lo hi : Nat) (b : Int) (w : World) (hl : rs.length ≤ 1048576) (hll : ∀ r ∈ rs, r.2.2.2.length ≤ 1048576) (hh : hi ≤ w.heap.size) (ha : FlashIn w lo hi v rs) :
    Calls Try.prog 33 #[.agg #[v], .int .i64 b] w fun e w' => ∃ u, e = .returned (.agg #[u]) ∧ FlashOf w' w.heap.size u (badF (rs.map tellOf) b) ∧ Below w.heap.size w w' := by
  have HLL := hide hll
  have h1 := ha.1
  obtain ⟨vd, vcap, rfl, -, -, -⟩ := frow_form h1
  have hb0 := ((Below.refl w.heap.size w).alloc (Nat.le_refl _) (.cells #[.slice vd rs.length vcap] 26)).alloc (by simp) (.cells #[.slice none 0 0] 26)
  have HB0 := hide hb0
  have HA := hide (ha.below hb0 hh)
  have r0 := (Below.heap_alloc (w.alloc (.cells #[.slice vd rs.length vcap] 26)) (.cells #[.slice none 0 0] 26) w.heap.size (by simp)).trans (heap_alloc_new w (.cells #[.slice vd rs.length vcap] 26))
  have r1 := heap_alloc_new (w.alloc (.cells #[.slice vd rs.length vcap] 26)) (.cells #[.slice none 0 0] 26)
  rw [show (w.alloc (.cells #[.slice vd rs.length vcap] 26)).heap.size = w.heap.size + 1 by simp] at r1
  have R0 := hide r0
  have R1 := hide r1
  have HZ := hide (show ((w.alloc (.cells #[.slice vd rs.length vcap] 26)).alloc (.cells #[.slice none 0 0] 26)).heap.size = w.heap.size + 2 by simp)
  have hw1 : IntKind.i64.wrap ((rs.length : Int) - 1) = (rs.length : Int) - 1 := by rw [IntKind.wrap_i64]; omega
  clear ha hll h1 hb0 r0 r1
  go_enter Try.func33, Try.ntmps33
  go_wp2_with fail
  refine (scopy_any _ rs lo hi _ hl HLL.out (by rw [HZ.out]; omega) HA.out).mono ?_
  rintro e w1 ⟨u, rfl, fo, b1⟩
  obtain ⟨ud, ucap, rfl⟩ := fo.form
  rw [List.length_map] at fo
  rw [List.length_map]
  have z1 := b1.size
  rw [HZ.out] at fo b1 z1
  have q0 := (b1.block _ (by omega)).trans R0.out
  have q1 := (b1.block _ (by omega)).trans R1.out
  have b2 := (Below.refl w1.heap.size w1).alloc (Nat.le_refl _) (.cells #[.slice ud rs.length ucap] 26)
  have q2 := heap_alloc_new w1 (.cells #[.slice ud rs.length ucap] 26)
  have p0 := (b2.block _ (by omega)).trans q0
  have p1 := (b2.block _ (by omega)).trans q1
  have HB2 := hide ((HB0.out.trans (b1.mono (by omega))).trans (b2.mono (by omega)))
  have HF2 := hide (fo.below b2)
  have P1 := hide p1
  have P2 := hide q2
  have k0 : (w1.alloc (.cells #[.slice ud rs.length ucap] 26)).cell? ⟨w.heap.size, 0, none⟩ = some (.slice vd rs.length vcap) := cell_of_row _ _ 0 _ _ _ p0
  clear p0 p1 q0 q1 q2 b1 b2 fo
  go_wp2_with fail
  refine (sin_any b 0 ((rs.length : Int) - 1) _).mono ?_
  rintro e w2 ⟨rfl, rfl⟩
  generalize w1.alloc (.cells #[.slice ud rs.length ucap] 26) = w2 at HB2 HF2 P1 P2 k0 ⊢
  have m1 : w2.cell? ⟨w.heap.size + 1, 0, none⟩ = some (.slice none 0 0) := cell_of_row _ _ 0 _ _ _ P1.out
  have m2 : w2.cell? ⟨w1.heap.size, 0, none⟩ = some (.slice ud rs.length ucap) := cell_of_row _ _ 0 _ _ _ P2.out
  have f1 := frozen_of_row _ _ 0 _ _ P1.out
  by_cases hb : 0 ≤ b ∧ b ≤ (rs.length : Int) - 1
  · have hbd : decide (0 ≤ b ∧ b ≤ (rs.length : Int) - 1) = true := decide_eq_true hb
    rw [hbd]
    obtain ⟨k, rfl⟩ : ∃ k : Nat, b = k := ⟨b.toNat, by omega⟩
    obtain ⟨gu, rfl, ⟨x1, d1⟩, f2, hgu, hne, hput⟩ := HF2.out.setBad (k := k) (by omega)
    have hkl : (k : Int) < rs.length := by omega
    have k1 : (0 : Int) ≤ k := by omega
    have HPUT := hide (hput true)
    have HP : Hid (badF (rs.map tellOf) (k : Int) = (rs.map tellOf).modify k (fun r => (true, r.2))) := by show _ = _; unfold badF; rw [if_pos k1]; rfl
    have v1 := row_set_ne P1.out (hne _ _ P1.out) (k * 3) (.bool true)
    have v2 := row_set_ne P2.out (hne _ _ P2.out) (k * 3) (.bool true)
    have x5 : (w2.setCell ⟨gu, k * 3, none⟩ (.bool true)).cell? ⟨w.heap.size + 1, 0, none⟩ = some (.slice none 0 0) := cell_of_row _ _ 0 _ _ _ v1
    have y5 : (w2.setCell ⟨gu, k * 3, none⟩ (.bool true)).cell? ⟨w1.heap.size, 0, none⟩ = some (.slice (some ⟨gu, 0, none⟩) rs.length ucap) := cell_of_row _ _ 0 _ _ _ v2
    have hne1 : w1.heap.size ≠ gu := hne _ _ P2.out
    have hne2 : w.heap.size + 1 ≠ gu := hne _ _ P1.out
    have G := hide (HPUT.out.cell (show w.heap.size + 1 < w.heap.size + 2 by omega) 0 (.slice (some ⟨gu, 0, none⟩) rs.length ucap))
    have Q1 := hide (row_set v1 0 (.slice (some ⟨gu, 0, none⟩) rs.length ucap))
    have HBE := hide ((HB2.out.setCell (p := ⟨gu, k * 3, none⟩) (by show _ ≤ gu; omega) (.bool true)).setCell (p := ⟨w.heap.size + 1, 0, none⟩) (by show _ ≤ _ + 1; omega) (.slice (some ⟨gu, 0, none⟩) rs.length ucap))
    clear hput hne v1 v2 hb hbd
    go_wp2
    exact bodyPost_ret (results_cell_row rfl _ _ (w.heap.size + 1) 26 _ (0, 0) _ rfl Q1.out Try.underlying26 rfl infoFlash1) rfl ⟨_, rfl, by rw [HP.out]; exact G.out.down (by omega), HBE.out⟩
  · have hbd : decide (0 ≤ b ∧ b ≤ (rs.length : Int) - 1) = false := decide_eq_false hb
    rw [hbd]
    have HP : Hid (badF (rs.map tellOf) b = rs.map tellOf) := badF_out (by rw [List.length_map]; exact hb)
    have G := hide (HF2.out.cell (show w.heap.size + 1 < w.heap.size + 2 by omega) 0 (.slice ud rs.length ucap))
    have Q1 := hide (row_set P1.out 0 (.slice ud rs.length ucap))
    have HBE := hide (HB2.out.setCell (p := ⟨w.heap.size + 1, 0, none⟩) (by show _ ≤ _ + 1; omega) (.slice ud rs.length ucap))
    clear hb hbd
    go_wp2
    exact bodyPost_ret (results_cell_row rfl _ _ (w.heap.size + 1) 26 _ (0, 0) _ rfl Q1.out Try.underlying26 rfl infoFlash1) rfl ⟨_, rfl, by rw [HP.out]; exact G.out.down (by omega), HBE.out⟩
end Go.Proofs.Ythkkefbhcmhijaa
