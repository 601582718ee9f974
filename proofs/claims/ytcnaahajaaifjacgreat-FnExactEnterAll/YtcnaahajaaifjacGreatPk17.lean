/-
  ArMkF; MkVl; MkSto; EqVl
-/
import Derived.Test.YtcnaahajaaifjacGreatPk16
import Derived.Test.YtcnaahajaaifjacGreatPk6
import Derived.Test.YtcnaahajaaifjacGreatPk1
import Derived.Deep.DeepCutAuto
import Derived.Deep.RegionHeld3
/-
  Arenas: marked from any number on, and held.
-/
namespace Go.Proofs.YtcnaahajaaifjacGreat
open Go.RowKit
open Words

set_option maxHeartbeats 400000 in
set_option maxRecDepth 100000 in
theorem markAr_from (k0 : Nat) (h0 : 0 < k0) (lo hi : Nat) (a : Value) (ys : List Vw) (w : World) (hl : ys.length ≤ 1048580) (hll : ∀ y ∈ ys, y.2.2.1 ≤ 1048576 ∧ y.2.2.2.length = y.2.2.1) (he : vend k0 ys ≤ 1000000000) (hh : hi ≤ w.heap.size) (ha : VIn lo hi a ys w) :
    Calls Tryz.prog 28 #[.agg #[a], .int .i64 (k0 : Int)] w fun e w' => e = .returned (.int .i64 ((vend k0 ys : Nat) : Int)) ∧ Hid (VIn lo hi a (vmk k0 ys) w') ∧ Hid (Kept2 w w' (Apt lo hi)) := by
  obtain ⟨ad, ca, rfl, a3⟩ := ha.1.form
  have bA := (Below.refl w.heap.size w).alloc (Nat.le_refl _) (.cells #[.slice ad ys.length ca] 34)
  have C := hide (markKns_from k0 h0 lo hi _ ys _ hl hll he (VIn.loc _ _ _ _ _ _ (fun i _ hi => bA.block i (by omega)) ha))
  have HK := hide (Kept2.below (ok := Apt lo hi) bA)
  obtain ⟨n, hn⟩ : ∃ n, ys.length = n := ⟨_, rfl⟩
  obtain ⟨m, hm⟩ : ∃ m, vend k0 ys = m := ⟨_, rfl⟩
  rw [hn, hm] at C
  rw [hn] at HK
  rw [hn, hm]
  clear ha hll a3 bA he hm hn hl
  go_enter Tryz.func28, Tryz.ntmps28
  go_wp2_with fail
  refine C.out.mono ?_
  rintro e w1 ⟨rfl, hv, hk⟩
  have K2 := hide (HK.out.trans hk.out)
  clear C hk HK
  go_wp2
  go_ret
  exact ⟨rfl, hv, K2⟩
set_option maxHeartbeats 400000 in
set_option maxRecDepth 100000 in
theorem heldAr_from (k0 : Nat) (h0 : 0 < k0) (lo hi : Nat) (a : Value) (ys : List Vw) (w : World) (hl : ys.length ≤ 1048580) (hll : ∀ y ∈ ys, y.2.2.1 ≤ 1048576) (he : vend k0 ys ≤ 1000000000) (hh : hi ≤ w.heap.size) (ha : VIn lo hi a (vmk k0 ys) w) :
    Calls Tryz.prog 30 #[.agg #[a], .int .i64 (k0 : Int)] w fun e w' => e = .returned (.int .i64 ((vend k0 ys : Nat) : Int)) ∧ Below w.heap.size w w' := by
  obtain ⟨ad, ca, rfl, a3⟩ := ha.1.form
  have bA := (Below.refl w.heap.size w).alloc (Nat.le_refl _) (.cells #[.slice ad (vmk k0 ys).length ca] 34)
  have C := hide (heldKns_from k0 h0 lo hi _ ys _ hl hll he (VIn.loc _ _ _ _ _ _ (fun i _ hi => bA.block i (by omega)) ha))
  have HB := hide bA
  obtain ⟨n, hn⟩ : ∃ n, (vmk k0 ys).length = n := ⟨_, rfl⟩
  obtain ⟨m, hm⟩ : ∃ m, vend k0 ys = m := ⟨_, rfl⟩
  rw [hn, hm] at C
  rw [hn] at HB
  rw [hn, hm]
  have m0 : ¬ ((m : Int) < 0) := by omega
  clear hl hll he hh ha a3 bA hn hm
  go_enter Tryz.func30, Tryz.ntmps30
  go_wp2_with fail
  refine C.out.mono ?_
  rintro e w1 ⟨rfl, b1⟩
  have B1 := hide (HB.out.trans (b1.mono HB.out.size))
  clear C HB b1
  go_wp2
  go_ret
  exact ⟨rfl, B1.out⟩
end Go.Proofs.YtcnaahajaaifjacGreat

/-
  Rows of volumes: marked.
-/
namespace Go.Proofs.YtcnaahajaaifjacGreat
open Go.RowKit

/-- What the cells of one element are: numbers, and texts. -/
def patVl : List Bool := [false, false]
set_option maxHeartbeats 2000000 in
set_option maxRecDepth 100000 in
theorem markVl_any (lo hi : Nat) (a : Value) (n k0 : Nat) (xs : List Value) (w : World) (hn : n ≤ 1000000000) (hxs : xs.length = n * 2) (hk0 : 0 < k0) (hk1 : k0 ≤ 100000000000) (hh : hi ≤ w.heap.size) (ha : Sli 69 lo hi a n xs w) :
    Calls Tryz.prog 27 #[a, .int .i64 (k0 : Int)] w fun e w' => e = .returned (.int .i64 ((k0 + n * 2 : Nat) : Int)) ∧ Hid (Sli 69 lo hi a n (mkFlat patVl k0 n) w') ∧ Hid (Kept2 w w' (Apt lo hi)) := by
  obtain ⟨ad, ca, rfl, a3⟩ := ha.form
  have A3 := hide a3
  obtain ⟨M, hM⟩ : ∃ M, mkFlat patVl k0 n = M := ⟨_, rfl⟩
  have HML : Hid (M.length = xs.length) := by show _ = _; rw [← hM, mkFlat_len, hxs]; rfl
  have HMA : Hid (∀ (i j : Nat) (s : Bool), i < n → patVl[j]? = some s → M[i * 2 + j]? = some (mkv s (k0 + (i * 2 + j)))) := by
    intro i j s h1 h2
    rw [← hM]
    exact mkFlat_at patVl k0 n i j s h1 h2
  have HXS := hide hxs
  have HA := hide ha
  have F00 : Hid (∀ g, ad = some ⟨g, 0, none⟩ → Flt 69 g (M.take (0 * 2) ++ xs.drop (0 * 2)) w) := by
    rintro g rfl
    have := ha.flt
    simpa using this
  rw [hM]
  clear ha a3 hxs hM
  go_enter Tryz.func27, Tryz.ntmps27
  go_wp2
  go_loopw [1, 5] (fun mv iv wr => ∃ i m : Nat, i ≤ n ∧ iv = .int .i64 i ∧ mv = .int .i64 m ∧ m ≤ 200000000000 ∧ Hid (m = k0 + i * 2) ∧ Hid (∀ g, ad = some ⟨g, 0, none⟩ → Flt 69 g (M.take (i * 2) ++ xs.drop (i * 2)) wr) ∧ Hid (Kept2 w wr (Apt lo hi))) (fun _ iv _ => n - (intOf iv).toNat)
  case atStart => exact ⟨0, k0, Nat.zero_le _, rfl, rfl, by omega, (by show _ = _; omega), F00, Kept2.refl _ _⟩
  case round =>
    obtain ⟨i, m, hin, rfl, rfl, hm, HM, HF, HK⟩ := hrel
    clear F00
    by_cases hlt : (i : Int) < n
    · obtain ⟨g, e, g1, g2⟩ := A3.out (by omega)
      subst e
      have i0 : (0 : Int) ≤ i := by omega
      have F0 := hide (HF.out g rfl)
      have K0 := hide HK.out
      have hwz := HK.out.2.2.2.1
      have hm2 : m + 2 ≤ 200000000000 := by have := HM.out; omega
      have hm1 : 0 < m := by have := HM.out; omega
      have Q0 : Hid (hi ≤ wr.heap.size) := (by show _ ≤ _; omega)
      obtain ⟨m1, e1⟩ : ∃ m1 : Nat, m1 = m + 1 := ⟨_, rfl⟩
      have ei1 : (m : Int) + 1 = m1 := by omega
      have E1 := hide e1
      clear e1
      obtain ⟨m2, e2⟩ : ∃ m2 : Nat, m2 = m + 2 := ⟨_, rfl⟩
      have ei2 : (m1 : Int) + 1 = m2 := by omega
      have E2 := hide e2
      clear e2
      clear HF HK hwz
      obtain ⟨u0, hu0⟩ : ∃ u, xs[i * 2]? = some u := ⟨_, List.getElem?_eq_getElem (by have := HXS.out; omega)⟩
      have c0 : wr.cell? ⟨g, i * 2, none⟩ = some u0 := F0.out.old hu0 HML.out
      have f0 := F0.out.frozen (i * 2)
      have F1 : Hid (Flt 69 g (M.take (i * 2 + 1) ++ xs.drop (i * 2 + 1)) (wr.setCell ⟨g, i * 2, none⟩ (.int .i64 (m : Int)))) := by
        refine F0.out.step ?_ HML.out
        have h1 := HMA.out i 0 false (by omega) rfl
        rw [show k0 + (i * 2 + 0) = m by have := HM.out; omega] at h1
        exact h1
      have K1 : Hid (Kept2 w (wr.setCell ⟨g, i * 2, none⟩ (.int .i64 (m : Int))) (Apt lo hi)) := K0.out.trans ⟨rfl, rfl, rfl, by simp, fun q _ hne => Below.heap_setCell _ _ _ _ (fun (e : q = g) => hne ⟨by omega, by omega⟩)⟩
      have Q1 : Hid (hi ≤ (wr.setCell ⟨g, i * 2, none⟩ (.int .i64 (m : Int))).heap.size) := (by show _ ≤ _; simp only [World.setCell, Array.size_modify]; exact Q0.out)
      clear F0 K0 Q0 hu0
      go_upto_region 6 with fail
      clear c0 f0
      generalize wr.setCell ⟨g, i * 2, none⟩ (.int .i64 (m : Int)) = x0 at F1 K1 Q1 ⊢
      obtain ⟨u1, hu1⟩ : ∃ u, xs[i * 2 + 1]? = some u := ⟨_, List.getElem?_eq_getElem (by have := HXS.out; omega)⟩
      have c1 : x0.cell? ⟨g, i * 2 + 1, none⟩ = some u1 := F1.out.old hu1 HML.out
      have f1 := F1.out.frozen (i * 2 + 1)
      have F2 : Hid (Flt 69 g (M.take (i * 2 + 1 + 1) ++ xs.drop (i * 2 + 1 + 1)) (x0.setCell ⟨g, i * 2 + 1, none⟩ (.int .i64 (m1 : Int)))) := by
        refine F1.out.step ?_ HML.out
        have h1 := HMA.out i 1 false (by omega) rfl
        rw [show k0 + (i * 2 + 1) = m1 by have := HM.out; have := E1.out; omega] at h1
        exact h1
      have K2 : Hid (Kept2 w (x0.setCell ⟨g, i * 2 + 1, none⟩ (.int .i64 (m1 : Int))) (Apt lo hi)) := K1.out.trans ⟨rfl, rfl, rfl, by simp, fun q _ hne => Below.heap_setCell _ _ _ _ (fun (e : q = g) => hne ⟨by omega, by omega⟩)⟩
      have Q2 : Hid (hi ≤ (x0.setCell ⟨g, i * 2 + 1, none⟩ (.int .i64 (m1 : Int))).heap.size) := (by show _ ≤ _; simp only [World.setCell, Array.size_modify]; exact Q1.out)
      clear F1 K1 Q1 hu1
      have FE : Hid (∀ g', some (⟨g, 0, none⟩ : Addr) = some ⟨g', 0, none⟩ → Flt 69 g' (M.take ((i + 1) * 2) ++ xs.drop ((i + 1) * 2)) (x0.setCell ⟨g, i * 2 + 1, none⟩ (.int .i64 (m1 : Int)))) := by
        intro g' e
        injection e with e
        injection e with e
        subst e
        have := F2.out
        rw [show i * 2 + 1 + 1 = (i + 1) * 2 by omega] at this
        exact this
      clear F2 Q2
      go_wp2
      clear c1 f1
      go_roundw
      case rel => exact ⟨i + 1, m2, by omega, by go_num, rfl, (by have := E2.out; omega), (by show _ = _; have := E2.out; have := HM.out; omega), FE, K2⟩
      case measure => simp [intOf]; omega
    · have hi2 : i = n := by omega
      subst hi2
      have R : Hid (Sli 69 lo hi (.slice ad i ca) i M wr) := by
        rcases HA.out with ⟨h1, h2⟩ | ⟨g, cap, h1, h2, h3, -⟩
        · exact Or.inl ⟨h1, h2⟩
        · injection h1 with e1 e2 e3
          subst e1 e3
          have h4 := HF.out g rfl
          rw [List.take_of_length_le (by have := HML.out; have := HXS.out; omega), List.drop_of_length_le (by have := HXS.out; omega), List.append_nil] at h4
          exact Or.inr ⟨g, ca, rfl, h2, h3, h4⟩
      have HE : Hid ((m : Int) = ((k0 + i * 2 : Nat) : Int)) := (by show _ = _; rw [HM.out])
      clear HF
      go_wp2
      go_ret
      exact ⟨congrArg (fun x => Ending.returned (.int .i64 x)) HE.out, R, HK⟩
set_option maxHeartbeats 2000000 in
set_option maxRecDepth 100000 in
theorem heldVl_any (lo hi : Nat) (a : Value) (n k0 : Nat) (w : World) (hn : n ≤ 1000000000) (hk0 : 0 < k0) (hk1 : k0 ≤ 100000000000) (hh : hi ≤ w.heap.size) (ha : Sli 69 lo hi a n (mkFlat patVl k0 n) w) :
    Calls Tryz.prog 29 #[a, .int .i64 (k0 : Int)] w fun e w' => e = .returned (.int .i64 ((k0 + n * 2 : Nat) : Int)) ∧ Below w.heap.size w w' := by
  obtain ⟨ad, ca, rfl, a3⟩ := ha.form
  have A3 := hide a3
  have HMA : Hid (∀ (g i j : Nat) (s : Bool) (W : World), ad = some ⟨g, 0, none⟩ → Below w.heap.size w W → i < n → patVl[j]? = some s → W.cell? ⟨g, i * 2 + j, none⟩ = some (mkv s (k0 + (i * 2 + j)))) := by
    rintro g i j s W rfl hW h1 h2
    exact (ha.flt.below hW).cell (mkFlat_at patVl k0 n i j s h1 h2)
  clear ha a3
  go_enter Tryz.func29, Tryz.ntmps29
  go_wp2
  go_loopw [1, 5] (fun mv iv wr => ∃ i m : Nat, i ≤ n ∧ iv = .int .i64 i ∧ mv = .int .i64 m ∧ m ≤ 200000000000 ∧ Hid (m = k0 + i * 2) ∧ Hid (Below w.heap.size w wr)) (fun _ iv _ => n - (intOf iv).toNat)
  case atStart => exact ⟨0, k0, Nat.zero_le _, rfl, rfl, by omega, (by show _ = _; omega), Below.refl _ _⟩
  case round =>
    obtain ⟨i, m, hin, rfl, rfl, hm, HM, HW0⟩ := hrel
    have hsz := HW0.out.size
    by_cases hlt : (i : Int) < n
    · obtain ⟨g, e, g1, g2⟩ := A3.out (by omega)
      subst e
      have i0 : (0 : Int) ≤ i := by omega
      have hm2 : m + 2 ≤ 200000000000 := by have := HM.out; omega
      have hm1 : 0 < m := by have := HM.out; omega
      have hgw : g < wr.heap.size := by omega
      obtain ⟨m1, e1⟩ : ∃ m1 : Nat, m1 = m + 1 := ⟨_, rfl⟩
      have ei1 : (m : Int) + 1 = m1 := by omega
      have E1 := hide e1
      clear e1
      obtain ⟨m2, e2⟩ : ∃ m2 : Nat, m2 = m + 2 := ⟨_, rfl⟩
      have ei2 : (m1 : Int) + 1 = m2 := by omega
      have E2 := hide e2
      clear e2
      have c0 : wr.cell? ⟨g, i * 2, none⟩ = some (.int .i64 (m : Int)) := by
        have h1 := HMA.out g i 0 false wr rfl HW0.out (by omega) rfl
        rw [show k0 + (i * 2 + 0) = m by have := HM.out; omega] at h1
        exact h1
      have n0 : ((m : Int) != (m : Int)) = false := by simp
      have c1 : wr.cell? ⟨g, i * 2 + 1, none⟩ = some (.int .i64 (m1 : Int)) := by
        have h1 := HMA.out g i 1 false wr rfl HW0.out (by omega) rfl
        rw [show k0 + (i * 2 + 1) = m1 by have := HM.out; have := E1.out; omega] at h1
        exact h1
      have n1 : ((m1 : Int) != (m1 : Int)) = false := by simp
      go_wp2
      go_roundw
      case rel => exact ⟨i + 1, m2, by omega, by go_num, rfl, (by have := E2.out; omega), (by show _ = _; have := E2.out; have := HM.out; omega), HW0⟩
      case measure => simp [intOf]; omega
    · have hi2 : i = n := by omega
      have HE : Hid ((m : Int) = ((k0 + n * 2 : Nat) : Int)) := (by show _ = _; rw [HM.out, hi2])
      clear hi2
      go_wp2
      go_ret
      exact ⟨congrArg (fun x => Ending.returned (.int .i64 x)) HE.out, HW0.out⟩
end Go.Proofs.YtcnaahajaaifjacGreat

/-
  The laws' own markStore.
-/
namespace Go.Proofs.YtcnaahajaaifjacGreat
open Go.RowKit
open Words

set_option maxHeartbeats 400000 in
set_option maxRecDepth 100000 in
theorem markSto_any (l1 h1 l2 h2 : Nat) (va : Option Addr) (n vc : Nat) (kv : Value) (nx : Int) (xs : List Value) (ys : List Vw) (w : World) (hn : n ≤ 1048576) (hxs : xs.length = n * 2) (hl : ys.length ≤ 1048580) (hll : ∀ y ∈ ys, y.2.2.1 ≤ 1048576 ∧ y.2.2.2.length = y.2.2.1) (he : vend (1 + n * 2) ys ≤ 1000000000) (hh1 : h1 ≤ w.heap.size) (hh2 : h2 ≤ w.heap.size) (hap : h1 ≤ l2 ∨ h2 ≤ l1) (ha : Sli 69 l1 h1 (.slice va n vc) n xs w) (hk : VIn l2 h2 kv ys w) :
    Calls Tryz.prog 12 #[.agg #[.slice va n vc, kv, .int .i64 nx], .int .i64 1] w fun e w' => e = .returned (.int .i64 ((vend (1 + n * 2) ys : Nat) : Int)) ∧ Hid (Sli 69 l1 h1 (.slice va n vc) n (mkFlat patVl 1 n) w') ∧ Hid (VIn l2 h2 kv (vmk (1 + n * 2) ys) w') ∧ Hid (Kept2 w w' (fun i => Apt l1 h1 i ∧ Apt l2 h2 i)) := by
  obtain ⟨ad, ca, rfl, -⟩ := hk.1.form
  have bA := (Below.refl w.heap.size w).alloc (Nat.le_refl _) (.cells #[.slice va n vc, .slice ad ys.length ca, .int .i64 nx] 36)
  have hz := bA.size
  have C1 := hide (markVl_any l1 h1 (.slice va n vc) n 1 xs _ (by omega) hxs (by omega) (by omega) (by omega) (Sli.loc _ _ _ _ _ _ _ _ (fun i _ hi => bA.block i (by omega)) ha))
  have K1 := hide (VIn.loc _ _ _ _ _ _ (fun i _ hi => bA.block i (by omega)) hk)
  have HB := hide bA
  have GB := hide (heap_alloc_new w (.cells #[.slice va n vc, .slice ad ys.length ca, .int .i64 nx] 36))
  have HLL := hide hll
  obtain ⟨yn, hyn⟩ : ∃ yn, ys.length = yn := ⟨_, rfl⟩
  obtain ⟨m, hm⟩ : ∃ m, 1 + n * 2 = m := ⟨_, rfl⟩
  have HM := hide hm
  rw [hyn] at C1 K1 HB GB
  rw [hm] at C1 he
  rw [hyn, hm]
  obtain ⟨t, ht⟩ : ∃ t, vend m ys = t := ⟨_, rfl⟩
  rw [ht]
  have HT := hide ht
  clear ht
  clear ha hk bA hz hll hyn hm
  go_enter Tryz.func12, Tryz.ntmps12
  go_wp2_with fail
  generalize w.alloc (.cells #[.slice va n vc, .slice ad yn ca, .int .i64 nx] 36) = wb at C1 K1 HB GB ⊢
  refine C1.out.mono ?_
  rintro e w1 ⟨rfl, s1, k1⟩
  have hwb : Hid (w.heap.size < wb.heap.size) := (Array.getElem?_eq_some_iff.1 GB.out).1
  have G1 : Hid (w1.heap[w.heap.size]? = some (.cells #[.slice va n vc, .slice ad yn ca, .int .i64 nx] 36 (0, 0))) := (k1.out.2.2.2.2 _ hwb.out (show Apt l1 h1 w.heap.size by unfold Apt; omega)).trans GB.out
  have q1 := cell_of_row _ _ 1 _ _ _ G1.out
  have hs1 : Hid (wb.heap.size ≤ w1.heap.size) := k1.out.2.2.2.1
  have V1 : Hid (VIn l2 h2 (.slice ad yn ca) ys w1) := VIn.loc _ _ _ _ wb w1 (fun i i1 i2 => k1.out.2.2.2.2 i (by have := hwb.out; omega) (show Apt l1 h1 i by unfold Apt; omega)) K1.out
  have m0 : Hid (0 < m) := by have := HM.out; show _ < _; omega
  have C2 := hide (markAr_from m m0.out l2 h2 (.slice ad yn ca) ys w1 hl HLL.out he (by have := hwb.out; have := hs1.out; omega) V1.out)
  have KW : Hid (Kept2 w w1 (fun i => Apt l1 h1 i ∧ Apt l2 h2 i)) := (Kept2.below HB.out).trans ⟨k1.out.1, k1.out.2.1, k1.out.2.2.1, k1.out.2.2.2.1, fun i hi ho => k1.out.2.2.2.2 i hi ho.1⟩
  rw [HT.out] at C2
  clear k1 C1 GB G1 V1 K1 he
  go_wp2_with fail
  refine C2.out.mono ?_
  rintro e w2 ⟨rfl, s2, k2⟩
  have hs2 : Hid (h1 ≤ w1.heap.size) := by have := hwb.out; have := hs1.out; show _ ≤ _; omega
  have S2 : Hid (Sli 69 l1 h1 (.slice va n vc) n (mkFlat patVl 1 n) w2) := Sli.loc _ _ _ _ _ _ w1 w2 (fun i i1 i2 => k2.out.2.2.2.2 i (by have := hs2.out; omega) (show Apt l2 h2 i by unfold Apt; omega)) s1.out
  have KW2 : Hid (Kept2 w w2 (fun i => Apt l1 h1 i ∧ Apt l2 h2 i)) := KW.out.trans ⟨k2.out.1, k2.out.2.1, k2.out.2.2.1, k2.out.2.2.2.1, fun i hi ho => k2.out.2.2.2.2 i hi ho.2⟩
  clear C2 k2 KW s1
  go_wp2
  go_ret
  exact ⟨rfl, S2, s2, KW2⟩
set_option maxHeartbeats 400000 in
set_option maxRecDepth 100000 in
theorem heldSto_any (l1 h1 l2 h2 : Nat) (va : Option Addr) (n vc : Nat) (kv : Value) (nx : Int) (ys : List Vw) (w : World) (hn : n ≤ 1048576) (hl : ys.length ≤ 1048580) (hll : ∀ y ∈ ys, y.2.2.1 ≤ 1048576) (he : vend (1 + n * 2) ys ≤ 1000000000) (hh1 : h1 ≤ w.heap.size) (hh2 : h2 ≤ w.heap.size) (ha : Sli 69 l1 h1 (.slice va n vc) n (mkFlat patVl 1 n) w) (hk : VIn l2 h2 kv (vmk (1 + n * 2) ys) w) :
    Calls Tryz.prog 14 #[.agg #[.slice va n vc, kv, .int .i64 nx], .int .i64 1] w fun e w' => e = .returned (.int .i64 ((vend (1 + n * 2) ys : Nat) : Int)) ∧ Below w.heap.size w w' := by
  obtain ⟨ad, ca, rfl, -⟩ := hk.1.form
  obtain ⟨yn, hyn⟩ : ∃ yn, (vmk (1 + n * 2) ys).length = yn := ⟨_, rfl⟩
  rw [hyn] at hk ⊢
  have bA := (Below.refl w.heap.size w).alloc (Nat.le_refl _) (.cells #[.slice va n vc, .slice ad yn ca, .int .i64 nx] 36)
  have hz := bA.size
  have C1 := hide (heldVl_any l1 h1 (.slice va n vc) n 1 _ (by omega) (by omega) (by omega) (by omega) (Sli.loc _ _ _ _ _ _ _ _ (fun i _ hi => bA.block i (by omega)) ha))
  have K1 := hide (VIn.loc _ _ _ _ _ _ (fun i _ hi => bA.block i (by omega)) hk)
  have HB := hide bA
  have GB := hide (heap_alloc_new w (.cells #[.slice va n vc, .slice ad yn ca, .int .i64 nx] 36))
  have HLL := hide hll
  obtain ⟨m, hm⟩ : ∃ m, 1 + n * 2 = m := ⟨_, rfl⟩
  have m0 : 0 < m := by omega
  rw [hm] at C1 he K1 ⊢
  obtain ⟨t, ht⟩ : ∃ t, vend m ys = t := ⟨_, rfl⟩
  rw [ht]
  have HT := hide ht
  have m1 : ¬ ((m : Int) < 0) := by omega
  have t1 : ¬ ((t : Int) < 0) := by omega
  clear ha hk bA hz hll hyn hm ht
  go_enter Tryz.func14, Tryz.ntmps14
  go_wp2_with fail
  generalize w.alloc (.cells #[.slice va n vc, .slice ad yn ca, .int .i64 nx] 36) = wb at C1 K1 HB GB ⊢
  refine C1.out.mono ?_
  rintro e w1 ⟨rfl, b1⟩
  have hwb : Hid (w.heap.size < wb.heap.size) := (Array.getElem?_eq_some_iff.1 GB.out).1
  have q1 := cell_of_row _ _ 1 _ _ _ ((b1.block _ hwb.out).trans GB.out)
  have B1 := hide (HB.out.trans (b1.mono HB.out.size))
  have C2 := hide (heldAr_from m m0 l2 h2 (.slice ad yn ca) ys w1 hl HLL.out he (by have := B1.out.size; omega) (VIn.loc _ _ _ _ wb w1 (fun i i1 i2 => b1.block i (by have := hwb.out; omega)) K1.out))
  rw [HT.out] at C2
  clear b1 C1 GB K1 he
  go_wp2_with fail
  refine C2.out.mono ?_
  rintro e w2 ⟨rfl, b2⟩
  have B2 := hide (B1.out.trans (b2.mono B1.out.size))
  clear C2 b2
  go_wp2
  go_ret
  exact ⟨rfl, B2.out⟩
end Go.Proofs.YtcnaahajaaifjacGreat

/-
  The laws' own toVol, eqVol and eqVolS.
-/
namespace Go.Proofs.YtcnaahajaaifjacGreat
open Go.RowKit

set_option maxHeartbeats 400000 in
set_option maxRecDepth 100000 in
theorem toVl_any (x0 : Int) (x1 : Int) (w : World) :
    Calls Tryz.prog 39 #[.agg #[.int .i64 x0, .int .i64 x1]] w fun e w' => e = .returned (.agg #[.int .i64 x0, .int .i64 x1]) ∧ Below w.heap.size w w' := by
  go_enter Tryz.func39, Tryz.ntmps39
  go_wp2
  have h1 := heap_alloc_new (w.alloc (.cells #[.int .i64 x0, .int .i64 x1] 71)) (.cells #[.int .i64 x0, .int .i64 x1] 69)
  have hs : (w.alloc (.cells #[.int .i64 x0, .int .i64 x1] 71)).heap.size = w.heap.size + 1 := by simp
  rw [hs] at h1
  have h2 := (Below.heap_alloc ((w.alloc (.cells #[.int .i64 x0, .int .i64 x1] 71)).alloc (.cells #[.int .i64 x0, .int .i64 x1] 69)) (.cells #[.int .i64 x0, .int .i64 x1] 69) (w.heap.size + 1) (by simp)).trans h1
  exact bodyPost_ret (results_cell_row rfl _ _ (w.heap.size + 1) 69 _ (0, 0) _ rfl h2 Tryz.underlying69 rfl infoVlz) rfl ⟨rfl, (((Below.refl _ _).alloc (Nat.le_refl _) _).alloc (by simp) _).alloc (by simp; omega) _⟩
set_option maxHeartbeats 400000 in
set_option maxRecDepth 100000 in
theorem eqVl_same (x0 : Int) (x1 : Int) (w : World) :
    Calls Tryz.prog 49 #[.agg #[.int .i64 x0, .int .i64 x1], .agg #[.int .i64 x0, .int .i64 x1]] w fun e w' => e = .returned (.bool true) ∧ Below w.heap.size w w' := by
  have e0 : (x0 != x0) = false := by simp
  have e1 : (x1 != x1) = false := by simp
  go_enter Tryz.func49, Tryz.ntmps49
  go_wp2
  go_ret
  exact ⟨rfl, ((Below.refl _ _).alloc (Nat.le_refl _) _).alloc (by simp) _⟩
set_option maxHeartbeats 1000000 in
set_option maxRecDepth 100000 in
theorem eqVls_same (a b : Value) (M : List (Int × Int)) (B1 C1 B2 C2 : Nat) (w : World) (hM : M.length ≤ 1000000000000000000) (ha : Sli 69 B1 C1 a M.length (vlcells M) w) (hb : Sli 69 B2 C2 b M.length (vlcells M) w) :
    Calls Tryz.prog 24 #[a, b] w fun e w' => e = .returned (.bool true) ∧ Below w.heap.size w w' := by
  obtain ⟨ad, capa, rfl, a3⟩ := ha.form
  obtain ⟨bd, capb, rfl, b3⟩ := hb.form
  obtain ⟨n, hn⟩ : ∃ n, M.length = n := ⟨_, rfl⟩
  have HN := hide hn
  have HSA := hide ha
  have HSB := hide hb
  rw [hn] at hM a3 b3 HSA HSB ⊢
  have A3 := hide a3
  have B3 := hide b3
  clear a3 b3 ha hb hn
  go_enter Tryz.func24, Tryz.ntmps24
  go_wp2
  go_loopw [5] (fun iv wr => ∃ k : Nat, k ≤ n ∧ iv = .int .i64 k ∧ Hid (Below w.heap.size w wr)) (fun iv _ => n - (intOf iv).toNat)
  case atStart => exact ⟨0, Nat.zero_le _, rfl, Below.refl _ _⟩
  case round =>
    obtain ⟨k, hk, rfl, HW⟩ := hrel
    by_cases hlt : (k : Int) < n
    · obtain ⟨ga, e, _, _⟩ := A3.out (by omega)
      subst e
      obtain ⟨gb, e, _, _⟩ := B3.out (by omega)
      subst e
      have hkl : k < M.length := by have := HN.out; omega
      obtain ⟨x0, x1, hx⟩ : ∃ x0 x1, M[k]? = some (x0, x1) := ⟨M[k].1, M[k].2, List.getElem?_eq_getElem hkl⟩
      have GA := HSA.out.flt.below HW.out
      have GB := HSB.out.flt.below HW.out
      have c0 : wr.cell? ⟨ga, k * 2, none⟩ = some (.int .i64 x0) := GA.cell (vlcells_at M k _ hx 0 _ rfl)
      have d0 : wr.cell? ⟨gb, k * 2, none⟩ = some (.int .i64 x0) := GB.cell (vlcells_at M k _ hx 0 _ rfl)
      have c1 : wr.cell? ⟨ga, k * 2 + 1, none⟩ = some (.int .i64 x1) := GA.cell (vlcells_at M k _ hx 1 _ rfl)
      have d1 : wr.cell? ⟨gb, k * 2 + 1, none⟩ = some (.int .i64 x1) := GB.cell (vlcells_at M k _ hx 1 _ rfl)
      have k0 : (0 : Int) ≤ k := by omega
      have CE := hide (eqVl_same x0 x1 wr.drew)
      have CF := hide (eqVl_same x0 x1 wr)
      have hsz := HW.out.size
      have gaw : ga < wr.heap.size := World.block_lt_of_cell? wr _ c0
      have gbw : gb < wr.heap.size := World.block_lt_of_cell? wr _ d0
      clear hx hkl GA GB
      first
        | (go_wp2_with fail
           refine CF.out.mono ?_
           rintro e w1 ⟨rfl, b1⟩
           have HW1 := hide (HW.out.trans (b1.mono hsz)))
        | (go_wp2
           go_region_held3 (fun w' => w'.cell? ⟨ga, k * 2, none⟩ = some (.int .i64 x0) ∧ w'.cell? ⟨ga, k * 2 + 1, none⟩ = some (.int .i64 x1) ∧ w'.cell? ⟨gb, k * 2, none⟩ = some (.int .i64 x0) ∧ w'.cell? ⟨gb, k * 2 + 1, none⟩ = some (.int .i64 x1)) (first | go_keep | exact ⟨(b1.cell (show ga < wr.drew.heap.size from gaw)).trans c0, (b1.cell (show ga < wr.drew.heap.size from gaw)).trans c1, (b1.cell (show gb < wr.drew.heap.size from gbw)).trans d0, (b1.cell (show gb < wr.drew.heap.size from gbw)).trans d1⟩) ((go_at_call 49; (with_reducible refine Calls.mono CE.out ?_); rintro en w1 ⟨rfl, b1⟩))
           have HW1 := hide (HW.out.drew.trans (b1.mono (show w.heap.size ≤ wr.drew.heap.size from hsz))))
      all_goals
        clear b1 CE CF HW c0 c1 d0 d1
        go_wp2
        go_roundw
        case rel => exact ⟨k + 1, by omega, by go_num, HW1⟩
        case measure => simp [intOf]; omega
    · go_wp2
      go_ret
      exact ⟨rfl, HW.out⟩
end Go.Proofs.YtcnaahajaaifjacGreat
