/-
  ArMkF; MkVl
-/
import Derived.Test.YtcnaahajaaifjabPq21
import Derived.Test.YtcnaahajaaifjabPq6
import Derived.Test.YtcnaahajaaifjabPq1
import Derived.Test.YtcnaahajaaifjabPq0
import Derived.Deep.DeepCutAuto
import Derived.Deep.RegionHeld3
/-
  Arenas: marked from any number on, and held.
-/
namespace Go.Proofs.Ytcnaahajaaifjab
open Go.RowKit
open Words

set_option maxHeartbeats 400000 in
set_option maxRecDepth 100000 in
theorem markAr_from (k0 : Nat) (h0 : 0 < k0) (lo hi : Nat) (a : Value) (ys : List Vw) (w : World) (hl : ys.length ≤ 1048580) (hll : ∀ y ∈ ys, y.2.2.1 ≤ 1048576 ∧ y.2.2.2.length = y.2.2.1) (he : vend k0 ys ≤ 1000000000) (hh : hi ≤ w.heap.size) (ha : VIn lo hi a ys w) :
    Calls Try.prog 56 #[.agg #[a], .int .i64 (k0 : Int)] w fun e w' => e = .returned (.int .i64 ((vend k0 ys : Nat) : Int)) ∧ Hid (VIn lo hi a (vmk k0 ys) w') ∧ Hid (Kept2 w w' (Apt lo hi)) := by
  obtain ⟨ad, ca, rfl, a3⟩ := ha.1.form
  have bA := (Below.refl w.heap.size w).alloc (Nat.le_refl _) (.cells #[.slice ad ys.length ca] 33)
  have C := hide (markKns_from k0 h0 lo hi _ ys _ hl hll he (VIn.loc _ _ _ _ _ _ (fun i _ hi => bA.block i (by omega)) ha))
  have HK := hide (Kept2.below (ok := Apt lo hi) bA)
  obtain ⟨n, hn⟩ : ∃ n, ys.length = n := ⟨_, rfl⟩
  obtain ⟨m, hm⟩ : ∃ m, vend k0 ys = m := ⟨_, rfl⟩
  rw [hn, hm] at C
  rw [hn] at HK
  rw [hn, hm]
  clear ha hll a3 bA he hm hn hl
  go_enter Try.func56, Try.ntmps56
  go_wp2_with fail
  refine C.out.mono ?_
  rintro e w1 ⟨rfl, hv, hk⟩
  have K2 := hide (HK.out.trans hk.out)
  clear C hk HK
  go_wp2
  go_ret
  exact ⟨rfl, hv, K2⟩
end Go.Proofs.Ytcnaahajaaifjab

/-
  Rows of volumes: marked.
-/
namespace Go.Proofs.Ytcnaahajaaifjab
open Go.RowKit

/-- What the cells of one element are: numbers, and texts. -/
def patVl : List Bool := [false, false]
set_option maxHeartbeats 2000000 in
set_option maxRecDepth 100000 in
theorem markVl_any (lo hi : Nat) (a : Value) (n k0 : Nat) (xs : List Value) (w : World) (hn : n ≤ 1000000000) (hxs : xs.length = n * 2) (hk0 : 0 < k0) (hk1 : k0 ≤ 100000000000) (hh : hi ≤ w.heap.size) (ha : Sli 57 lo hi a n xs w) :
    Calls Try.prog 55 #[a, .int .i64 (k0 : Int)] w fun e w' => e = .returned (.int .i64 ((k0 + n * 2 : Nat) : Int)) ∧ Hid (Sli 57 lo hi a n (mkFlat patVl k0 n) w') ∧ Hid (Kept2 w w' (Apt lo hi)) := by
  obtain ⟨ad, ca, rfl, a3⟩ := ha.form
  have A3 := hide a3
  obtain ⟨M, hM⟩ : ∃ M, mkFlat patVl k0 n = M := ⟨_, rfl⟩
  have HML : Hid (M.length = xs.length) := by show _ = _; rw [← hM, mkFlat_len, hxs]; rfl
  have HMA : Hid (∀ (i j : Nat) (s : Bool), i < n → patVl[j]? = some s → M[i * 2 + j]? = some (mkv s (k0 + (i * 2 + j)))) := by
    intro i j s h1 h2
    rw [← hM]
    exact mkFlat_at patVl k0 n i j s h1 h2
  have HXS := hide hxs
  have HA := hide ha
  have F00 : Hid (∀ g, ad = some ⟨g, 0, none⟩ → Flt 57 g (M.take (0 * 2) ++ xs.drop (0 * 2)) w) := by
    rintro g rfl
    have := ha.flt
    simpa using this
  rw [hM]
  clear ha a3 hxs hM
  go_enter Try.func55, Try.ntmps55
  go_wp2
  go_loopw [1, 5] (fun mv iv wr => ∃ i m : Nat, i ≤ n ∧ iv = .int .i64 i ∧ mv = .int .i64 m ∧ m ≤ 200000000000 ∧ Hid (m = k0 + i * 2) ∧ Hid (∀ g, ad = some ⟨g, 0, none⟩ → Flt 57 g (M.take (i * 2) ++ xs.drop (i * 2)) wr) ∧ Hid (Kept2 w wr (Apt lo hi))) (fun _ iv _ => n - (intOf iv).toNat)
  case atStart => exact ⟨0, k0, Nat.zero_le _, rfl, rfl, by omega, (by show _ = _; omega), F00, Kept2.refl _ _⟩
  case round =>
    obtain ⟨i, m, hin, rfl, rfl, hm, HM, HF, HK⟩ := hrel
    clear F00
    by_cases hlt : (i : Int) < n
    · obtain ⟨g, e, g1, g2⟩ := A3.out (by omega)
      subst e
      have i0 : (0 : Int) ≤ i := by omega
      have F0 := hide (HF.out g rfl)
      have K0 := hide HK.out
      have hwz := HK.out.2.2.2.1
      have hm2 : m + 2 ≤ 200000000000 := by have := HM.out; omega
      have hm1 : 0 < m := by have := HM.out; omega
      have Q0 : Hid (hi ≤ wr.heap.size) := (by show _ ≤ _; omega)
      obtain ⟨m1, e1⟩ : ∃ m1 : Nat, m1 = m + 1 := ⟨_, rfl⟩
      have ei1 : (m : Int) + 1 = m1 := by omega
      have E1 := hide e1
      clear e1
      obtain ⟨m2, e2⟩ : ∃ m2 : Nat, m2 = m + 2 := ⟨_, rfl⟩
      have ei2 : (m1 : Int) + 1 = m2 := by omega
      have E2 := hide e2
      clear e2
      clear HF HK hwz
      obtain ⟨u0, hu0⟩ : ∃ u, xs[i * 2]? = some u := ⟨_, List.getElem?_eq_getElem (by have := HXS.out; omega)⟩
      have c0 : wr.cell? ⟨g, i * 2, none⟩ = some u0 := F0.out.old hu0 HML.out
      have f0 := F0.out.frozen (i * 2)
      have F1 : Hid (Flt 57 g (M.take (i * 2 + 1) ++ xs.drop (i * 2 + 1)) (wr.setCell ⟨g, i * 2, none⟩ (.int .i64 (m : Int)))) := by
        refine F0.out.step ?_ HML.out
        have h1 := HMA.out i 0 false (by omega) rfl
        rw [show k0 + (i * 2 + 0) = m by have := HM.out; omega] at h1
        exact h1
      have K1 : Hid (Kept2 w (wr.setCell ⟨g, i * 2, none⟩ (.int .i64 (m : Int))) (Apt lo hi)) := K0.out.trans ⟨rfl, rfl, rfl, by simp, fun q _ hne => Below.heap_setCell _ _ _ _ (fun (e : q = g) => hne ⟨by omega, by omega⟩)⟩
      have Q1 : Hid (hi ≤ (wr.setCell ⟨g, i * 2, none⟩ (.int .i64 (m : Int))).heap.size) := (by show _ ≤ _; simp only [World.setCell, Array.size_modify]; exact Q0.out)
      clear F0 K0 Q0 hu0
      go_upto_region 6 with fail
      clear c0 f0
      generalize wr.setCell ⟨g, i * 2, none⟩ (.int .i64 (m : Int)) = x0 at F1 K1 Q1 ⊢
      obtain ⟨u1, hu1⟩ : ∃ u, xs[i * 2 + 1]? = some u := ⟨_, List.getElem?_eq_getElem (by have := HXS.out; omega)⟩
      have c1 : x0.cell? ⟨g, i * 2 + 1, none⟩ = some u1 := F1.out.old hu1 HML.out
      have f1 := F1.out.frozen (i * 2 + 1)
      have F2 : Hid (Flt 57 g (M.take (i * 2 + 1 + 1) ++ xs.drop (i * 2 + 1 + 1)) (x0.setCell ⟨g, i * 2 + 1, none⟩ (.int .i64 (m1 : Int)))) := by
        refine F1.out.step ?_ HML.out
        have h1 := HMA.out i 1 false (by omega) rfl
        rw [show k0 + (i * 2 + 1) = m1 by have := HM.out; have := E1.out; omega] at h1
        exact h1
      have K2 : Hid (Kept2 w (x0.setCell ⟨g, i * 2 + 1, none⟩ (.int .i64 (m1 : Int))) (Apt lo hi)) := K1.out.trans ⟨rfl, rfl, rfl, by simp, fun q _ hne => Below.heap_setCell _ _ _ _ (fun (e : q = g) => hne ⟨by omega, by omega⟩)⟩
      have Q2 : Hid (hi ≤ (x0.setCell ⟨g, i * 2 + 1, none⟩ (.int .i64 (m1 : Int))).heap.size) := (by show _ ≤ _; simp only [World.setCell, Array.size_modify]; exact Q1.out)
      clear F1 K1 Q1 hu1
      have FE : Hid (∀ g', some (⟨g, 0, none⟩ : Addr) = some ⟨g', 0, none⟩ → Flt 57 g' (M.take ((i + 1) * 2) ++ xs.drop ((i + 1) * 2)) (x0.setCell ⟨g, i * 2 + 1, none⟩ (.int .i64 (m1 : Int)))) := by
        intro g' e
        injection e with e
        injection e with e
        subst e
        have := F2.out
        rw [show i * 2 + 1 + 1 = (i + 1) * 2 by omega] at this
        exact this
      clear F2 Q2
      go_wp2
      clear c1 f1
      go_roundw
      case rel => exact ⟨i + 1, m2, by omega, by go_num, rfl, (by have := E2.out; omega), (by show _ = _; have := E2.out; have := HM.out; omega), FE, K2⟩
      case measure => simp [intOf]; omega
    · have hi2 : i = n := by omega
      subst hi2
      have R : Hid (Sli 57 lo hi (.slice ad i ca) i M wr) := by
        rcases HA.out with ⟨h1, h2⟩ | ⟨g, cap, h1, h2, h3, -⟩
        · exact Or.inl ⟨h1, h2⟩
        · injection h1 with e1 e2 e3
          subst e1 e3
          have h4 := HF.out g rfl
          rw [List.take_of_length_le (by have := HML.out; have := HXS.out; omega), List.drop_of_length_le (by have := HXS.out; omega), List.append_nil] at h4
          exact Or.inr ⟨g, ca, rfl, h2, h3, h4⟩
      have HE : Hid ((m : Int) = ((k0 + i * 2 : Nat) : Int)) := (by show _ = _; rw [HM.out])
      clear HF
      go_wp2
      go_ret
      exact ⟨congrArg (fun x => Ending.returned (.int .i64 x)) HE.out, R, HK⟩
end Go.Proofs.Ytcnaahajaaifjab
