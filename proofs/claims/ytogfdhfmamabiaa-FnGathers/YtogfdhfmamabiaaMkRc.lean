/-
  Rows of records: marked.
-/
import Derived.Test.YtogfdhfmamabiaaPk14
import Derived.Deep.DeepCutAuto
import Derived.Deep.RegionHeld3
namespace Go.Proofs.Ytogfdhfmamabiaa
open Go.RowKit

/-- What the cells of one element are: numbers, and texts. -/
def patRc : List Bool := [false, false, false, false]
set_option maxHeartbeats 2000000 in
set_option maxRecDepth 100000 in
theorem markRc_any (lo hi : Nat) (a : Value) (n k0 : Nat) (xs : List Value) (w : World) (hn : n ≤ 1000000000) (hxs : xs.length = n * 4) (hk0 : 0 < k0) (hk1 : k0 ≤ 100000000000) (hh : hi ≤ w.heap.size) (ha : Sli 34 lo hi a n xs w) :
    Calls Try.prog 39 #[a, .int .i64 (k0 : Int)] w fun e w' => e = .returned (.int .i64 ((k0 + n * 4 : Nat) : Int)) ∧ Hid (Sli 34 lo hi a n (mkFlat patRc k0 n) w') ∧ Hid (Kept2 w w' (Apt lo hi)) := by
  obtain ⟨ad, ca, rfl, a3⟩ := ha.form
  have A3 := hide a3
  obtain ⟨M, hM⟩ : ∃ M, mkFlat patRc k0 n = M := ⟨_, rfl⟩
  have HML : Hid (M.length = xs.length) := by show _ = _; rw [← hM, mkFlat_len, hxs]; rfl
  have HMA : Hid (∀ (i j : Nat) (s : Bool), i < n → patRc[j]? = some s → M[i * 4 + j]? = some (mkv s (k0 + (i * 4 + j)))) := by
    intro i j s h1 h2
    rw [← hM]
    exact mkFlat_at patRc k0 n i j s h1 h2
  have HXS := hide hxs
  have HA := hide ha
  have F00 : Hid (∀ g, ad = some ⟨g, 0, none⟩ → Flt 34 g (M.take (0 * 4) ++ xs.drop (0 * 4)) w) := by
    rintro g rfl
    have := ha.flt
    simpa using this
  rw [hM]
  clear ha a3 hxs hM
  go_enter Try.func39, Try.ntmps39
  go_wp2
  go_loopw [1, 5] (fun mv iv wr => ∃ i m : Nat, i ≤ n ∧ iv = .int .i64 i ∧ mv = .int .i64 m ∧ m ≤ 200000000000 ∧ Hid (m = k0 + i * 4) ∧ Hid (∀ g, ad = some ⟨g, 0, none⟩ → Flt 34 g (M.take (i * 4) ++ xs.drop (i * 4)) wr) ∧ Hid (Kept2 w wr (Apt lo hi))) (fun _ iv _ => n - (intOf iv).toNat)
  case atStart => exact ⟨0, k0, Nat.zero_le _, rfl, rfl, by omega, (by show _ = _; omega), F00, Kept2.refl _ _⟩
  case round =>
    obtain ⟨i, m, hin, rfl, rfl, hm, HM, HF, HK⟩ := hrel
    clear F00
    by_cases hlt : (i : Int) < n
    · obtain ⟨g, e, g1, g2⟩ := A3.out (by omega)
      subst e
      have i0 : (0 : Int) ≤ i := by omega
      have F0 := hide (HF.out g rfl)
      have K0 := hide HK.out
      have hwz := HK.out.2.2.2.1
      have hm2 : m + 4 ≤ 200000000000 := by have := HM.out; omega
      have hm1 : 0 < m := by have := HM.out; omega
      have Q0 : Hid (hi ≤ wr.heap.size) := (by show _ ≤ _; omega)
      obtain ⟨m1, e1⟩ : ∃ m1 : Nat, m1 = m + 1 := ⟨_, rfl⟩
      have ei1 : (m : Int) + 1 = m1 := by omega
      have E1 := hide e1
      clear e1
      obtain ⟨m2, e2⟩ : ∃ m2 : Nat, m2 = m + 2 := ⟨_, rfl⟩
      have ei2 : (m1 : Int) + 1 = m2 := by omega
      have E2 := hide e2
      clear e2
      obtain ⟨m3, e3⟩ : ∃ m3 : Nat, m3 = m + 3 := ⟨_, rfl⟩
      have ei3 : (m2 : Int) + 1 = m3 := by omega
      have E3 := hide e3
      clear e3
      obtain ⟨m4, e4⟩ : ∃ m4 : Nat, m4 = m + 4 := ⟨_, rfl⟩
      have ei4 : (m3 : Int) + 1 = m4 := by omega
      have E4 := hide e4
      clear e4
      clear HF HK hwz
      obtain ⟨u0, hu0⟩ : ∃ u, xs[i * 4]? = some u := ⟨_, List.getElem?_eq_getElem (by have := HXS.out; omega)⟩
      have c0 : wr.cell? ⟨g, i * 4, none⟩ = some u0 := F0.out.old hu0 HML.out
      have f0 := F0.out.frozen (i * 4)
      have F1 : Hid (Flt 34 g (M.take (i * 4 + 1) ++ xs.drop (i * 4 + 1)) (wr.setCell ⟨g, i * 4, none⟩ (.int .i64 (m : Int)))) := by
        refine F0.out.step ?_ HML.out
        have h1 := HMA.out i 0 false (by omega) rfl
        rw [show k0 + (i * 4 + 0) = m by have := HM.out; omega] at h1
        exact h1
      have K1 : Hid (Kept2 w (wr.setCell ⟨g, i * 4, none⟩ (.int .i64 (m : Int))) (Apt lo hi)) := K0.out.trans ⟨rfl, rfl, rfl, by simp, fun q _ hne => Below.heap_setCell _ _ _ _ (fun (e : q = g) => hne ⟨by omega, by omega⟩)⟩
      have Q1 : Hid (hi ≤ (wr.setCell ⟨g, i * 4, none⟩ (.int .i64 (m : Int))).heap.size) := (by show _ ≤ _; simp only [World.setCell, Array.size_modify]; exact Q0.out)
      clear F0 K0 Q0 hu0
      go_upto_region 6 with fail
      clear c0 f0
      generalize wr.setCell ⟨g, i * 4, none⟩ (.int .i64 (m : Int)) = x0 at F1 K1 Q1 ⊢
      obtain ⟨u1, hu1⟩ : ∃ u, xs[i * 4 + 1]? = some u := ⟨_, List.getElem?_eq_getElem (by have := HXS.out; omega)⟩
      have c1 : x0.cell? ⟨g, i * 4 + 1, none⟩ = some u1 := F1.out.old hu1 HML.out
      have f1 := F1.out.frozen (i * 4 + 1)
      have F2 : Hid (Flt 34 g (M.take (i * 4 + 1 + 1) ++ xs.drop (i * 4 + 1 + 1)) (x0.setCell ⟨g, i * 4 + 1, none⟩ (.int .i64 (m1 : Int)))) := by
        refine F1.out.step ?_ HML.out
        have h1 := HMA.out i 1 false (by omega) rfl
        rw [show k0 + (i * 4 + 1) = m1 by have := HM.out; have := E1.out; omega] at h1
        exact h1
      have K2 : Hid (Kept2 w (x0.setCell ⟨g, i * 4 + 1, none⟩ (.int .i64 (m1 : Int))) (Apt lo hi)) := K1.out.trans ⟨rfl, rfl, rfl, by simp, fun q _ hne => Below.heap_setCell _ _ _ _ (fun (e : q = g) => hne ⟨by omega, by omega⟩)⟩
      have Q2 : Hid (hi ≤ (x0.setCell ⟨g, i * 4 + 1, none⟩ (.int .i64 (m1 : Int))).heap.size) := (by show _ ≤ _; simp only [World.setCell, Array.size_modify]; exact Q1.out)
      clear F1 K1 Q1 hu1
      go_upto_region 8 with fail
      clear c1 f1
      generalize x0.setCell ⟨g, i * 4 + 1, none⟩ (.int .i64 (m1 : Int)) = x1 at F2 K2 Q2 ⊢
      obtain ⟨u2, hu2⟩ : ∃ u, xs[i * 4 + 2]? = some u := ⟨_, List.getElem?_eq_getElem (by have := HXS.out; omega)⟩
      have c2 : x1.cell? ⟨g, i * 4 + 2, none⟩ = some u2 := F2.out.old hu2 HML.out
      have f2 := F2.out.frozen (i * 4 + 2)
      have F3 : Hid (Flt 34 g (M.take (i * 4 + 2 + 1) ++ xs.drop (i * 4 + 2 + 1)) (x1.setCell ⟨g, i * 4 + 2, none⟩ (.int .i64 (m2 : Int)))) := by
        refine F2.out.step ?_ HML.out
        have h1 := HMA.out i 2 false (by omega) rfl
        rw [show k0 + (i * 4 + 2) = m2 by have := HM.out; have := E2.out; omega] at h1
        exact h1
      have K3 : Hid (Kept2 w (x1.setCell ⟨g, i * 4 + 2, none⟩ (.int .i64 (m2 : Int))) (Apt lo hi)) := K2.out.trans ⟨rfl, rfl, rfl, by simp, fun q _ hne => Below.heap_setCell _ _ _ _ (fun (e : q = g) => hne ⟨by omega, by omega⟩)⟩
      have Q3 : Hid (hi ≤ (x1.setCell ⟨g, i * 4 + 2, none⟩ (.int .i64 (m2 : Int))).heap.size) := (by show _ ≤ _; simp only [World.setCell, Array.size_modify]; exact Q2.out)
      clear F2 K2 Q2 hu2
      go_upto_region 10 with fail
      clear c2 f2
      generalize x1.setCell ⟨g, i * 4 + 2, none⟩ (.int .i64 (m2 : Int)) = x2 at F3 K3 Q3 ⊢
      obtain ⟨u3, hu3⟩ : ∃ u, xs[i * 4 + 3]? = some u := ⟨_, List.getElem?_eq_getElem (by have := HXS.out; omega)⟩
      have c3 : x2.cell? ⟨g, i * 4 + 3, none⟩ = some u3 := F3.out.old hu3 HML.out
      have f3 := F3.out.frozen (i * 4 + 3)
      have F4 : Hid (Flt 34 g (M.take (i * 4 + 3 + 1) ++ xs.drop (i * 4 + 3 + 1)) (x2.setCell ⟨g, i * 4 + 3, none⟩ (.int .i64 (m3 : Int)))) := by
        refine F3.out.step ?_ HML.out
        have h1 := HMA.out i 3 false (by omega) rfl
        rw [show k0 + (i * 4 + 3) = m3 by have := HM.out; have := E3.out; omega] at h1
        exact h1
      have K4 : Hid (Kept2 w (x2.setCell ⟨g, i * 4 + 3, none⟩ (.int .i64 (m3 : Int))) (Apt lo hi)) := K3.out.trans ⟨rfl, rfl, rfl, by simp, fun q _ hne => Below.heap_setCell _ _ _ _ (fun (e : q = g) => hne ⟨by omega, by omega⟩)⟩
      have Q4 : Hid (hi ≤ (x2.setCell ⟨g, i * 4 + 3, none⟩ (.int .i64 (m3 : Int))).heap.size) := (by show _ ≤ _; simp only [World.setCell, Array.size_modify]; exact Q3.out)
      clear F3 K3 Q3 hu3
      have FE : Hid (∀ g', some (⟨g, 0, none⟩ : Addr) = some ⟨g', 0, none⟩ → Flt 34 g' (M.take ((i + 1) * 4) ++ xs.drop ((i + 1) * 4)) (x2.setCell ⟨g, i * 4 + 3, none⟩ (.int .i64 (m3 : Int)))) := by
        intro g' e
        injection e with e
        injection e with e
        subst e
        have := F4.out
        rw [show i * 4 + 3 + 1 = (i + 1) * 4 by omega] at this
        exact this
      clear F4 Q4
      go_wp2
      clear c3 f3
      go_roundw
      case rel => exact ⟨i + 1, m4, by omega, by go_num, rfl, (by have := E4.out; omega), (by show _ = _; have := E4.out; have := HM.out; omega), FE, K4⟩
      case measure => simp [intOf]; omega
    · have hi2 : i = n := by omega
      subst hi2
      have R : Hid (Sli 34 lo hi (.slice ad i ca) i M wr) := by
        rcases HA.out with ⟨h1, h2⟩ | ⟨g, cap, h1, h2, h3, -⟩
        · exact Or.inl ⟨h1, h2⟩
        · injection h1 with e1 e2 e3
          subst e1 e3
          have h4 := HF.out g rfl
          rw [List.take_of_length_le (by have := HML.out; have := HXS.out; omega), List.drop_of_length_le (by have := HXS.out; omega), List.append_nil] at h4
          exact Or.inr ⟨g, ca, rfl, h2, h3, h4⟩
      have HE : Hid ((m : Int) = ((k0 + i * 4 : Nat) : Int)) := (by show _ = _; rw [HM.out])
      clear HF
      go_wp2
      go_ret
      exact ⟨congrArg (fun x => Ending.returned (.int .i64 x)) HE.out, R, HK⟩
set_option maxHeartbeats 2000000 in
set_option maxRecDepth 100000 in
theorem heldRc_any (lo hi : Nat) (a : Value) (n k0 : Nat) (w : World) (hn : n ≤ 1000000000) (hk0 : 0 < k0) (hk1 : k0 ≤ 100000000000) (hh : hi ≤ w.heap.size) (ha : Sli 34 lo hi a n (mkFlat patRc k0 n) w) :
    Calls Try.prog 40 #[a, .int .i64 (k0 : Int)] w fun e w' => e = .returned (.int .i64 ((k0 + n * 4 : Nat) : Int)) ∧ Below w.heap.size w w' := by
  obtain ⟨ad, ca, rfl, a3⟩ := ha.form
  have A3 := hide a3
  have HMA : Hid (∀ (g i j : Nat) (s : Bool) (W : World), ad = some ⟨g, 0, none⟩ → Below w.heap.size w W → i < n → patRc[j]? = some s → W.cell? ⟨g, i * 4 + j, none⟩ = some (mkv s (k0 + (i * 4 + j)))) := by
    rintro g i j s W rfl hW h1 h2
    exact (ha.flt.below hW).cell (mkFlat_at patRc k0 n i j s h1 h2)
  clear ha a3
  go_enter Try.func40, Try.ntmps40
  go_wp2
  go_loopw [1, 5] (fun mv iv wr => ∃ i m : Nat, i ≤ n ∧ iv = .int .i64 i ∧ mv = .int .i64 m ∧ m ≤ 200000000000 ∧ Hid (m = k0 + i * 4) ∧ Hid (Below w.heap.size w wr)) (fun _ iv _ => n - (intOf iv).toNat)
  case atStart => exact ⟨0, k0, Nat.zero_le _, rfl, rfl, by omega, (by show _ = _; omega), Below.refl _ _⟩
  case round =>
    obtain ⟨i, m, hin, rfl, rfl, hm, HM, HW0⟩ := hrel
    have hsz := HW0.out.size
    by_cases hlt : (i : Int) < n
    · obtain ⟨g, e, g1, g2⟩ := A3.out (by omega)
      subst e
      have i0 : (0 : Int) ≤ i := by omega
      have hm2 : m + 4 ≤ 200000000000 := by have := HM.out; omega
      have hm1 : 0 < m := by have := HM.out; omega
      have hgw : g < wr.heap.size := by omega
      obtain ⟨m1, e1⟩ : ∃ m1 : Nat, m1 = m + 1 := ⟨_, rfl⟩
      have ei1 : (m : Int) + 1 = m1 := by omega
      have E1 := hide e1
      clear e1
      obtain ⟨m2, e2⟩ : ∃ m2 : Nat, m2 = m + 2 := ⟨_, rfl⟩
      have ei2 : (m1 : Int) + 1 = m2 := by omega
      have E2 := hide e2
      clear e2
      obtain ⟨m3, e3⟩ : ∃ m3 : Nat, m3 = m + 3 := ⟨_, rfl⟩
      have ei3 : (m2 : Int) + 1 = m3 := by omega
      have E3 := hide e3
      clear e3
      obtain ⟨m4, e4⟩ : ∃ m4 : Nat, m4 = m + 4 := ⟨_, rfl⟩
      have ei4 : (m3 : Int) + 1 = m4 := by omega
      have E4 := hide e4
      clear e4
      have c0 : wr.cell? ⟨g, i * 4, none⟩ = some (.int .i64 (m : Int)) := by
        have h1 := HMA.out g i 0 false wr rfl HW0.out (by omega) rfl
        rw [show k0 + (i * 4 + 0) = m by have := HM.out; omega] at h1
        exact h1
      have n0 : ((m : Int) != (m : Int)) = false := by simp
      have c1 : wr.cell? ⟨g, i * 4 + 1, none⟩ = some (.int .i64 (m1 : Int)) := by
        have h1 := HMA.out g i 1 false wr rfl HW0.out (by omega) rfl
        rw [show k0 + (i * 4 + 1) = m1 by have := HM.out; have := E1.out; omega] at h1
        exact h1
      have n1 : ((m1 : Int) != (m1 : Int)) = false := by simp
      have c2 : wr.cell? ⟨g, i * 4 + 2, none⟩ = some (.int .i64 (m2 : Int)) := by
        have h1 := HMA.out g i 2 false wr rfl HW0.out (by omega) rfl
        rw [show k0 + (i * 4 + 2) = m2 by have := HM.out; have := E2.out; omega] at h1
        exact h1
      have n2 : ((m2 : Int) != (m2 : Int)) = false := by simp
      have c3 : wr.cell? ⟨g, i * 4 + 3, none⟩ = some (.int .i64 (m3 : Int)) := by
        have h1 := HMA.out g i 3 false wr rfl HW0.out (by omega) rfl
        rw [show k0 + (i * 4 + 3) = m3 by have := HM.out; have := E3.out; omega] at h1
        exact h1
      have n3 : ((m3 : Int) != (m3 : Int)) = false := by simp
      go_wp2
      go_roundw
      case rel => exact ⟨i + 1, m4, by omega, by go_num, rfl, (by have := E4.out; omega), (by show _ = _; have := E4.out; have := HM.out; omega), HW0⟩
      case measure => simp [intOf]; omega
    · have hi2 : i = n := by omega
      have HE : Hid ((m : Int) = ((k0 + n * 4 : Nat) : Int)) := (by show _ = _; rw [HM.out, hi2])
      clear hi2
      go_wp2
      go_ret
      exact ⟨congrArg (fun x => Ending.returned (.int .i64 x)) HE.out, HW0.out⟩
end Go.Proofs.Ytogfdhfmamabiaa
