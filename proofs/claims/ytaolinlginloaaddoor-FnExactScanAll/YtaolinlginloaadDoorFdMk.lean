/-
  Rows of what scans found: marked, held.
-/
import Derived.Test.YtaolinlginloaadDoorPk15
import Derived.Test.YtaolinlginloaadDoorPk4
import Derived.Deep.DeepCutAuto
import Derived.Deep.RegionHeld3
namespace Go.Proofs.YtaolinlginloaadDoor
open Go.RowKit
open Words

/-- What the cells of one element are: numbers, and texts. -/
def patFd : List Bool := [false, false, false, false, false, false, false, true]
set_option maxHeartbeats 2000000 in
set_option maxRecDepth 100000 in
theorem markFd_any (lo hi : Nat) (a : Value) (n k0 : Nat) (xs : List Value) (w : World) (hn : n ≤ 1000000000) (hxs : xs.length = n * 8) (hk0 : 0 < k0) (hk1 : k0 ≤ 100000000000) (hh : hi ≤ w.heap.size) (ha : Sli 49 lo hi a n xs w) :
    Calls Tryd.prog 12 #[a, .int .i64 (k0 : Int)] w fun e w' => e = .returned (.int .i64 ((k0 + n * 8 : Nat) : Int)) ∧ Hid (Sli 49 lo hi a n (mkFlat patFd k0 n) w') ∧ Hid (Kept2 w w' (Apt lo hi)) := by
  obtain ⟨ad, ca, rfl, a3⟩ := ha.form
  have A3 := hide a3
  obtain ⟨M, hM⟩ : ∃ M, mkFlat patFd k0 n = M := ⟨_, rfl⟩
  have HML : Hid (M.length = xs.length) := by show _ = _; rw [← hM, mkFlat_len, hxs]; rfl
  have HMA : Hid (∀ (i j : Nat) (s : Bool), i < n → patFd[j]? = some s → M[i * 8 + j]? = some (mkv s (k0 + (i * 8 + j)))) := by
    intro i j s h1 h2
    rw [← hM]
    exact mkFlat_at patFd k0 n i j s h1 h2
  have HXS := hide hxs
  have HA := hide ha
  have F00 : Hid (∀ g, ad = some ⟨g, 0, none⟩ → Flt 49 g (M.take (0 * 8) ++ xs.drop (0 * 8)) w) := by
    rintro g rfl
    have := ha.flt
    simpa using this
  rw [hM]
  clear ha a3 hxs hM
  go_enter Tryd.func12, Tryd.ntmps12
  go_wp2
  go_loopw [1, 5] (fun mv iv wr => ∃ i m : Nat, i ≤ n ∧ iv = .int .i64 i ∧ mv = .int .i64 m ∧ m ≤ 200000000000 ∧ Hid (m = k0 + i * 8) ∧ Hid (∀ g, ad = some ⟨g, 0, none⟩ → Flt 49 g (M.take (i * 8) ++ xs.drop (i * 8)) wr) ∧ Hid (Kept2 w wr (Apt lo hi))) (fun _ iv _ => n - (intOf iv).toNat)
  case atStart => exact ⟨0, k0, Nat.zero_le _, rfl, rfl, by omega, (by show _ = _; omega), F00, Kept2.refl _ _⟩
  case round =>
    obtain ⟨i, m, hin, rfl, rfl, hm, HM, HF, HK⟩ := hrel
    clear F00
    by_cases hlt : (i : Int) < n
    · obtain ⟨g, e, g1, g2⟩ := A3.out (by omega)
      subst e
      have i0 : (0 : Int) ≤ i := by omega
      have F0 := hide (HF.out g rfl)
      have K0 := hide HK.out
      have hwz := HK.out.2.2.2.1
      have hm2 : m + 8 ≤ 200000000000 := by have := HM.out; omega
      have hm1 : 0 < m := by have := HM.out; omega
      have Q0 : Hid (hi ≤ wr.heap.size) := (by show _ ≤ _; omega)
      obtain ⟨m1, e1⟩ : ∃ m1 : Nat, m1 = m + 1 := ⟨_, rfl⟩
      have ei1 : (m : Int) + 1 = m1 := by omega
      have E1 := hide e1
      clear e1
      obtain ⟨m2, e2⟩ : ∃ m2 : Nat, m2 = m + 2 := ⟨_, rfl⟩
      have ei2 : (m1 : Int) + 1 = m2 := by omega
      have E2 := hide e2
      clear e2
      obtain ⟨m3, e3⟩ : ∃ m3 : Nat, m3 = m + 3 := ⟨_, rfl⟩
      have ei3 : (m2 : Int) + 1 = m3 := by omega
      have E3 := hide e3
      clear e3
      obtain ⟨m4, e4⟩ : ∃ m4 : Nat, m4 = m + 4 := ⟨_, rfl⟩
      have ei4 : (m3 : Int) + 1 = m4 := by omega
      have E4 := hide e4
      clear e4
      obtain ⟨m5, e5⟩ : ∃ m5 : Nat, m5 = m + 5 := ⟨_, rfl⟩
      have ei5 : (m4 : Int) + 1 = m5 := by omega
      have E5 := hide e5
      clear e5
      obtain ⟨m6, e6⟩ : ∃ m6 : Nat, m6 = m + 6 := ⟨_, rfl⟩
      have ei6 : (m5 : Int) + 1 = m6 := by omega
      have E6 := hide e6
      clear e6
      obtain ⟨m7, e7⟩ : ∃ m7 : Nat, m7 = m + 7 := ⟨_, rfl⟩
      have ei7 : (m6 : Int) + 1 = m7 := by omega
      have E7 := hide e7
      clear e7
      obtain ⟨m8, e8⟩ : ∃ m8 : Nat, m8 = m + 8 := ⟨_, rfl⟩
      have ei8 : (m7 : Int) + 1 = m8 := by omega
      have E8 := hide e8
      clear e8
      clear HF HK hwz
      obtain ⟨u0, hu0⟩ : ∃ u, xs[i * 8]? = some u := ⟨_, List.getElem?_eq_getElem (by have := HXS.out; omega)⟩
      have c0 : wr.cell? ⟨g, i * 8, none⟩ = some u0 := F0.out.old hu0 HML.out
      have f0 := F0.out.frozen (i * 8)
      have F1 : Hid (Flt 49 g (M.take (i * 8 + 1) ++ xs.drop (i * 8 + 1)) (wr.setCell ⟨g, i * 8, none⟩ (.int .i64 (m : Int)))) := by
        refine F0.out.step ?_ HML.out
        have h1 := HMA.out i 0 false (by omega) rfl
        rw [show k0 + (i * 8 + 0) = m by have := HM.out; omega] at h1
        exact h1
      have K1 : Hid (Kept2 w (wr.setCell ⟨g, i * 8, none⟩ (.int .i64 (m : Int))) (Apt lo hi)) := K0.out.trans ⟨rfl, rfl, rfl, by simp, fun q _ hne => Below.heap_setCell _ _ _ _ (fun (e : q = g) => hne ⟨by omega, by omega⟩)⟩
      have Q1 : Hid (hi ≤ (wr.setCell ⟨g, i * 8, none⟩ (.int .i64 (m : Int))).heap.size) := (by show _ ≤ _; simp only [World.setCell, Array.size_modify]; exact Q0.out)
      clear F0 K0 Q0 hu0
      go_upto_region 6 with fail
      clear c0 f0
      generalize wr.setCell ⟨g, i * 8, none⟩ (.int .i64 (m : Int)) = x0 at F1 K1 Q1 ⊢
      obtain ⟨u1, hu1⟩ : ∃ u, xs[i * 8 + 1]? = some u := ⟨_, List.getElem?_eq_getElem (by have := HXS.out; omega)⟩
      have c1 : x0.cell? ⟨g, i * 8 + 1, none⟩ = some u1 := F1.out.old hu1 HML.out
      have f1 := F1.out.frozen (i * 8 + 1)
      have F2 : Hid (Flt 49 g (M.take (i * 8 + 1 + 1) ++ xs.drop (i * 8 + 1 + 1)) (x0.setCell ⟨g, i * 8 + 1, none⟩ (.int .i64 (m1 : Int)))) := by
        refine F1.out.step ?_ HML.out
        have h1 := HMA.out i 1 false (by omega) rfl
        rw [show k0 + (i * 8 + 1) = m1 by have := HM.out; have := E1.out; omega] at h1
        exact h1
      have K2 : Hid (Kept2 w (x0.setCell ⟨g, i * 8 + 1, none⟩ (.int .i64 (m1 : Int))) (Apt lo hi)) := K1.out.trans ⟨rfl, rfl, rfl, by simp, fun q _ hne => Below.heap_setCell _ _ _ _ (fun (e : q = g) => hne ⟨by omega, by omega⟩)⟩
      have Q2 : Hid (hi ≤ (x0.setCell ⟨g, i * 8 + 1, none⟩ (.int .i64 (m1 : Int))).heap.size) := (by show _ ≤ _; simp only [World.setCell, Array.size_modify]; exact Q1.out)
      clear F1 K1 Q1 hu1
      go_upto_region 8 with fail
      clear c1 f1
      generalize x0.setCell ⟨g, i * 8 + 1, none⟩ (.int .i64 (m1 : Int)) = x1 at F2 K2 Q2 ⊢
      obtain ⟨u2, hu2⟩ : ∃ u, xs[i * 8 + 2]? = some u := ⟨_, List.getElem?_eq_getElem (by have := HXS.out; omega)⟩
      have c2 : x1.cell? ⟨g, i * 8 + 2, none⟩ = some u2 := F2.out.old hu2 HML.out
      have f2 := F2.out.frozen (i * 8 + 2)
      have F3 : Hid (Flt 49 g (M.take (i * 8 + 2 + 1) ++ xs.drop (i * 8 + 2 + 1)) (x1.setCell ⟨g, i * 8 + 2, none⟩ (.int .i64 (m2 : Int)))) := by
        refine F2.out.step ?_ HML.out
        have h1 := HMA.out i 2 false (by omega) rfl
        rw [show k0 + (i * 8 + 2) = m2 by have := HM.out; have := E2.out; omega] at h1
        exact h1
      have K3 : Hid (Kept2 w (x1.setCell ⟨g, i * 8 + 2, none⟩ (.int .i64 (m2 : Int))) (Apt lo hi)) := K2.out.trans ⟨rfl, rfl, rfl, by simp, fun q _ hne => Below.heap_setCell _ _ _ _ (fun (e : q = g) => hne ⟨by omega, by omega⟩)⟩
      have Q3 : Hid (hi ≤ (x1.setCell ⟨g, i * 8 + 2, none⟩ (.int .i64 (m2 : Int))).heap.size) := (by show _ ≤ _; simp only [World.setCell, Array.size_modify]; exact Q2.out)
      clear F2 K2 Q2 hu2
      go_upto_region 10 with fail
      clear c2 f2
      generalize x1.setCell ⟨g, i * 8 + 2, none⟩ (.int .i64 (m2 : Int)) = x2 at F3 K3 Q3 ⊢
      obtain ⟨u3, hu3⟩ : ∃ u, xs[i * 8 + 3]? = some u := ⟨_, List.getElem?_eq_getElem (by have := HXS.out; omega)⟩
      have c3 : x2.cell? ⟨g, i * 8 + 3, none⟩ = some u3 := F3.out.old hu3 HML.out
      have f3 := F3.out.frozen (i * 8 + 3)
      have F4 : Hid (Flt 49 g (M.take (i * 8 + 3 + 1) ++ xs.drop (i * 8 + 3 + 1)) (x2.setCell ⟨g, i * 8 + 3, none⟩ (.int .i64 (m3 : Int)))) := by
        refine F3.out.step ?_ HML.out
        have h1 := HMA.out i 3 false (by omega) rfl
        rw [show k0 + (i * 8 + 3) = m3 by have := HM.out; have := E3.out; omega] at h1
        exact h1
      have K4 : Hid (Kept2 w (x2.setCell ⟨g, i * 8 + 3, none⟩ (.int .i64 (m3 : Int))) (Apt lo hi)) := K3.out.trans ⟨rfl, rfl, rfl, by simp, fun q _ hne => Below.heap_setCell _ _ _ _ (fun (e : q = g) => hne ⟨by omega, by omega⟩)⟩
      have Q4 : Hid (hi ≤ (x2.setCell ⟨g, i * 8 + 3, none⟩ (.int .i64 (m3 : Int))).heap.size) := (by show _ ≤ _; simp only [World.setCell, Array.size_modify]; exact Q3.out)
      clear F3 K3 Q3 hu3
      go_upto_region 12 with fail
      clear c3 f3
      generalize x2.setCell ⟨g, i * 8 + 3, none⟩ (.int .i64 (m3 : Int)) = x3 at F4 K4 Q4 ⊢
      obtain ⟨u4, hu4⟩ : ∃ u, xs[i * 8 + 4]? = some u := ⟨_, List.getElem?_eq_getElem (by have := HXS.out; omega)⟩
      have c4 : x3.cell? ⟨g, i * 8 + 4, none⟩ = some u4 := F4.out.old hu4 HML.out
      have f4 := F4.out.frozen (i * 8 + 4)
      have F5 : Hid (Flt 49 g (M.take (i * 8 + 4 + 1) ++ xs.drop (i * 8 + 4 + 1)) (x3.setCell ⟨g, i * 8 + 4, none⟩ (.int .i64 (m4 : Int)))) := by
        refine F4.out.step ?_ HML.out
        have h1 := HMA.out i 4 false (by omega) rfl
        rw [show k0 + (i * 8 + 4) = m4 by have := HM.out; have := E4.out; omega] at h1
        exact h1
      have K5 : Hid (Kept2 w (x3.setCell ⟨g, i * 8 + 4, none⟩ (.int .i64 (m4 : Int))) (Apt lo hi)) := K4.out.trans ⟨rfl, rfl, rfl, by simp, fun q _ hne => Below.heap_setCell _ _ _ _ (fun (e : q = g) => hne ⟨by omega, by omega⟩)⟩
      have Q5 : Hid (hi ≤ (x3.setCell ⟨g, i * 8 + 4, none⟩ (.int .i64 (m4 : Int))).heap.size) := (by show _ ≤ _; simp only [World.setCell, Array.size_modify]; exact Q4.out)
      clear F4 K4 Q4 hu4
      go_upto_region 14 with fail
      clear c4 f4
      generalize x3.setCell ⟨g, i * 8 + 4, none⟩ (.int .i64 (m4 : Int)) = x4 at F5 K5 Q5 ⊢
      obtain ⟨u5, hu5⟩ : ∃ u, xs[i * 8 + 5]? = some u := ⟨_, List.getElem?_eq_getElem (by have := HXS.out; omega)⟩
      have c5 : x4.cell? ⟨g, i * 8 + 5, none⟩ = some u5 := F5.out.old hu5 HML.out
      have f5 := F5.out.frozen (i * 8 + 5)
      have F6 : Hid (Flt 49 g (M.take (i * 8 + 5 + 1) ++ xs.drop (i * 8 + 5 + 1)) (x4.setCell ⟨g, i * 8 + 5, none⟩ (.int .i64 (m5 : Int)))) := by
        refine F5.out.step ?_ HML.out
        have h1 := HMA.out i 5 false (by omega) rfl
        rw [show k0 + (i * 8 + 5) = m5 by have := HM.out; have := E5.out; omega] at h1
        exact h1
      have K6 : Hid (Kept2 w (x4.setCell ⟨g, i * 8 + 5, none⟩ (.int .i64 (m5 : Int))) (Apt lo hi)) := K5.out.trans ⟨rfl, rfl, rfl, by simp, fun q _ hne => Below.heap_setCell _ _ _ _ (fun (e : q = g) => hne ⟨by omega, by omega⟩)⟩
      have Q6 : Hid (hi ≤ (x4.setCell ⟨g, i * 8 + 5, none⟩ (.int .i64 (m5 : Int))).heap.size) := (by show _ ≤ _; simp only [World.setCell, Array.size_modify]; exact Q5.out)
      clear F5 K5 Q5 hu5
      go_upto_region 16 with fail
      clear c5 f5
      generalize x4.setCell ⟨g, i * 8 + 5, none⟩ (.int .i64 (m5 : Int)) = x5 at F6 K6 Q6 ⊢
      obtain ⟨u6, hu6⟩ : ∃ u, xs[i * 8 + 6]? = some u := ⟨_, List.getElem?_eq_getElem (by have := HXS.out; omega)⟩
      have c6 : x5.cell? ⟨g, i * 8 + 6, none⟩ = some u6 := F6.out.old hu6 HML.out
      have f6 := F6.out.frozen (i * 8 + 6)
      have F7 : Hid (Flt 49 g (M.take (i * 8 + 6 + 1) ++ xs.drop (i * 8 + 6 + 1)) (x5.setCell ⟨g, i * 8 + 6, none⟩ (.int .i64 (m6 : Int)))) := by
        refine F6.out.step ?_ HML.out
        have h1 := HMA.out i 6 false (by omega) rfl
        rw [show k0 + (i * 8 + 6) = m6 by have := HM.out; have := E6.out; omega] at h1
        exact h1
      have K7 : Hid (Kept2 w (x5.setCell ⟨g, i * 8 + 6, none⟩ (.int .i64 (m6 : Int))) (Apt lo hi)) := K6.out.trans ⟨rfl, rfl, rfl, by simp, fun q _ hne => Below.heap_setCell _ _ _ _ (fun (e : q = g) => hne ⟨by omega, by omega⟩)⟩
      have Q7 : Hid (hi ≤ (x5.setCell ⟨g, i * 8 + 6, none⟩ (.int .i64 (m6 : Int))).heap.size) := (by show _ ≤ _; simp only [World.setCell, Array.size_modify]; exact Q6.out)
      clear F6 K6 Q6 hu6
      go_upto_region 18 with fail
      clear c6 f6
      generalize x5.setCell ⟨g, i * 8 + 6, none⟩ (.int .i64 (m6 : Int)) = x6 at F7 K7 Q7 ⊢
      obtain ⟨u7, hu7⟩ : ∃ u, xs[i * 8 + 7]? = some u := ⟨_, List.getElem?_eq_getElem (by have := HXS.out; omega)⟩
      have HU7 := hide hu7
      clear hu7
      go_wp2_with fail
      refine (markText_int (m7 : Int) m7 rfl _ (by have := HM.out; have := E7.out; omega) (by have := HM.out; have := E7.out; omega)).mono ?_
      rintro e y7 ⟨rfl, b7⟩
      have G7 := hide (F7.out.below b7)
      have KK7 : Hid (Kept2 w y7 (Apt lo hi)) := K7.out.trans (Kept2.below b7)
      have QQ7 : Hid (hi ≤ y7.heap.size) := Nat.le_trans Q7.out b7.size
      clear F7 K7 Q7 b7
      have F7 := hide G7.out
      have K7 := hide KK7.out
      have Q7 := hide QQ7.out
      clear G7 KK7 QQ7
      have hu7 := HU7.out
      clear HU7
      have c7 : y7.cell? ⟨g, i * 8 + 7, none⟩ = some u7 := F7.out.old hu7 HML.out
      have f7 := F7.out.frozen (i * 8 + 7)
      have F8 : Hid (Flt 49 g (M.take (i * 8 + 7 + 1) ++ xs.drop (i * 8 + 7 + 1)) (y7.setCell ⟨g, i * 8 + 7, none⟩ (.string ⟨(markL m7).toArray⟩))) := by
        refine F7.out.step ?_ HML.out
        have h1 := HMA.out i 7 true (by omega) rfl
        rw [show k0 + (i * 8 + 7) = m7 by have := HM.out; have := E7.out; omega] at h1
        exact h1
      have K8 : Hid (Kept2 w (y7.setCell ⟨g, i * 8 + 7, none⟩ (.string ⟨(markL m7).toArray⟩)) (Apt lo hi)) := K7.out.trans ⟨rfl, rfl, rfl, by simp, fun q _ hne => Below.heap_setCell _ _ _ _ (fun (e : q = g) => hne ⟨by omega, by omega⟩)⟩
      have Q8 : Hid (hi ≤ (y7.setCell ⟨g, i * 8 + 7, none⟩ (.string ⟨(markL m7).toArray⟩)).heap.size) := (by show _ ≤ _; simp only [World.setCell, Array.size_modify]; exact Q7.out)
      clear F7 K7 Q7 hu7
      have FE : Hid (∀ g', some (⟨g, 0, none⟩ : Addr) = some ⟨g', 0, none⟩ → Flt 49 g' (M.take ((i + 1) * 8) ++ xs.drop ((i + 1) * 8)) (y7.setCell ⟨g, i * 8 + 7, none⟩ (.string ⟨(markL m7).toArray⟩))) := by
        intro g' e
        injection e with e
        injection e with e
        subst e
        have := F8.out
        rw [show i * 8 + 7 + 1 = (i + 1) * 8 by omega] at this
        exact this
      clear F8 Q8
      go_wp2
      clear c7 f7
      go_roundw
      case rel => exact ⟨i + 1, m8, by omega, by go_num, rfl, (by have := E8.out; omega), (by show _ = _; have := E8.out; have := HM.out; omega), FE, K8⟩
      case measure => simp [intOf]; omega
    · have hi2 : i = n := by omega
      subst hi2
      have R : Hid (Sli 49 lo hi (.slice ad i ca) i M wr) := by
        rcases HA.out with ⟨h1, h2⟩ | ⟨g, cap, h1, h2, h3, -⟩
        · exact Or.inl ⟨h1, h2⟩
        · injection h1 with e1 e2 e3
          subst e1 e3
          have h4 := HF.out g rfl
          rw [List.take_of_length_le (by have := HML.out; have := HXS.out; omega), List.drop_of_length_le (by have := HXS.out; omega), List.append_nil] at h4
          exact Or.inr ⟨g, ca, rfl, h2, h3, h4⟩
      have HE : Hid ((m : Int) = ((k0 + i * 8 : Nat) : Int)) := (by show _ = _; rw [HM.out])
      clear HF
      go_wp2
      go_ret
      exact ⟨congrArg (fun x => Ending.returned (.int .i64 x)) HE.out, R, HK⟩
set_option maxHeartbeats 2000000 in
set_option maxRecDepth 100000 in
theorem heldFd_any (lo hi : Nat) (a : Value) (n k0 : Nat) (w : World) (hn : n ≤ 1000000000) (hk0 : 0 < k0) (hk1 : k0 ≤ 100000000000) (hh : hi ≤ w.heap.size) (ha : Sli 49 lo hi a n (mkFlat patFd k0 n) w) :
    Calls Tryd.prog 13 #[a, .int .i64 (k0 : Int)] w fun e w' => e = .returned (.int .i64 ((k0 + n * 8 : Nat) : Int)) ∧ Below w.heap.size w w' := by
  obtain ⟨ad, ca, rfl, a3⟩ := ha.form
  have A3 := hide a3
  have HMA : Hid (∀ (g i j : Nat) (s : Bool) (W : World), ad = some ⟨g, 0, none⟩ → Below w.heap.size w W → i < n → patFd[j]? = some s → W.cell? ⟨g, i * 8 + j, none⟩ = some (mkv s (k0 + (i * 8 + j)))) := by
    rintro g i j s W rfl hW h1 h2
    exact (ha.flt.below hW).cell (mkFlat_at patFd k0 n i j s h1 h2)
  clear ha a3
  go_enter Tryd.func13, Tryd.ntmps13
  go_wp2
  go_loopw [1, 5] (fun mv iv wr => ∃ i m : Nat, i ≤ n ∧ iv = .int .i64 i ∧ mv = .int .i64 m ∧ m ≤ 200000000000 ∧ Hid (m = k0 + i * 8) ∧ Hid (Below w.heap.size w wr)) (fun _ iv _ => n - (intOf iv).toNat)
  case atStart => exact ⟨0, k0, Nat.zero_le _, rfl, rfl, by omega, (by show _ = _; omega), Below.refl _ _⟩
  case round =>
    obtain ⟨i, m, hin, rfl, rfl, hm, HM, HW0⟩ := hrel
    have hsz := HW0.out.size
    by_cases hlt : (i : Int) < n
    · obtain ⟨g, e, g1, g2⟩ := A3.out (by omega)
      subst e
      have i0 : (0 : Int) ≤ i := by omega
      have hm2 : m + 8 ≤ 200000000000 := by have := HM.out; omega
      have hm1 : 0 < m := by have := HM.out; omega
      have hgw : g < wr.heap.size := by omega
      obtain ⟨m1, e1⟩ : ∃ m1 : Nat, m1 = m + 1 := ⟨_, rfl⟩
      have ei1 : (m : Int) + 1 = m1 := by omega
      have E1 := hide e1
      clear e1
      obtain ⟨m2, e2⟩ : ∃ m2 : Nat, m2 = m + 2 := ⟨_, rfl⟩
      have ei2 : (m1 : Int) + 1 = m2 := by omega
      have E2 := hide e2
      clear e2
      obtain ⟨m3, e3⟩ : ∃ m3 : Nat, m3 = m + 3 := ⟨_, rfl⟩
      have ei3 : (m2 : Int) + 1 = m3 := by omega
      have E3 := hide e3
      clear e3
      obtain ⟨m4, e4⟩ : ∃ m4 : Nat, m4 = m + 4 := ⟨_, rfl⟩
      have ei4 : (m3 : Int) + 1 = m4 := by omega
      have E4 := hide e4
      clear e4
      obtain ⟨m5, e5⟩ : ∃ m5 : Nat, m5 = m + 5 := ⟨_, rfl⟩
      have ei5 : (m4 : Int) + 1 = m5 := by omega
      have E5 := hide e5
      clear e5
      obtain ⟨m6, e6⟩ : ∃ m6 : Nat, m6 = m + 6 := ⟨_, rfl⟩
      have ei6 : (m5 : Int) + 1 = m6 := by omega
      have E6 := hide e6
      clear e6
      obtain ⟨m7, e7⟩ : ∃ m7 : Nat, m7 = m + 7 := ⟨_, rfl⟩
      have ei7 : (m6 : Int) + 1 = m7 := by omega
      have E7 := hide e7
      clear e7
      obtain ⟨m8, e8⟩ : ∃ m8 : Nat, m8 = m + 8 := ⟨_, rfl⟩
      have ei8 : (m7 : Int) + 1 = m8 := by omega
      have E8 := hide e8
      clear e8
      have c0 : wr.cell? ⟨g, i * 8, none⟩ = some (.int .i64 (m : Int)) := by
        have h1 := HMA.out g i 0 false wr rfl HW0.out (by omega) rfl
        rw [show k0 + (i * 8 + 0) = m by have := HM.out; omega] at h1
        exact h1
      have n0 : ((m : Int) != (m : Int)) = false := by simp
      have c1 : wr.cell? ⟨g, i * 8 + 1, none⟩ = some (.int .i64 (m1 : Int)) := by
        have h1 := HMA.out g i 1 false wr rfl HW0.out (by omega) rfl
        rw [show k0 + (i * 8 + 1) = m1 by have := HM.out; have := E1.out; omega] at h1
        exact h1
      have n1 : ((m1 : Int) != (m1 : Int)) = false := by simp
      have c2 : wr.cell? ⟨g, i * 8 + 2, none⟩ = some (.int .i64 (m2 : Int)) := by
        have h1 := HMA.out g i 2 false wr rfl HW0.out (by omega) rfl
        rw [show k0 + (i * 8 + 2) = m2 by have := HM.out; have := E2.out; omega] at h1
        exact h1
      have n2 : ((m2 : Int) != (m2 : Int)) = false := by simp
      have c3 : wr.cell? ⟨g, i * 8 + 3, none⟩ = some (.int .i64 (m3 : Int)) := by
        have h1 := HMA.out g i 3 false wr rfl HW0.out (by omega) rfl
        rw [show k0 + (i * 8 + 3) = m3 by have := HM.out; have := E3.out; omega] at h1
        exact h1
      have n3 : ((m3 : Int) != (m3 : Int)) = false := by simp
      have c4 : wr.cell? ⟨g, i * 8 + 4, none⟩ = some (.int .i64 (m4 : Int)) := by
        have h1 := HMA.out g i 4 false wr rfl HW0.out (by omega) rfl
        rw [show k0 + (i * 8 + 4) = m4 by have := HM.out; have := E4.out; omega] at h1
        exact h1
      have n4 : ((m4 : Int) != (m4 : Int)) = false := by simp
      have c5 : wr.cell? ⟨g, i * 8 + 5, none⟩ = some (.int .i64 (m5 : Int)) := by
        have h1 := HMA.out g i 5 false wr rfl HW0.out (by omega) rfl
        rw [show k0 + (i * 8 + 5) = m5 by have := HM.out; have := E5.out; omega] at h1
        exact h1
      have n5 : ((m5 : Int) != (m5 : Int)) = false := by simp
      have c6 : wr.cell? ⟨g, i * 8 + 6, none⟩ = some (.int .i64 (m6 : Int)) := by
        have h1 := HMA.out g i 6 false wr rfl HW0.out (by omega) rfl
        rw [show k0 + (i * 8 + 6) = m6 by have := HM.out; have := E6.out; omega] at h1
        exact h1
      have n6 : ((m6 : Int) != (m6 : Int)) = false := by simp
      have c7 : wr.cell? ⟨g, i * 8 + 7, none⟩ = some (.string ⟨(markL m7).toArray⟩) := by
        have h1 := HMA.out g i 7 true wr rfl HW0.out (by omega) rfl
        rw [show k0 + (i * 8 + 7) = m7 by have := HM.out; have := E7.out; omega] at h1
        exact h1
      have CM7 : Hid (∀ W, Calls Tryd.prog 27 #[.int .i64 (m7 : Int)] W fun e w' => e = .returned (.string ⟨(markL m7).toArray⟩) ∧ Below W.heap.size W w') := fun W => markText_int (m7 : Int) m7 rfl W (by have := HM.out; have := E7.out; omega) (by have := HM.out; have := E7.out; omega)
      obtain ⟨t7, ht7⟩ : ∃ t, markL m7 = t := ⟨_, rfl⟩
      rw [ht7] at c7 CM7
      clear ht7
      have hg7 : g < wr.heap.size := by have := HW0.out.size; omega
      go_wp2
      go_region_held3 (fun w' => w'.cell? ⟨g, i * 8 + 7, none⟩ = some (.string ⟨t7.toArray⟩)) (first | go_keep | (rw [hb7.cell (show g < wr.heap.size by exact hg7)]; exact c7)) ((go_at_call 27; (with_reducible refine Calls.mono (CM7.out _) ?_); rintro e y7 ⟨rfl, hb7⟩))
      have HW1 := hide (HW0.out.drew.trans (hb7.mono (show w.heap.size ≤ wr.drew.heap.size from HW0.out.size)))
      clear hb7 HW0 CM7 hg7 c0 c1 c2 c3 c4 c5 c6 c7
      go_wp2
      go_roundw
      case rel => exact ⟨i + 1, m8, by omega, by go_num, rfl, (by have := E8.out; omega), (by show _ = _; have := E8.out; have := HM.out; omega), HW1⟩
      case measure => simp [intOf]; omega
    · have hi2 : i = n := by omega
      have HE : Hid ((m : Int) = ((k0 + n * 8 : Nat) : Int)) := (by show _ = _; rw [HM.out, hi2])
      clear hi2
      go_wp2
      go_ret
      exact ⟨congrArg (fun x => Ending.returned (.int .i64 x)) HE.out, HW0.out⟩
end Go.Proofs.YtaolinlginloaadDoor
