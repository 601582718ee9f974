/-
  MkSt; HlSt; StwTk; DvM5; DvM6; DvM7; DvM8; DvLen; LawWrO; IPagesW
-/
import Derived.Test.YtfmnaidhfgmemaaGreatDoorPk0
import Derived.Deep.DeepCutAuto
import Derived.Deep.RegionHeld3
import Derived.Test.YtfmnaidhfgmemaaGreatDoorPk44
import Derived.Test.YtfmnaidhfgmemaaGreatDoorPk7
import Derived.Test.YtfmnaidhfgmemaaGreatDoorPk9
import Derived.Test.YtfmnaidhfgmemaaGreatDoorPk35
import Derived.Test.YtfmnaidhfgmemaaGreatDoorSWrite
import Derived.Test.YtfmnaidhfgmemaaGreatDoorIProgS
import Derived.Test.YtfmnaidhfgmemaaGreatDoorPk38
namespace Go.Proofs.YtfmnaidhfgmemaaGreatDoor
open Go.RowKit
def patSt : List Bool := [false, false, false, true]
set_option maxHeartbeats 2000000 in
set_option maxRecDepth 100000 in
theorem markSt_any (lo hi : Nat) (a : Value) (n k0 : Nat) (xs : List Value) (w : World) (hn : n ≤ 1000000000) (hxs : xs.length = n * 4) (hk0 : 0 < k0) (hk1 : k0 ≤ 100000000000) (hh : hi ≤ w.heap.size) (ha : Sli 67 lo hi a n xs w) :
    Calls Tryz.prog 12 #[a, .int .i64 (k0 : Int)] w fun e w' => e = .returned (.int .i64 ((k0 + n * 4 : Nat) : Int)) ∧ Hid (Sli 67 lo hi a n (mkFlat patSt k0 n) w') ∧ Hid (Kept2 w w' (Apt lo hi)) := by
  obtain ⟨ad, ca, rfl, a3⟩ := ha.form
  have A3 := hide a3
  obtain ⟨M, hM⟩ : ∃ M, mkFlat patSt k0 n = M := ⟨_, rfl⟩
  have HML : Hid (M.length = xs.length) := by show _ = _; rw [← hM, mkFlat_len, hxs]; rfl
  have HMA : Hid (∀ (i j : Nat) (s : Bool), i < n → patSt[j]? = some s → M[i * 4 + j]? = some (mkv s (k0 + (i * 4 + j)))) := by
    intro i j s h1 h2
    rw [← hM]
    exact mkFlat_at patSt k0 n i j s h1 h2
  have HXS := hide hxs
  have HA := hide ha
  have F00 : Hid (∀ g, ad = some ⟨g, 0, none⟩ → Flt 67 g (M.take (0 * 4) ++ xs.drop (0 * 4)) w) := by
    rintro g rfl
    have := ha.flt
    simpa using this
  rw [hM]
  clear ha a3 hxs hM
  go_enter Tryz.func12, Tryz.ntmps12
  go_wp2
  go_loopw [1, 5] (fun mv iv wr => ∃ i m : Nat, i ≤ n ∧ iv = .int .i64 i ∧ mv = .int .i64 m ∧ m ≤ 200000000000 ∧ Hid (m = k0 + i * 4) ∧ Hid (∀ g, ad = some ⟨g, 0, none⟩ → Flt 67 g (M.take (i * 4) ++ xs.drop (i * 4)) wr) ∧ Hid (Kept2 w wr (Apt lo hi))) (fun _ iv _ => n - (intOf iv).toNat)
  case atStart => exact ⟨0, k0, Nat.zero_le _, rfl, rfl, by omega, (by show _ = _; omega), F00, Kept2.refl _ _⟩
  case round =>
    obtain ⟨i, m, hin, rfl, rfl, hm, HM, HF, HK⟩ := hrel
    clear F00
    by_cases hlt : (i : Int) < n
    · obtain ⟨g, e, g1, g2⟩ := A3.out (by omega)
      subst e
      have i0 : (0 : Int) ≤ i := by omega
      have F0 := hide (HF.out g rfl)
      have K0 := hide HK.out
      have hwz := HK.out.2.2.2.1
      have hm2 : m + 4 ≤ 200000000000 := by have := HM.out; omega
      have hm1 : 0 < m := by have := HM.out; omega
      have Q0 : Hid (hi ≤ wr.heap.size) := (by show _ ≤ _; omega)
      obtain ⟨m1, e1⟩ : ∃ m1 : Nat, m1 = m + 1 := ⟨_, rfl⟩
      have ei1 : (m : Int) + 1 = m1 := by omega
      have E1 := hide e1
      clear e1
      obtain ⟨m2, e2⟩ : ∃ m2 : Nat, m2 = m + 2 := ⟨_, rfl⟩
      have ei2 : (m1 : Int) + 1 = m2 := by omega
      have E2 := hide e2
      clear e2
      obtain ⟨m3, e3⟩ : ∃ m3 : Nat, m3 = m + 3 := ⟨_, rfl⟩
      have ei3 : (m2 : Int) + 1 = m3 := by omega
      have E3 := hide e3
      clear e3
      obtain ⟨m4, e4⟩ : ∃ m4 : Nat, m4 = m + 4 := ⟨_, rfl⟩
      have ei4 : (m3 : Int) + 1 = m4 := by omega
      have E4 := hide e4
      clear e4
      clear HF HK hwz
      obtain ⟨u0, hu0⟩ : ∃ u, xs[i * 4]? = some u := ⟨_, List.getElem?_eq_getElem (by have := HXS.out; omega)⟩
      have c0 : wr.cell? ⟨g, i * 4, none⟩ = some u0 := F0.out.old hu0 HML.out
      have f0 := F0.out.frozen (i * 4)
      have F1 : Hid (Flt 67 g (M.take (i * 4 + 1) ++ xs.drop (i * 4 + 1)) (wr.setCell ⟨g, i * 4, none⟩ (.int .i64 (m : Int)))) := by
        refine F0.out.step ?_ HML.out
        have h1 := HMA.out i 0 false (by omega) rfl
        rw [show k0 + (i * 4 + 0) = m by have := HM.out; omega] at h1
        exact h1
      have K1 : Hid (Kept2 w (wr.setCell ⟨g, i * 4, none⟩ (.int .i64 (m : Int))) (Apt lo hi)) := K0.out.trans ⟨rfl, rfl, rfl, by simp, fun q _ hne => Below.heap_setCell _ _ _ _ (fun (e : q = g) => hne ⟨by omega, by omega⟩)⟩
      have Q1 : Hid (hi ≤ (wr.setCell ⟨g, i * 4, none⟩ (.int .i64 (m : Int))).heap.size) := (by show _ ≤ _; simp only [World.setCell, Array.size_modify]; exact Q0.out)
      clear F0 K0 Q0 hu0
      go_upto_region 6 with fail
      clear c0 f0
      generalize wr.setCell ⟨g, i * 4, none⟩ (.int .i64 (m : Int)) = x0 at F1 K1 Q1 ⊢
      obtain ⟨u1, hu1⟩ : ∃ u, xs[i * 4 + 1]? = some u := ⟨_, List.getElem?_eq_getElem (by have := HXS.out; omega)⟩
      have c1 : x0.cell? ⟨g, i * 4 + 1, none⟩ = some u1 := F1.out.old hu1 HML.out
      have f1 := F1.out.frozen (i * 4 + 1)
      have F2 : Hid (Flt 67 g (M.take (i * 4 + 1 + 1) ++ xs.drop (i * 4 + 1 + 1)) (x0.setCell ⟨g, i * 4 + 1, none⟩ (.int .i64 (m1 : Int)))) := by
        refine F1.out.step ?_ HML.out
        have h1 := HMA.out i 1 false (by omega) rfl
        rw [show k0 + (i * 4 + 1) = m1 by have := HM.out; have := E1.out; omega] at h1
        exact h1
      have K2 : Hid (Kept2 w (x0.setCell ⟨g, i * 4 + 1, none⟩ (.int .i64 (m1 : Int))) (Apt lo hi)) := K1.out.trans ⟨rfl, rfl, rfl, by simp, fun q _ hne => Below.heap_setCell _ _ _ _ (fun (e : q = g) => hne ⟨by omega, by omega⟩)⟩
      have Q2 : Hid (hi ≤ (x0.setCell ⟨g, i * 4 + 1, none⟩ (.int .i64 (m1 : Int))).heap.size) := (by show _ ≤ _; simp only [World.setCell, Array.size_modify]; exact Q1.out)
      clear F1 K1 Q1 hu1
      go_upto_region 8 with fail
      clear c1 f1
      generalize x0.setCell ⟨g, i * 4 + 1, none⟩ (.int .i64 (m1 : Int)) = x1 at F2 K2 Q2 ⊢
      obtain ⟨u2, hu2⟩ : ∃ u, xs[i * 4 + 2]? = some u := ⟨_, List.getElem?_eq_getElem (by have := HXS.out; omega)⟩
      have c2 : x1.cell? ⟨g, i * 4 + 2, none⟩ = some u2 := F2.out.old hu2 HML.out
      have f2 := F2.out.frozen (i * 4 + 2)
      have F3 : Hid (Flt 67 g (M.take (i * 4 + 2 + 1) ++ xs.drop (i * 4 + 2 + 1)) (x1.setCell ⟨g, i * 4 + 2, none⟩ (.int .i64 (m2 : Int)))) := by
        refine F2.out.step ?_ HML.out
        have h1 := HMA.out i 2 false (by omega) rfl
        rw [show k0 + (i * 4 + 2) = m2 by have := HM.out; have := E2.out; omega] at h1
        exact h1
      have K3 : Hid (Kept2 w (x1.setCell ⟨g, i * 4 + 2, none⟩ (.int .i64 (m2 : Int))) (Apt lo hi)) := K2.out.trans ⟨rfl, rfl, rfl, by simp, fun q _ hne => Below.heap_setCell _ _ _ _ (fun (e : q = g) => hne ⟨by omega, by omega⟩)⟩
      have Q3 : Hid (hi ≤ (x1.setCell ⟨g, i * 4 + 2, none⟩ (.int .i64 (m2 : Int))).heap.size) := (by show _ ≤ _; simp only [World.setCell, Array.size_modify]; exact Q2.out)
      clear F2 K2 Q2 hu2
      go_upto_region 10 with fail
      clear c2 f2
      generalize x1.setCell ⟨g, i * 4 + 2, none⟩ (.int .i64 (m2 : Int)) = x2 at F3 K3 Q3 ⊢
      obtain ⟨u3, hu3⟩ : ∃ u, xs[i * 4 + 3]? = some u := ⟨_, List.getElem?_eq_getElem (by have := HXS.out; omega)⟩
      have HU3 := hide hu3
      clear hu3
      go_wp2_with fail
      refine (markText_int (m3 : Int) m3 rfl _ (by have := HM.out; have := E3.out; omega) (by have := HM.out; have := E3.out; omega)).mono ?_
      rintro e y3 ⟨rfl, b3⟩
      have G3 := hide (F3.out.below b3)
      have KK3 : Hid (Kept2 w y3 (Apt lo hi)) := K3.out.trans (Kept2.below b3)
      have QQ3 : Hid (hi ≤ y3.heap.size) := Nat.le_trans Q3.out b3.size
      clear F3 K3 Q3 b3
      have F3 := hide G3.out
      have K3 := hide KK3.out
      have Q3 := hide QQ3.out
      clear G3 KK3 QQ3
      have hu3 := HU3.out
      clear HU3
      have c3 : y3.cell? ⟨g, i * 4 + 3, none⟩ = some u3 := F3.out.old hu3 HML.out
      have f3 := F3.out.frozen (i * 4 + 3)
      have F4 : Hid (Flt 67 g (M.take (i * 4 + 3 + 1) ++ xs.drop (i * 4 + 3 + 1)) (y3.setCell ⟨g, i * 4 + 3, none⟩ (.string ⟨(markL m3).toArray⟩))) := by
        refine F3.out.step ?_ HML.out
        have h1 := HMA.out i 3 true (by omega) rfl
        rw [show k0 + (i * 4 + 3) = m3 by have := HM.out; have := E3.out; omega] at h1
        exact h1
      have K4 : Hid (Kept2 w (y3.setCell ⟨g, i * 4 + 3, none⟩ (.string ⟨(markL m3).toArray⟩)) (Apt lo hi)) := K3.out.trans ⟨rfl, rfl, rfl, by simp, fun q _ hne => Below.heap_setCell _ _ _ _ (fun (e : q = g) => hne ⟨by omega, by omega⟩)⟩
      have Q4 : Hid (hi ≤ (y3.setCell ⟨g, i * 4 + 3, none⟩ (.string ⟨(markL m3).toArray⟩)).heap.size) := (by show _ ≤ _; simp only [World.setCell, Array.size_modify]; exact Q3.out)
      clear F3 K3 Q3 hu3
      have FE : Hid (∀ g', some (⟨g, 0, none⟩ : Addr) = some ⟨g', 0, none⟩ → Flt 67 g' (M.take ((i + 1) * 4) ++ xs.drop ((i + 1) * 4)) (y3.setCell ⟨g, i * 4 + 3, none⟩ (.string ⟨(markL m3).toArray⟩))) := by
        intro g' e
        injection e with e
        injection e with e
        subst e
        have := F4.out
        rw [show i * 4 + 3 + 1 = (i + 1) * 4 by omega] at this
        exact this
      clear F4 Q4
      go_wp2
      clear c3 f3
      go_roundw
      case rel => exact ⟨i + 1, m4, by omega, by go_num, rfl, (by have := E4.out; omega), (by show _ = _; have := E4.out; have := HM.out; omega), FE, K4⟩
      case measure => simp [intOf]; omega
    · have hi2 : i = n := by omega
      subst hi2
      have R : Hid (Sli 67 lo hi (.slice ad i ca) i M wr) := by
        rcases HA.out with ⟨h1, h2⟩ | ⟨g, cap, h1, h2, h3, -⟩
        · exact Or.inl ⟨h1, h2⟩
        · injection h1 with e1 e2 e3
          subst e1 e3
          have h4 := HF.out g rfl
          rw [List.take_of_length_le (by have := HML.out; have := HXS.out; omega), List.drop_of_length_le (by have := HXS.out; omega), List.append_nil] at h4
          exact Or.inr ⟨g, ca, rfl, h2, h3, h4⟩
      have HE : Hid ((m : Int) = ((k0 + i * 4 : Nat) : Int)) := (by show _ = _; rw [HM.out])
      clear HF
      go_wp2
      go_ret
      exact ⟨congrArg (fun x => Ending.returned (.int .i64 x)) HE.out, R, HK⟩
end Go.Proofs.YtfmnaidhfgmemaaGreatDoor

namespace Go.Proofs.YtfmnaidhfgmemaaGreatDoor
open Go.RowKit
set_option maxHeartbeats 2000000 in
set_option maxRecDepth 100000 in
theorem heldSt_any (lo hi : Nat) (a : Value) (n k0 : Nat) (w : World) (hn : n ≤ 1000000000) (hk0 : 0 < k0) (hk1 : k0 ≤ 100000000000) (hh : hi ≤ w.heap.size) (ha : Sli 67 lo hi a n (mkFlat patSt k0 n) w) :
    Calls Tryz.prog 13 #[a, .int .i64 (k0 : Int)] w fun e w' => e = .returned (.int .i64 ((k0 + n * 4 : Nat) : Int)) ∧ Below w.heap.size w w' := by
  obtain ⟨ad, ca, rfl, a3⟩ := ha.form
  have A3 := hide a3
  have HMA : Hid (∀ (g i j : Nat) (s : Bool) (W : World), ad = some ⟨g, 0, none⟩ → Below w.heap.size w W → i < n → patSt[j]? = some s → W.cell? ⟨g, i * 4 + j, none⟩ = some (mkv s (k0 + (i * 4 + j)))) := by
    rintro g i j s W rfl hW h1 h2
    exact (ha.flt.below hW).cell (mkFlat_at patSt k0 n i j s h1 h2)
  clear ha a3
  go_enter Tryz.func13, Tryz.ntmps13
  go_wp2
  go_loopw [1, 5] (fun mv iv wr => ∃ i m : Nat, i ≤ n ∧ iv = .int .i64 i ∧ mv = .int .i64 m ∧ m ≤ 200000000000 ∧ Hid (m = k0 + i * 4) ∧ Hid (Below w.heap.size w wr)) (fun _ iv _ => n - (intOf iv).toNat)
  case atStart => exact ⟨0, k0, Nat.zero_le _, rfl, rfl, by omega, (by show _ = _; omega), Below.refl _ _⟩
  case round =>
    obtain ⟨i, m, hin, rfl, rfl, hm, HM, HW0⟩ := hrel
    have hsz := HW0.out.size
    by_cases hlt : (i : Int) < n
    · obtain ⟨g, e, g1, g2⟩ := A3.out (by omega)
      subst e
      have i0 : (0 : Int) ≤ i := by omega
      have hm2 : m + 4 ≤ 200000000000 := by have := HM.out; omega
      have hm1 : 0 < m := by have := HM.out; omega
      have hgw : g < wr.heap.size := by omega
      obtain ⟨m1, e1⟩ : ∃ m1 : Nat, m1 = m + 1 := ⟨_, rfl⟩
      have ei1 : (m : Int) + 1 = m1 := by omega
      have E1 := hide e1
      clear e1
      obtain ⟨m2, e2⟩ : ∃ m2 : Nat, m2 = m + 2 := ⟨_, rfl⟩
      have ei2 : (m1 : Int) + 1 = m2 := by omega
      have E2 := hide e2
      clear e2
      obtain ⟨m3, e3⟩ : ∃ m3 : Nat, m3 = m + 3 := ⟨_, rfl⟩
      have ei3 : (m2 : Int) + 1 = m3 := by omega
      have E3 := hide e3
      clear e3
      obtain ⟨m4, e4⟩ : ∃ m4 : Nat, m4 = m + 4 := ⟨_, rfl⟩
      have ei4 : (m3 : Int) + 1 = m4 := by omega
      have E4 := hide e4
      clear e4
      have c0 : wr.cell? ⟨g, i * 4, none⟩ = some (.int .i64 (m : Int)) := by
        have h1 := HMA.out g i 0 false wr rfl HW0.out (by omega) rfl
        rw [show k0 + (i * 4 + 0) = m by have := HM.out; omega] at h1
        exact h1
      have n0 : ((m : Int) != (m : Int)) = false := by simp
      have c1 : wr.cell? ⟨g, i * 4 + 1, none⟩ = some (.int .i64 (m1 : Int)) := by
        have h1 := HMA.out g i 1 false wr rfl HW0.out (by omega) rfl
        rw [show k0 + (i * 4 + 1) = m1 by have := HM.out; have := E1.out; omega] at h1
        exact h1
      have n1 : ((m1 : Int) != (m1 : Int)) = false := by simp
      have c2 : wr.cell? ⟨g, i * 4 + 2, none⟩ = some (.int .i64 (m2 : Int)) := by
        have h1 := HMA.out g i 2 false wr rfl HW0.out (by omega) rfl
        rw [show k0 + (i * 4 + 2) = m2 by have := HM.out; have := E2.out; omega] at h1
        exact h1
      have n2 : ((m2 : Int) != (m2 : Int)) = false := by simp
      have c3 : wr.cell? ⟨g, i * 4 + 3, none⟩ = some (.string ⟨(markL m3).toArray⟩) := by
        have h1 := HMA.out g i 3 true wr rfl HW0.out (by omega) rfl
        rw [show k0 + (i * 4 + 3) = m3 by have := HM.out; have := E3.out; omega] at h1
        exact h1
      have CM3 : Hid (∀ W, Calls Tryz.prog 32 #[.int .i64 (m3 : Int)] W fun e w' => e = .returned (.string ⟨(markL m3).toArray⟩) ∧ Below W.heap.size W w') := fun W => markText_int (m3 : Int) m3 rfl W (by have := HM.out; have := E3.out; omega) (by have := HM.out; have := E3.out; omega)
      obtain ⟨t3, ht3⟩ : ∃ t, markL m3 = t := ⟨_, rfl⟩
      rw [ht3] at c3 CM3
      clear ht3
      have hg3 : g < wr.heap.size := by have := HW0.out.size; omega
      go_wp2
      go_region_held3 (fun w' => w'.cell? ⟨g, i * 4 + 3, none⟩ = some (.string ⟨t3.toArray⟩)) (first | go_keep | (rw [hb3.cell (show g < wr.heap.size by exact hg3)]; exact c3)) ((go_at_call 32; (with_reducible refine Calls.mono (CM3.out _) ?_); rintro e y3 ⟨rfl, hb3⟩))
      have HW1 := hide (HW0.out.drew.trans (hb3.mono (show w.heap.size ≤ wr.drew.heap.size from HW0.out.size)))
      clear hb3 HW0 CM3 hg3 c0 c1 c2 c3
      go_wp2
      go_roundw
      case rel => exact ⟨i + 1, m4, by omega, by go_num, rfl, (by have := E4.out; omega), (by show _ = _; have := E4.out; have := HM.out; omega), HW1⟩
      case measure => simp [intOf]; omega
    · have hi2 : i = n := by omega
      have HE : Hid ((m : Int) = ((k0 + n * 4 : Nat) : Int)) := (by show _ = _; rw [HM.out, hi2])
      clear hi2
      go_wp2
      go_ret
      exact ⟨congrArg (fun x => Ending.returned (.int .i64 x)) HE.out, HW0.out⟩
end Go.Proofs.YtfmnaidhfgmemaaGreatDoor

namespace Go.Proofs.YtfmnaidhfgmemaaGreatDoor
open Go.RowKit
def SpH (lo hi : Nat) (v : Value) (n : Nat) (l : List Stp) : World → Prop := Sli 67 lo hi v n (stcells l)
theorem SpH.loc (lo hi : Nat) (v : Value) (n : Nat) (l : List Stp) : Loc lo hi (SpH lo hi v n l) := Sli.loc _ _ _ _ _ _
def SpM (lo hi : Nat) (v : Value) (n : Nat) : World → Prop := Sli 67 lo hi v n (mkFlat patSt 1 n)
theorem SpM.loc (lo hi : Nat) (v : Value) (n : Nat) : Loc lo hi (SpM lo hi v n) := Sli.loc _ _ _ _ _ _
theorem eqsw_tk {w wi : World} {hs : List Hold} {a b : Value} {l : List Stp} {n l1 h1 l2 h2 : Nat} (T : Tk w wi hs) (n1 n2 : Nat) (hn : l.length = n) (hM : n ≤ 100000000) (e1 : hs[n1]? = some (l1, h1, SpH l1 h1 a n l)) (e2 : hs[n2]? = some (l2, h2, SpH l2 h2 b n l)) :
    Calls Tryz.prog 9 #[a, b] wi fun e w' => e = .returned (.bool true) ∧ Tk w w' hs ∧ wi.heap.size ≤ w'.heap.size := by
  subst hn
  refine (eqSts_same _ _ l _ _ _ _ wi (by omega) (T.get n1 e1) (T.get n2 e2)).mono ?_
  rintro e w2 ⟨rfl, b2⟩
  exact ⟨rfl, T.below b2, b2.size⟩
theorem marksw_tk {w wi : World} {hs hs' : List Hold} {a : Value} {l : List Stp} {n m l1 h1 : Nat} (T : Tk w wi hs) (n1 : Nat) (hn : l.length = n) (hM : n ≤ 100000000) (hm : 1 + n * 4 = m) (hlo : w.heap.size ≤ l1) (e1 : hs[n1]? = some (l1, h1, SpH l1 h1 a n l)) (hh : ∀ x ∈ hs', x ∈ hs ∧ (x.2.1 ≤ l1 ∨ h1 ≤ x.1)) :
    Calls Tryz.prog 12 #[a, .int .i64 1] wi fun e w' => e = .returned (.int .i64 (m : Int)) ∧ Tk w w' ((l1, h1, SpM l1 h1 a n) :: hs') ∧ wi.heap.size ≤ w'.heap.size := by
  refine (markSt_any l1 h1 a n 1 (stcells l) wi (by omega) (by rw [stcells_len, hn]) (by omega) (by omega) (T.hi n1 e1) (T.get n1 e1)).mono ?_
  rintro e w' ⟨rfl, hs, hk⟩
  rw [hm]
  exact ⟨rfl, T.touch hk.out hlo (T.hi n1 e1) (SpM.loc _ _ _ _) hs.out hh, hk.out.2.2.2.1⟩
theorem heldsw_tk {w wi : World} {hs : List Hold} {a : Value} {n m l1 h1 : Nat} (T : Tk w wi hs) (n1 : Nat) (hM : n ≤ 100000000) (hm : 1 + n * 4 = m) (e1 : hs[n1]? = some (l1, h1, SpM l1 h1 a n)) :
    Calls Tryz.prog 13 #[a, .int .i64 1] wi fun e w' => e = .returned (.int .i64 (m : Int)) ∧ Tk w w' hs ∧ wi.heap.size ≤ w'.heap.size := by
  refine (heldSt_any l1 h1 a n 1 wi (by omega) (by omega) (by omega) (T.hi n1 e1) (T.get n1 e1)).mono ?_
  rintro e w' ⟨rfl, hb⟩
  rw [hm]
  exact ⟨rfl, T.below hb, hb.size⟩
end Go.Proofs.YtfmnaidhfgmemaaGreatDoor

namespace Go.Proofs.YtfmnaidhfgmemaaGreatDoor
open Words Sums Pack
end Go.Proofs.YtfmnaidhfgmemaaGreatDoor

namespace Go.Proofs.YtfmnaidhfgmemaaGreatDoor
open Words Sums Pack
def noT : ByteArray := ⟨#[]⟩
end Go.Proofs.YtfmnaidhfgmemaaGreatDoor

namespace Go.Proofs.YtfmnaidhfgmemaaGreatDoor
open Words Sums Pack
end Go.Proofs.YtfmnaidhfgmemaaGreatDoor

namespace Go.Proofs.YtfmnaidhfgmemaaGreatDoor
open Words Sums Pack
end Go.Proofs.YtfmnaidhfgmemaaGreatDoor

namespace Go.Proofs.YtfmnaidhfgmemaaGreatDoor
open Words Sums Pack
theorem endK_len (bs : List Bk) : bs.length * 2 + 1 ≤ endK 1 bs := by
  have go : ∀ (bs : List Bk) (k : Nat), bs.length * 2 + k ≤ endK k bs := by
    intro bs
    induction bs with
    | nil => intro k; simp [endK]
    | cons r bs ih => intro k; have := ih (k + 2 + 2 * r.2.2.length); simp only [endK, List.length_cons]; omega
  exact go bs 1
theorem put_lenD (bs : List Bk) (l : List Stp) (p : Pg) : (putP bs l p).2.1.length ≤ l.length + 1 := by
  unfold putP
  split
  · simp
  · simp
theorem puts_len (s : List Bk × List Stp × Bool) (ps : List Pg) : (putsP s ps).2.1.length ≤ s.2.1.length + ps.length := by
  induction ps generalizing s with
  | nil => simp [putsP]
  | cons p ps ih =>
    rw [putsP]
    split
    · have h1 := ih (putP s.1 s.2.1 p)
      have h2 := put_lenD s.1 s.2.1 p
      simp only [List.length_cons]
      omega
    · simp only [List.length_cons]; omega
theorem txOut_len (q tx : Int) (l : List Rc) : (txOut q tx l).length ≤ 9 := by
  unfold txOut
  split
  · rename_i h
    rw [txPgs_len]
    exact h.2.1
  · simp
theorem write_len (d : Dv) (l : List Rc) (t : ByteArray) : (writeP d l t).1.length ≤ 10 := by
  unfold writeP
  split
  · simp
  · split
    · have h1 := puts_len (write0 d l t) (txOut (writeQ d t) d.tx l)
      have h2 := txOut_len (writeQ d t) d.tx l
      have h3 : (write0 d l t).2.1.length ≤ 1 := by
        unfold write0
        split
        · simp
        · have := put_lenD d.flash [] (dataPg d.seq (lastCk l) t)
          simpa using this
      show (putsP (write0 d l t) (txOut (writeQ d t) d.tx l)).2.1.length ≤ 10
      omega
    · simp
end Go.Proofs.YtfmnaidhfgmemaaGreatDoor

namespace Go.Proofs.YtfmnaidhfgmemaaGreatDoor
open Go.RowKit
open Words Sums Pack
end Go.Proofs.YtfmnaidhfgmemaaGreatDoor

namespace Go.Proofs.YtfmnaidhfgmemaaGreatDoor
open Go.RowKit
open Words Sums
def pagesAt (d : Dv) (l : List Rc) (t : ByteArray) (sq : Int) : List Pg := if t.size = 0 then txOut sq d.tx l else dataPg d.seq (lastCk l) t :: txOut sq d.tx l
theorem pagesAt_is (d : Dv) (l : List Rc) (t : ByteArray) : pagesAt d l t (writeQ d t) = pagesQ d l t := by
  unfold pagesAt pagesQ writeQ
  split <;> rfl
theorem pagesAt_len (d : Dv) (l : List Rc) (t : ByteArray) (sq : Int) : (pagesAt d l t sq).length ≤ 10 := by
  have h : ∀ (q x : Int), (txOut q x l).length ≤ 9 := fun q x => by
    unfold txOut
    split
    · rename_i h; rw [txPgs_len]; exact h.2.1
    · simp
  unfold pagesAt
  split
  · have := h sq d.tx; omega
  · have := h sq d.tx; simp only [List.length_cons]; omega
def SqOk (d : Dv) (l : List Rc) (t : ByteArray) (sq : Int) : Prop := sq = writeQ d t ∨ (t.size ≠ 0 ∧ ¬ (dataPg d.seq (lastCk l) t).Right)
theorem write_no {d : Dv} {l : List Rc} {t : ByteArray} {sq : Int} (hl : l.length ≠ 0) (hs : SqOk d l t sq) (h : ¬ TxOk sq d.tx l) : writeP d l t = ([], false) := by
  rw [write_is hl]
  rcases hs with e | ⟨h1, h2⟩
  · rw [← e, dcN h, Bool.and_false]
    rfl
  · rw [puts_wrong _ _ ⟨dataPg d.seq (lastCk l) t, by unfold pagesQ; rw [if_neg h1]; exact List.mem_cons_self, h2⟩, Bool.false_and]
    rfl
theorem write_yes {d : Dv} {l : List Rc} {t : ByteArray} {sq : Int} (hl : l.length ≠ 0) (hs : SqOk d l t sq) (h : TxOk sq d.tx l) : writeP d l t = if (putsP (d.flash, [], true) (pagesAt d l t sq)).2.2 then ((putsP (d.flash, [], true) (pagesAt d l t sq)).2.1, true) else ([], false) := by
  rw [write_is hl]
  rcases hs with e | ⟨h1, h2⟩
  · subst e
    rw [pagesAt_is, dcY h, Bool.and_true]
  · rw [puts_wrong _ _ ⟨dataPg d.seq (lastCk l) t, by unfold pagesQ; rw [if_neg h1]; exact List.mem_cons_self, h2⟩, puts_wrong _ _ ⟨dataPg d.seq (lastCk l) t, by unfold pagesAt; rw [if_neg h1]; exact List.mem_cons_self, h2⟩, Bool.false_and]
    rfl
def PwOut (w : World) (d : Dv) (l : List Rc) (t : ByteArray) (e : Ending) (w' : World) : Prop :=
  ∃ sq, SqOk d l t sq ∧ ((TxOk sq d.tx l ∧ PgOut w (pagesAt d l t sq) true e w') ∨ (¬ TxOk sq d.tx l ∧ e = .returned (.tuple #[.slice none 0 0, .bool false]) ∧ Below w.heap.size w w'))
theorem pages_form {w W : World} {sq tx : Int} {l : List Rc} {pv : Value} (h : TxOk sq tx l) (ho : W.ownsRow w.heap.size 92 6 pv (txOut sq tx l).length (pgcells ((txOut sq tx l).map Pg.tu))) :
    ∃ pb np pcap, pv = .slice (some ⟨pb, 0, none⟩) np pcap ∧ (txOut sq tx l).length = np ∧ np ≤ 9 ∧ (∀ (j : Nat) (u : Value), (pgcells ((txOut sq tx l).map Pg.tu))[j]? = some u → W.cell? ((⟨pb, 0, none⟩ : Addr).add j) = some u) ∧ (pgcells ((txOut sq tx l).map Pg.tu)).length = np * 6 := by
  obtain ⟨pa, pcap, rfl, -, -, hp⟩ := frow_form ho
  have hl : (txOut sq tx l).length = (pkG l).length := by unfold txOut; rw [if_pos h, txPgs_len]
  obtain ⟨pb, rfl, -, -⟩ := hp (by rw [hl]; exact pkG_pos l)
  exact ⟨pb, _, pcap, rfl, rfl, by rw [hl]; exact h.2.1, fun j u hj => ho.cells (g := pb) rfl j u hj, by rw [pgcells_len, List.length_map]⟩
set_option maxHeartbeats 4000000 in
set_option maxRecDepth 100000 in
theorem ipagesToWrite (x : Value) (d : Dv) (ra : Option Addr) (n rc : Nat) (l : List Rc) (t : ByteArray) (w : World) (h : DvIn w x d) (hn : n ≤ 33554432) (hn0 : n ≠ 0) (hr : RcRow w ra n (l.map Rc.tu)) : Calls Tryz.prog 48 #[x, .slice ra n rc, .string t] w (PwOut w d l t) := by
  obtain ⟨fd, fc, va, vl, vc, ad, ln, cap, rfl, -, -, -⟩ := h.form
  have hln : l.length = n := by have := hr.1; simpa using this
  have HLN := hide hln
  have HRC := hide hr
  have b0 : Below w.heap.size w (w.alloc (.cells #[.slice fd d.flash.length fc, .slice va vl vc, .slice ad ln cap, .int .i64 d.store.next, .int .i64 d.seq, .int .i64 d.tx, .int .i64 d.base] 47)) := (Below.refl _ _).alloc (Nat.le_refl _) _
  have s0 : (w.alloc (.cells #[.slice fd d.flash.length fc, .slice va vl vc, .slice ad ln cap, .int .i64 d.store.next, .int .i64 d.seq, .int .i64 d.tx, .int .i64 d.base] 47)).heap.size = w.heap.size + 1 := by simp
  have g0 : DAt (w.alloc (.cells #[.slice fd d.flash.length fc, .slice va vl vc, .slice ad ln cap, .int .i64 d.store.next, .int .i64 d.seq, .int .i64 d.tx, .int .i64 d.base] 47)) w.heap.size (.slice fd d.flash.length fc) (.slice va vl vc) (.slice ad ln cap) d.store.next d.seq d.tx d.base := heap_alloc_new w _
  obtain ⟨i0, hi, hz0, hz1, hz2⟩ := info_parts infoPg
  have I0 := hide hi
  have Z0 := hide hz0
  have Z1 := hide hz1
  have Z2 := hide hz2
  clear hr hi hz0 hz1 hz2 h hln
  go_enter Tryz.func48, Tryz.ntmps48
  go_upto_region 2 with fail
  generalize w.alloc (.cells #[.slice fd d.flash.length fc, .slice va vl vc, .slice ad ln cap, .int .i64 d.store.next, .int .i64 d.seq, .int .i64 d.tx, .int .i64 d.base] 47) = w1 at b0 s0 g0 ⊢
  have B0 := hide b0
  have S0 := hide s0
  have G0 := hide g0
  obtain ⟨-, -, -, -, y4, y5, -⟩ := G0.out.cells
  clear b0 s0 g0
  by_cases ht : t.size = 0
  · have hte : t.toList.isEmpty = true := by rw [ask_empty]; exact decide_eq_true ht
    have CT := hide (itxPages d.seq d.tx ra n rc l w1 hn (HRC.out.below B0.out))
    have HSQ : Hid (SqOk d l t d.seq) := .inl (by unfold writeQ; rw [if_pos ht])
    have HQ : Hid (pagesAt d l t d.seq = txOut d.seq d.tx l) := by show _ = _; unfold pagesAt; rw [if_pos ht]
    clear ht
    go_wp2_with fail
    refine CT.out.mono ?_
    rintro e w2 ⟨pv, rfl, po, b2⟩
    have B2 := hide (B0.out.trans (b2.mono B0.out.size))
    by_cases hok : TxOk d.seq d.tx l
    · obtain ⟨pb, np, pcap, rfl, hnp, hn9, hpc, hpl⟩ := pages_form hok po
      rw [dcY hok]
      have HPC := hide hpc
      have HPL := hide hpl
      have HNP := hide hnp
      have HOK := hide hok
      have hb2 := B2.out.size
      clear po b2 CT hok hpc hpl hnp
      go_wp2_with (at_builtin; refine wpList_append_own _ rfl _ _ 93 rfl w.heap.size 92 i0 (.agg #[.int .i64 0, .int .i64 0, .int .i64 0, .int .i64 0, .int .i64 0, .string ⟨#[]⟩]) 6 56 Tryz.underlying93 I0.out Z0.out Z1.out Z2.out rfl (by decide) _ 0 [] rfl (World.ownsRow_nil _ _ _ _) ⟨pb, 0, none⟩ np pcap _ rfl HPL.out HPC.out (pgcells_one _) (by unfold maxLen; omega) (by omega) hb2 ?_)
      intro v5 w5 ho5 hg5 _
      have B5 := hide (B2.out.grown hg5 hb2 (fun k hk => by cases hk))
      have HO5 : Hid (w5.ownsRow w.heap.size 92 6 v5 (pagesAt d l t d.seq).length (pgcells ((pagesAt d l t d.seq).map Pg.tu))) := by
        show World.ownsRow _ _ _ _ _ _ _
        rw [HQ.out, HNP.out]
        simpa using ho5
      clear ho5 hg5 HPC HPL HNP
      go_wp2
      exact bodyPost_ret (results_tmp2 rfl _ _ _) rfl ⟨d.seq, HSQ.out, .inl ⟨HOK.out, _, rfl, HO5.out, B5.out⟩⟩
    · rw [dcN hok]
      have HOK := hide hok
      clear po b2 CT hok
      go_wp2
      exact bodyPost_ret (results_tmp2 rfl _ _ _) rfl ⟨d.seq, HSQ.out, .inr ⟨HOK.out, rfl, B2.out⟩⟩
  · have hte : t.toList.isEmpty = false := by rw [ask_empty]; exact decide_eq_false ht
    obtain ⟨m, hm⟩ : ∃ m, n = m + 1 := ⟨n - 1, by omega⟩
    obtain ⟨r, hrm⟩ : ∃ r, l[m]? = some r := ⟨_, List.getElem?_eq_getElem (by have := HLN.out; omega)⟩
    obtain ⟨rk, rv, rg, ck⟩ := r
    have hlc : lastCk l = ck := by
      unfold lastCk
      rw [List.getLast?_eq_getElem?, show l.length - 1 = m by have := HLN.out; omega, hrm]
      rfl
    obtain ⟨rb, ro, rfl, hrb, c0, c1, c2, c3⟩ := (HRC.out.below B0.out).at (show (l.map Rc.tu)[m]? = some (rk, rv, rg, ck) by rw [List.getElem?_map, hrm]; rfl)
    simp only at c0 c1 c2 c3
    have hm0 : (0 : Int) ≤ m := by omega
    have hm1 : (m : Int) < n := by omega
    have hnm : (n : Int) - 1 = m := by omega
    obtain ⟨sq, hsq⟩ : ∃ sq, IntKind.i64.wrap (d.seq + 1) = sq := ⟨_, rfl⟩
    have HSQ : Hid (SqOk d l t sq) := by
      by_cases hr : (dataPg d.seq (lastCk l) t).Right
      · left
        have h1 : 1 ≤ d.seq := hr.2.1
        have h2 : d.seq ≤ 1000000000 := hr.2.2.1
        unfold writeQ
        rw [if_neg ht, ← hsq, IntKind.wrap_i64]
        omega
      · exact .inr ⟨ht, hr⟩
    have HQ : Hid (pagesAt d l t sq = dataPg d.seq ck t :: txOut sq d.tx l) := by show _ = _; unfold pagesAt; rw [if_neg ht, hlc]
    have bR := (Below.refl w1.heap.size w1).alloc (Nat.le_refl _) (.cells #[.int .i64 rk, .int .i64 rv, .int .i64 rg, .int .i64 ck] 90)
    have BR := hide bR
    have hzR : (w1.alloc (.cells #[.int .i64 rk, .int .i64 rv, .int .i64 rg, .int .i64 ck] 90)).heap.size = w1.heap.size + 1 := by simp
    have hb1 := B0.out.size
    clear hm ht hlc hrm bR
    go_wp2_with (at_builtin; refine wpList_append_own _ rfl _ _ 93 rfl w.heap.size 92 i0 (.agg #[.int .i64 0, .int .i64 0, .int .i64 0, .int .i64 0, .int .i64 0, .string ⟨#[]⟩]) 6 56 Tryz.underlying93 I0.out Z0.out Z1.out Z2.out rfl (by decide) _ 0 [] rfl (World.ownsRow_nil _ _ _ _) ⟨w1.heap.size + 1, 0, none⟩ 1 1 (pgcells [(dataPg d.seq ck t).tu]) rfl rfl (by have e := row_new16 (w1.alloc (.cells #[.int .i64 rk, .int .i64 rv, .int .i64 rg, .int .i64 ck] 90)) (pgcells [(dataPg d.seq ck t).tu]) 92; rw [hzR] at e; exact e) (pgcells_one _) (by unfold maxLen; omega) (by omega) (by simp; omega) ?_)
    intro v3 w3 ho3 hg3 _
    have B13 := hide ((BR.out.alloc BR.out.size (.cells #[.int .i64 1, .int .i64 d.seq, .int .i64 ck, .int .i64 0, .int .i64 1, .string t] 92)).grown hg3 (by simp; omega) (fun k hk => by cases hk))
    have B3 := hide (B0.out.trans (B13.out.mono hb1))
    have G3 := hide (G0.out.below B13.out)
    have HO3 : Hid (w3.ownsRow w.heap.size 92 6 v3 1 (pgcells [(dataPg d.seq ck t).tu])) := ho3
    have CT := hide (itxPages sq d.tx (some ⟨rb, ro, none⟩) n rc l w3 hn (HRC.out.below B3.out))
    clear ho3 hg3 B13 BR hzR c0 c1 c2 c3 y4 y5
    obtain ⟨-, -, -, -, y4, y5, -⟩ := G3.out.cells
    go_wp2_with fail
    refine CT.out.mono ?_
    rintro e w4 ⟨pv, rfl, po, b4⟩
    have B4 := hide (B3.out.trans (b4.mono B3.out.size))
    have HO4 := hide (own_below HO3.out b4)
    by_cases hok : TxOk sq d.tx l
    · obtain ⟨pb, np, pcap, rfl, hnp, hn9, hpc, hpl⟩ := pages_form hok po
      rw [dcY hok]
      have HPC := hide (fun j u hj => hpc j u hj)
      have HPL := hide hpl
      have HNP := hide hnp
      have HOK := hide hok
      have hb2 := B4.out.size
      clear po b4 CT hok hpc hpl hnp HO3
      go_wp2_with (at_builtin; refine wpList_append_own _ rfl _ _ 93 rfl w.heap.size 92 i0 (.agg #[.int .i64 0, .int .i64 0, .int .i64 0, .int .i64 0, .int .i64 0, .string ⟨#[]⟩]) 6 56 Tryz.underlying93 I0.out Z0.out Z1.out Z2.out rfl (by decide) _ 1 _ rfl HO4.out ⟨pb, 0, none⟩ np pcap _ rfl HPL.out HPC.out (pgcells_one _) (by unfold maxLen; omega) (by omega) hb2 ?_)
      intro v5 w5 ho5 hg5 _
      have B5 := hide (B4.out.grown hg5 hb2 (fun k hk => (HO4.out.lt k hk).1))
      have HO5 : Hid (w5.ownsRow w.heap.size 92 6 v5 (pagesAt d l t sq).length (pgcells ((pagesAt d l t sq).map Pg.tu))) := by
        show World.ownsRow _ _ _ _ _ _ _
        rw [HQ.out, List.length_cons, HNP.out, List.map_cons, pgcells_cons, Nat.add_comm]
        exact ho5
      clear ho5 hg5 HPC HPL HNP
      go_wp2
      exact bodyPost_ret (results_tmp2 rfl _ _ _) rfl ⟨sq, HSQ.out, .inl ⟨HOK.out, _, rfl, HO5.out, B5.out⟩⟩
    · rw [dcN hok]
      have HOK := hide hok
      clear po b4 CT hok
      go_wp2
      exact bodyPost_ret (results_tmp2 rfl _ _ _) rfl ⟨sq, HSQ.out, .inr ⟨HOK.out, rfl, B4.out⟩⟩
end Go.Proofs.YtfmnaidhfgmemaaGreatDoor
