/-
  MkSto; EqVl
-/
import Derived.Test.YtcnaahajaaifjabPq22
import Derived.Test.YtcnaahajaaifjabPq1
import Derived.Test.YtcnaahajaaifjabPq6
import Derived.Deep.RegionHeld3
/-
  The laws' own markStore.
-/
namespace Go.Proofs.Ytcnaahajaaifjab
open Go.RowKit
open Words

set_option maxHeartbeats 400000 in
set_option maxRecDepth 100000 in
theorem markSto_any (l1 h1 l2 h2 : Nat) (va : Option Addr) (n vc : Nat) (kv : Value) (nx : Int) (xs : List Value) (ys : List Vw) (w : World) (hn : n ≤ 1048576) (hxs : xs.length = n * 2) (hl : ys.length ≤ 1048580) (hll : ∀ y ∈ ys, y.2.2.1 ≤ 1048576 ∧ y.2.2.2.length = y.2.2.1) (he : vend (1 + n * 2) ys ≤ 1000000000) (hh1 : h1 ≤ w.heap.size) (hh2 : h2 ≤ w.heap.size) (hap : h1 ≤ l2 ∨ h2 ≤ l1) (ha : Sli 57 l1 h1 (.slice va n vc) n xs w) (hk : VIn l2 h2 kv ys w) :
    Calls Try.prog 21 #[.agg #[.slice va n vc, kv, .int .i64 nx], .int .i64 1] w fun e w' => e = .returned (.int .i64 ((vend (1 + n * 2) ys : Nat) : Int)) ∧ Hid (Sli 57 l1 h1 (.slice va n vc) n (mkFlat patVl 1 n) w') ∧ Hid (VIn l2 h2 kv (vmk (1 + n * 2) ys) w') ∧ Hid (Kept2 w w' (fun i => Apt l1 h1 i ∧ Apt l2 h2 i)) := by
  obtain ⟨ad, ca, rfl, -⟩ := hk.1.form
  have bA := (Below.refl w.heap.size w).alloc (Nat.le_refl _) (.cells #[.slice va n vc, .slice ad ys.length ca, .int .i64 nx] 35)
  have hz := bA.size
  have C1 := hide (markVl_any l1 h1 (.slice va n vc) n 1 xs _ (by omega) hxs (by omega) (by omega) (by omega) (Sli.loc _ _ _ _ _ _ _ _ (fun i _ hi => bA.block i (by omega)) ha))
  have K1 := hide (VIn.loc _ _ _ _ _ _ (fun i _ hi => bA.block i (by omega)) hk)
  have HB := hide bA
  have GB := hide (heap_alloc_new w (.cells #[.slice va n vc, .slice ad ys.length ca, .int .i64 nx] 35))
  have HLL := hide hll
  obtain ⟨yn, hyn⟩ : ∃ yn, ys.length = yn := ⟨_, rfl⟩
  obtain ⟨m, hm⟩ : ∃ m, 1 + n * 2 = m := ⟨_, rfl⟩
  have HM := hide hm
  rw [hyn] at C1 K1 HB GB
  rw [hm] at C1 he
  rw [hyn, hm]
  obtain ⟨t, ht⟩ : ∃ t, vend m ys = t := ⟨_, rfl⟩
  rw [ht]
  have HT := hide ht
  clear ht
  clear ha hk bA hz hll hyn hm
  go_enter Try.func21, Try.ntmps21
  go_wp2_with fail
  generalize w.alloc (.cells #[.slice va n vc, .slice ad yn ca, .int .i64 nx] 35) = wb at C1 K1 HB GB ⊢
  refine C1.out.mono ?_
  rintro e w1 ⟨rfl, s1, k1⟩
  have hwb : Hid (w.heap.size < wb.heap.size) := (Array.getElem?_eq_some_iff.1 GB.out).1
  have G1 : Hid (w1.heap[w.heap.size]? = some (.cells #[.slice va n vc, .slice ad yn ca, .int .i64 nx] 35 (0, 0))) := (k1.out.2.2.2.2 _ hwb.out (show Apt l1 h1 w.heap.size by unfold Apt; omega)).trans GB.out
  have q1 := cell_of_row _ _ 1 _ _ _ G1.out
  have hs1 : Hid (wb.heap.size ≤ w1.heap.size) := k1.out.2.2.2.1
  have V1 : Hid (VIn l2 h2 (.slice ad yn ca) ys w1) := VIn.loc _ _ _ _ wb w1 (fun i i1 i2 => k1.out.2.2.2.2 i (by have := hwb.out; omega) (show Apt l1 h1 i by unfold Apt; omega)) K1.out
  have m0 : Hid (0 < m) := by have := HM.out; show _ < _; omega
  have C2 := hide (markAr_from m m0.out l2 h2 (.slice ad yn ca) ys w1 hl HLL.out he (by have := hwb.out; have := hs1.out; omega) V1.out)
  have KW : Hid (Kept2 w w1 (fun i => Apt l1 h1 i ∧ Apt l2 h2 i)) := (Kept2.below HB.out).trans ⟨k1.out.1, k1.out.2.1, k1.out.2.2.1, k1.out.2.2.2.1, fun i hi ho => k1.out.2.2.2.2 i hi ho.1⟩
  rw [HT.out] at C2
  clear k1 C1 GB G1 V1 K1 he
  go_wp2_with fail
  refine C2.out.mono ?_
  rintro e w2 ⟨rfl, s2, k2⟩
  have hs2 : Hid (h1 ≤ w1.heap.size) := by have := hwb.out; have := hs1.out; show _ ≤ _; omega
  have S2 : Hid (Sli 57 l1 h1 (.slice va n vc) n (mkFlat patVl 1 n) w2) := Sli.loc _ _ _ _ _ _ w1 w2 (fun i i1 i2 => k2.out.2.2.2.2 i (by have := hs2.out; omega) (show Apt l2 h2 i by unfold Apt; omega)) s1.out
  have KW2 : Hid (Kept2 w w2 (fun i => Apt l1 h1 i ∧ Apt l2 h2 i)) := KW.out.trans ⟨k2.out.1, k2.out.2.1, k2.out.2.2.1, k2.out.2.2.2.1, fun i hi ho => k2.out.2.2.2.2 i hi ho.2⟩
  clear C2 k2 KW s1
  go_wp2
  go_ret
  exact ⟨rfl, S2, s2, KW2⟩
end Go.Proofs.Ytcnaahajaaifjab

/-
  The laws' own toVol, eqVol and eqVolS.
-/
namespace Go.Proofs.Ytcnaahajaaifjab
open Go.RowKit

set_option maxHeartbeats 400000 in
set_option maxRecDepth 100000 in
theorem toVl_any (x0 : Int) (x1 : Int) (w : World) :
    Calls Try.prog 67 #[.agg #[.int .i64 x0, .int .i64 x1]] w fun e w' => e = .returned (.agg #[.int .i64 x0, .int .i64 x1]) ∧ Below w.heap.size w w' := by
  go_enter Try.func67, Try.ntmps67
  go_wp2
  have h1 := heap_alloc_new (w.alloc (.cells #[.int .i64 x0, .int .i64 x1] 90)) (.cells #[.int .i64 x0, .int .i64 x1] 57)
  have hs : (w.alloc (.cells #[.int .i64 x0, .int .i64 x1] 90)).heap.size = w.heap.size + 1 := by simp
  rw [hs] at h1
  have h2 := (Below.heap_alloc ((w.alloc (.cells #[.int .i64 x0, .int .i64 x1] 90)).alloc (.cells #[.int .i64 x0, .int .i64 x1] 57)) (.cells #[.int .i64 x0, .int .i64 x1] 57) (w.heap.size + 1) (by simp)).trans h1
  exact bodyPost_ret (results_cell_row rfl _ _ (w.heap.size + 1) 57 _ (0, 0) _ rfl h2 Try.underlying57 rfl infoVlz) rfl ⟨rfl, (((Below.refl _ _).alloc (Nat.le_refl _) _).alloc (by simp) _).alloc (by simp; omega) _⟩
set_option maxHeartbeats 400000 in
set_option maxRecDepth 100000 in
theorem eqVl_same (x0 : Int) (x1 : Int) (w : World) :
    Calls Try.prog 75 #[.agg #[.int .i64 x0, .int .i64 x1], .agg #[.int .i64 x0, .int .i64 x1]] w fun e w' => e = .returned (.bool true) ∧ Below w.heap.size w w' := by
  have e0 : (x0 != x0) = false := by simp
  have e1 : (x1 != x1) = false := by simp
  go_enter Try.func75, Try.ntmps75
  go_wp2
  go_ret
  exact ⟨rfl, ((Below.refl _ _).alloc (Nat.le_refl _) _).alloc (by simp) _⟩
set_option maxHeartbeats 1000000 in
set_option maxRecDepth 100000 in
theorem eqVls_same (a b : Value) (M : List (Int × Int)) (B1 C1 B2 C2 : Nat) (w : World) (hM : M.length ≤ 1000000000000000000) (ha : Sli 57 B1 C1 a M.length (vlcells M) w) (hb : Sli 57 B2 C2 b M.length (vlcells M) w) :
    Calls Try.prog 45 #[a, b] w fun e w' => e = .returned (.bool true) ∧ Below w.heap.size w w' := by
  obtain ⟨ad, capa, rfl, a3⟩ := ha.form
  obtain ⟨bd, capb, rfl, b3⟩ := hb.form
  obtain ⟨n, hn⟩ : ∃ n, M.length = n := ⟨_, rfl⟩
  have HN := hide hn
  have HSA := hide ha
  have HSB := hide hb
  rw [hn] at hM a3 b3 HSA HSB ⊢
  have A3 := hide a3
  have B3 := hide b3
  clear a3 b3 ha hb hn
  go_enter Try.func45, Try.ntmps45
  go_wp2
  go_loopw [5] (fun iv wr => ∃ k : Nat, k ≤ n ∧ iv = .int .i64 k ∧ Hid (Below w.heap.size w wr)) (fun iv _ => n - (intOf iv).toNat)
  case atStart => exact ⟨0, Nat.zero_le _, rfl, Below.refl _ _⟩
  case round =>
    obtain ⟨k, hk, rfl, HW⟩ := hrel
    by_cases hlt : (k : Int) < n
    · obtain ⟨ga, e, _, _⟩ := A3.out (by omega)
      subst e
      obtain ⟨gb, e, _, _⟩ := B3.out (by omega)
      subst e
      have hkl : k < M.length := by have := HN.out; omega
      obtain ⟨x0, x1, hx⟩ : ∃ x0 x1, M[k]? = some (x0, x1) := ⟨M[k].1, M[k].2, List.getElem?_eq_getElem hkl⟩
      have GA := HSA.out.flt.below HW.out
      have GB := HSB.out.flt.below HW.out
      have c0 : wr.cell? ⟨ga, k * 2, none⟩ = some (.int .i64 x0) := GA.cell (vlcells_at M k _ hx 0 _ rfl)
      have d0 : wr.cell? ⟨gb, k * 2, none⟩ = some (.int .i64 x0) := GB.cell (vlcells_at M k _ hx 0 _ rfl)
      have c1 : wr.cell? ⟨ga, k * 2 + 1, none⟩ = some (.int .i64 x1) := GA.cell (vlcells_at M k _ hx 1 _ rfl)
      have d1 : wr.cell? ⟨gb, k * 2 + 1, none⟩ = some (.int .i64 x1) := GB.cell (vlcells_at M k _ hx 1 _ rfl)
      have k0 : (0 : Int) ≤ k := by omega
      have CE := hide (eqVl_same x0 x1 wr.drew)
      have CF := hide (eqVl_same x0 x1 wr)
      have hsz := HW.out.size
      have gaw : ga < wr.heap.size := World.block_lt_of_cell? wr _ c0
      have gbw : gb < wr.heap.size := World.block_lt_of_cell? wr _ d0
      clear hx hkl GA GB
      first
        | (go_wp2_with fail
           refine CF.out.mono ?_
           rintro e w1 ⟨rfl, b1⟩
           have HW1 := hide (HW.out.trans (b1.mono hsz)))
        | (go_wp2
           go_region_held3 (fun w' => w'.cell? ⟨ga, k * 2, none⟩ = some (.int .i64 x0) ∧ w'.cell? ⟨ga, k * 2 + 1, none⟩ = some (.int .i64 x1) ∧ w'.cell? ⟨gb, k * 2, none⟩ = some (.int .i64 x0) ∧ w'.cell? ⟨gb, k * 2 + 1, none⟩ = some (.int .i64 x1)) (first | go_keep | exact ⟨(b1.cell (show ga < wr.drew.heap.size from gaw)).trans c0, (b1.cell (show ga < wr.drew.heap.size from gaw)).trans c1, (b1.cell (show gb < wr.drew.heap.size from gbw)).trans d0, (b1.cell (show gb < wr.drew.heap.size from gbw)).trans d1⟩) ((go_at_call 75; (with_reducible refine Calls.mono CE.out ?_); rintro en w1 ⟨rfl, b1⟩))
           have HW1 := hide (HW.out.drew.trans (b1.mono (show w.heap.size ≤ wr.drew.heap.size from hsz))))
      all_goals
        clear b1 CE CF HW c0 c1 d0 d1
        go_wp2
        go_roundw
        case rel => exact ⟨k + 1, by omega, by go_num, HW1⟩
        case measure => simp [intOf]; omega
    · go_wp2
      go_ret
      exact ⟨rfl, HW.out⟩
end Go.Proofs.Ytcnaahajaaifjab
