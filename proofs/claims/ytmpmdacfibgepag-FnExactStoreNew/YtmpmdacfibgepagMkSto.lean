/-
  The laws' own markStore.
-/
import Derived.Test.YtmpmdacfibgepagArMkF
import Derived.Test.YtmpmdacfibgepagMkVl
import Derived.Test.YtmpmdacfibgepagSliL
namespace Go.Proofs.Ytmpmdacfibgepag
open Go.RowKit
open Words

set_option maxHeartbeats 400000 in
set_option maxRecDepth 100000 in
theorem markSto_any (l1 h1 l2 h2 : Nat) (va : Option Addr) (n vc : Nat) (kv : Value) (nx : Int) (xs : List Value) (ys : List Vw) (w : World) (hn : n ≤ 1048576) (hxs : xs.length = n * 2) (hl : ys.length ≤ 1048580) (hll : ∀ y ∈ ys, y.2.2.1 ≤ 1048576 ∧ y.2.2.2.length = y.2.2.1) (he : vend (1 + n * 2) ys ≤ 1000000000) (hh1 : h1 ≤ w.heap.size) (hh2 : h2 ≤ w.heap.size) (hap : h1 ≤ l2 ∨ h2 ≤ l1) (ha : Sli 132 l1 h1 (.slice va n vc) n xs w) (hk : VIn l2 h2 kv ys w) :
    Calls Try.prog 40 #[.agg #[.slice va n vc, kv, .int .i64 nx], .int .i64 1] w fun e w' => e = .returned (.int .i64 ((vend (1 + n * 2) ys : Nat) : Int)) ∧ Hid (Sli 132 l1 h1 (.slice va n vc) n (mkFlat patVl 1 n) w') ∧ Hid (VIn l2 h2 kv (vmk (1 + n * 2) ys) w') ∧ Hid (Kept2 w w' (fun i => Apt l1 h1 i ∧ Apt l2 h2 i)) := by
  obtain ⟨ad, ca, rfl, -⟩ := hk.1.form
  have bA := (Below.refl w.heap.size w).alloc (Nat.le_refl _) (.cells #[.slice va n vc, .slice ad ys.length ca, .int .i64 nx] 65)
  have hz := bA.size
  have C1 := hide (markVl_any l1 h1 (.slice va n vc) n 1 xs _ (by omega) hxs (by omega) (by omega) (by omega) (Sli.loc _ _ _ _ _ _ _ _ (fun i _ hi => bA.block i (by omega)) ha))
  have K1 := hide (VIn.loc _ _ _ _ _ _ (fun i _ hi => bA.block i (by omega)) hk)
  have HB := hide bA
  have GB := hide (heap_alloc_new w (.cells #[.slice va n vc, .slice ad ys.length ca, .int .i64 nx] 65))
  have HLL := hide hll
  obtain ⟨yn, hyn⟩ : ∃ yn, ys.length = yn := ⟨_, rfl⟩
  obtain ⟨m, hm⟩ : ∃ m, 1 + n * 2 = m := ⟨_, rfl⟩
  have HM := hide hm
  rw [hyn] at C1 K1 HB GB
  rw [hm] at C1 he
  rw [hyn, hm]
  obtain ⟨t, ht⟩ : ∃ t, vend m ys = t := ⟨_, rfl⟩
  rw [ht]
  have HT := hide ht
  clear ht
  clear ha hk bA hz hll hyn hm
  go_enter Try.func40, Try.ntmps40
  go_wp2_with fail
  generalize w.alloc (.cells #[.slice va n vc, .slice ad yn ca, .int .i64 nx] 65) = wb at C1 K1 HB GB ⊢
  refine C1.out.mono ?_
  rintro e w1 ⟨rfl, s1, k1⟩
  have hwb : Hid (w.heap.size < wb.heap.size) := (Array.getElem?_eq_some_iff.1 GB.out).1
  have G1 : Hid (w1.heap[w.heap.size]? = some (.cells #[.slice va n vc, .slice ad yn ca, .int .i64 nx] 65 (0, 0))) := (k1.out.2.2.2.2 _ hwb.out (show Apt l1 h1 w.heap.size by unfold Apt; omega)).trans GB.out
  have q1 := cell_of_row _ _ 1 _ _ _ G1.out
  have hs1 : Hid (wb.heap.size ≤ w1.heap.size) := k1.out.2.2.2.1
  have V1 : Hid (VIn l2 h2 (.slice ad yn ca) ys w1) := VIn.loc _ _ _ _ wb w1 (fun i i1 i2 => k1.out.2.2.2.2 i (by have := hwb.out; omega) (show Apt l1 h1 i by unfold Apt; omega)) K1.out
  have m0 : Hid (0 < m) := by have := HM.out; show _ < _; omega
  have C2 := hide (markAr_from m m0.out l2 h2 (.slice ad yn ca) ys w1 hl HLL.out he (by have := hwb.out; have := hs1.out; omega) V1.out)
  have KW : Hid (Kept2 w w1 (fun i => Apt l1 h1 i ∧ Apt l2 h2 i)) := (Kept2.below HB.out).trans ⟨k1.out.1, k1.out.2.1, k1.out.2.2.1, k1.out.2.2.2.1, fun i hi ho => k1.out.2.2.2.2 i hi ho.1⟩
  rw [HT.out] at C2
  clear k1 C1 GB G1 V1 K1 he
  go_wp2_with fail
  refine C2.out.mono ?_
  rintro e w2 ⟨rfl, s2, k2⟩
  have hs2 : Hid (h1 ≤ w1.heap.size) := by have := hwb.out; have := hs1.out; show _ ≤ _; omega
  have S2 : Hid (Sli 132 l1 h1 (.slice va n vc) n (mkFlat patVl 1 n) w2) := Sli.loc _ _ _ _ _ _ w1 w2 (fun i i1 i2 => k2.out.2.2.2.2 i (by have := hs2.out; omega) (show Apt l2 h2 i by unfold Apt; omega)) s1.out
  have KW2 : Hid (Kept2 w w2 (fun i => Apt l1 h1 i ∧ Apt l2 h2 i)) := KW.out.trans ⟨k2.out.1, k2.out.2.1, k2.out.2.2.1, k2.out.2.2.2.1, fun i hi ho => k2.out.2.2.2.2 i hi ho.2⟩
  clear C2 k2 KW s1
  go_wp2
  go_ret
  exact ⟨rfl, S2, s2, KW2⟩
set_option maxHeartbeats 400000 in
set_option maxRecDepth 100000 in
theorem heldSto_any (l1 h1 l2 h2 : Nat) (va : Option Addr) (n vc : Nat) (kv : Value) (nx : Int) (ys : List Vw) (w : World) (hn : n ≤ 1048576) (hl : ys.length ≤ 1048580) (hll : ∀ y ∈ ys, y.2.2.1 ≤ 1048576) (he : vend (1 + n * 2) ys ≤ 1000000000) (hh1 : h1 ≤ w.heap.size) (hh2 : h2 ≤ w.heap.size) (ha : Sli 132 l1 h1 (.slice va n vc) n (mkFlat patVl 1 n) w) (hk : VIn l2 h2 kv (vmk (1 + n * 2) ys) w) :
    Calls Try.prog 41 #[.agg #[.slice va n vc, kv, .int .i64 nx], .int .i64 1] w fun e w' => e = .returned (.int .i64 ((vend (1 + n * 2) ys : Nat) : Int)) ∧ Below w.heap.size w w' := by
  obtain ⟨ad, ca, rfl, -⟩ := hk.1.form
  obtain ⟨yn, hyn⟩ : ∃ yn, (vmk (1 + n * 2) ys).length = yn := ⟨_, rfl⟩
  rw [hyn] at hk ⊢
  have bA := (Below.refl w.heap.size w).alloc (Nat.le_refl _) (.cells #[.slice va n vc, .slice ad yn ca, .int .i64 nx] 65)
  have hz := bA.size
  have C1 := hide (heldVl_any l1 h1 (.slice va n vc) n 1 _ (by omega) (by omega) (by omega) (by omega) (Sli.loc _ _ _ _ _ _ _ _ (fun i _ hi => bA.block i (by omega)) ha))
  have K1 := hide (VIn.loc _ _ _ _ _ _ (fun i _ hi => bA.block i (by omega)) hk)
  have HB := hide bA
  have GB := hide (heap_alloc_new w (.cells #[.slice va n vc, .slice ad yn ca, .int .i64 nx] 65))
  have HLL := hide hll
  obtain ⟨m, hm⟩ : ∃ m, 1 + n * 2 = m := ⟨_, rfl⟩
  have m0 : 0 < m := by omega
  rw [hm] at C1 he K1 ⊢
  obtain ⟨t, ht⟩ : ∃ t, vend m ys = t := ⟨_, rfl⟩
  rw [ht]
  have HT := hide ht
  have m1 : ¬ ((m : Int) < 0) := by omega
  have t1 : ¬ ((t : Int) < 0) := by omega
  clear ha hk bA hz hll hyn hm ht
  go_enter Try.func41, Try.ntmps41
  go_wp2_with fail
  generalize w.alloc (.cells #[.slice va n vc, .slice ad yn ca, .int .i64 nx] 65) = wb at C1 K1 HB GB ⊢
  refine C1.out.mono ?_
  rintro e w1 ⟨rfl, b1⟩
  have hwb : Hid (w.heap.size < wb.heap.size) := (Array.getElem?_eq_some_iff.1 GB.out).1
  have q1 := cell_of_row _ _ 1 _ _ _ ((b1.block _ hwb.out).trans GB.out)
  have B1 := hide (HB.out.trans (b1.mono HB.out.size))
  have C2 := hide (heldAr_from m m0 l2 h2 (.slice ad yn ca) ys w1 hl HLL.out he (by have := B1.out.size; omega) (VIn.loc _ _ _ _ wb w1 (fun i i1 i2 => b1.block i (by have := hwb.out; omega)) K1.out))
  rw [HT.out] at C2
  clear b1 C1 GB K1 he
  go_wp2_with fail
  refine C2.out.mono ?_
  rintro e w2 ⟨rfl, b2⟩
  have B2 := hide (B1.out.trans (b2.mono B1.out.size))
  clear C2 b2
  go_wp2
  go_ret
  exact ⟨rfl, B2.out⟩
end Go.Proofs.Ytmpmdacfibgepag
