/-
  Arenas: marked from any number on, and held.
-/
import Derived.Test.YtmpmdacfibgepagKnMkF
import Derived.Test.YtmpmdacfibgepagTkKn
namespace Go.Proofs.Ytmpmdacfibgepag
open Go.RowKit
open Words

set_option maxHeartbeats 400000 in
set_option maxRecDepth 100000 in
theorem markAr_from (k0 : Nat) (h0 : 0 < k0) (lo hi : Nat) (a : Value) (ys : List Vw) (w : World) (hl : ys.length ≤ 1048580) (hll : ∀ y ∈ ys, y.2.2.1 ≤ 1048576 ∧ y.2.2.2.length = y.2.2.1) (he : vend k0 ys ≤ 1000000000) (hh : hi ≤ w.heap.size) (ha : VIn lo hi a ys w) :
    Calls Try.prog 72 #[.agg #[a], .int .i64 (k0 : Int)] w fun e w' => e = .returned (.int .i64 ((vend k0 ys : Nat) : Int)) ∧ Hid (VIn lo hi a (vmk k0 ys) w') ∧ Hid (Kept2 w w' (Apt lo hi)) := by
  obtain ⟨ad, ca, rfl, a3⟩ := ha.1.form
  have bA := (Below.refl w.heap.size w).alloc (Nat.le_refl _) (.cells #[.slice ad ys.length ca] 63)
  have C := hide (markKns_from k0 h0 lo hi _ ys _ hl hll he (VIn.loc _ _ _ _ _ _ (fun i _ hi => bA.block i (by omega)) ha))
  have HK := hide (Kept2.below (ok := Apt lo hi) bA)
  obtain ⟨n, hn⟩ : ∃ n, ys.length = n := ⟨_, rfl⟩
  obtain ⟨m, hm⟩ : ∃ m, vend k0 ys = m := ⟨_, rfl⟩
  rw [hn, hm] at C
  rw [hn] at HK
  rw [hn, hm]
  clear ha hll a3 bA he hm hn hl
  go_enter Try.func72, Try.ntmps72
  go_wp2_with fail
  refine C.out.mono ?_
  rintro e w1 ⟨rfl, hv, hk⟩
  have K2 := hide (HK.out.trans hk.out)
  clear C hk HK
  go_wp2
  go_ret
  exact ⟨rfl, hv, K2⟩
set_option maxHeartbeats 400000 in
set_option maxRecDepth 100000 in
theorem heldAr_from (k0 : Nat) (h0 : 0 < k0) (lo hi : Nat) (a : Value) (ys : List Vw) (w : World) (hl : ys.length ≤ 1048580) (hll : ∀ y ∈ ys, y.2.2.1 ≤ 1048576) (he : vend k0 ys ≤ 1000000000) (hh : hi ≤ w.heap.size) (ha : VIn lo hi a (vmk k0 ys) w) :
    Calls Try.prog 74 #[.agg #[a], .int .i64 (k0 : Int)] w fun e w' => e = .returned (.int .i64 ((vend k0 ys : Nat) : Int)) ∧ Below w.heap.size w w' := by
  obtain ⟨ad, ca, rfl, a3⟩ := ha.1.form
  have bA := (Below.refl w.heap.size w).alloc (Nat.le_refl _) (.cells #[.slice ad (vmk k0 ys).length ca] 63)
  have C := hide (heldKns_from k0 h0 lo hi _ ys _ hl hll he (VIn.loc _ _ _ _ _ _ (fun i _ hi => bA.block i (by omega)) ha))
  have HB := hide bA
  obtain ⟨n, hn⟩ : ∃ n, (vmk k0 ys).length = n := ⟨_, rfl⟩
  obtain ⟨m, hm⟩ : ∃ m, vend k0 ys = m := ⟨_, rfl⟩
  rw [hn, hm] at C
  rw [hn] at HB
  rw [hn, hm]
  have m0 : ¬ ((m : Int) < 0) := by omega
  clear hl hll he hh ha a3 bA hn hm
  go_enter Try.func74, Try.ntmps74
  go_wp2_with fail
  refine C.out.mono ?_
  rintro e w1 ⟨rfl, b1⟩
  have B1 := hide (HB.out.trans (b1.mono HB.out.size))
  clear C HB b1
  go_wp2
  go_ret
  exact ⟨rfl, B1.out⟩
end Go.Proofs.Ytmpmdacfibgepag
