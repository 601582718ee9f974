/-
  The walks of the laws on SumMore and SumOf.
-/
import Derived.Test.YtcckljalnphneakDoorSum
import Derived.Test.YtcckljalnphneakDoorSpecSum
namespace Go.Proofs.YtcckljalnphneakDoor
open Go.RowKit
open Sums

set_option maxHeartbeats 400000 in
theorem lawSumMore' (a0 : Nat) (a1 : ByteArray) (w : World) (h0 : a0 < 4294967296) (h1 : a1.size ≤ maxLen) (ht : HalvIn w) :
    Calls Tryd.prog 6 #[.int .u32 a0, .string a1] w fun e w' => e = .returned (.bool true) ∧ Below w.heap.size w w' := by
  have HT := hide ht
  have H1 := hide h1
  unfold maxLen at h1
  clear ht
  by_cases hs : (1048576 : Int) < a1.size
  · go_enter Tryd.func6, Tryd.ntmps6
    go_wp2
    go_ret
    exact ⟨rfl, Below.refl _ _⟩
  · go_enter Tryd.func6, Tryd.ntmps6
    go_wp2_with fail
    refine (specMore a0 a1 _ h0 H1.out).mono ?_
    rintro e w1 ⟨rfl, rfl⟩
    go_wp2_with fail
    refine (sumMore_any a0 a1 _ h0 H1.out HT.out).mono ?_
    rintro e w2 ⟨rfl, rfl⟩
    go_wp2
    go_ret
    exact ⟨rfl, Below.refl _ _⟩
theorem lawSumMore (a0 : Int) (a1 : ByteArray) (w0 : (Lit.int .u32 a0).wf = true) (w1 : a1.size ≤ maxLen) (w : World) (ht : HalvIn w) :
    Calls Tryd.prog 6 #[.int .u32 a0, .string a1] w fun e w' => e = .returned (.bool true) ∧ Below w.heap.size w w' := by
  have hb : 0 ≤ a0 ∧ a0 ≤ 4294967295 := by simpa [Lit.wf, IntKind.min, IntKind.max, IntKind.signed, IntKind.bits] using w0
  obtain ⟨n, rfl⟩ := Int.eq_ofNat_of_zero_le hb.1
  exact lawSumMore' n a1 w (by omega) w1 ht

set_option maxHeartbeats 400000 in
theorem lawSumOf (a0 : ByteArray) (h1 : a0.size ≤ maxLen) (w : World) (ht : HalvIn w) :
    Calls Tryd.prog 7 #[.string a0] w fun e w' => e = .returned (.bool true) ∧ Below w.heap.size w w' := by
  have HT := hide ht
  have H1 := hide h1
  unfold maxLen at h1
  clear ht
  by_cases hs : (1048576 : Int) < a0.size
  · go_enter Tryd.func7, Tryd.ntmps7
    go_wp2
    go_ret
    exact ⟨rfl, Below.refl _ _⟩
  · go_enter Tryd.func7, Tryd.ntmps7
    go_wp2_with fail
    refine (specOf a0 _ H1.out).mono ?_
    rintro e w1 ⟨rfl, rfl⟩
    go_wp2_with fail
    refine (sumOf_any a0 _ H1.out HT.out).mono ?_
    rintro e w2 ⟨rfl, rfl⟩
    go_wp2
    go_ret
    exact ⟨rfl, Below.refl _ _⟩
end Go.Proofs.YtcckljalnphneakDoor
