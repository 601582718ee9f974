/-
  The walks of the specification's Sealed and of the law on it.
-/
import Derived.Test.YtcckljalnphneakDoorSpecSeal
namespace Go.Proofs.YtcckljalnphneakDoor
open Go.RowKit
open Sums

set_option maxHeartbeats 400000 in
theorem specSealed (t : ByteArray) (w : World) (hl : t.size ≤ 20000) :
    Calls Tryd.prog 22 #[.string t] w fun e w' => e = .returned (.tuple #[.string (sealA t), .bool true]) ∧ Below w.heap.size w w' := by
  have g : ¬ (20000 : Int) < t.size := by omega
  go_enter Tryd.func22, Tryd.ntmps22
  go_wp2_with fail
  refine (specOf t _ (by unfold maxLen; omega)).mono ?_
  rintro e w1 ⟨rfl, rfl⟩
  have hx := sumOf_lt t.data.toList
  have E : Hid (sealA t = t ++ ⟨(four (sumOf t.data.toList)).toArray⟩) := rfl
  have hfl := four_len (sumOf t.data.toList)
  generalize sumOf t.data.toList = x at hx E hfl
  go_wp2_with fail
  refine (specFour x _ hx).mono ?_
  rintro e w2 ⟨rfl, hb⟩
  generalize four x = f at E hfl
  go_wp2
  go_ret2
  exact ⟨by rw [E.out]; rfl, hb⟩

theorem specSealed_no (t : ByteArray) (w : World) (hl : (20000 : Int) < t.size) :
    Calls Tryd.prog 22 #[.string t] w fun e w' => e = .returned (.tuple #[.string ⟨#[]⟩, .bool false]) ∧ w' = w := by
  go_enter Tryd.func22, Tryd.ntmps22
  go_wp2
  go_ret2
  exact ⟨rfl, rfl⟩

set_option maxHeartbeats 400000 in
theorem lawSealed (a0 : ByteArray) (w0 : a0.size ≤ maxLen) (w : World) (ht : HalvIn w) :
    Calls Tryd.prog 8 #[.string a0] w fun e w' => e = .returned (.bool true) ∧ Below w.heap.size w w' := by
  unfold maxLen at w0
  have HT := hide ht
  clear ht
  by_cases hs : (1048576 : Int) < a0.size
  · go_enter Tryd.func8, Tryd.ntmps8
    go_wp2
    go_ret
    exact ⟨rfl, Below.refl _ _⟩
  · by_cases h2 : a0.size ≤ 20000
    · go_enter Tryd.func8, Tryd.ntmps8
      go_wp2_with fail
      refine (specSealed a0 _ h2).mono ?_
      rintro e w1 ⟨rfl, hb1⟩
      go_wp2_with fail
      refine (sealed_any a0 _ h2 (HT.out.on hb1)).mono ?_
      rintro e w2 ⟨rfl, hb2⟩
      generalize sealA a0 = r
      go_wp2
      go_ret
      exact ⟨rfl, hb1.trans (hb2.mono hb1.size)⟩
    · go_enter Tryd.func8, Tryd.ntmps8
      go_wp2_with fail
      refine (specSealed_no a0 _ (by omega)).mono ?_
      rintro e w1 ⟨rfl, rfl⟩
      go_wp2_with fail
      refine (sealed_no a0 _ (by omega)).mono ?_
      rintro e w2 ⟨rfl, rfl⟩
      go_wp2
      go_ret
      exact ⟨rfl, Below.refl _ _⟩
end Go.Proofs.YtcckljalnphneakDoor
