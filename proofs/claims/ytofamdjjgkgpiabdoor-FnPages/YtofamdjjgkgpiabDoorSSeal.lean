/-
  spec.Sealed.
-/
import Derived.Test.YtofamdjjgkgpiabDoorSpecSeal
namespace Go.Proofs.YtofamdjjgkgpiabDoor
open Go.RowKit
open Sums

set_option maxHeartbeats 400000 in
theorem specSealed (t : ByteArray) (w : World) (hl : t.size ≤ 20000) :
    Calls Tryd.prog 30 #[.string t] w fun e w' => e = .returned (.tuple #[.string (sealA t), .bool true]) ∧ Below w.heap.size w w' := by
  have g : ¬ (20000 : Int) < t.size := by omega
  go_enter Tryd.func30, Tryd.ntmps30
  go_wp2_with fail
  refine (specOf t _ (by unfold maxLen; omega)).mono ?_
  rintro e w1 ⟨rfl, rfl⟩
  have hx := sumOf_lt t.data.toList
  have E : Hid (sealA t = t ++ ⟨(four (sumOf t.data.toList)).toArray⟩) := rfl
  have hfl := four_len (sumOf t.data.toList)
  generalize sumOf t.data.toList = x at hx E hfl
  go_wp2_with fail
  refine (specFour x _ hx).mono ?_
  rintro e w2 ⟨rfl, hb⟩
  generalize four x = f at E hfl
  go_wp2
  go_ret2
  exact ⟨by rw [E.out]; rfl, hb⟩

theorem specSealed_no (t : ByteArray) (w : World) (hl : (20000 : Int) < t.size) :
    Calls Tryd.prog 30 #[.string t] w fun e w' => e = .returned (.tuple #[.string ⟨#[]⟩, .bool false]) ∧ w' = w := by
  go_enter Tryd.func30, Tryd.ntmps30
  go_wp2
  go_ret2
  exact ⟨rfl, rfl⟩

end Go.Proofs.YtofamdjjgkgpiabDoor
