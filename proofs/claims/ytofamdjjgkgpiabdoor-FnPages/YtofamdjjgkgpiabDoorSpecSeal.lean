/-
  The walks of the specification's texts sealed with a sum.
-/
import Derived.Test.YtofamdjjgkgpiabDoorSeal
import Derived.Test.YtofamdjjgkgpiabDoorSpecSum
namespace Go.Proofs.YtofamdjjgkgpiabDoor
open Go.RowKit
open Sums

set_option maxHeartbeats 400000 in
theorem specFour (x : Nat) (w : World) (hx : x < 4294967296) :
    Calls Tryd.prog 49 #[.int .u32 x] w fun e w' => e = .returned (.string ⟨(four x).toArray⟩) ∧ Below w.heap.size w w' := by
  have hcv := run_convert_bytes_back (P := Tryd.prog) _ 22 9 5 ⟨w.heap.size, 0, none⟩ 4 (four x) Tryd.underlying22 Tryd.underlying5 Tryd.underlying9 (four_at x hx w)
  rw [four_len] at hcv
  generalize (ByteArray.mk (four x).toArray) = r at hcv
  go_enter Tryd.func49, Tryd.ntmps49
  go_wp2
  go_ret
  exact ⟨rfl, (Below.refl _ _).alloc (Nat.le_refl _) _⟩
end Go.Proofs.YtofamdjjgkgpiabDoor
