/-
  strings.Clone.
-/
import Derived.Test.YtofamdjjgkgpiabFMath
import Derived.Test.YtofamdjjgkgpiabShelf
namespace Go.Proofs.Ytofamdjjgkgpiab
open Go.RowKit

theorem clone_any (s : ByteArray) (w : World) (hs : s.size ≤ 1048576) :
    Calls Try.prog 39 #[.string s] w fun e w' => e = .returned (.string s) ∧ Below w.heap.size w w' := by
  go_enter Try.func39, Try.ntmps39
  go_wp2_with fail
  refine (Try.stringslite_Clone s _ (by omega)).mono ?_
  rintro e w' ⟨rfl, hb⟩
  go_wp2
  go_ret
  exact ⟨rfl, hb⟩
end Go.Proofs.Ytofamdjjgkgpiab
