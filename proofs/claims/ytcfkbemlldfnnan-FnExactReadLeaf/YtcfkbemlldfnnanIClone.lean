/-
  strings.Clone.
-/
import Derived.Test.YtcfkbemlldfnnanFMath
import Derived.Test.YtcfkbemlldfnnanShelf
namespace Go.Proofs.Ytcfkbemlldfnnan
open Go.RowKit

theorem clone_any (s : ByteArray) (w : World) (hs : s.size ≤ 1048576) :
    Calls Try.prog 38 #[.string s] w fun e w' => e = .returned (.string s) ∧ Below w.heap.size w w' := by
  go_enter Try.func38, Try.ntmps38
  go_wp2_with fail
  refine (Try.stringslite_Clone s _ (by omega)).mono ?_
  rintro e w' ⟨rfl, hb⟩
  go_wp2
  go_ret
  exact ⟨rfl, hb⟩
end Go.Proofs.Ytcfkbemlldfnnan
