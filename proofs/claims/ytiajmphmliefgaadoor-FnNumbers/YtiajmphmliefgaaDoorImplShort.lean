/-
  The walks of strings.Clone and of impl.ShortText.
-/
import Derived.Test.YtiajmphmliefgaaDoorImplVar
import Derived.Test.YtiajmphmliefgaaDoorShelf
namespace Go.Proofs.YtiajmphmliefgaaDoor
open Go.RowKit
open Words

theorem clone_any (s : ByteArray) (w : World) (hs : s.size ≤ 281474976710656) :
    Calls Tryd.prog 23 #[.string s] w fun e w' => e = .returned (.string s) ∧ Below w.heap.size w w' := by
  go_enter Tryd.func23, Tryd.ntmps23
  go_wp2_with fail
  refine (Tryd.stringslite_Clone _ _ hs).mono ?_
  rintro e w' ⟨rfl, hb⟩
  go_wp2
  go_ret
  exact ⟨rfl, hb⟩

set_option maxHeartbeats 400000 in
theorem implShort (s : ByteArray) (w : World) (hs : s.size ≤ 20000) :
    Calls Tryd.prog 11 #[.string s] w fun e w' => e = .returned (.tuple #[.string (⟨(varL s.size).toArray⟩ ++ s), .bool true]) ∧ Below w.heap.size w w' := by
  have g : ¬ (20000 : Int) < s.size := by omega
  have hl := varL_len s.size (by omega)
  go_enter Tryd.func11, Tryd.ntmps11
  go_wp2_with fail
  refine (implVar_yes _ _ (by omega)).mono ?_
  rintro e w' ⟨rfl, hb⟩
  go_wp2
  go_ret2
  exact ⟨rfl, hb⟩

theorem implShort_no (s : ByteArray) (w : World) (hs : (20000 : Int) < s.size) :
    Calls Tryd.prog 11 #[.string s] w fun e w' => e = .returned (.tuple #[.string ⟨#[]⟩, .bool false]) ∧ w' = w := by
  go_enter Tryd.func11, Tryd.ntmps11
  go_wp2
  go_ret2
  exact ⟨rfl, rfl⟩
end Go.Proofs.YtiajmphmliefgaaDoor
