/-
  The walks of ShortText and ReadShort, impl's and spec's, and of the laws on them.
-/
import Derived.Test.YtiajmphmliefgajLaws2
import Derived.Test.YtiajmphmliefgajShelf
import Derived.Laws.DeepStrings4
namespace Go.Proofs.Ytiajmphmliefgaj
open Go.RowKit
open Words

theorem clone_any (s : ByteArray) (w : World) (hs : s.size ≤ 281474976710656) :
    Calls Try.prog 23 #[.string s] w fun e w' => e = .returned (.string s) ∧ Below w.heap.size w w' := by
  go_enter Try.func23, Try.ntmps23
  go_wp2_with fail
  refine (Try.stringslite_Clone _ _ hs).mono ?_
  rintro e w' ⟨rfl, hb⟩
  go_wp2
  go_ret
  exact ⟨rfl, hb⟩

set_option maxHeartbeats 400000 in
theorem specShort (s : ByteArray) (w : World) (hs : s.size ≤ 20000) :
    Calls Try.prog 13 #[.string s] w fun e w' => e = .returned (.tuple #[.string (⟨(varL s.size).toArray⟩ ++ s), .bool true]) ∧ Below w.heap.size w w' := by
  have g : ¬ (20000 : Int) < s.size := by omega
  have hl := varL_len s.size (by omega)
  go_enter Try.func13, Try.ntmps13
  go_wp2_with fail
  refine (l01Var_any _ _ (by omega)).mono ?_
  rintro e w' ⟨rfl, hb⟩
  go_wp2
  go_ret2
  exact ⟨rfl, hb⟩

set_option maxHeartbeats 400000 in
theorem implShort (s : ByteArray) (w : World) (hs : s.size ≤ 20000) :
    Calls Try.prog 14 #[.string s] w fun e w' => e = .returned (.tuple #[.string (⟨(varL s.size).toArray⟩ ++ s), .bool true]) ∧ Below w.heap.size w w' := by
  have g : ¬ (20000 : Int) < s.size := by omega
  have hl := varL_len s.size (by omega)
  go_enter Try.func14, Try.ntmps14
  go_wp2_with fail
  refine (implVar_yes _ _ (by omega)).mono ?_
  rintro e w' ⟨rfl, hb⟩
  go_wp2
  go_ret2
  exact ⟨rfl, hb⟩

theorem specShort_no (s : ByteArray) (w : World) (hs : (20000 : Int) < s.size) :
    Calls Try.prog 13 #[.string s] w fun e w' => e = .returned (.tuple #[.string ⟨#[]⟩, .bool false]) ∧ w' = w := by
  go_enter Try.func13, Try.ntmps13
  go_wp2
  go_ret2
  exact ⟨rfl, rfl⟩
theorem implShort_no (s : ByteArray) (w : World) (hs : (20000 : Int) < s.size) :
    Calls Try.prog 14 #[.string s] w fun e w' => e = .returned (.tuple #[.string ⟨#[]⟩, .bool false]) ∧ w' = w := by
  go_enter Try.func14, Try.ntmps14
  go_wp2
  go_ret2
  exact ⟨rfl, rfl⟩

set_option maxHeartbeats 400000 in
theorem lawShort (a0 : ByteArray) (w0 : a0.size ≤ maxLen) (w : World) :
    Calls Try.prog 5 #[.string a0] w fun e w' => e = .returned (.bool true) ∧ Below w.heap.size w w' := by
  unfold maxLen at w0
  by_cases hs : (1048576 : Int) < a0.size
  · go_enter Try.func5, Try.ntmps5
    go_wp2
    go_ret
    exact ⟨rfl, Below.refl _ _⟩
  · by_cases h2 : a0.size ≤ 20000
    · go_enter Try.func5, Try.ntmps5
      go_wp2_with fail
      refine (specShort a0 _ h2).mono ?_
      rintro e w1 ⟨rfl, hb1⟩
      go_wp2_with fail
      refine (implShort a0 _ h2).mono ?_
      rintro e w2 ⟨rfl, hb2⟩
      go_wp2
      go_ret
      exact ⟨rfl, hb1.trans (hb2.mono hb1.size)⟩
    · go_enter Try.func5, Try.ntmps5
      go_wp2_with fail
      refine (specShort_no a0 _ (by omega)).mono ?_
      rintro e w1 ⟨rfl, rfl⟩
      go_wp2_with fail
      refine (implShort_no a0 _ (by omega)).mono ?_
      rintro e w2 ⟨rfl, rfl⟩
      go_wp2
      go_ret
      exact ⟨rfl, Below.refl _ _⟩
end Go.Proofs.Ytiajmphmliefgaj
