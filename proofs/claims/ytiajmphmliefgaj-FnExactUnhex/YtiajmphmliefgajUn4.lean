/-
  The walk of the law on Unhex.
-/
import Derived.Test.YtiajmphmliefgajUn3
namespace Go.Proofs.Ytiajmphmliefgaj
open Go.RowKit
open Words

theorem specUnhex_no (s : ByteArray) (w : World) (hs : (40000 : Int) < s.size ∨ ¬ (40000 : Int) < s.size ∧ s.size % 2 = 1) :
    Calls Try.prog 19 #[.string s] w fun e w' => e = .returned noText ∧ w' = w := by
  rcases hs with h | ⟨h, h2⟩
  · go_enter Try.func19, Try.ntmps19
    go_wp2
    go_ret2
    exact ⟨rfl, rfl⟩
  · have g2 : ((s.size : Int) % 2 != 0) = true := by simp; omega
    go_enter Try.func19, Try.ntmps19
    go_wp2
    go_ret2
    exact ⟨rfl, rfl⟩
theorem implUnhex_no (s : ByteArray) (w : World) (hs : (40000 : Int) < s.size ∨ ¬ (40000 : Int) < s.size ∧ s.size % 2 = 1) :
    Calls Try.prog 20 #[.string s] w fun e w' => e = .returned noText ∧ w' = w := by
  rcases hs with h | ⟨h, h2⟩
  · go_enter Try.func20, Try.ntmps20
    go_wp2
    go_ret2
    exact ⟨rfl, rfl⟩
  · have g2 : ((s.size : Int) % 2 != 0) = true := by simp; omega
    go_enter Try.func20, Try.ntmps20
    go_wp2
    go_ret2
    exact ⟨rfl, rfl⟩

theorem unhex_all (s : ByteArray) : ∃ t b, (∀ w, Calls Try.prog 19 #[.string s] w fun e w' => e = .returned (.tuple #[.string t, .bool b]) ∧ Below w.heap.size w w') ∧
    (∀ w, Calls Try.prog 20 #[.string s] w fun e w' => e = .returned (.tuple #[.string t, .bool b]) ∧ Below w.heap.size w w') := by
  by_cases h : s.size ≤ 40000 ∧ s.size % 2 = 0
  · obtain ⟨h1, h2⟩ := h
    have hev : s.size = 2 * (s.size / 2) := by omega
    by_cases hok : FigsOk 16 s.data.toList
    · refine ⟨⟨(unhexL s.data.toList).toArray⟩, true, fun w => (specUnhex s _ w h1 hev).mono ?_, fun w => (implUnhex s _ w h1 hev).mono ?_⟩
      · rintro e w' (⟨_, rfl, hb⟩ | ⟨h, _⟩)
        · exact ⟨rfl, hb⟩
        · exact absurd hok h
      · rintro e w' (⟨_, rfl, hb⟩ | ⟨h, _⟩)
        · exact ⟨rfl, hb⟩
        · exact absurd hok h
    · refine ⟨⟨#[]⟩, false, fun w => (specUnhex s _ w h1 hev).mono ?_, fun w => (implUnhex s _ w h1 hev).mono ?_⟩
      · rintro e w' (⟨h, _⟩ | ⟨_, rfl, hb⟩)
        · exact absurd h hok
        · exact ⟨rfl, hb⟩
      · rintro e w' (⟨h, _⟩ | ⟨_, rfl, hb⟩)
        · exact absurd h hok
        · exact ⟨rfl, hb⟩
  · have h' : (40000 : Int) < s.size ∨ ¬ (40000 : Int) < s.size ∧ s.size % 2 = 1 := by omega
    refine ⟨⟨#[]⟩, false, fun w => (specUnhex_no s w h').mono ?_, fun w => (implUnhex_no s w h').mono ?_⟩
    · rintro e w' ⟨rfl, rfl⟩
      exact ⟨rfl, Below.refl _ _⟩
    · rintro e w' ⟨rfl, rfl⟩
      exact ⟨rfl, Below.refl _ _⟩

set_option maxHeartbeats 400000 in
theorem lawUnhex (a0 : ByteArray) (_w0 : a0.size ≤ maxLen) (w : World) :
    Calls Try.prog 8 #[.string a0] w fun e w' => e = .returned (.bool true) ∧ Below w.heap.size w w' := by

  by_cases hs : (1048576 : Int) < a0.size
  · go_enter Try.func8, Try.ntmps8
    go_wp2
    go_ret
    exact ⟨rfl, Below.refl _ _⟩
  · obtain ⟨t, b, h1, h2⟩ := unhex_all a0
    have H1 := hide h1
    have H2 := hide h2
    clear h1 h2
    go_enter Try.func8, Try.ntmps8
    go_wp2_with fail
    refine (unhide H1 _).mono ?_
    rintro e w1 ⟨rfl, hb1⟩
    go_wp2_with fail
    refine (unhide H2 _).mono ?_
    rintro e w2 ⟨rfl, hb2⟩
    cases b
    all_goals
      go_wp2
      go_ret
      exact ⟨rfl, hb1.trans (hb2.mono hb1.size)⟩
end Go.Proofs.Ytiajmphmliefgaj
