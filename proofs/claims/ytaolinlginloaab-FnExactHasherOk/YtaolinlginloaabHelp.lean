/-
  The laws' own helpers on hashers.
-/
import Derived.Test.YtaolinlginloaabBase
namespace Go.Proofs.Ytaolinlginloaab
open Go.RowKit

set_option maxHeartbeats 400000 in
theorem toH_any (s r : ByteArray) (c : Int) (w : World) :
    Calls Try.prog 10 #[.agg #[.string s, .string r, .int .i64 c]] w fun e w' => e = .returned (.agg #[.string s, .string r, .int .i64 c]) ∧ Below w.heap.size w w' := by
  go_enter Try.func10, Try.ntmps10
  go_wp2
  refine bodyPost_ret (v := .agg #[.string s, .string r, .int .i64 c]) (by simp [results, Try.results10, go_sem]) rfl ⟨rfl, (((Below.refl _ _).alloc (Nat.le_refl _) _).alloc (by simp) _).alloc (by simp; omega) _⟩

set_option maxHeartbeats 400000 in
theorem szH_any (s r : ByteArray) (c : Int) (w : World) (hs : s.size ≤ maxLen) (hr : r.size ≤ maxLen) :
    Calls Try.prog 8 #[.agg #[.string s, .string r, .int .i64 c], .int .i64 1048576] w fun e w' => e = .returned (.int .i64 (if (s.size : Int) + r.size ≤ 1048576 then 1048576 - s.size - r.size else -1)) ∧ Below w.heap.size w w' := by
  unfold maxLen at hs hr
  by_cases h1 : (1048576 : Int) - s.size < 0
  · go_enter Try.func8, Try.ntmps8
    go_wp2
    go_ret
    exact ⟨rfl, (Below.refl _ _).alloc (Nat.le_refl _) _⟩
  · by_cases h2 : (1048576 : Int) - s.size - r.size < 0
    · go_enter Try.func8, Try.ntmps8
      go_wp2
      go_ret
      exact ⟨rfl, (Below.refl _ _).alloc (Nat.le_refl _) _⟩
    · go_enter Try.func8, Try.ntmps8
      go_wp2
      go_ret
      exact ⟨rfl, (Below.refl _ _).alloc (Nat.le_refl _) _⟩

end Go.Proofs.Ytaolinlginloaab
