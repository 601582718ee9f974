/-
  The laws' own look at a code that is too long.
-/
import Derived.Test.YtcjgjkejhkhknabBase
namespace Go.Proofs.Ytcjgjkejhkhknab
open Go.RowKit

theorem big_any (ad : Option Addr) (len cap : Nat) (w : World) :
    Calls Try.prog 8 #[.slice ad len cap] w fun e w' => e = .returned (.bool (decide ((1048576 : Int) < len))) ∧ w' = w := by
  by_cases h : (1048576 : Int) < len
  all_goals
    go_enter Try.func8, Try.ntmps8
    go_wp2
    go_ret
    exact ⟨by simp [h], rfl⟩
end Go.Proofs.Ytcjgjkejhkhknab
