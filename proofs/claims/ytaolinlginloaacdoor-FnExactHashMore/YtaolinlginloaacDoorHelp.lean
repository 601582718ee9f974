/-
  The laws' own helpers on hashers.
-/
import Derived.Test.YtaolinlginloaacDoorBase
namespace Go.Proofs.YtaolinlginloaacDoor
open Go.RowKit

set_option maxHeartbeats 400000 in
theorem toH_any (s r : ByteArray) (c : Int) (w : World) :
    Calls Tryd.prog 11 #[.agg #[.string s, .string r, .int .i64 c]] w fun e w' => e = .returned (.agg #[.string s, .string r, .int .i64 c]) ∧ Below w.heap.size w w' := by
  go_enter Tryd.func11, Tryd.ntmps11
  go_wp2
  refine bodyPost_ret (v := .agg #[.string s, .string r, .int .i64 c]) (by simp [results, Tryd.results11, go_sem]) rfl ⟨rfl, (((Below.refl _ _).alloc (Nat.le_refl _) _).alloc (by simp) _).alloc (by simp; omega) _⟩

set_option maxHeartbeats 400000 in
theorem szH_any (s r : ByteArray) (c : Int) (w : World) (hs : s.size ≤ maxLen) (hr : r.size ≤ maxLen) :
    Calls Tryd.prog 9 #[.agg #[.string s, .string r, .int .i64 c], .int .i64 1048576] w fun e w' => e = .returned (.int .i64 (if (s.size : Int) + r.size ≤ 1048576 then 1048576 - s.size - r.size else -1)) ∧ Below w.heap.size w w' := by
  unfold maxLen at hs hr
  by_cases h1 : (1048576 : Int) - s.size < 0
  · go_enter Tryd.func9, Tryd.ntmps9
    go_wp2
    go_ret
    exact ⟨rfl, (Below.refl _ _).alloc (Nat.le_refl _) _⟩
  · by_cases h2 : (1048576 : Int) - s.size - r.size < 0
    · go_enter Tryd.func9, Tryd.ntmps9
      go_wp2
      go_ret
      exact ⟨rfl, (Below.refl _ _).alloc (Nat.le_refl _) _⟩
    · go_enter Tryd.func9, Tryd.ntmps9
      go_wp2
      go_ret
      exact ⟨rfl, (Below.refl _ _).alloc (Nat.le_refl _) _⟩

set_option maxHeartbeats 400000 in
theorem eqH_same (s r : ByteArray) (c : Int) (w : World) :
    Calls Tryd.prog 15 #[.agg #[.string s, .string r, .int .i64 c], .agg #[.string s, .string r, .int .i64 c]] w fun e w' => e = .returned (.bool true) ∧ Below w.heap.size w w' := by
  have q1 : (s.toList == s.toList) = true := by simp
  have q2 : (r.toList == r.toList) = true := by simp
  go_enter Tryd.func15, Tryd.ntmps15
  go_wp2
  go_ret
  exact ⟨rfl, ((Below.refl _ _).alloc (Nat.le_refl _) _).alloc (by simp) _⟩
end Go.Proofs.YtaolinlginloaacDoor
