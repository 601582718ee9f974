/-
  The walk of impl's HasherOk.
-/
import Derived.Test.YtagppohcobeglaaDoorHashOk
namespace Go.Proofs.YtagppohcobeglaaDoor
open Go.RowKit
open Dig

set_option maxHeartbeats 400000 in
theorem implOk_any (s r : ByteArray) (c : Int) (w : World) (hr : r.size ≤ maxLen) :
    Calls Tryd.prog 28 #[.agg #[.string s, .string r, .int .i64 c]] w fun e w' => e = .returned (.bool (decide (Right s r c))) ∧ Below w.heap.size w w' := by
  unfold maxLen at hr
  by_cases h1 : (s.size : Int) = 32
  · by_cases h2 : c < 0
    · have E : Hid (decide (Right s r c) = false) := decide_eq_false (fun h => by have := h.2.2.1; omega)
      go_enter Tryd.func28, Tryd.ntmps28
      go_wp2
      go_ret
      exact ⟨by rw [E.out]; rfl, (Below.refl _ _).alloc (Nat.le_refl _) _⟩
    · by_cases h3 : 1000000000 < c
      · have E : Hid (decide (Right s r c) = false) := decide_eq_false (fun h => by have := h.2.2.2.1; omega)
        go_enter Tryd.func28, Tryd.ntmps28
        go_wp2
        go_ret
        exact ⟨by rw [E.out]; rfl, (Below.refl _ _).alloc (Nat.le_refl _) _⟩
      · have E : Hid (decide (Right s r c) = ((r.size : Int) == c % 64)) := by
          show decide _ = _
          by_cases h4 : (r.size : Int) = c % 64
          · rw [decide_eq_true (show Right s r c from ⟨by omega, by omega, by omega, by omega, h4.symm⟩)]
            simp [h4]
          · rw [decide_eq_false (show ¬ Right s r c from fun h => h4 h.2.2.2.2.symm)]
            rw [beq_eq_false_iff_ne.2 h4]
        go_enter Tryd.func28, Tryd.ntmps28
        go_wp2
        go_ret
        exact ⟨by rw [E.out]; rfl, (Below.refl _ _).alloc (Nat.le_refl _) _⟩
  · have E : Hid (decide (Right s r c) = false) := decide_eq_false (fun h => h1 (by have := h.1; omega))
    have t1 : ((s.size : Int) != 32) = true := by rw [bne_iff_ne]; exact h1
    clear h1
    go_enter Tryd.func28, Tryd.ntmps28
    go_wp2
    go_ret
    exact ⟨by rw [E.out]; rfl, (Below.refl _ _).alloc (Nat.le_refl _) _⟩
end Go.Proofs.YtagppohcobeglaaDoor
