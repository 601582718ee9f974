/-
  The walk of impl's HasherOk.
-/
import Derived.Test.YtaolinlginloaacDoorHashOk
namespace Go.Proofs.YtaolinlginloaacDoor
open Go.RowKit
open Dig

set_option maxHeartbeats 400000 in
theorem implOk_any (s r : ByteArray) (c : Int) (w : World) (hr : r.size ≤ maxLen) :
    Calls Tryd.prog 40 #[.agg #[.string s, .string r, .int .i64 c]] w fun e w' => e = .returned (.bool (@decide (HRight s r c) (decH s r c))) ∧ Below w.heap.size w w' := by
  unfold maxLen at hr
  by_cases h1 : (s.size : Int) = 32
  · by_cases h2 : c < 0
    · have E : Hid (@decide (HRight s r c) (decH s r c) = false) := dcN (fun h => by have := h.2.2.1; omega)
      go_enter Tryd.func40, Tryd.ntmps40
      go_wp2
      go_ret
      exact ⟨by rw [E.out]; rfl, (Below.refl _ _).alloc (Nat.le_refl _) _⟩
    · by_cases h3 : 1000000000 < c
      · have E : Hid (@decide (HRight s r c) (decH s r c) = false) := dcN (fun h => by have := h.2.2.2.1; omega)
        go_enter Tryd.func40, Tryd.ntmps40
        go_wp2
        go_ret
        exact ⟨by rw [E.out]; rfl, (Below.refl _ _).alloc (Nat.le_refl _) _⟩
      · have E : Hid (@decide (HRight s r c) (decH s r c) = ((r.size : Int) == c % 64)) := by
          show @decide (HRight s r c) (decH s r c) = _
          by_cases h4 : (r.size : Int) = c % 64
          · rw [dcY (show HRight s r c from ⟨by omega, by omega, by omega, by omega, h4.symm⟩)]
            simp [h4]
          · rw [dcN (show ¬ HRight s r c from fun h => h4 h.2.2.2.2.symm)]
            rw [beq_eq_false_iff_ne.2 h4]
        go_enter Tryd.func40, Tryd.ntmps40
        go_wp2
        go_ret
        exact ⟨by rw [E.out]; rfl, (Below.refl _ _).alloc (Nat.le_refl _) _⟩
  · have E : Hid (@decide (HRight s r c) (decH s r c) = false) := dcN (fun h => h1 (by have := h.1; omega))
    have t1 : ((s.size : Int) != 32) = true := by rw [bne_iff_ne]; exact h1
    clear h1
    go_enter Tryd.func40, Tryd.ntmps40
    go_wp2
    go_ret
    exact ⟨by rw [E.out]; rfl, (Below.refl _ _).alloc (Nat.le_refl _) _⟩
end Go.Proofs.YtaolinlginloaacDoor
