/-
  What the laws on pages do with their argument.
-/
import Derived.Test.YtaolinlginloaacDoorPq2
import Derived.Test.YtaolinlginloaacDoorPq3
import Derived.Test.YtaolinlginloaacDoorToPg
namespace Go.Proofs.YtaolinlginloaacDoor
open Go.RowKit
open Words

set_option maxHeartbeats 400000 in
set_option maxRecDepth 100000 in
theorem szPage_yes (p : Pg) (w : World) (h : p.text.size ≤ 1048576) :
    Calls Tryd.prog 31 #[pgVal p, .int .i64 1048576] w fun e w' => e = .returned (.int .i64 (1048576 - p.text.size)) ∧ Below w.heap.size w w' := by
  obtain ⟨k, s, x, q, c, t⟩ := p
  have g : ¬ (1048576 : Int) - t.size < 0 := by simp only at h; omega
  unfold pgVal
  simp only
  go_enter Tryd.func31, Tryd.ntmps31
  go_wp2
  go_ret
  exact ⟨rfl, (Below.refl _ _).alloc (Nat.le_refl _) _⟩
set_option maxHeartbeats 400000 in
set_option maxRecDepth 100000 in
theorem szPage_no (p : Pg) (w : World) (h : ¬ p.text.size ≤ 1048576) (hm : p.text.size ≤ maxLen) :
    Calls Tryd.prog 31 #[pgVal p, .int .i64 1048576] w fun e w' => e = .returned (.int .i64 (-1)) ∧ Below w.heap.size w w' := by
  obtain ⟨k, s, x, q, c, t⟩ := p
  unfold maxLen at hm
  have g : (1048576 : Int) - t.size < 0 := by simp only at h; omega
  unfold pgVal
  simp only at *
  go_enter Tryd.func31, Tryd.ntmps31
  go_wp2
  go_ret
  exact ⟨rfl, (Below.refl _ _).alloc (Nat.le_refl _) _⟩
end Go.Proofs.YtaolinlginloaacDoor
