/-
  The walk of the law on DigestOf.
-/
import Derived.Test.YtaolinlginloaabDoorImplD
namespace Go.Proofs.YtaolinlginloaabDoor
open Go.RowKit
open Dig

set_option maxHeartbeats 400000 in
set_option maxRecDepth 100000 in
theorem lawDig (t : ByteArray) (ht : t.size ≤ maxLen) (w : World) (hT : StepIn w) :
    Calls Tryd.prog 5 #[.string t] w fun e w' => e = .returned (.bool true) ∧ Below w.heap.size w w' := by
  unfold maxLen at ht
  by_cases hb : (1048576 : Int) < t.size
  · go_enter Tryd.func5, Tryd.ntmps5
    go_wp2
    go_ret
    exact ⟨rfl, Below.refl _ _⟩
  · have HT := hide hT
    have CS := hide (fun w' => specDig t w' (by omega))
    have CI := hide (fun w' h => implDig_any t w' (by omega) h)
    generalize digL t.data.toList = D at CS CI
    clear hT
    go_enter Tryd.func5, Tryd.ntmps5
    go_wp2_with fail
    refine (CS.out _).mono ?_
    rintro en w1 ⟨rfl, hb1⟩
    have hs1 := hb1.size
    go_wp2_with fail
    refine (CI.out _ (HT.out.on hb1)).mono ?_
    rintro en w2 ⟨rfl, hb2⟩
    have HB : Hid (Below w.heap.size w w2) := hb1.trans (hb2.mono hs1)
    clear hb1 hb2 CS CI HT
    go_wp2
    go_ret
    exact ⟨rfl, HB.out⟩
end Go.Proofs.YtaolinlginloaabDoor
