/-
  The law on ReadPage.
-/
import Derived.Test.YtaolinlginloaacDoorSRPage
import Derived.Test.YtaolinlginloaacDoorEqPg
import Derived.Test.YtaolinlginloaacDoorICatch
namespace Go.Proofs.YtaolinlginloaacDoor
open Go.RowKit
open Words Sums

set_option maxHeartbeats 1000000 in
set_option maxRecDepth 100000 in
theorem lawReadPage (t : ByteArray) (hm : t.size ≤ maxLen) (w : World) (ht : HalvIn w) :
    Calls Tryd.prog 8 #[.string t] w fun e w' => e = .returned (.bool true) ∧ Below w.heap.size w w' := by
  have HT := hide ht
  clear ht
  by_cases hs : (1048576 : Int) < t.size
  · go_enter Tryd.func8, Tryd.ntmps8
    go_wp2
    go_ret
    exact ⟨rfl, Below.refl _ _⟩
  · obtain ⟨p, ok, hp⟩ := pgRes_tuple (readPg t)
    have C1 := hide (fun w => sreadPage t w hm)
    have C2 := hide (fun w h => ireadPage t w hm h)
    have C3 := hide (fun w => eqPage_same p w)
    rw [hp] at C1 C2
    obtain ⟨k, s, x, q, c, u⟩ := p
    unfold pgVal at *
    simp only at *
    clear hp
    go_enter Tryd.func8, Tryd.ntmps8
    go_wp2_with fail
    refine (C1.out _).mono ?_
    rintro e w1 ⟨rfl, b1⟩
    have B1 := hide (b1.alloc b1.size (.cells #[.int .i64 k, .int .i64 s, .int .i64 x, .int .i64 q, .int .i64 c, .string u] 35))
    have l1 := b1.size
    clear b1
    go_wp2_with fail
    refine (C2.out _ (HT.out.on B1.out)).mono ?_
    rintro e w2 ⟨rfl, b2⟩
    have B2 := hide (B1.out.trans (b2.mono B1.out.size))
    have l2 : w1.heap.size < w2.heap.size := Nat.lt_of_lt_of_le (by simp) b2.size
    obtain ⟨c0, c1, c2, c3, c4, c5⟩ := cell_new6 _ _ _ _ _ _ _ _ _ b2
    have ba : Below w2.heap.size w2 (w2.alloc (.cells #[.int .i64 k, .int .i64 s, .int .i64 x, .int .i64 q, .int .i64 c, .string u] 35)) := (Below.refl _ _).alloc (Nat.le_refl _) _
    rw [← ba.cell l2] at c0 c1 c2 c3 c4 c5
    have B3 := hide (B2.out.trans (ba.mono B2.out.size))
    clear b2 ba B1 B2 C1 C2
    cases ok
    all_goals
      go_wp2_with fail
      refine (C3.out _).mono ?_
      rintro e w3 ⟨rfl, b3⟩
      have B4 := hide (B3.out.trans (b3.mono B3.out.size))
      clear b3 B3 C3
      go_wp2
      go_ret
      exact ⟨rfl, B4.out⟩
end Go.Proofs.YtaolinlginloaacDoor
