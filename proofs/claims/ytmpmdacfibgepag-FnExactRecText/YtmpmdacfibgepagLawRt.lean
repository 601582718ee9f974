/-
  FnExactRecText.
-/
import Derived.Test.YtmpmdacfibgepagIRecText
import Derived.Test.YtmpmdacfibgepagSRecText
import Derived.Test.YtmpmdacfibgepagEqRc
namespace Go.Proofs.Ytmpmdacfibgepag
open Go.RowKit
open Words

theorem rt_form (r : Rc) : ∃ (q : ByteArray) (o : Bool), rtRes r = .tuple #[.string q, .bool o] := by
  unfold rtRes
  by_cases h : r.Right
  · exact ⟨_, _, by rw [if_pos h]⟩
  · exact ⟨_, _, by rw [if_neg h]⟩

set_option maxHeartbeats 1000000 in
set_option maxRecDepth 100000 in
theorem lawRt (k v a c : Int) (w : World) :
    Calls Try.prog 3 #[.agg #[.int .i64 k, .int .i64 v, .int .i64 a, .int .i64 c]] w fun e w' => e = .returned (.bool true) ∧ Below w.heap.size w w' := by
  have HTP := hide (toRc_any k v a c)
  have HSP := hide (srecText ⟨k, v, a, c⟩)
  have HIM := hide (irecText ⟨k, v, a, c⟩)
  obtain ⟨q, r, hr⟩ := rt_form ⟨k, v, a, c⟩
  rw [hr] at HSP HIM
  unfold rcVal at HSP HIM
  simp only at HSP HIM
  clear hr
  have er : (r != r) = false := by cases r <;> rfl
  have P0 : Hid (RIn w (w.alloc (.cells #[.int .i64 k, .int .i64 v, .int .i64 a, .int .i64 c] 23)) k v a c) := ⟨(Below.refl _ _).alloc (Nat.le_refl _) _, by simp, cell_new4 _ _ _ _ _ _ _ (Below.refl _ _)⟩
  go_enter Try.func3, Try.ntmps3
  go_wp2_with fail
  generalize w.alloc (.cells #[.int .i64 k, .int .i64 v, .int .i64 a, .int .i64 c] 23) = w0 at P0 ⊢
  refine (HTP.out _).mono ?_
  rintro e w1 ⟨rfl, b1⟩
  have P1 := hide (P0.out.next b1)
  clear b1 P0
  go_wp2_with fail
  refine (HSP.out _).mono ?_
  rintro e w2 ⟨rfl, b2⟩
  have P2 := hide (P1.out.next b2)
  clear b2 P1
  obtain ⟨c0, c1, c2, c3⟩ := P2.out.2.2
  go_wp2_with fail
  refine (HTP.out _).mono ?_
  rintro e w3 ⟨rfl, b3⟩
  have P3 := hide (P2.out.next b3)
  clear b3 P2 c0 c1 c2 c3
  go_wp2_with fail
  refine (HIM.out _).mono ?_
  rintro e w4 ⟨rfl, b4⟩
  have P4 := hide (P3.out.next b4)
  clear b4 P3
  go_wp2
  go_ret
  exact ⟨rfl, P4.out.1⟩
end Go.Proofs.Ytmpmdacfibgepag
