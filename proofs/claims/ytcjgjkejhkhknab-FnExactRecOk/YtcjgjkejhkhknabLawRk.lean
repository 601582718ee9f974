/-
  FnExactRecOk.
-/
import Derived.Test.YtcjgjkejhkhknabIRecOk
import Derived.Test.YtcjgjkejhkhknabSRecText
import Derived.Test.YtcjgjkejhkhknabEqRc
namespace Go.Proofs.Ytcjgjkejhkhknab
open Go.RowKit
open Words

set_option maxHeartbeats 1000000 in
set_option maxRecDepth 100000 in
theorem lawRk (k v a c : Int) (w : World) :
    Calls Try.prog 3 #[.agg #[.int .i64 k, .int .i64 v, .int .i64 a, .int .i64 c]] w fun e w' => e = .returned (.bool true) ∧ Below w.heap.size w w' := by
  have HTP := hide (toRc_any k v a c)
  have HSP := hide (srecOk ⟨k, v, a, c⟩)
  have HIM := hide (irecOk ⟨k, v, a, c⟩)
  unfold rcVal at HSP HIM
  simp only at HSP HIM
  obtain ⟨r, hr⟩ : ∃ r, r = @decide (Rc.mk k v a c).Right (Rc.mk k v a c).decR := ⟨_, rfl⟩
  rw [← hr] at HSP HIM
  clear hr
  have er : (r != r) = false := by cases r <;> rfl
  have P0 : Hid (RIn w (w.alloc (.cells #[.int .i64 k, .int .i64 v, .int .i64 a, .int .i64 c] 23)) k v a c) := ⟨(Below.refl _ _).alloc (Nat.le_refl _) _, by simp, cell_new4 _ _ _ _ _ _ _ (Below.refl _ _)⟩
  go_enter Try.func3, Try.ntmps3
  go_wp2_with fail
  generalize w.alloc (.cells #[.int .i64 k, .int .i64 v, .int .i64 a, .int .i64 c] 23) = w0 at P0 ⊢
  refine (HTP.out _).mono ?_
  rintro e w1 ⟨rfl, b1⟩
  have P1 := hide (P0.out.next b1)
  clear b1 P0
  go_wp2_with fail
  refine (HSP.out _).mono ?_
  rintro e w2 ⟨rfl, b2⟩
  have P2 := hide (P1.out.next b2)
  clear b2 P1
  obtain ⟨c0, c1, c2, c3⟩ := P2.out.2.2
  go_wp2_with fail
  refine (HTP.out _).mono ?_
  rintro e w3 ⟨rfl, b3⟩
  have P3 := hide (P2.out.next b3)
  clear b3 P2 c0 c1 c2 c3
  go_wp2_with fail
  refine (HIM.out _).mono ?_
  rintro e w4 ⟨rfl, b4⟩
  have P4 := hide (P3.out.next b4)
  clear b4 P3
  go_wp2
  go_ret
  exact ⟨rfl, P4.out.1⟩
end Go.Proofs.Ytcjgjkejhkhknab
