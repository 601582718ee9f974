/-
  The walk of the law on UnpackText.
-/
import Derived.Test.YtaolinlginloaabSUnp
namespace Go.Proofs.Ytaolinlginloaab
open Go.RowKit
open Pack

set_option maxHeartbeats 400000 in
set_option maxRecDepth 100000 in
theorem lawUnp (a0 : ByteArray) (w0 : a0.size ≤ maxLen) (w : World) :
    Calls Try.prog 3 #[.string a0] w fun e w' => e = .returned (.bool true) ∧ Below w.heap.size w w' := by
  by_cases hs : (1048576 : Int) < a0.size
  · clear w0
    go_enter Try.func3, Try.ntmps3
    go_wp2
    go_ret
    exact ⟨rfl, Below.refl _ _⟩
  · obtain ⟨t, ht⟩ : ∃ t, a0.data.toList = t := ⟨_, rfl⟩
    have ha : a0 = BA t := by rw [← ht]; rfl
    subst ha
    have hbs := BA_size t
    rw [hbs] at hs
    obtain ⟨p, q, hpq⟩ := plainV_open (unpackL t)
    have HPQ := hide hpq
    have HL : Hid (t.length ≤ 1048576) := by show _ ≤ _; omega
    clear hpq w0 ht
    have e1 : (p.toList != p.toList) = false := by simp
    have e2 : (q != q) = false := by simp
    go_enter Try.func3, Try.ntmps3
    go_wp2_with fail
    refine (sunp_any t _ HL.out).mono ?_
    rintro e w1 ⟨rfl, hb⟩
    have HB1 := hide hb
    rw [HPQ.out]
    clear hb
    go_wp2_with fail
    refine (iunp_any t _ (by have := HL.out; omega)).mono ?_
    rintro e w2 ⟨rfl, hb⟩
    have HB2 := hide (HB1.out.trans (hb.mono HB1.out.size))
    rw [HPQ.out]
    clear hb
    go_wp2
    go_ret
    exact ⟨rfl, HB2.out⟩
end Go.Proofs.Ytaolinlginloaab
