/-
  The walk of the law on PackText.
-/
import Derived.Test.YtaolinlginloaaaSPack
namespace Go.Proofs.Ytaolinlginloaaa
open Go.RowKit
open Pack

set_option maxHeartbeats 400000 in
set_option maxRecDepth 100000 in
theorem lawPack (a0 : ByteArray) (_w0 : a0.size ≤ maxLen) (w : World) :
    Calls Try.prog 6 #[.string a0] w fun e w' => e = .returned (.bool true) ∧ Below w.heap.size w w' := by
  by_cases hs : (1048576 : Int) < a0.size
  · go_enter Try.func6, Try.ntmps6
    go_wp2
    go_ret
    exact ⟨rfl, Below.refl _ _⟩
  · obtain ⟨p, q, hpq⟩ := plainV_open (packL a0.data.toList)
    have HPQ := hide hpq
    clear hpq
    have e1 : (p.toList != p.toList) = false := by simp
    have e2 : (q != q) = false := by simp
    go_enter Try.func6, Try.ntmps6
    go_wp2_with fail
    refine (spack_any a0 _).mono ?_
    rintro e w1 ⟨rfl, hb⟩
    have HB1 := hide hb
    rw [HPQ.out]
    clear hb
    go_wp2_with fail
    refine (ipack_any a0 _).mono ?_
    rintro e w2 ⟨rfl, hb⟩
    have HB2 := hide (HB1.out.trans (hb.mono HB1.out.size))
    rw [HPQ.out]
    clear hb
    go_wp2
    go_ret
    exact ⟨rfl, HB2.out⟩
end Go.Proofs.Ytaolinlginloaaa
