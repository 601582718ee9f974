/-
  The walk of the law on HasherNew.
-/
import Derived.Test.YtagppohcobeglalNew
import Derived.Test.YtagppohcobeglalImplNew
import Derived.Test.YtagppohcobeglalHelp
namespace Go.Proofs.Ytagppohcobeglal
open Go.RowKit
open Dig

set_option maxHeartbeats 400000 in
theorem lawNew (w : World) :
    Calls Try.prog 3 #[] w fun e w' => e = .returned (.bool true) ∧ Below w.heap.size w w' := by
  have CS := hide specNew
  have CI := hide implNew
  obtain ⟨BS, hBS⟩ : ∃ BS : ByteArray, BS = ⟨(bytesOf first).toArray⟩ := ⟨_, rfl⟩
  rw [← hBS] at CS CI
  clear hBS
  go_enter Try.func3, Try.ntmps3
  go_wp2_with fail
  refine (CS.out _).mono ?_
  rintro en w1 ⟨rfl, hb1⟩
  have HB1 := hide hb1
  have hs1 := hb1.size
  clear hb1
  go_wp2_with fail
  refine (CI.out _).mono ?_
  rintro en w2 ⟨rfl, hb2⟩
  obtain ⟨⟨c0, c1, c2⟩, hb3, hs2⟩ := kept3 hb2
  have HB2 : Hid (Below w.heap.size w w2) := HB1.out.trans (hb3.mono hs1)
  clear hb2 hb3 HB1 CI CS
  have hlt : w1.heap.size < w2.heap.size := by omega
  have hne : w1.heap.size ≠ w2.heap.size := by omega
  go_wp2_with fail
  refine (eqH_same BS ⟨#[]⟩ 0 _).mono ?_
  rintro en w3 ⟨rfl, hb3⟩
  have HB3 : Hid (Below w.heap.size w w3) := (HB2.out.alloc (by omega) _).trans (hb3.mono (by simp; omega))
  clear hb3 HB2 c0 c1 c2
  go_wp2
  go_ret
  exact ⟨rfl, HB3.out⟩
end Go.Proofs.Ytagppohcobeglal
