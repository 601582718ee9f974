/-
  The walk of the law on HasherOk.
-/
import Derived.Test.YtaolinlginloaabImplOk
import Derived.Test.YtaolinlginloaabBoxes
import Derived.Test.YtaolinlginloaabHelp
namespace Go.Proofs.Ytaolinlginloaab
open Go.RowKit
open Dig

set_option maxHeartbeats 400000 in
theorem lawOk (s r : ByteArray) (c : Int) (hs : s.size ≤ maxLen) (hr : r.size ≤ maxLen) (w : World) :
    Calls Try.prog 4 #[.agg #[.string s, .string r, .int .i64 c]] w fun e w' => e = .returned (.bool true) ∧ Below w.heap.size w w' := by
  have CZ := hide (fun w' => szH_any s r c w' hs hr)
  have CT := hide (fun w' => toH_any s r c w')
  have CS := hide (fun w' => specOk_any s r c w' hr)
  have CI := hide (fun w' => implOk_any s r c w' hr)
  generalize @decide (HRight s r c) (decH s r c) = bb at CS CI
  obtain ⟨z, hz⟩ : ∃ z : Int, z = (if (s.size : Int) + r.size ≤ 1048576 then (1048576 : Int) - s.size - r.size else -1) := ⟨_, rfl⟩
  rw [← hz] at CZ
  clear hz
  go_enter Try.func4, Try.ntmps4
  go_wp2_with fail
  refine (CZ.out _).mono ?_
  rintro en w1 ⟨rfl, hb1⟩
  obtain ⟨⟨c0, c1, c2⟩, hb1', hs1⟩ := kept3 hb1
  have HB1 := hide hb1'
  have HB0 := hide hb1
  clear hb1 hb1' CZ
  by_cases h0 : z < 0
  · go_wp2
    go_ret
    exact ⟨rfl, HB1.out⟩
  · go_wp2_with fail
    refine (CT.out _).mono ?_
    rintro en w2 ⟨rfl, hb2⟩
    have HB2 := hide (HB0.out.trans (hb2.mono HB0.out.size))
    clear hb2 HB0 HB1 c0 c1 c2
    go_wp2_with fail
    refine (CS.out _).mono ?_
    rintro en w3 ⟨rfl, hb3⟩
    have hB3 := HB2.out.trans (hb3.mono HB2.out.size)
    obtain ⟨⟨c0, c1, c2⟩, hb3', hs3⟩ := kept3 hB3
    have HB3 := hide hB3
    clear hb3 HB2 hB3 hb3' hs3
    go_wp2_with fail
    refine (CT.out _).mono ?_
    rintro en w4 ⟨rfl, hb4⟩
    have HB4 := hide (HB3.out.trans (hb4.mono HB3.out.size))
    clear hb4 HB3 c0 c1 c2
    go_wp2_with fail
    refine (CI.out _).mono ?_
    rintro en w5 ⟨rfl, hb5⟩
    have hB5 := HB4.out.trans (hb5.mono HB4.out.size)
    have HB5 := hide (kept3 hB5).2.1
    clear hb5 HB4 hB5 CT CS CI
    have tt : (bb != bb) = false := by simp
    cases bb
    · go_wp2
      go_ret
      exact ⟨rfl, HB5.out⟩
    · go_wp2
      go_ret
      exact ⟨rfl, HB5.out⟩
end Go.Proofs.Ytaolinlginloaab
