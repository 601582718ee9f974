/-
  The walks of impl.Decimal and of the law on Decimal.
-/
import Derived.Test.YtiajmphmliefgakDoorDec
import Derived.Test.YtiajmphmliefgakDoorShelf
import Derived.Lib.LaidTab
import Derived.LaidSub
import Derived.Lib.AppendIntMem
namespace Go.Proofs.YtiajmphmliefgakDoor
open Go.RowKit
open Words
open Go.Lib (decDigits itoa)

/-- The library's table of powers of ten lies in this world. -/
def PowIn (w : World) : Prop := Lib.TabIs Tryd.prog w "internal/strconv.uint64pow10" .u64 Lib.pow10Tab
theorem PowIn.on {w w' : World} (h : PowIn w) (hb : Below w.heap.size w w') : PowIn w' := Lib.tabBelow_of_tabIs h w' hb

theorem itoa_any (n : Int) (w : World) (h0 : -9223372036854775808 ≤ n) (h1 : n ≤ 9223372036854775807) (ht : PowIn w) :
    Calls Tryd.prog 16 #[.int .i64 n] w fun e w' => e = .returned (.string ⟨(itoa n).toArray⟩) ∧ Below w.heap.size w w' := by
  refine (Tryd.strconv_Itoa n h0 h1 _ ht).mono ?_
  rintro e w' ⟨rfl, k, os, rfl⟩
  exact ⟨rfl, Lib.below_grow w.heap.size w (Nat.le_refl _) k os⟩

theorem implDec (n : Int) (w : World) (h0 : -9223372036854775808 ≤ n) (h1 : n ≤ 9223372036854775807) (ht : PowIn w) :
    Calls Tryd.prog 7 #[.int .i64 n] w fun e w' => e = .returned (.string ⟨(itoa n).toArray⟩) ∧ Below w.heap.size w w' := by
  have HT := hide ht
  clear ht
  go_enter Tryd.func7, Tryd.ntmps7
  go_wp2_with fail
  refine (itoa_any n _ h0 h1 HT.out).mono ?_
  rintro e w' ⟨rfl, hb⟩
  go_wp2
  go_ret
  exact ⟨rfl, hb⟩

set_option maxHeartbeats 400000 in
theorem lawDec (a0 : Int) (w0 : (Lit.int .i64 a0).wf = true) (w : World) (ht : PowIn w) :
    Calls Tryd.prog 3 #[.int .i64 a0] w fun e w' => e = .returned (.bool true) ∧ Below w.heap.size w w' := by
  obtain ⟨h0, h1⟩ : -9223372036854775808 ≤ a0 ∧ a0 ≤ 9223372036854775807 := by simpa [Lit.wf, IntKind.min, IntKind.max, IntKind.signed, IntKind.bits] using w0
  have HT := hide ht
  clear ht
  obtain ⟨l, hl⟩ : ∃ l, itoa a0 = l := ⟨_, rfl⟩
  have HL := hide hl
  clear hl
  go_enter Tryd.func3, Tryd.ntmps3
  go_wp2_with fail
  refine (specDec a0 _ h0 h1).mono ?_
  rintro e w1 ⟨rfl, hb1⟩
  rw [HL.out]
  go_wp2_with fail
  refine (implDec a0 _ h0 h1 (HT.out.on hb1)).mono ?_
  rintro e w2 ⟨rfl, hb2⟩
  rw [HL.out]
  go_wp2
  go_ret
  exact ⟨rfl, hb1.trans (hb2.mono hb1.size)⟩
end Go.Proofs.YtiajmphmliefgakDoor
