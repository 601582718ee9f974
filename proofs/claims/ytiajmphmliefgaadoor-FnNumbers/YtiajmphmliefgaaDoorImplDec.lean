/-
  The walk of impl.Decimal.
-/
import Derived.Test.YtiajmphmliefgaaDoorBase
import Derived.Test.YtiajmphmliefgaaDoorDecMath
import Derived.Test.YtiajmphmliefgaaDoorShelf
import Derived.Lib.LaidTab
import Derived.LaidSub
import Derived.Lib.AppendIntMem
namespace Go.Proofs.YtiajmphmliefgaaDoor
open Go.RowKit
open Words
open Go.Lib (decDigits itoa)

/-- The library's table of powers of ten lies in this world. -/
def PowIn (w : World) : Prop := Lib.TabIs Tryd.prog w "internal/strconv.uint64pow10" .u64 Lib.pow10Tab
theorem PowIn.on {w w' : World} (h : PowIn w) (hb : Below w.heap.size w w') : PowIn w' := Lib.tabBelow_of_tabIs h w' hb

theorem itoa_any (n : Int) (w : World) (h0 : -9223372036854775808 ≤ n) (h1 : n ≤ 9223372036854775807) (ht : PowIn w) :
    Calls Tryd.prog 18 #[.int .i64 n] w fun e w' => e = .returned (.string ⟨(itoa n).toArray⟩) ∧ Below w.heap.size w w' := by
  refine (Tryd.strconv_Itoa n h0 h1 _ ht).mono ?_
  rintro e w' ⟨rfl, k, os, rfl⟩
  exact ⟨rfl, Lib.below_grow w.heap.size w (Nat.le_refl _) k os⟩

theorem implDec (n : Int) (w : World) (h0 : -9223372036854775808 ≤ n) (h1 : n ≤ 9223372036854775807) (ht : PowIn w) :
    Calls Tryd.prog 9 #[.int .i64 n] w fun e w' => e = .returned (.string ⟨(itoa n).toArray⟩) ∧ Below w.heap.size w w' := by
  have HT := hide ht
  clear ht
  go_enter Tryd.func9, Tryd.ntmps9
  go_wp2_with fail
  refine (itoa_any n _ h0 h1 HT.out).mono ?_
  rintro e w' ⟨rfl, hb⟩
  go_wp2
  go_ret
  exact ⟨rfl, hb⟩
end Go.Proofs.YtiajmphmliefgaaDoor
