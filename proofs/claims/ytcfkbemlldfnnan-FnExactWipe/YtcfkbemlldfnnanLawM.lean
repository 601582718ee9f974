/-
  A flash that is marked, and held, by the laws.
-/
import Derived.Test.YtcfkbemlldfnnanLawB
import Derived.Test.YtcfkbemlldfnnanFMark
import Derived.Test.YtcfkbemlldfnnanFHeld
namespace Go.Proofs.Ytcfkbemlldfnnan
open Go.RowKit

theorem mark_of (a : Value) (bs : List Bk) (lo hi : Nat) (w : World) (ho : Okk bs) (ha : hi ≤ w.heap.size ∧ Inn w lo hi a bs) :
    Calls Try.prog 18 #[.agg #[a], .int .i64 1] w fun e w' => e = .returned (.int .i64 ((endK 1 bs : Nat) : Int)) ∧ Hid (Mrk w' lo hi a (endK 1 bs)) ∧ Hid (Kept2 w w' (Apart lo hi)) := by
  obtain ⟨rs, e1, i1, l, ll, e2⟩ := ha.2.lens ho
  refine (markFlash_any a rs lo hi w l ll (by rw [e2]; exact ho.2.2) ha.1 i1).mono ?_
  rintro e w' ⟨rfl, h1, h2⟩
  rw [e2]
  exact ⟨rfl, ⟨rs, l, ll, e2, h1.out⟩, h2⟩
theorem held_of (a : Value) (n lo hi : Nat) (w : World) (hn : n ≤ 1000000000) (ha : hi ≤ w.heap.size ∧ Mrk w lo hi a n) :
    Calls Try.prog 19 #[.agg #[a], .int .i64 1] w fun e w' => e = .returned (.int .i64 (n : Int)) ∧ Below w.heap.size w w' := by
  obtain ⟨rs, l, ll, e2, i1⟩ := ha.2
  subst e2
  exact heldFlash_any a rs lo hi w l ll hn ha.1 i1
end Go.Proofs.Ytcfkbemlldfnnan
