/-
  ToRcS; EqPgS
-/
import Derived.Test.YtcjgjkejhkhknaaPq52
import Derived.Test.YtcjgjkejhkhknaaEqRc
import Derived.Test.YtcjgjkejhkhknaaPq0
import Derived.Deep.RegionHeld3
import Derived.Test.YtcjgjkejhkhknaaPq50
/-
  The laws' own szRecS and toRecS.
-/
namespace Go.Proofs.Ytcjgjkejhkhknaa
open Go.RowKit

theorem rccells_put (ls : List (Int × Int × Int × Int)) (R : List Value) (j : Nat) (x0 : Int) (x1 : Int) (x2 : Int) (x3 : Int) (hj : ls[j]? = some (x0, x1, x2, x3)) (hR : R.length = ls.length * 4) :
    ((((rccells (ls.take j) ++ R.drop (j * 4)).set (j * 4) (.int .i64 x0)).set (j * 4 + 1) (.int .i64 x1)).set (j * 4 + 2) (.int .i64 x2)).set (j * 4 + 3) (.int .i64 x3) = rccells (ls.take (j + 1)) ++ R.drop ((j + 1) * 4) := by
  obtain ⟨hj1, hj2⟩ := List.getElem?_eq_some_iff.1 hj
  have hm : (rccells (ls.take j)).length = j * 4 := by rw [rccells_len, List.length_take]; congr 1; omega
  have e2 : rccells [(x0, x1, x2, x3)] = [.int .i64 x0, .int .i64 x1, .int .i64 x2, .int .i64 x3] := rfl
  have e3 : ls.take (j + 1) = ls.take j ++ [(x0, x1, x2, x3)] := by rw [List.take_succ_eq_append_getElem hj1, hj2]
  rw [e3, rccells_app, e2, List.set_append_right _ _ (by omega), List.set_append_right _ _ (by omega), List.set_append_right _ _ (by omega), List.set_append_right _ _ (by omega), hm, Nat.sub_self, Nat.add_sub_cancel_left, Nat.add_sub_cancel_left, Nat.add_sub_cancel_left, List.append_assoc]
  rw [List.drop_eq_getElem_cons (show j * 4 < R.length by omega), List.drop_eq_getElem_cons (show j * 4 + 1 < R.length by omega), List.drop_eq_getElem_cons (show j * 4 + 2 < R.length by omega), List.drop_eq_getElem_cons (show j * 4 + 3 < R.length by omega), show (j + 1) * 4 = j * 4 + 1 + 1 + 1 + 1 by omega]
  rfl
end Go.Proofs.Ytcjgjkejhkhknaa

/-
  The laws' own eqPageS.
-/
namespace Go.Proofs.Ytcjgjkejhkhknaa
open Go.RowKit

end Go.Proofs.Ytcjgjkejhkhknaa
