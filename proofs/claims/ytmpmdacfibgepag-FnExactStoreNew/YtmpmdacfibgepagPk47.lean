/-
  ToVlS; EqSto
-/
import Derived.Test.YtmpmdacfibgepagPk15
import Derived.Test.YtmpmdacfibgepagEqVl
import Derived.Test.YtmpmdacfibgepagOwnC
import Derived.Deep.RegionHeld3
import Derived.Test.YtmpmdacfibgepagKnTo
import Derived.Test.YtmpmdacfibgepagKnEq
import Derived.Test.YtmpmdacfibgepagSliL
/-
  The laws' own szVolS and toVolS.
-/
namespace Go.Proofs.Ytmpmdacfibgepag
open Go.RowKit

theorem vlcells_put (ls : List (Int × Int)) (R : List Value) (j : Nat) (x0 : Int) (x1 : Int) (hj : ls[j]? = some (x0, x1)) (hR : R.length = ls.length * 2) :
    ((vlcells (ls.take j) ++ R.drop (j * 2)).set (j * 2) (.int .i64 x0)).set (j * 2 + 1) (.int .i64 x1) = vlcells (ls.take (j + 1)) ++ R.drop ((j + 1) * 2) := by
  obtain ⟨hj1, hj2⟩ := List.getElem?_eq_some_iff.1 hj
  have hm : (vlcells (ls.take j)).length = j * 2 := by rw [vlcells_len, List.length_take]; congr 1; omega
  have e2 : vlcells [(x0, x1)] = [.int .i64 x0, .int .i64 x1] := rfl
  have e3 : ls.take (j + 1) = ls.take j ++ [(x0, x1)] := by rw [List.take_succ_eq_append_getElem hj1, hj2]
  rw [e3, vlcells_app, e2, List.set_append_right _ _ (by omega), List.set_append_right _ _ (by omega), hm, Nat.sub_self, Nat.add_sub_cancel_left, List.append_assoc]
  rw [List.drop_eq_getElem_cons (show j * 2 < R.length by omega), List.drop_eq_getElem_cons (show j * 2 + 1 < R.length by omega), show (j + 1) * 2 = j * 2 + 1 + 1 by omega]
  rfl
end Go.Proofs.Ytmpmdacfibgepag

/-
  The laws' own szStore and eqStore.
-/
namespace Go.Proofs.Ytmpmdacfibgepag
open Go.RowKit
open Words

end Go.Proofs.Ytmpmdacfibgepag
