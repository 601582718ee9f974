/-
  spec.l12Roots and spec.l12At: the roots of a store's volumes, and where one is.
-/
import Derived.Test.YtmpmdacfibgepagPk15
import Derived.Test.YtmpmdacfibgepagPk16
import Derived.Test.YtmpmdacfibgepagStoM3
namespace Go.Proofs.Ytmpmdacfibgepag
open Go.RowKit
open Words

theorem infoSto : (Try.prog.info? 65).map (·.size) = some 3 := by kernel_rfl
/-- A store that came in, in a block of its own. -/
abbrev SBox (va : Option Addr) (vl vc : Nat) (ad : Option Addr) (len cap : Nat) (nx : Int) : Array Value := #[.slice va vl vc, .slice ad len cap, .int .i64 nx]
theorem sbox_at (w : World) (a b c : Value) : (w.alloc (.cells #[a, b, c] 65)).cell? ⟨w.heap.size, 0, none⟩ = some a ∧ (w.alloc (.cells #[a, b, c] 65)).cell? ⟨w.heap.size, 1, none⟩ = some b ∧ (w.alloc (.cells #[a, b, c] 65)).cell? ⟨w.heap.size, 2, none⟩ = some c := by
  have h := heap_alloc_new w (.cells #[a, b, c] 65)
  exact ⟨cell_of_row _ _ 0 _ _ _ h, cell_of_row _ _ 1 _ _ _ h, cell_of_row _ _ 2 _ _ _ h⟩
theorem roots_take {vs : List (Int × Int)} {k : Nat} {v : Int × Int} (h : vs[k]? = some v) : rootsV (vs.take k) ++ [v.2] = rootsV (vs.take (k + 1)) := by
  obtain ⟨h1, h2⟩ := List.getElem?_eq_some_iff.1 h
  rw [List.take_succ_eq_append_getElem h1, h2]
  simp [rootsV]

def atI : Option Nat → Int
  | some k => k
  | none => -1
end Go.Proofs.Ytmpmdacfibgepag
