/-
  Words in cells.
-/
import Derived.Test.YtaolinlginloaacDoorBase
import Derived.Test.YtaolinlginloaacDoorDMath
namespace Go.Proofs.YtaolinlginloaacDoor
open Go.RowKit
open Dig

theorem infoWord : (Tryd.prog.info? 69).map (fun i => (i.zero, i.size, i.bytes)) = some (some (.int .u32 0), 1, 4) := by kernel_rfl
/-- The cells of words. -/
def wcells (l : List Nat) : List Value := l.map fun n : Nat => Value.int .u32 n
theorem wcells_len (l : List Nat) : (wcells l).length = l.length := by simp [wcells]
theorem wcells_snoc (l : List Nat) (n : Nat) : wcells l ++ [Value.int .u32 n] = wcells (l ++ [n]) := by simp [wcells]
theorem wcells_at (l : List Nat) (j : Nat) (hj : j < l.length) : (wcells l)[j]? = some (.int .u32 (l[j] : Nat)) := by simp [wcells, hj]
theorem one_u32 (x : Int) : ∀ u ∈ [Value.int .u32 x], u.oneCell' = true := by
  intro u hu; simp at hu; subst hu; rfl

/-- The words l lie in block g, from its start on. -/
def WordsAt (w : World) (g : Nat) (l : List Nat) : Prop := g < w.heap.size ∧ ∀ j (hj : j < l.length), w.cell? ⟨g, j, none⟩ = some (.int .u32 (l[j] : Nat))
theorem WordsAt.below {w w' : World} {g C : Nat} {l : List Nat} (h : WordsAt w g l) (hb : Below C w w') (hg : g < C) : WordsAt w' g l :=
  ⟨Nat.lt_of_lt_of_le h.1 hb.size, fun j hj => by rw [hb.cell (show g < C from hg)]; exact h.2 j hj⟩
end Go.Proofs.YtaolinlginloaacDoor
