/-
  What a law holds: a cell of a row is written, a row grows.
-/
import Derived.Test.YtnebelflnpbbiarTk
import Derived.Test.YtnebelflnpbbiarFlt
import Derived.Test.YtnebelflnpbbiarPk5
namespace Go.Proofs.Ytnebelflnpbbiar
open Go.RowKit

/-- A cell of one of them is written. -/
theorem Tk.fset {w wi : World} {hs hs' : List Hold} {t : TypeId} {g : Nat} {xs : List Value} (T : Tk w wi hs) (n : Nat) (hn : hs[n]? = some (g, g + 1, Flt t g xs)) (hg : w.heap.size ≤ g) (k : Nat) (u : Value) (hh : ∀ x ∈ hs', x ∈ hs ∧ (x.2.1 ≤ g ∨ g + 1 ≤ x.1)) : Tk w (wi.setCell ⟨g, k, none⟩ u) ((g, g + 1, Flt t g (xs.set k u)) :: hs') := by
  refine T.touch ⟨rfl, rfl, rfl, by simp [World.setCell], fun i _ hi => ?_⟩ hg (T.hi n hn) (Flt.loc _ _ _) ((T.get n hn).set k u) hh
  exact Below.heap_setCell _ _ _ _ (show i ≠ g by unfold Apt at hi; omega)
/-- What hangs on blocks below B stays where a row from B on grows. -/
theorem Tk.grownB {w wi y : World} {hs : List Hold} {row : Option Nat} {B : Nat} (T : Tk w wi hs) (hg : wi.grownBy y row) (hr : ∀ q, row = some q → B ≤ q) (hB : w.heap.size ≤ B) (hh : ∀ x ∈ hs, x.2.1 ≤ B) : Tk w y hs := by
  refine ⟨T.1.grown hg T.1.size (fun q hq => Nat.le_trans hB (hr q hq)), fun x hx => ?_⟩
  obtain ⟨h1, h2, h3⟩ := T.2 x hx
  have := hh x hx
  have := hg.size
  exact ⟨by omega, h2, h2 wi y (fun q q1 q2 => hg.block q (by omega) (fun e => by have := hr q e.symm; omega)) h3⟩
theorem Sli.setAt {t : TypeId} {lo hi n g cap : Nat} {xs : List Value} {w : World} (h : Sli t lo hi (.slice (some ⟨g, 0, none⟩) n cap) n xs w) (k : Nat) (u : Value) : Sli t lo hi (.slice (some ⟨g, 0, none⟩) n cap) n (xs.set k u) (w.setCell ⟨g, k, none⟩ u) := by
  have hl := h.lt g rfl
  exact .inr ⟨g, cap, rfl, hl.1, hl.2.1, h.flt.set k u⟩
end Go.Proofs.Ytnebelflnpbbiar
