/-
  SwC; Tk2
-/
import Derived.Test.YtcnaahajaaifjabPk22
import Derived.Test.YtcnaahajaaifjabSwMath
import Derived.Test.YtcnaahajaaifjabPk0
import Derived.Test.YtcnaahajaaifjabPk1
import Derived.Test.YtcnaahajaaifjabPk2
/-
  What a SweepArena does.
-/
namespace Go.Proofs.Ytcnaahajaaifjab
open Go.RowKit
open Words

/-- What a sweep answers: an arena and roots, in blocks apart. -/
def SweepOut (w : World) (L : List Kn) (R : List Int) (e : Ending) (w' : World) : Prop :=
  ∃ uv iv lo1 hi1 lo2 hi2, e = .returned (.tuple #[.agg #[uv], iv]) ∧ Kns lo1 hi1 uv L w' ∧ Sli 3 lo2 hi2 iv R.length (icells R) w' ∧ w.heap.size ≤ lo1 ∧ hi1 ≤ w'.heap.size ∧ w.heap.size ≤ lo2 ∧ hi2 ≤ w'.heap.size ∧ (hi1 ≤ lo2 ∨ hi2 ≤ lo1) ∧ Below w.heap.size w w'
def SweepC (f : Nat) : Prop := ∀ (ad : Option Addr) (len cap : Nat) (rs : List Kw) (ra : Option Addr) (m rc : Nat) (qs : List Int) (w : World), len ≤ 1048578 → m ≤ 1048576 → (∀ r ∈ rs, r.2.2.length ≤ 1048576) → KnRd w ad len rs → (ra = none → rc = 0) → IRow w ra m qs →
  Calls Try.prog f #[.agg #[.slice ad len cap], .slice ra m rc] w (SweepOut w (sweepL (rs.map ktell) qs) (sweepR (rs.map ktell) qs))
end Go.Proofs.Ytcnaahajaaifjab

/-
  What a law holds: a cell of a row is written, a row grows.
-/
namespace Go.Proofs.Ytcnaahajaaifjab
open Go.RowKit

/-- A cell of one of them is written. -/
theorem Tk.fset {w wi : World} {hs hs' : List Hold} {t : TypeId} {g : Nat} {xs : List Value} (T : Tk w wi hs) (n : Nat) (hn : hs[n]? = some (g, g + 1, Flt t g xs)) (hg : w.heap.size ≤ g) (k : Nat) (u : Value) (hh : ∀ x ∈ hs', x ∈ hs ∧ (x.2.1 ≤ g ∨ g + 1 ≤ x.1)) : Tk w (wi.setCell ⟨g, k, none⟩ u) ((g, g + 1, Flt t g (xs.set k u)) :: hs') := by
  refine T.touch ⟨rfl, rfl, rfl, by simp [World.setCell], fun i _ hi => ?_⟩ hg (T.hi n hn) (Flt.loc _ _ _) ((T.get n hn).set k u) hh
  exact Below.heap_setCell _ _ _ _ (show i ≠ g by unfold Apt at hi; omega)
/-- What hangs on blocks below B stays where a row from B on grows. -/
theorem Tk.grownB {w wi y : World} {hs : List Hold} {row : Option Nat} {B : Nat} (T : Tk w wi hs) (hg : wi.grownBy y row) (hr : ∀ q, row = some q → B ≤ q) (hB : w.heap.size ≤ B) (hh : ∀ x ∈ hs, x.2.1 ≤ B) : Tk w y hs := by
  refine ⟨T.1.grown hg T.1.size (fun q hq => Nat.le_trans hB (hr q hq)), fun x hx => ?_⟩
  obtain ⟨h1, h2, h3⟩ := T.2 x hx
  have := hh x hx
  have := hg.size
  exact ⟨by omega, h2, h2 wi y (fun q q1 q2 => hg.block q (by omega) (fun e => by have := hr q e.symm; omega)) h3⟩
theorem Sli.setAt {t : TypeId} {lo hi n g cap : Nat} {xs : List Value} {w : World} (h : Sli t lo hi (.slice (some ⟨g, 0, none⟩) n cap) n xs w) (k : Nat) (u : Value) : Sli t lo hi (.slice (some ⟨g, 0, none⟩) n cap) n (xs.set k u) (w.setCell ⟨g, k, none⟩ u) := by
  have hl := h.lt g rfl
  exact .inr ⟨g, cap, rfl, hl.1, hl.2.1, h.flt.set k u⟩
end Go.Proofs.Ytcnaahajaaifjab
