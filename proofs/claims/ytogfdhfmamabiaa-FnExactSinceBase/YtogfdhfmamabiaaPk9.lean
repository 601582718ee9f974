/-
  SliL; DecI
-/
import Derived.Test.YtogfdhfmamabiaaFlt
import Derived.Test.YtogfdhfmamabiaaOwnC
/-
  Slices by their cells: bounds, growth.
-/
namespace Go.Proofs.Ytogfdhfmamabiaa
open Go.RowKit

theorem Sli.up {t : TypeId} {lo hi hi' n : Nat} {v : Value} {xs : List Value} {w : World} (h : Sli t lo hi v n xs w) (hh : hi ≤ hi') : Sli t lo hi' v n xs w := by
  rcases h with h | ⟨g, cap, e, h1, h2, h3⟩
  · exact .inl h
  · exact .inr ⟨g, cap, e, h1, by omega, h3⟩
theorem Sli.dn {t : TypeId} {lo lo' hi n : Nat} {v : Value} {xs : List Value} {w : World} (h : Sli t lo hi v n xs w) (hh : lo' ≤ lo) : Sli t lo' hi v n xs w := by
  rcases h with h | ⟨g, cap, e, h1, h2, h3⟩
  · exact .inl h
  · exact .inr ⟨g, cap, e, by omega, h2, h3⟩
theorem Sli.blw {t : TypeId} {lo hi n : Nat} {v : Value} {xs : List Value} {w w' : World} (h : Sli t lo hi v n xs w) (hb : Below w.heap.size w w') : Sli t lo hi v n xs w' := by
  rcases h with h | ⟨g, cap, e, h1, h2, h3⟩
  · exact .inl h
  · exact .inr ⟨g, cap, e, h1, h2, h3.below hb⟩
theorem Sli.lt {t : TypeId} {lo hi n : Nat} {v : Value} {xs : List Value} {w : World} (h : Sli t lo hi v n xs w) : ∀ g, v.ownBlock = some g → lo ≤ g ∧ g < hi ∧ ∃ cs, w.heap[g]? = some (.cells cs t (0, 0)) := by
  intro g hg
  rcases h with ⟨rfl, -⟩ | ⟨g', cap, rfl, h1, h2, cs, h3, -⟩
  · cases hg
  · simp only [Value.ownBlock, Option.some.injEq] at hg
    subst hg
    exact ⟨h1, h2, cs, h3⟩
theorem Sli.grown {t : TypeId} {lo hi n : Nat} {v : Value} {xs : List Value} {w y : World} {row : Option Nat} (h : Sli t lo hi v n xs w) (hg : w.grownBy y row) (hr : ∀ g, v.ownBlock = some g → row ≠ some g) : Sli t lo hi v n xs y := by
  rcases h with h | ⟨g, cap, rfl, h1, h2, cs, h3, h4⟩
  · exact .inl h
  · exact .inr ⟨g, cap, rfl, h1, h2, cs, (hg.block g (Array.getElem?_eq_some_iff.1 h3).1 (fun e => hr g rfl e.symm)).trans h3, h4⟩
theorem own_kind {w : World} {B : Nat} {e : TypeId} {size n : Nat} {v : Value} {xs : List Value} (h : w.ownsRow B e size v n xs) : ∀ g, v.ownBlock = some g → B ≤ g ∧ g < w.heap.size ∧ ∃ cs, w.heap[g]? = some (.cells cs e (0, 0)) := by
  intro g hg
  obtain ⟨h1, h2⟩ := h.lt g hg
  rcases h.2 with ⟨rfl, -⟩ | ⟨g', cap, cur, rfl, -, q, -⟩
  · cases hg
  · simp only [Value.ownBlock, Option.some.injEq] at hg
    subst hg
    exact ⟨h1, h2, _, q⟩
end Go.Proofs.Ytogfdhfmamabiaa

/-
  What is decided, whatever decides it.
-/
namespace Go.Proofs.Ytogfdhfmamabiaa
theorem dcY {p : Prop} {d : Decidable p} (h : p) : @decide p d = true := decide_eq_true h
theorem dcN {p : Prop} {d : Decidable p} (h : ¬ p) : @decide p d = false := decide_eq_false h
theorem dcE {p q : Prop} {d : Decidable p} {e : Decidable q} (h : p ↔ q) : @decide p d = @decide q e := decide_eq_decide.2 h
theorem dcT {p : Prop} {d : Decidable p} : (@decide p d = true) = p := decide_eq_true_eq
theorem dcO {p : Prop} {d : Decidable p} (h : @decide p d = true) : p := of_decide_eq_true h
theorem dcF {p : Prop} {d : Decidable p} (h : @decide p d = false) : ¬ p := of_decide_eq_false h
end Go.Proofs.Ytogfdhfmamabiaa
