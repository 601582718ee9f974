/-
  VlRow; SIn
-/
import Derived.Test.YtbjhbbejomfmmasCeVl
import Derived.Test.YtbjhbbejomfmmasPk1
import Derived.Test.YtbjhbbejomfmmasBase
/-
  Rows of volumes that can be read.
-/
namespace Go.Proofs.Ytbjhbbejomfmmas
open Go.RowKit
set_option maxRecDepth 100000

/-- Elements that came in, each in 2 cells. -/
def VlRow (w : World) (a : Option Addr) (len : Nat) (ls : List (Int × Int)) : Prop :=
  ls.length = len ∧ len ≤ maxLen ∧ (∀ t ∈ ls, True) ∧ (0 < len → ∃ b off, a = some ⟨b, off, none⟩ ∧ b < w.heap.size ∧ ∀ i t, ls[i]? = some t → w.cell? ⟨b, off + i * 2, none⟩ = some (.int .i64 t.1) ∧ w.cell? ⟨b, off + i * 2 + 1, none⟩ = some (.int .i64 t.2))
theorem VlRow.below {w w' : World} {a : Option Addr} {len : Nat} {ls : List (Int × Int)} (h : VlRow w a len ls) (hb : Below w.heap.size w w') : VlRow w' a len ls := by
  obtain ⟨h1, h2, h3, h4⟩ := h
  refine ⟨h1, h2, h3, fun h0 => ?_⟩
  obtain ⟨b, off, e, hl, hc⟩ := h4 h0
  have hs := hb.size
  refine ⟨b, off, e, by omega, fun i t ht => ?_⟩
  obtain ⟨c0, c1⟩ := hc i t ht
  exact ⟨(hb.cell (show b < w.heap.size from hl)).trans c0, (hb.cell (show b < w.heap.size from hl)).trans c1⟩

theorem VlRow.at {w : World} {a : Option Addr} {len : Nat} {ls : List (Int × Int)} (h : VlRow w a len ls) {k : Nat} {t : Int × Int} (hk : ls[k]? = some t) :
    ∃ b off, a = some ⟨b, off, none⟩ ∧ b < w.heap.size ∧ w.cell? ⟨b, off + k * 2, none⟩ = some (.int .i64 t.1) ∧ w.cell? ⟨b, off + k * 2 + 1, none⟩ = some (.int .i64 t.2) := by
  obtain ⟨h1, -, -, h4⟩ := h
  have hl := (List.getElem?_eq_some_iff.1 hk).1
  obtain ⟨b, off, e, hb, hc⟩ := h4 (by omega)
  obtain ⟨c0, c1⟩ := hc k t hk
  exact ⟨b, off, e, hb, c0, c1⟩
theorem VlRow.of_own {w : World} {base : Nat} {v : Value} {n : Nat} {M : List (Int × Int)} (hn : M.length = n) (h : w.ownsRow base 61 2 v n (vlcells M)) :
    ∃ a c, v = .slice a n c ∧ VlRow w a n M := by
  have hh := h
  obtain ⟨-, h2⟩ := hh
  rcases h2 with ⟨rfl, rfl⟩ | ⟨g, cap, cur, rfl, h3, h4, h5, h6, -, -⟩
  · exact ⟨none, 0, rfl, hn, by unfold maxLen; omega, by simp, fun h => by omega⟩
  · refine ⟨_, _, rfl, hn, by omega, by simp, fun _ => ⟨g, 0, rfl, (Array.getElem?_eq_some_iff.1 h4).1, fun i t hi => ?_⟩⟩
    have hc := fun j v hj => h.cells (g := g) rfl (i * 2 + j) v (vlcells_at M i t hi j v hj)
    have ea : ∀ j, (⟨g, 0, none⟩ : Addr).add j = ⟨g, 0 + j, none⟩ := fun j => by simp only [Addr.add]; split <;> simp_all
    simp only [ea] at hc
    exact ⟨hc 0 _ rfl, by simpa [Nat.add_assoc] using hc 1 _ rfl⟩
end Go.Proofs.Ytbjhbbejomfmmas

/-
  spec.l01In.
-/
namespace Go.Proofs.Ytbjhbbejomfmmas
open Go.RowKit
set_option maxHeartbeats 400000 in
set_option maxRecDepth 100000 in
theorem sin_b (x lo hi : Int) (b : Bool) (w : World) (h : (lo ≤ x ∧ x ≤ hi ∧ b = true) ∨ ((x < lo ∨ lo ≤ x ∧ ¬ x ≤ hi) ∧ b = false)) :
    Calls Try.prog 33 #[.int .i64 x, .int .i64 lo, .int .i64 hi] w fun e w' => e = .returned (.bool b) ∧ w' = w := by
  rcases h with ⟨h1, h2, rfl⟩ | ⟨h1 | ⟨h1, h2⟩, rfl⟩
  all_goals
    go_enter Try.func33, Try.ntmps33
    go_wp2
    go_ret
    exact ⟨rfl, rfl⟩
theorem sin_any (x lo hi : Int) (w : World) :
    Calls Try.prog 33 #[.int .i64 x, .int .i64 lo, .int .i64 hi] w fun e w' => e = .returned (.bool (decide (lo ≤ x ∧ x ≤ hi))) ∧ w' = w := by
  apply sin_b
  by_cases h : lo ≤ x ∧ x ≤ hi
  · exact .inl ⟨h.1, h.2, decide_eq_true h⟩
  · exact .inr ⟨by omega, decide_eq_false h⟩
end Go.Proofs.Ytbjhbbejomfmmas
