/-
  Rows of records that can be read.
-/
import Derived.Test.YtogfdhfmamabiaaPk1
namespace Go.Proofs.Ytogfdhfmamabiaa
open Go.RowKit
set_option maxRecDepth 100000

/-- Elements that came in, each in 4 cells. -/
def RcRow (w : World) (a : Option Addr) (len : Nat) (ls : List (Int × Int × Int × Int)) : Prop :=
  ls.length = len ∧ len ≤ maxLen ∧ (∀ t ∈ ls, True) ∧ (0 < len → ∃ b off, a = some ⟨b, off, none⟩ ∧ b < w.heap.size ∧ ∀ i t, ls[i]? = some t → w.cell? ⟨b, off + i * 4, none⟩ = some (.int .i64 t.1) ∧ w.cell? ⟨b, off + i * 4 + 1, none⟩ = some (.int .i64 t.2.1) ∧ w.cell? ⟨b, off + i * 4 + 2, none⟩ = some (.int .i64 t.2.2.1) ∧ w.cell? ⟨b, off + i * 4 + 3, none⟩ = some (.int .i64 t.2.2.2))
theorem RcRow.below {w w' : World} {a : Option Addr} {len : Nat} {ls : List (Int × Int × Int × Int)} (h : RcRow w a len ls) (hb : Below w.heap.size w w') : RcRow w' a len ls := by
  obtain ⟨h1, h2, h3, h4⟩ := h
  refine ⟨h1, h2, h3, fun h0 => ?_⟩
  obtain ⟨b, off, e, hl, hc⟩ := h4 h0
  have hs := hb.size
  refine ⟨b, off, e, by omega, fun i t ht => ?_⟩
  obtain ⟨c0, c1, c2, c3⟩ := hc i t ht
  exact ⟨(hb.cell (show b < w.heap.size from hl)).trans c0, (hb.cell (show b < w.heap.size from hl)).trans c1, (hb.cell (show b < w.heap.size from hl)).trans c2, (hb.cell (show b < w.heap.size from hl)).trans c3⟩

theorem RcRow.at {w : World} {a : Option Addr} {len : Nat} {ls : List (Int × Int × Int × Int)} (h : RcRow w a len ls) {k : Nat} {t : Int × Int × Int × Int} (hk : ls[k]? = some t) :
    ∃ b off, a = some ⟨b, off, none⟩ ∧ b < w.heap.size ∧ w.cell? ⟨b, off + k * 4, none⟩ = some (.int .i64 t.1) ∧ w.cell? ⟨b, off + k * 4 + 1, none⟩ = some (.int .i64 t.2.1) ∧ w.cell? ⟨b, off + k * 4 + 2, none⟩ = some (.int .i64 t.2.2.1) ∧ w.cell? ⟨b, off + k * 4 + 3, none⟩ = some (.int .i64 t.2.2.2) := by
  obtain ⟨h1, -, -, h4⟩ := h
  have hl := (List.getElem?_eq_some_iff.1 hk).1
  obtain ⟨b, off, e, hb, hc⟩ := h4 (by omega)
  obtain ⟨c0, c1, c2, c3⟩ := hc k t hk
  exact ⟨b, off, e, hb, c0, c1, c2, c3⟩
theorem RcRow.of_own {w : World} {base : Nat} {v : Value} {n : Nat} {M : List (Int × Int × Int × Int)} (hn : M.length = n) (h : w.ownsRow base 34 4 v n (rccells M)) :
    ∃ a c, v = .slice a n c ∧ RcRow w a n M := by
  have hh := h
  obtain ⟨-, h2⟩ := hh
  rcases h2 with ⟨rfl, rfl⟩ | ⟨g, cap, cur, rfl, h3, h4, h5, h6, -, -⟩
  · exact ⟨none, 0, rfl, hn, by unfold maxLen; omega, by simp, fun h => by omega⟩
  · refine ⟨_, _, rfl, hn, by omega, by simp, fun _ => ⟨g, 0, rfl, (Array.getElem?_eq_some_iff.1 h4).1, fun i t hi => ?_⟩⟩
    have hc := fun j v hj => h.cells (g := g) rfl (i * 4 + j) v (rccells_at M i t hi j v hj)
    have ea : ∀ j, (⟨g, 0, none⟩ : Addr).add j = ⟨g, 0 + j, none⟩ := fun j => by simp only [Addr.add]; split <;> simp_all
    simp only [ea] at hc
    exact ⟨hc 0 _ rfl, by simpa [Nat.add_assoc] using hc 1 _ rfl, by simpa [Nat.add_assoc] using hc 2 _ rfl, by simpa [Nat.add_assoc] using hc 3 _ rfl⟩
end Go.Proofs.Ytogfdhfmamabiaa
