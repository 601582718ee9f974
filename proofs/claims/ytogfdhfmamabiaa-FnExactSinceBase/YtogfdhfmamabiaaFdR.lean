/-
  Rows of what a scan found that can be read.
-/
import Derived.Test.YtogfdhfmamabiaaFdC
import Derived.Test.YtogfdhfmamabiaaFlt
namespace Go.Proofs.Ytogfdhfmamabiaa
open Go.RowKit
open Words

def FdRd (w : World) (a : Option Addr) (len : Nat) (ls : List Fnd) : Prop :=
  ls.length = len ∧ len ≤ maxLen ∧ (0 < len → ∃ b off, a = some ⟨b, off, none⟩ ∧ b < w.heap.size ∧ ∀ i t, ls[i]? = some t → ∀ j v, (fdCells t)[j]? = some v → w.cell? ⟨b, off + (i * 8 + j), none⟩ = some v)
theorem FdRd.below {w w' : World} {a : Option Addr} {len : Nat} {ls : List Fnd} (h : FdRd w a len ls) (hb : Below w.heap.size w w') : FdRd w' a len ls := by
  obtain ⟨h1, h2, h4⟩ := h
  refine ⟨h1, h2, fun h0 => ?_⟩
  obtain ⟨b, off, e, hl, hc⟩ := h4 h0
  have hs := hb.size
  exact ⟨b, off, e, by omega, fun i t ht j v hv => (hb.cell (show b < w.heap.size from hl)).trans (hc i t ht j v hv)⟩
theorem FdRd.at {w : World} {a : Option Addr} {len : Nat} {ls : List Fnd} (h : FdRd w a len ls) {k : Nat} {t : Fnd} (hk : ls[k]? = some t) :
    ∃ b off, a = some ⟨b, off, none⟩ ∧ b < w.heap.size ∧ w.cell? ⟨b, off + k * 8, none⟩ = some (.int .i64 t.block) ∧ w.cell? ⟨b, off + k * 8 + 1, none⟩ = some (.int .i64 t.leaf) ∧
      w.cell? ⟨b, off + k * 8 + 2, none⟩ = some (.int .i64 t.page.kind) ∧ w.cell? ⟨b, off + k * 8 + 2 + 1, none⟩ = some (.int .i64 t.page.seq) ∧ w.cell? ⟨b, off + k * 8 + 2 + 2, none⟩ = some (.int .i64 t.page.tx) ∧
      w.cell? ⟨b, off + k * 8 + 2 + 3, none⟩ = some (.int .i64 t.page.part) ∧ w.cell? ⟨b, off + k * 8 + 2 + 4, none⟩ = some (.int .i64 t.page.count) ∧ w.cell? ⟨b, off + k * 8 + 2 + 5, none⟩ = some (.string t.page.text) := by
  obtain ⟨h1, -, h4⟩ := h
  have hl := (List.getElem?_eq_some_iff.1 hk).1
  obtain ⟨b, off, e, hb, hc⟩ := h4 (by omega)
  have hc := hc k t hk
  refine ⟨b, off, e, hb, hc 0 _ rfl, ?_, ?_, ?_, ?_, ?_, ?_, ?_⟩
  · have := hc 1 _ rfl; rwa [← Nat.add_assoc] at this
  · have := hc 2 _ rfl; rwa [← Nat.add_assoc] at this
  · have := hc 3 _ rfl; rwa [← Nat.add_assoc] at this
  · have := hc 4 _ rfl; rwa [← Nat.add_assoc] at this
  · have := hc 5 _ rfl; rwa [← Nat.add_assoc] at this
  · have := hc 6 _ rfl; rwa [← Nat.add_assoc] at this
  · have := hc 7 _ rfl; rwa [← Nat.add_assoc] at this
theorem Sli.fdrd {lo hi n c : Nat} {ad : Option Addr} {M : List Fnd} {W : World} (h : Sli 42 lo hi (.slice ad n c) n (fcells M) W) (hn : M.length = n) (hm : n ≤ maxLen) (hh : hi ≤ W.heap.size) : FdRd W ad n M := by
  refine ⟨hn, hm, fun h0 => ?_⟩
  rcases h with ⟨e, rfl⟩ | ⟨g, cap, e, h1, h2, h3⟩
  · omega
  · injection e with e1 e2 e3
    refine ⟨g, 0, e1, by omega, fun i t hi j v hj => ?_⟩
    rw [Nat.zero_add]
    exact h3.cell (fcells_at M i t hi j v hj)
end Go.Proofs.Ytogfdhfmamabiaa
