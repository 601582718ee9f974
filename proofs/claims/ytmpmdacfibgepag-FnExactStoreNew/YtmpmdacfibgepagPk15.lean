/-
  CeVl; VlRow
-/
import Derived.Test.YtmpmdacfibgepagBase
import Derived.Test.YtmpmdacfibgepagPk1
/-
  The cells of Vols in a row.
-/
namespace Go.Proofs.Ytmpmdacfibgepag
open Go.RowKit

/-- The cells of elements. -/
def vlcell (t : Int × Int) : List Value := [.int .i64 t.1, .int .i64 t.2]
def vlcells (l : List (Int × Int)) : List Value := l.flatMap vlcell
theorem vlcells_len (l : List (Int × Int)) : (vlcells l).length = l.length * 2 := by
  induction l with
  | nil => rfl
  | cons t l ih => simp [vlcells, vlcell] at ih ⊢; omega
theorem vlcells_app (a b : List (Int × Int)) : vlcells (a ++ b) = vlcells a ++ vlcells b := by simp [vlcells]
theorem vlcells_cons (t : Int × Int) (l : List (Int × Int)) : vlcells (t :: l) = vlcell t ++ vlcells l := by simp [vlcells]
theorem vlcells_at (l : List (Int × Int)) (k : Nat) (t : Int × Int) (h : l[k]? = some t) (j : Nat) (v : Value) (hj : (vlcell t)[j]? = some v) : (vlcells l)[k * 2 + j]? = some v := by
  have hlt : j < 2 := (List.getElem?_eq_some_iff.1 hj).1
  induction l generalizing k with
  | nil => simp at h
  | cons a l ih =>
    rw [vlcells_cons]
    cases k with
    | zero =>
      simp at h
      subst h
      rw [List.getElem?_append_left (by show _ < 2; omega), Nat.zero_mul, Nat.zero_add]
      exact hj
    | succ k =>
      rw [List.getElem?_append_right (by show 2 ≤ _; omega), show (k + 1) * 2 + j - (vlcell a).length = k * 2 + j by show _ - 2 = _; omega]
      exact ih k (by simpa using h)
theorem vlcells_one (l : List (Int × Int)) : ∀ v ∈ vlcells l, v.oneCell' = true := by
  intro v hv
  obtain ⟨t, -, ht⟩ := List.mem_flatMap.1 hv
  simp [vlcell] at ht
  rcases ht with h | h <;> subst h <;> rfl
theorem infoVl : (Try.prog.info? 132).map (fun i => (i.zero, i.size, i.bytes)) = some (some (.agg #[.int .i64 0, .int .i64 0]), 2, 16) := by kernel_rfl
theorem infoVlz : (Try.prog.info? 132).map (·.size) = some 2 := by kernel_rfl
theorem vlcells_set {l : List (Int × Int)} {k : Nat} {v : Int × Int} (h : l[k]? = some v) (r : Int) : (vlcells l).set (k * 2 + 1) (.int .i64 r) = vlcells (l.set k (v.1, r)) := by
  induction l generalizing k with
  | nil => simp at h
  | cons a l ih =>
    cases k with
    | zero =>
      simp at h
      subst h
      rfl
    | succ k =>
      have e : (k + 1) * 2 + 1 = (k * 2 + 1) + 2 := by omega
      rw [e, List.set_cons_succ, vlcells_cons, vlcells_cons, ← ih (by simpa using h)]
      rfl
end Go.Proofs.Ytmpmdacfibgepag

/-
  Rows of volumes that can be read.
-/
namespace Go.Proofs.Ytmpmdacfibgepag
open Go.RowKit
set_option maxRecDepth 100000

/-- Elements that came in, each in 2 cells. -/
def VlRow (w : World) (a : Option Addr) (len : Nat) (ls : List (Int × Int)) : Prop :=
  ls.length = len ∧ len ≤ maxLen ∧ (∀ t ∈ ls, True) ∧ (0 < len → ∃ b off, a = some ⟨b, off, none⟩ ∧ b < w.heap.size ∧ ∀ i t, ls[i]? = some t → w.cell? ⟨b, off + i * 2, none⟩ = some (.int .i64 t.1) ∧ w.cell? ⟨b, off + i * 2 + 1, none⟩ = some (.int .i64 t.2))
theorem VlRow.below {w w' : World} {a : Option Addr} {len : Nat} {ls : List (Int × Int)} (h : VlRow w a len ls) (hb : Below w.heap.size w w') : VlRow w' a len ls := by
  obtain ⟨h1, h2, h3, h4⟩ := h
  refine ⟨h1, h2, h3, fun h0 => ?_⟩
  obtain ⟨b, off, e, hl, hc⟩ := h4 h0
  have hs := hb.size
  refine ⟨b, off, e, by omega, fun i t ht => ?_⟩
  obtain ⟨c0, c1⟩ := hc i t ht
  exact ⟨(hb.cell (show b < w.heap.size from hl)).trans c0, (hb.cell (show b < w.heap.size from hl)).trans c1⟩

theorem VlRow.at {w : World} {a : Option Addr} {len : Nat} {ls : List (Int × Int)} (h : VlRow w a len ls) {k : Nat} {t : Int × Int} (hk : ls[k]? = some t) :
    ∃ b off, a = some ⟨b, off, none⟩ ∧ b < w.heap.size ∧ w.cell? ⟨b, off + k * 2, none⟩ = some (.int .i64 t.1) ∧ w.cell? ⟨b, off + k * 2 + 1, none⟩ = some (.int .i64 t.2) := by
  obtain ⟨h1, -, -, h4⟩ := h
  have hl := (List.getElem?_eq_some_iff.1 hk).1
  obtain ⟨b, off, e, hb, hc⟩ := h4 (by omega)
  obtain ⟨c0, c1⟩ := hc k t hk
  exact ⟨b, off, e, hb, c0, c1⟩
theorem VlRow.of_own {w : World} {base : Nat} {v : Value} {n : Nat} {M : List (Int × Int)} (hn : M.length = n) (h : w.ownsRow base 132 2 v n (vlcells M)) :
    ∃ a c, v = .slice a n c ∧ VlRow w a n M := by
  have hh := h
  obtain ⟨-, h2⟩ := hh
  rcases h2 with ⟨rfl, rfl⟩ | ⟨g, cap, cur, rfl, h3, h4, h5, h6, -, -⟩
  · exact ⟨none, 0, rfl, hn, by unfold maxLen; omega, by simp, fun h => by omega⟩
  · refine ⟨_, _, rfl, hn, by omega, by simp, fun _ => ⟨g, 0, rfl, (Array.getElem?_eq_some_iff.1 h4).1, fun i t hi => ?_⟩⟩
    have hc := fun j v hj => h.cells (g := g) rfl (i * 2 + j) v (vlcells_at M i t hi j v hj)
    have ea : ∀ j, (⟨g, 0, none⟩ : Addr).add j = ⟨g, 0 + j, none⟩ := fun j => by simp only [Addr.add]; split <;> simp_all
    simp only [ea] at hc
    exact ⟨hc 0 _ rfl, by simpa [Nat.add_assoc] using hc 1 _ rfl⟩
end Go.Proofs.Ytmpmdacfibgepag
