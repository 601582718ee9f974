/-
  A row of tokens that comes in as an argument: what the walks are told of it.
-/
import Derived.Test.YtaolinlginloaaaGRow
import Derived.ProofKit
import Derived.OpenShut
import Derived.ShutString
import Derived.Deep.Strs
import Derived.Deep.Slices
namespace Go.Proofs.Ytaolinlginloaaa
open Go.ChangeShapes Go.WideShapes Go.ChangeAt Go.RowKit Go.Deep

/-- Tokens that came in: each in three cells. -/
def TokRow (w : World) (a : Option Addr) (len : Nat) (ls : List (Int × Int × ByteArray)) : Prop :=
  ls.length = len ∧ len ≤ maxLen ∧ (∀ t ∈ ls, t.2.2.size ≤ maxLen) ∧ (0 < len → ∃ b off, a = some ⟨b, off, none⟩ ∧ b < w.heap.size ∧ ∀ i t, ls[i]? = some t →
    w.cell? ⟨b, off + i * 3, none⟩ = some (.int .i64 t.1) ∧ w.cell? ⟨b, off + i * 3 + 1, none⟩ = some (.int .i64 t.2.1) ∧ w.cell? ⟨b, off + i * 3 + 2, none⟩ = some (.string t.2.2))

section
variable {H : Type} {enc : TypeId × Value → H} {w : World} {base : Nat} {sp : Nat → Bool} {held : Bool}
theorem cells9 : Try.prog.cellsOf 9 = 1 := by kernel_rfl
theorem cells3 : Try.prog.cellsOf 3 = 1 := by kernel_rfl
theorem cellsTok : Try.prog.cellsOf 66 = 3 := by kernel_rfl
theorem addr_offT (b off j : Nat) : (⟨b, off, none⟩ : Addr).add j = ⟨b, off + j, none⟩ := by
  simp only [Addr.add]
  split <;> simp_all

theorem open_toks {a : Option Addr} {len cap : Nat} {d : DataW H} {ps : List MemPlace} (hd : DataW.Trod enc Try.prog w base sp held 37 (.slice a len cap) d ps) : ∃ ls, TokRow w a len ls := by
  obtain ⟨fuel, hf⟩ := hd
  rcases open_slice Try.underlying37 hf with ⟨hcs, _⟩ | ⟨x, l, c, m, n, D, Pl, hcs, _, hl, hm, hmm, _, hx⟩
  · simp [Value.cells] at hcs
    obtain ⟨rfl, rfl, rfl⟩ := hcs
    exact ⟨[], rfl, by omega, by simp, fun h => by omega⟩
  · simp [Value.cells] at hcs
    obtain ⟨rfl, rfl, rfl⟩ := hcs
    have hlm : len ≤ m := by rw [hmm]; split <;> omega
    have each : ∀ i, i < len → ∃ t : Int × Int × ByteArray, w.cell? (x.add (i * 3)) = some (.int .i64 t.1) ∧ w.cell? (x.add (i * 3 + 1)) = some (.int .i64 t.2.1) ∧ w.cell? (x.add (i * 3 + 2)) = some (.string t.2.2) ∧ t.2.2.size ≤ maxLen := by
      intro i hi
      obtain ⟨cs, h1, h2⟩ := hx i (by omega)
      rw [cellsTok] at h1
      obtain ⟨_, hlen, hcell⟩ := World.cells?_some h1
      obtain ⟨y0, y1, y2, k, _, _, g0, g1, g2⟩ := trod_struct3 Try.underlying66 h2
      simp only [cells9, cells3] at g0 g1 g2
      match cs, hlen with
      | [u, v, z], _ =>
        obtain ⟨p, e0, _, _⟩ := DataW.trod_int Try.underlying3 g0
        obtain ⟨q, e1, _, _⟩ := DataW.trod_int Try.underlying3 g1
        obtain ⟨s, e2, _, hs⟩ := DataW.trod_string Try.underlying9 g2
        simp at e0 e1 e2
        subst e0 e1 e2
        have f0 := hcell 0 (by simp)
        have f1 := hcell 1 (by simp)
        have f2 := hcell 2 (by simp)
        rw [add_add] at f0 f1 f2
        exact ⟨(p, q, s), by simpa using f0, by simpa using f1, by simpa using f2, hs⟩
    obtain ⟨f, hq⟩ := choose_lt each
    refine ⟨(List.range len).map f, by simp, by omega, ?_, fun h0 => ?_⟩
    · intro t ht
      obtain ⟨i, hi, rfl⟩ := List.mem_map.1 ht
      exact (hq i (List.mem_range.1 hi)).2.2.2
    · obtain ⟨b, off, spot⟩ := x
      have hspot : spot = none := by simpa [Addr.add] using World.cell?_spot (hq 0 h0).1
      subst hspot
      refine ⟨b, off, rfl, ?_, fun i t hi => ?_⟩
      · have := World.block_lt_of_cell? w _ (hq 0 h0).1
        rw [addr_offT] at this
        exact this
      · obtain ⟨hi1, hi2⟩ := List.getElem?_eq_some_iff.1 hi
        have hil : i < len := by simpa using hi1
        have ht : t = f i := by rw [← hi2]; simp
        subst ht
        have := hq i hil
        rw [addr_offT, addr_offT, addr_offT] at this
        exact ⟨this.1, this.2.1, this.2.2.1⟩
end
end Go.Proofs.Ytaolinlginloaaa
