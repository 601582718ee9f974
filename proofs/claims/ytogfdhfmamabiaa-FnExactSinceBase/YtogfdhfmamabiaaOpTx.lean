/-
  A row of transactions that comes in as an argument.
-/
import Derived.Test.YtogfdhfmamabiaaTxN
import Derived.Test.YtogfdhfmamabiaaOpRc
namespace Go.Proofs.Ytogfdhfmamabiaa
open Go.ChangeShapes Go.WideShapes Go.ChangeAt Go.RowKit Go.Deep
set_option maxRecDepth 100000

section
variable {H : Type} {enc : TypeId × Value → H} {w : World} {base : Nat} {sp : Nat → Bool} {held : Bool}
theorem cells3Tx : Try.prog.cellsOf 3 = 1 := by kernel_rfl
theorem cellsRcS : Try.prog.cellsOf 72 = 1 := by kernel_rfl
theorem cellsTxL : Try.prog.cellsOf 74 = 3 := by kernel_rfl
theorem addrTx (b off j : Nat) : (⟨b, off, none⟩ : Addr).add j = ⟨b, off + j, none⟩ := by
  simp only [Addr.add]
  split <;> simp_all
theorem trodTx3 {P : Program} {t : TypeId} {f0 f1 f2 : Field} {fuel : Nat} {cs : List Value} {x : DataW H × List MemPlace} (ht : P.underlying t = some (.struct #[f0, f1, f2])) (h : DataW.trod enc P w base sp held fuel t cs = some x) :
    ∃ y0 y1 y2 n, DataW.trod enc P w base sp held n f0.type ((cs.drop f0.offset).take (P.cellsOf f0.type)) = some y0 ∧ DataW.trod enc P w base sp held n f1.type ((cs.drop f1.offset).take (P.cellsOf f1.type)) = some y1 ∧ DataW.trod enc P w base sp held n f2.type ((cs.drop f2.offset).take (P.cellsOf f2.type)) = some y2 := by
  obtain ⟨xs, n, _, rfl, hl, hlen, hf⟩ := DataW.trod_struct ht h
  match xs, hlen with
  | [y0, y1, y2], _ => exact ⟨y0, y1, y2, n, by simpa using hf 0 f0 rfl, by simpa using hf 1 f1 rfl, by simpa using hf 2 f2 rfl⟩
theorem open_rcsl {v : Value} {fuel : Nat} {y : DataW H × List MemPlace} (hf : DataW.trod enc Try.prog w base sp held fuel 72 [v] = some y) : ∃ ls, RcSl w v ls := by
  rcases open_slice Try.underlying72 hf with ⟨hcs, _⟩ | ⟨x, l, c, m, n, D, Pl, hcs, h1, hl, hm, hmm, h2, hx⟩
  · simp at hcs
    subst hcs
    exact ⟨[], none, 0, rfl, fun _ => rfl, rfl, by unfold maxLen; simp, by simp, fun h => by simp at h⟩
  · simp at hcs
    subst hcs
    have hd : DataW.Trod enc Try.prog w base sp held 72 (.slice (some x) l c) y.1 y.2 := ⟨fuel, by simpa [Value.cells] using hf⟩
    obtain ⟨ls, hr⟩ := open_rcs hd
    have hl2 := hr.1
    subst hl2
    exact ⟨ls, some x, c, rfl, (fun e => by cases e), hr⟩
theorem open_txs {a : Option Addr} {len cap : Nat} {d : DataW H} {ps : List MemPlace} (hd : DataW.Trod enc Try.prog w base sp held 43 (.slice a len cap) d ps) : ∃ rs, TxRd w a len rs := by
  obtain ⟨fuel, hf⟩ := hd
  rcases open_slice Try.underlying43 hf with ⟨hcs, _⟩ | ⟨x, l, c, m, n, D, Pl, hcs, _, hl, hm, hmm, _, hx⟩
  · simp [Value.cells] at hcs
    obtain ⟨rfl, rfl, rfl⟩ := hcs
    exact ⟨[], rfl, by omega, (fun _ h => by cases h), fun h => by omega⟩
  · simp [Value.cells] at hcs
    obtain ⟨rfl, rfl, rfl⟩ := hcs
    have hlm : len ≤ m := by rw [hmm]; split <;> omega
    have each : ∀ i, i < len → ∃ t : Xw, w.cell? (x.add (i * 3)) = some (.int .i64 t.1) ∧ w.cell? (x.add (i * 3 + 1)) = some (.int .i64 t.2.1) ∧ w.cell? (x.add (i * 3 + 2)) = some t.2.2.1 ∧ RcSl w t.2.2.1 t.2.2.2 := by
      intro i hi
      obtain ⟨cs, h1, h2⟩ := hx i (by omega)
      rw [cellsTxL] at h1
      obtain ⟨_, hlen, hcell⟩ := World.cells?_some h1
      obtain ⟨y0, y1, y2, k, g0, g1, g2⟩ := trodTx3 Try.underlying74 h2
      simp only [cells3Tx, cellsRcS] at g0 g1 g2
      match cs, hlen with
      | [u0, u1, u2], _ =>
        obtain ⟨k0, e0, -, -⟩ := DataW.trod_int Try.underlying3 g0
        obtain ⟨k1, e1, -, -⟩ := DataW.trod_int Try.underlying3 g1
        simp at e0 e1
        subst e0 e1
        obtain ⟨ls, hls⟩ := open_rcsl (v := u2) (by simpa using g2)
        have f0 := hcell 0 (by simp)
        have f1 := hcell 1 (by simp)
        have f2 := hcell 2 (by simp)
        rw [add_add] at f0 f1 f2
        exact ⟨(k0, k1, u2, ls), by simpa using f0, by simpa using f1, by simpa using f2, hls⟩
    obtain ⟨f, hq⟩ := choose_lt each
    refine ⟨(List.range len).map f, by simp, by omega, ?_, fun h0 => ?_⟩
    · intro t ht
      obtain ⟨i, hi, rfl⟩ := List.mem_map.1 ht
      exact (hq i (List.mem_range.1 hi)).2.2.2
    · obtain ⟨b, off, spot⟩ := x
      have hspot : spot = none := by simpa [Addr.add] using World.cell?_spot (hq 0 h0).1
      subst hspot
      refine ⟨b, off, rfl, ?_, fun i t hi => ?_⟩
      · have := World.block_lt_of_cell? w _ (hq 0 h0).1
        rw [addrTx] at this
        exact this
      · obtain ⟨hi1, hi2⟩ := List.getElem?_eq_some_iff.1 hi
        have hil : i < len := by simpa using hi1
        have ht : t = f i := by rw [← hi2]; simp
        subst ht
        have := hq i hil
        rw [addrTx, addrTx, addrTx] at this
        exact ⟨this.1, this.2.1, this.2.2.1⟩
end
end Go.Proofs.Ytogfdhfmamabiaa
