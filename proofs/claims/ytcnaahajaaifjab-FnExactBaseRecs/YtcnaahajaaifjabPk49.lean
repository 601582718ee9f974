/-
  LawBasF; OpVl
-/
import Derived.Test.YtcnaahajaaifjabLawBas
import Derived.Test.YtcnaahajaaifjabIBase
import Derived.Test.YtcnaahajaaifjabPk8
import Derived.ProofKit
import Derived.OpenShut
import Derived.ShutString
import Derived.Deep.Strs
import Derived.Deep.Slices
/-
  FnExactBaseRecs, whole.
-/
namespace Go.Proofs.Ytcnaahajaaifjab
open Go.RowKit
open Words

theorem lawBas (va : Option Addr) (vl vc : Nat) (ad : Option Addr) (len cap : Nat) (nx : Int) (vs : List (Int × Int)) (rs : List Kw) (w : World) (h : VlRow w va vl vs) (hk : KnRd w ad len rs) :
    Calls Try.prog 6 #[.agg #[.slice va vl vc, .slice ad len cap, .int .i64 nx]] w fun e w' => e = .returned (.bool true) ∧ Below w.heap.size w w' := lbas_of va vl vc ad len cap nx vs rs w h hk ibase
end Go.Proofs.Ytcnaahajaaifjab

/-
  A Vol that comes in as an argument, and a row of them.
-/
namespace Go.Proofs.Ytcnaahajaaifjab
open Go.ChangeShapes Go.WideShapes Go.ChangeAt Go.RowKit Go.Deep
set_option maxRecDepth 100000

section
variable {H : Type} {enc : TypeId × Value → H} {w : World} {base : Nat} {sp : Nat → Bool} {held : Bool}
theorem cells9Vl : Try.prog.cellsOf 9 = 1 := by kernel_rfl
theorem cells3Vl : Try.prog.cellsOf 3 = 1 := by kernel_rfl
theorem cells4Vl : Try.prog.cellsOf 4 = 1 := by kernel_rfl
theorem cellsVl : Try.prog.cellsOf 90 = 2 := by kernel_rfl
theorem addrVl (b off j : Nat) : (⟨b, off, none⟩ : Addr).add j = ⟨b, off + j, none⟩ := by
  simp only [Addr.add]
  split <;> simp_all
theorem trodVl {P : Program} {t : TypeId} {f0 f1 : Field} {fuel : Nat} {cs : List Value} {x : DataW H × List MemPlace} (ht : P.underlying t = some (.struct #[f0, f1])) (h : DataW.trod enc P w base sp held fuel t cs = some x) :
    ∃ y0 y1 n, DataW.trod enc P w base sp held n f0.type ((cs.drop f0.offset).take (P.cellsOf f0.type)) = some y0 ∧ DataW.trod enc P w base sp held n f1.type ((cs.drop f1.offset).take (P.cellsOf f1.type)) = some y1 := by
  obtain ⟨xs, n, _, rfl, hl, hlen, hf⟩ := DataW.trod_struct ht h
  match xs, hlen with
  | [y0, y1], _ => exact ⟨y0, y1, n, by simpa using hf 0 f0 rfl, by simpa using hf 1 f1 rfl⟩

theorem open_vl {r : Reach} {b0 : Nat} {v : Value} {d : DataW H} {ps : List MemPlace} (hval : Value.okWide Try.prog w r b0 90 v) (hd : DataW.Trod enc Try.prog w base sp held 90 v d ps) :
    ∃ (x0 : Int) (x1 : Int), v = .agg #[.int .i64 x0, .int .i64 x1] ∧ True := by
  obtain ⟨cs, rfl, hcs⟩ := okWide_struct Try.underlying90 hval
  obtain ⟨fuel, hf⟩ := hd
  obtain ⟨y0, y1, n, h0, h1⟩ := trodVl Try.underlying90 hf
  rw [cellsVl] at hcs
  simp only [cells3Vl, Value.cells] at h0 h1
  match cs, hcs with
  | ⟨[u0, u1]⟩, _ =>
    obtain ⟨k0, e0, -, -⟩ := DataW.trod_int Try.underlying3 h0
    obtain ⟨k1, e1, -, -⟩ := DataW.trod_int Try.underlying3 h1
    simp at e0 e1
    subst e0 e1
    exact ⟨k0, k1, rfl, trivial⟩
theorem open_vls {a : Option Addr} {len cap : Nat} {d : DataW H} {ps : List MemPlace} (hd : DataW.Trod enc Try.prog w base sp held 22 (.slice a len cap) d ps) : ∃ ls, VlRow w a len ls := by
  obtain ⟨fuel, hf⟩ := hd
  rcases open_slice Try.underlying22 hf with ⟨hcs, _⟩ | ⟨x, l, c, m, n, D, Pl, hcs, _, hl, hm, hmm, _, hx⟩
  · simp [Value.cells] at hcs
    obtain ⟨rfl, rfl, rfl⟩ := hcs
    exact ⟨[], rfl, by omega, by simp, fun h => by omega⟩
  · simp [Value.cells] at hcs
    obtain ⟨rfl, rfl, rfl⟩ := hcs
    have hlm : len ≤ m := by rw [hmm]; split <;> omega
    have each : ∀ i, i < len → ∃ t : Int × Int, w.cell? (x.add (i * 2)) = some (.int .i64 t.1) ∧ w.cell? (x.add (i * 2 + 1)) = some (.int .i64 t.2) ∧ True := by
      intro i hi
      obtain ⟨cs, h1, h2⟩ := hx i (by omega)
      rw [cellsVl] at h1
      obtain ⟨_, hlen, hcell⟩ := World.cells?_some h1
      obtain ⟨y0, y1, k, g0, g1⟩ := trodVl Try.underlying90 h2
      simp only [cells3Vl] at g0 g1
      match cs, hlen with
      | [u0, u1], _ =>
        obtain ⟨k0, e0, -, -⟩ := DataW.trod_int Try.underlying3 g0
        obtain ⟨k1, e1, -, -⟩ := DataW.trod_int Try.underlying3 g1
        simp at e0 e1
        subst e0 e1
        have f0 := hcell 0 (by simp)
        have f1 := hcell 1 (by simp)
        rw [add_add] at f0 f1
        exact ⟨(k0, k1), by simpa using f0, by simpa using f1, trivial⟩
    obtain ⟨f, hq⟩ := choose_lt each
    refine ⟨(List.range len).map f, by simp, by omega, ?_, fun h0 => ?_⟩
    · intro t ht
      obtain ⟨i, hi, rfl⟩ := List.mem_map.1 ht
      exact (hq i (List.mem_range.1 hi)).2.2
    · obtain ⟨b, off, spot⟩ := x
      have hspot : spot = none := by simpa [Addr.add] using World.cell?_spot (hq 0 h0).1
      subst hspot
      refine ⟨b, off, rfl, ?_, fun i t hi => ?_⟩
      · have := World.block_lt_of_cell? w _ (hq 0 h0).1
        rw [addrVl] at this
        exact this
      · obtain ⟨hi1, hi2⟩ := List.getElem?_eq_some_iff.1 hi
        have hil : i < len := by simpa using hi1
        have ht : t = f i := by rw [← hi2]; simp
        subst ht
        have := hq i hil
        rw [addrVl, addrVl] at this
        exact ⟨this.1, this.2.1⟩
end
end Go.Proofs.Ytcnaahajaaifjab
