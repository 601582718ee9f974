/-
  A page that comes in as an argument.
-/
import Derived.Test.YtaolinlginloaacDoorPq0
import Derived.ProofKit
import Derived.OpenShut
import Derived.ShutString
import Derived.Deep.Strs
namespace Go.Proofs.YtaolinlginloaacDoor
open Go.ChangeShapes Go.WideShapes Go.ChangeAt Go.RowKit Go.Deep
set_option maxRecDepth 100000

section
variable {H : Type} {enc : TypeId × Value → H} {w : World} {base : Nat} {sp : Nat → Bool} {held : Bool}
theorem pcells9 : Tryd.prog.cellsOf 9 = 1 := by kernel_rfl
theorem pcells3 : Tryd.prog.cellsOf 3 = 1 := by kernel_rfl
theorem cellsPg : Tryd.prog.cellsOf 56 = 6 := by kernel_rfl

theorem trod_six {P : Program} {t : TypeId} {f0 f1 f2 f3 f4 f5 : Field} {fuel : Nat} {cs : List Value} {x : DataW H × List MemPlace} (ht : P.underlying t = some (.struct #[f0, f1, f2, f3, f4, f5])) (h : DataW.trod enc P w base sp held fuel t cs = some x) :
    ∃ y0 y1 y2 y3 y4 y5 n, DataW.trod enc P w base sp held n f0.type ((cs.drop f0.offset).take (P.cellsOf f0.type)) = some y0 ∧
      DataW.trod enc P w base sp held n f1.type ((cs.drop f1.offset).take (P.cellsOf f1.type)) = some y1 ∧ DataW.trod enc P w base sp held n f2.type ((cs.drop f2.offset).take (P.cellsOf f2.type)) = some y2 ∧
      DataW.trod enc P w base sp held n f3.type ((cs.drop f3.offset).take (P.cellsOf f3.type)) = some y3 ∧ DataW.trod enc P w base sp held n f4.type ((cs.drop f4.offset).take (P.cellsOf f4.type)) = some y4 ∧
      DataW.trod enc P w base sp held n f5.type ((cs.drop f5.offset).take (P.cellsOf f5.type)) = some y5 := by
  obtain ⟨xs, n, _, rfl, hl, hlen, hf⟩ := DataW.trod_struct ht h
  match xs, hlen with
  | [y0, y1, y2, y3, y4, y5], _ => exact ⟨y0, y1, y2, y3, y4, y5, n, by simpa using hf 0 f0 rfl, by simpa using hf 1 f1 rfl, by simpa using hf 2 f2 rfl, by simpa using hf 3 f3 rfl, by simpa using hf 4 f4 rfl, by simpa using hf 5 f5 rfl⟩

theorem open_page {r : Reach} {b0 : Nat} {v : Value} {d : DataW H} {ps : List MemPlace} (hval : Value.okWide Tryd.prog w r b0 56 v) (hd : DataW.Trod enc Tryd.prog w base sp held 56 v d ps) :
    ∃ (a b c e f : Int) (t : ByteArray), v = .agg #[.int .i64 a, .int .i64 b, .int .i64 c, .int .i64 e, .int .i64 f, .string t] ∧ t.size ≤ maxLen := by
  obtain ⟨cs, rfl, hcs⟩ := okWide_struct Tryd.underlying56 hval
  obtain ⟨fuel, hf⟩ := hd
  obtain ⟨y0, y1, y2, y3, y4, y5, n, h0, h1, h2, h3, h4, h5⟩ := trod_six Tryd.underlying56 hf
  rw [cellsPg] at hcs
  simp only [pcells9, pcells3, Value.cells] at h0 h1 h2 h3 h4 h5
  match cs, hcs with
  | ⟨[a, b, c, e, f, g]⟩, _ =>
    obtain ⟨k0, e0, -, -⟩ := DataW.trod_int Tryd.underlying3 h0
    obtain ⟨k1, e1, -, -⟩ := DataW.trod_int Tryd.underlying3 h1
    obtain ⟨k2, e2, -, -⟩ := DataW.trod_int Tryd.underlying3 h2
    obtain ⟨k3, e3, -, -⟩ := DataW.trod_int Tryd.underlying3 h3
    obtain ⟨k4, e4, -, -⟩ := DataW.trod_int Tryd.underlying3 h4
    obtain ⟨t, e5, -, ht⟩ := DataW.trod_string Tryd.underlying9 h5
    simp at e0 e1 e2 e3 e4 e5
    subst e0 e1 e2 e3 e4 e5
    exact ⟨k0, k1, k2, k3, k4, t, rfl, ht⟩
end
end Go.Proofs.YtaolinlginloaacDoor
