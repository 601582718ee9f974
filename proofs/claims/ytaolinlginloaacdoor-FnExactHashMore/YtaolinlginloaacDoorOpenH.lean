/-
  A hasher that comes in as an argument: opened, and shut again.
-/
import Derived.Test.YtaolinlginloaacDoorBase
import Derived.ProofKit
import Derived.OpenShut
import Derived.ShutString
import Derived.Deep.Strs
namespace Go.Proofs.YtaolinlginloaacDoor
open Go.ChangeShapes Go.WideShapes Go.ChangeAt Go.RowKit Go.Deep

section
variable {H : Type} {enc : TypeId × Value → H} {w : World} {base : Nat} {sp : Nat → Bool} {held : Bool}
set_option maxRecDepth 100000 in
theorem cells9 : Tryd.prog.cellsOf 9 = 1 := by kernel_rfl
set_option maxRecDepth 100000 in
theorem cells3 : Tryd.prog.cellsOf 3 = 1 := by kernel_rfl
set_option maxRecDepth 100000 in
theorem cellsH : Tryd.prog.cellsOf 23 = 3 := by kernel_rfl

set_option maxRecDepth 100000 in
theorem open_h {r : Reach} {b0 : Nat} {v : Value} {d : DataW H} {ps : List MemPlace} (hval : Value.okWide Tryd.prog w r b0 23 v) (hd : DataW.Trod enc Tryd.prog w base sp held 23 v d ps) :
    ∃ (s t : ByteArray) (c : Int), v = .agg #[.string s, .string t, .int .i64 c] ∧ d = .agg [.lit (.string s.data.toList), .lit (.string t.data.toList), .lit (.int .i64 c)] ∧ ps = [] ∧ s.size ≤ maxLen ∧ t.size ≤ maxLen ∧ (Lit.int .i64 c).wf = true := by
  obtain ⟨cs, rfl, hcs⟩ := okWide_struct Tryd.underlying23 hval
  obtain ⟨fuel, hf⟩ := hd
  obtain ⟨y0, y1, y2, n, hx, hl, h0, h1, h2⟩ := trod_struct3 Tryd.underlying23 hf
  rw [cellsH] at hcs
  simp only [cells9, cells3, Value.cells] at h0 h1 h2
  match cs, hcs with
  | ⟨[a, b, c]⟩, _ =>
    obtain ⟨s, e0, rfl, hs⟩ := DataW.trod_string Tryd.underlying9 h0
    obtain ⟨t, e1, rfl, ht⟩ := DataW.trod_string Tryd.underlying9 h1
    obtain ⟨k, e2, rfl, hk⟩ := DataW.trod_int Tryd.underlying3 h2
    simp at e0 e1 e2
    subst e0 e1 e2
    simp at hx
    exact ⟨s, t, k, rfl, hx.1, hx.2, hs, ht, hk⟩
set_option maxRecDepth 100000 in
theorem shut_h {s t : ByteArray} {c : Int} (hs : s.size ≤ maxLen) (ht : t.size ≤ maxLen) (hc : (Lit.int .i64 c).wf = true) :
    DataW.Trod enc Tryd.prog w base sp held 23 (.agg #[.string s, .string t, .int .i64 c]) (.agg [.lit (.string s.data.toList), .lit (.string t.data.toList), .lit (.int .i64 c)]) [] := by
  refine ⟨1 + 1, ?_⟩
  have := trod_struct3_mk (enc := enc) (P := Tryd.prog) (w := w) (base := base) (spare := sp) (held := held) (n := 1) (cs := [.string s, .string t, .int .i64 c])
    (y0 := (.lit (.string s.data.toList), [])) (y1 := (.lit (.string t.data.toList), [])) (y2 := (.lit (.int .i64 c), [])) Tryd.underlying23 (by rw [cellsH]; rfl)
    (by simp [cells9, DataW.trod, Tryd.underlying9, hs]) (by simp [cells9, DataW.trod, Tryd.underlying9, ht]) (by simp [cells3, DataW.trod, Tryd.underlying3, hc])
  simpa [Value.cells] using this
end
end Go.Proofs.YtaolinlginloaacDoor
