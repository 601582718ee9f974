/-
  No cell of these rows narrows 'for every input' (looked for: loops, veiled, ifaces, maps, wideKeys, modest, calm, conditions, laid).
  DERIVED. THE GIVEN ROWS OF THIS SEAT. 6 by the template 'for every input the law returns true; each argument reads behind the call as it read before'; 0 by the template 'total and deterministic' (their statements: YtofamdjjgkgpianTotals.lean).
  GIVEN WITH THE SEED: the statements are not yours to turn. If you find one false, say at which input.
  Laid BY PROGRAM, IN A SANDBOX (cutbox-rows.mjs): the forced cells as the released guide's own fill.sh prints them over the translation 9dd9e86a281abfbe… (all of the seat's roots in one cut). By AI agents, Wed Nov 11 2026. No macro, syntax, notation, axiom, sorry.
-/
import Derived.Test.YtofamdjjgkgpianChecked
import GoSem.Claim
import GoSem.ClaimJoined
import GoSem.ClaimMapViews
import Derived.JoinedTies
import Derived.KernelRfl
namespace Go.Proofs.Ytofamdjjgkgpian
/- THE CELL 'sum', in the pinned program and in every row, IS THE sha256 OF THE DUMP (.gsa) THAT YtofamdjjgkgpianProg.lean LOADS. Nothing in Lean hashes anything: it is a label: what it is worth is what the hold of that sum in a sandbox is worth. -/
noncomputable def Try.pinned : Pinned := { name := "ytofamdjjgkgpian", sum := "9dd9e86a281abfbe28b4f1fe867c5167a7a07a3463d3c41c79fa4fafeaae800a", checked := Try.checked }
namespace Rows
def none {H : Type} : Left H := { results := [], args := [] }

/-- 'laws.FnExactNextBlank': WHATEVER THE INPUT: true; the input reads as it did. -/
def fnExactNextBlankSpec : ChangeSpec := { name := "fnExactNextBlank", fn := fun _ => fun
  | [d] => { results := [.lit (.bool true)], args := [d] }
  | _ => none }
def fnExactNextBlankRow : OpenClaim := { program := "ytofamdjjgkgpian", sum := "9dd9e86a281abfbe28b4f1fe867c5167a7a07a3463d3c41c79fa4fafeaae800a", func := "loop.example/g00195/laws.FnExactNextBlank", spec := "fnExactNextBlank", apart := false }
def FnExactNextBlankSaid : Prop := fnExactNextBlankRow.holds Try.pinned (OpenSpec.ofChange fnExactNextBlankSpec)

/-- ITS FALSE NEIGHBOUR: 'it returns false'. Refute it at one input. -/
def fnExactNextBlankWrong : ChangeSpec := { name := "fnExactNextBlank", fn := fun _ => fun
  | [d] => { results := [.lit (.bool false)], args := [d] }
  | _ => none }
def FnExactNextBlankWrongFalsely : Prop := fnExactNextBlankRow.holds Try.pinned (OpenSpec.ofChange fnExactNextBlankWrong)

/-- 'laws.FnExactProgram': WHATEVER THE INPUT: true; the input reads as it did. -/
def fnExactProgramSpec : ChangeSpec := { name := "fnExactProgram", fn := fun _ => fun
  | [d1, d2, d3, d4] => { results := [.lit (.bool true)], args := [d1, d2, d3, d4] }
  | _ => none }
def fnExactProgramRow : OpenClaim := { program := "ytofamdjjgkgpian", sum := "9dd9e86a281abfbe28b4f1fe867c5167a7a07a3463d3c41c79fa4fafeaae800a", func := "loop.example/g00195/laws.FnExactProgram", spec := "fnExactProgram", apart := false }
def FnExactProgramSaid : Prop := fnExactProgramRow.holds Try.pinned (OpenSpec.ofChange fnExactProgramSpec)

/-- ITS FALSE NEIGHBOUR: 'it returns false'. Refute it at one input. -/
def fnExactProgramWrong : ChangeSpec := { name := "fnExactProgram", fn := fun _ => fun
  | [d1, d2, d3, d4] => { results := [.lit (.bool false)], args := [d1, d2, d3, d4] }
  | _ => none }
def FnExactProgramWrongFalsely : Prop := fnExactProgramRow.holds Try.pinned (OpenSpec.ofChange fnExactProgramWrong)

/-- 'laws.FnExactWipe': WHATEVER THE INPUT: true; the input reads as it did. -/
def fnExactWipeSpec : ChangeSpec := { name := "fnExactWipe", fn := fun _ => fun
  | [d1, d2] => { results := [.lit (.bool true)], args := [d1, d2] }
  | _ => none }
def fnExactWipeRow : OpenClaim := { program := "ytofamdjjgkgpian", sum := "9dd9e86a281abfbe28b4f1fe867c5167a7a07a3463d3c41c79fa4fafeaae800a", func := "loop.example/g00195/laws.FnExactWipe", spec := "fnExactWipe", apart := false }
def FnExactWipeSaid : Prop := fnExactWipeRow.holds Try.pinned (OpenSpec.ofChange fnExactWipeSpec)

/-- ITS FALSE NEIGHBOUR: 'it returns false'. Refute it at one input. -/
def fnExactWipeWrong : ChangeSpec := { name := "fnExactWipe", fn := fun _ => fun
  | [d1, d2] => { results := [.lit (.bool false)], args := [d1, d2] }
  | _ => none }
def FnExactWipeWrongFalsely : Prop := fnExactWipeRow.holds Try.pinned (OpenSpec.ofChange fnExactWipeWrong)

/-- 'laws.FnExactReadLeaf': WHATEVER THE INPUT: true; the input reads as it did. -/
def fnExactReadLeafSpec : ChangeSpec := { name := "fnExactReadLeaf", fn := fun _ => fun
  | [d1, d2, d3] => { results := [.lit (.bool true)], args := [d1, d2, d3] }
  | _ => none }
def fnExactReadLeafRow : OpenClaim := { program := "ytofamdjjgkgpian", sum := "9dd9e86a281abfbe28b4f1fe867c5167a7a07a3463d3c41c79fa4fafeaae800a", func := "loop.example/g00195/laws.FnExactReadLeaf", spec := "fnExactReadLeaf", apart := false }
def FnExactReadLeafSaid : Prop := fnExactReadLeafRow.holds Try.pinned (OpenSpec.ofChange fnExactReadLeafSpec)

/-- ITS FALSE NEIGHBOUR: 'it returns false'. Refute it at one input. -/
def fnExactReadLeafWrong : ChangeSpec := { name := "fnExactReadLeaf", fn := fun _ => fun
  | [d1, d2, d3] => { results := [.lit (.bool false)], args := [d1, d2, d3] }
  | _ => none }
def FnExactReadLeafWrongFalsely : Prop := fnExactReadLeafRow.holds Try.pinned (OpenSpec.ofChange fnExactReadLeafWrong)

/-- 'laws.FnExactMarkBad': WHATEVER THE INPUT: true; the input reads as it did. -/
def fnExactMarkBadSpec : ChangeSpec := { name := "fnExactMarkBad", fn := fun _ => fun
  | [d1, d2] => { results := [.lit (.bool true)], args := [d1, d2] }
  | _ => none }
def fnExactMarkBadRow : OpenClaim := { program := "ytofamdjjgkgpian", sum := "9dd9e86a281abfbe28b4f1fe867c5167a7a07a3463d3c41c79fa4fafeaae800a", func := "loop.example/g00195/laws.FnExactMarkBad", spec := "fnExactMarkBad", apart := false }
def FnExactMarkBadSaid : Prop := fnExactMarkBadRow.holds Try.pinned (OpenSpec.ofChange fnExactMarkBadSpec)

/-- ITS FALSE NEIGHBOUR: 'it returns false'. Refute it at one input. -/
def fnExactMarkBadWrong : ChangeSpec := { name := "fnExactMarkBad", fn := fun _ => fun
  | [d1, d2] => { results := [.lit (.bool false)], args := [d1, d2] }
  | _ => none }
def FnExactMarkBadWrongFalsely : Prop := fnExactMarkBadRow.holds Try.pinned (OpenSpec.ofChange fnExactMarkBadWrong)

/-- 'laws.FnExactPageOk': WHATEVER THE INPUT: true; the input reads as it did. -/
def fnExactPageOkSpec : ChangeSpec := { name := "fnExactPageOk", fn := fun _ => fun
  | [d] => { results := [.lit (.bool true)], args := [d] }
  | _ => none }
def fnExactPageOkRow : OpenClaim := { program := "ytofamdjjgkgpian", sum := "9dd9e86a281abfbe28b4f1fe867c5167a7a07a3463d3c41c79fa4fafeaae800a", func := "loop.example/g00195/laws.FnExactPageOk", spec := "fnExactPageOk", apart := false }
def FnExactPageOkSaid : Prop := fnExactPageOkRow.holds Try.pinned (OpenSpec.ofChange fnExactPageOkSpec)

/-- ITS FALSE NEIGHBOUR: 'it returns false'. Refute it at one input. -/
def fnExactPageOkWrong : ChangeSpec := { name := "fnExactPageOk", fn := fun _ => fun
  | [d] => { results := [.lit (.bool false)], args := [d] }
  | _ => none }
def FnExactPageOkWrongFalsely : Prop := fnExactPageOkRow.holds Try.pinned (OpenSpec.ofChange fnExactPageOkWrong)

/- THE SECOND FORM. 'bulk': how many values and letters a reading holds, each counted each time it is reached (what is shared counts as often as it is met; a slice's spare places count too). A statement '..UptoSaid' is the law's where the arguments, and the package variables that the reading takes, are together of bulk at most 1048576: NARROWER than '..Said'. Prove '..Said' where nothing that the law and all that it calls make is longer than what came in: it says more and counts as full. Else prove '..UptoSaid'. A law counts once. -/
mutual
def uptoBulk {H : Type} : DataW H → Nat
  | .lit (.string bytes) => bytes.length + 1
  | .lit _ => 1
  | .nil => 1
  | .ptr d => uptoBulk d + 1
  | .slice elems spare => uptoBulkAll elems + uptoBulkAll spare + 1
  | .agg parts => uptoBulkAll parts + 1
  | .iface _ d => uptoBulk d + 1
  | .map entries => uptoBulkEntries entries + 1
  | .held _ => 1
def uptoBulkAll {H : Type} : List (DataW H) → Nat
  | [] => 0
  | d :: r => uptoBulk d + uptoBulkAll r
def uptoBulkEntries {H : Type} : List (Lit × DataW H) → Nat
  | [] => 0
  | x :: r => uptoBulkEntry x + uptoBulkEntries r
def uptoBulkEntry {H : Type} : Lit × DataW H → Nat
  | (.string bytes, d) => bytes.length + uptoBulk d + 1
  | (_, d) => uptoBulk d + 1
 end
def uptoSmall : (H : Type) → List (DataW H) → Bool := fun _ ds => decide (uptoBulkAll ds ≤ 1048576)
def OpenSpec.upto (s : _root_.Go.ChangeSpec) : _root_.Go.OpenSpec := { _root_.Go.OpenSpec.ofChange s with cond := some uptoSmall }

/-- 'laws.FnExactNextBlank', WHERE WHAT IT READS IS OF BULK AT MOST 1048576: true; the input reads as it did. -/
def fnExactNextBlankUptoRow : OpenClaim := { program := "ytofamdjjgkgpian", sum := "9dd9e86a281abfbe28b4f1fe867c5167a7a07a3463d3c41c79fa4fafeaae800a", func := "loop.example/g00195/laws.FnExactNextBlank", spec := "fnExactNextBlank", apart := false, narrowed := true }
def FnExactNextBlankUptoSaid : Prop := fnExactNextBlankUptoRow.holds Try.pinned (OpenSpec.upto fnExactNextBlankSpec)

/-- 'laws.FnExactProgram', WHERE WHAT IT READS IS OF BULK AT MOST 1048576: true; the input reads as it did. -/
def fnExactProgramUptoRow : OpenClaim := { program := "ytofamdjjgkgpian", sum := "9dd9e86a281abfbe28b4f1fe867c5167a7a07a3463d3c41c79fa4fafeaae800a", func := "loop.example/g00195/laws.FnExactProgram", spec := "fnExactProgram", apart := false, narrowed := true }
def FnExactProgramUptoSaid : Prop := fnExactProgramUptoRow.holds Try.pinned (OpenSpec.upto fnExactProgramSpec)

/-- 'laws.FnExactWipe', WHERE WHAT IT READS IS OF BULK AT MOST 1048576: true; the input reads as it did. -/
def fnExactWipeUptoRow : OpenClaim := { program := "ytofamdjjgkgpian", sum := "9dd9e86a281abfbe28b4f1fe867c5167a7a07a3463d3c41c79fa4fafeaae800a", func := "loop.example/g00195/laws.FnExactWipe", spec := "fnExactWipe", apart := false, narrowed := true }
def FnExactWipeUptoSaid : Prop := fnExactWipeUptoRow.holds Try.pinned (OpenSpec.upto fnExactWipeSpec)

/-- 'laws.FnExactReadLeaf', WHERE WHAT IT READS IS OF BULK AT MOST 1048576: true; the input reads as it did. -/
def fnExactReadLeafUptoRow : OpenClaim := { program := "ytofamdjjgkgpian", sum := "9dd9e86a281abfbe28b4f1fe867c5167a7a07a3463d3c41c79fa4fafeaae800a", func := "loop.example/g00195/laws.FnExactReadLeaf", spec := "fnExactReadLeaf", apart := false, narrowed := true }
def FnExactReadLeafUptoSaid : Prop := fnExactReadLeafUptoRow.holds Try.pinned (OpenSpec.upto fnExactReadLeafSpec)

/-- 'laws.FnExactMarkBad', WHERE WHAT IT READS IS OF BULK AT MOST 1048576: true; the input reads as it did. -/
def fnExactMarkBadUptoRow : OpenClaim := { program := "ytofamdjjgkgpian", sum := "9dd9e86a281abfbe28b4f1fe867c5167a7a07a3463d3c41c79fa4fafeaae800a", func := "loop.example/g00195/laws.FnExactMarkBad", spec := "fnExactMarkBad", apart := false, narrowed := true }
def FnExactMarkBadUptoSaid : Prop := fnExactMarkBadUptoRow.holds Try.pinned (OpenSpec.upto fnExactMarkBadSpec)

/-- 'laws.FnExactPageOk', WHERE WHAT IT READS IS OF BULK AT MOST 1048576: true; the input reads as it did. -/
def fnExactPageOkUptoRow : OpenClaim := { program := "ytofamdjjgkgpian", sum := "9dd9e86a281abfbe28b4f1fe867c5167a7a07a3463d3c41c79fa4fafeaae800a", func := "loop.example/g00195/laws.FnExactPageOk", spec := "fnExactPageOk", apart := false, narrowed := true }
def FnExactPageOkUptoSaid : Prop := fnExactPageOkUptoRow.holds Try.pinned (OpenSpec.upto fnExactPageOkSpec)

end Rows
end Go.Proofs.Ytofamdjjgkgpian
