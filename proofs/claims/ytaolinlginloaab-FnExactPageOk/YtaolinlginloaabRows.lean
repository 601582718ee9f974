/-
  No cell of these rows narrows 'for every input' (looked for: loops, veiled, ifaces, maps, wideKeys, modest, calm, conditions, laid).
  DERIVED. THE GIVEN ROWS OF THIS SEAT. 3 by the template 'for every input the law returns true; each argument reads behind the call as it read before'; 0 by the template 'total and deterministic' (their statements: YtaolinlginloaabTotals.lean).
  GIVEN WITH THE SEED: the statements are not yours to turn. If you find one false, say at which input.
  Laid BY PROGRAM, IN A SANDBOX (cutbox-rows.mjs): the forced cells as the released guide's own fill.sh prints them over the translation 9f562a802bb9a92c… (all of the seat's roots in one cut). By AI agents, Wed Nov 11 2026. No macro, syntax, notation, axiom, sorry.
-/
import Derived.Test.YtaolinlginloaabChecked
import GoSem.Claim
import GoSem.ClaimJoined
import GoSem.ClaimMapViews
import Derived.JoinedTies
import Derived.KernelRfl
namespace Go.Proofs.Ytaolinlginloaab
/- THE CELL 'sum', in the pinned program and in every row, IS THE sha256 OF THE DUMP (.gsa) THAT YtaolinlginloaabProg.lean LOADS. Nothing in Lean hashes anything: it is a label: what it is worth is what the hold of that sum in a sandbox is worth. -/
noncomputable def Try.pinned : Pinned := { name := "ytaolinlginloaab", sum := "9f562a802bb9a92cbf68f602c0a217c9a3f0acf4ce45c9a1879cd17531157101", checked := Try.checked }
namespace Rows
def none {H : Type} : Left H := { results := [], args := [] }

/-- 'laws.FnExactUnpackText': WHATEVER THE INPUT: true; the input reads as it did. -/
def fnExactUnpackTextSpec : ChangeSpec := { name := "fnExactUnpackText", fn := fun _ => fun
  | [d] => { results := [.lit (.bool true)], args := [d] }
  | _ => none }
def fnExactUnpackTextRow : OpenClaim := { program := "ytaolinlginloaab", sum := "9f562a802bb9a92cbf68f602c0a217c9a3f0acf4ce45c9a1879cd17531157101", func := "loop.example/g00195/laws.FnExactUnpackText", spec := "fnExactUnpackText", plainKeys := false, apart := false }
def FnExactUnpackTextSaid : Prop := fnExactUnpackTextRow.holds Try.pinned (OpenSpec.ofChange fnExactUnpackTextSpec)

/-- ITS FALSE NEIGHBOUR: 'it returns false'. Refute it at one input. -/
def fnExactUnpackTextWrong : ChangeSpec := { name := "fnExactUnpackText", fn := fun _ => fun
  | [d] => { results := [.lit (.bool false)], args := [d] }
  | _ => none }
def FnExactUnpackTextWrongFalsely : Prop := fnExactUnpackTextRow.holds Try.pinned (OpenSpec.ofChange fnExactUnpackTextWrong)

/-- 'laws.FnExactHasherOk': WHATEVER THE INPUT: true; the input reads as it did. -/
def fnExactHasherOkSpec : ChangeSpec := { name := "fnExactHasherOk", fn := fun _ => fun
  | [d] => { results := [.lit (.bool true)], args := [d] }
  | _ => none }
def fnExactHasherOkRow : OpenClaim := { program := "ytaolinlginloaab", sum := "9f562a802bb9a92cbf68f602c0a217c9a3f0acf4ce45c9a1879cd17531157101", func := "loop.example/g00195/laws.FnExactHasherOk", spec := "fnExactHasherOk", plainKeys := false, apart := false }
def FnExactHasherOkSaid : Prop := fnExactHasherOkRow.holds Try.pinned (OpenSpec.ofChange fnExactHasherOkSpec)

/-- ITS FALSE NEIGHBOUR: 'it returns false'. Refute it at one input. -/
def fnExactHasherOkWrong : ChangeSpec := { name := "fnExactHasherOk", fn := fun _ => fun
  | [d] => { results := [.lit (.bool false)], args := [d] }
  | _ => none }
def FnExactHasherOkWrongFalsely : Prop := fnExactHasherOkRow.holds Try.pinned (OpenSpec.ofChange fnExactHasherOkWrong)

/-- 'laws.FnExactPageOk': WHATEVER THE INPUT: true; the input reads as it did. -/
def fnExactPageOkSpec : ChangeSpec := { name := "fnExactPageOk", fn := fun _ => fun
  | [d] => { results := [.lit (.bool true)], args := [d] }
  | _ => none }
def fnExactPageOkRow : OpenClaim := { program := "ytaolinlginloaab", sum := "9f562a802bb9a92cbf68f602c0a217c9a3f0acf4ce45c9a1879cd17531157101", func := "loop.example/g00195/laws.FnExactPageOk", spec := "fnExactPageOk", plainKeys := false, apart := false }
def FnExactPageOkSaid : Prop := fnExactPageOkRow.holds Try.pinned (OpenSpec.ofChange fnExactPageOkSpec)

/-- ITS FALSE NEIGHBOUR: 'it returns false'. Refute it at one input. -/
def fnExactPageOkWrong : ChangeSpec := { name := "fnExactPageOk", fn := fun _ => fun
  | [d] => { results := [.lit (.bool false)], args := [d] }
  | _ => none }
def FnExactPageOkWrongFalsely : Prop := fnExactPageOkRow.holds Try.pinned (OpenSpec.ofChange fnExactPageOkWrong)

/- THE SECOND FORM. 'bulk': how many values and letters a reading holds, each counted each time it is reached (what is shared counts as often as it is met; a slice's spare places count too). A statement '..UptoSaid' is the law's where the arguments, and the package variables that the reading takes, are together of bulk at most 1048576: NARROWER than '..Said'. Prove '..Said' where nothing that the law and all that it calls make is longer than what came in: it says more and counts as full. Else prove '..UptoSaid'. A law counts once. -/
mutual
def uptoBulk {H : Type} : DataW H → Nat
  | .lit (.string bytes) => bytes.length + 1
  | .lit _ => 1
  | .nil => 1
  | .ptr d => uptoBulk d + 1
  | .slice elems spare => uptoBulkAll elems + uptoBulkAll spare + 1
  | .agg parts => uptoBulkAll parts + 1
  | .iface _ d => uptoBulk d + 1
  | .map entries => uptoBulkEntries entries + 1
  | .held _ => 1
def uptoBulkAll {H : Type} : List (DataW H) → Nat
  | [] => 0
  | d :: r => uptoBulk d + uptoBulkAll r
def uptoBulkEntries {H : Type} : List (Lit × DataW H) → Nat
  | [] => 0
  | x :: r => uptoBulkEntry x + uptoBulkEntries r
def uptoBulkEntry {H : Type} : Lit × DataW H → Nat
  | (.string bytes, d) => bytes.length + uptoBulk d + 1
  | (_, d) => uptoBulk d + 1
 end
def uptoSmall : (H : Type) → List (DataW H) → Bool := fun _ ds => decide (uptoBulkAll ds ≤ 1048576)
def OpenSpec.upto (s : _root_.Go.ChangeSpec) : _root_.Go.OpenSpec := { _root_.Go.OpenSpec.ofChange s with cond := some uptoSmall }

/-- 'laws.FnExactUnpackText', WHERE WHAT IT READS IS OF BULK AT MOST 1048576: true; the input reads as it did. -/
def fnExactUnpackTextUptoRow : OpenClaim := { program := "ytaolinlginloaab", sum := "9f562a802bb9a92cbf68f602c0a217c9a3f0acf4ce45c9a1879cd17531157101", func := "loop.example/g00195/laws.FnExactUnpackText", spec := "fnExactUnpackText", plainKeys := false, apart := false, narrowed := true }
def FnExactUnpackTextUptoSaid : Prop := fnExactUnpackTextUptoRow.holds Try.pinned (OpenSpec.upto fnExactUnpackTextSpec)

/-- 'laws.FnExactHasherOk', WHERE WHAT IT READS IS OF BULK AT MOST 1048576: true; the input reads as it did. -/
def fnExactHasherOkUptoRow : OpenClaim := { program := "ytaolinlginloaab", sum := "9f562a802bb9a92cbf68f602c0a217c9a3f0acf4ce45c9a1879cd17531157101", func := "loop.example/g00195/laws.FnExactHasherOk", spec := "fnExactHasherOk", plainKeys := false, apart := false, narrowed := true }
def FnExactHasherOkUptoSaid : Prop := fnExactHasherOkUptoRow.holds Try.pinned (OpenSpec.upto fnExactHasherOkSpec)

/-- 'laws.FnExactPageOk', WHERE WHAT IT READS IS OF BULK AT MOST 1048576: true; the input reads as it did. -/
def fnExactPageOkUptoRow : OpenClaim := { program := "ytaolinlginloaab", sum := "9f562a802bb9a92cbf68f602c0a217c9a3f0acf4ce45c9a1879cd17531157101", func := "loop.example/g00195/laws.FnExactPageOk", spec := "fnExactPageOk", plainKeys := false, apart := false, narrowed := true }
def FnExactPageOkUptoSaid : Prop := fnExactPageOkUptoRow.holds Try.pinned (OpenSpec.upto fnExactPageOkSpec)

end Rows
end Go.Proofs.Ytaolinlginloaab
