/-
  No cell of these rows narrows 'for every input' (looked for: loops, veiled, ifaces, maps, wideKeys, modest, calm, conditions, laid).
  DERIVED. THE GIVEN ROWS OF THIS SEAT. 6 by the template 'for every input the law returns true; each argument reads behind the call as it read before'; 0 by the template 'total and deterministic' (their statements: YtcfkbemlldfnnamTotals.lean).
  GIVEN WITH THE SEED: the statements are not yours to turn. If you find one false, say at which input.
  Laid BY PROGRAM, IN A SANDBOX (cutbox-rows.mjs): the forced cells as the released guide's own fill.sh prints them over the translation 333971c726cc5392… (all of the seat's roots in one cut). By AI agents, Wed Nov 11 2026. No macro, syntax, notation, axiom, sorry.
-/
import Derived.Test.YtcfkbemlldfnnamChecked
import GoSem.Claim
import GoSem.ClaimJoined
import GoSem.ClaimMapViews
import Derived.JoinedTies
import Derived.KernelRfl
namespace Go.Proofs.Ytcfkbemlldfnnam
/- THE CELL 'sum', in the pinned program and in every row, IS THE sha256 OF THE DUMP (.gsa) THAT YtcfkbemlldfnnamProg.lean LOADS. Nothing in Lean hashes anything: it is a label: what it is worth is what the hold of that sum in a sandbox is worth. -/
noncomputable def Try.pinned : Pinned := { name := "ytcfkbemlldfnnam", sum := "333971c726cc53928df0172d348652a2e7d8ea1db65e7c4a0e586c007bcacc1b", checked := Try.checked }
namespace Rows
def none {H : Type} : Left H := { results := [], args := [] }

/-- 'laws.FnExactTokensOf': WHATEVER THE INPUT: true; the input reads as it did. -/
def fnExactTokensOfSpec : ChangeSpec := { name := "fnExactTokensOf", fn := fun _ => fun
  | [d] => { results := [.lit (.bool true)], args := [d] }
  | _ => none }
def fnExactTokensOfRow : OpenClaim := { program := "ytcfkbemlldfnnam", sum := "333971c726cc53928df0172d348652a2e7d8ea1db65e7c4a0e586c007bcacc1b", func := "loop.example/g00195/laws.FnExactTokensOf", spec := "fnExactTokensOf", plainKeys := false, apart := false }
def FnExactTokensOfSaid : Prop := fnExactTokensOfRow.holds Try.pinned (OpenSpec.ofChange fnExactTokensOfSpec)

/-- ITS FALSE NEIGHBOUR: 'it returns false'. Refute it at one input. -/
def fnExactTokensOfWrong : ChangeSpec := { name := "fnExactTokensOf", fn := fun _ => fun
  | [d] => { results := [.lit (.bool false)], args := [d] }
  | _ => none }
def FnExactTokensOfWrongFalsely : Prop := fnExactTokensOfRow.holds Try.pinned (OpenSpec.ofChange fnExactTokensOfWrong)

/-- 'laws.FnExactPlainOf': WHATEVER THE INPUT: true; the input reads as it did. -/
def fnExactPlainOfSpec : ChangeSpec := { name := "fnExactPlainOf", fn := fun _ => fun
  | [d] => { results := [.lit (.bool true)], args := [d] }
  | _ => none }
def fnExactPlainOfRow : OpenClaim := { program := "ytcfkbemlldfnnam", sum := "333971c726cc53928df0172d348652a2e7d8ea1db65e7c4a0e586c007bcacc1b", func := "loop.example/g00195/laws.FnExactPlainOf", spec := "fnExactPlainOf", plainKeys := false, apart := false }
def FnExactPlainOfSaid : Prop := fnExactPlainOfRow.holds Try.pinned (OpenSpec.ofChange fnExactPlainOfSpec)

/-- ITS FALSE NEIGHBOUR: 'it returns false'. Refute it at one input. -/
def fnExactPlainOfWrong : ChangeSpec := { name := "fnExactPlainOf", fn := fun _ => fun
  | [d] => { results := [.lit (.bool false)], args := [d] }
  | _ => none }
def FnExactPlainOfWrongFalsely : Prop := fnExactPlainOfRow.holds Try.pinned (OpenSpec.ofChange fnExactPlainOfWrong)

/-- 'laws.FnExactPackText': WHATEVER THE INPUT: true; the input reads as it did. -/
def fnExactPackTextSpec : ChangeSpec := { name := "fnExactPackText", fn := fun _ => fun
  | [d] => { results := [.lit (.bool true)], args := [d] }
  | _ => none }
def fnExactPackTextRow : OpenClaim := { program := "ytcfkbemlldfnnam", sum := "333971c726cc53928df0172d348652a2e7d8ea1db65e7c4a0e586c007bcacc1b", func := "loop.example/g00195/laws.FnExactPackText", spec := "fnExactPackText", plainKeys := false, apart := false }
def FnExactPackTextSaid : Prop := fnExactPackTextRow.holds Try.pinned (OpenSpec.ofChange fnExactPackTextSpec)

/-- ITS FALSE NEIGHBOUR: 'it returns false'. Refute it at one input. -/
def fnExactPackTextWrong : ChangeSpec := { name := "fnExactPackText", fn := fun _ => fun
  | [d] => { results := [.lit (.bool false)], args := [d] }
  | _ => none }
def FnExactPackTextWrongFalsely : Prop := fnExactPackTextRow.holds Try.pinned (OpenSpec.ofChange fnExactPackTextWrong)

/-- 'laws.FnExactUnpackText': WHATEVER THE INPUT: true; the input reads as it did. -/
def fnExactUnpackTextSpec : ChangeSpec := { name := "fnExactUnpackText", fn := fun _ => fun
  | [d] => { results := [.lit (.bool true)], args := [d] }
  | _ => none }
def fnExactUnpackTextRow : OpenClaim := { program := "ytcfkbemlldfnnam", sum := "333971c726cc53928df0172d348652a2e7d8ea1db65e7c4a0e586c007bcacc1b", func := "loop.example/g00195/laws.FnExactUnpackText", spec := "fnExactUnpackText", plainKeys := false, apart := false }
def FnExactUnpackTextSaid : Prop := fnExactUnpackTextRow.holds Try.pinned (OpenSpec.ofChange fnExactUnpackTextSpec)

/-- ITS FALSE NEIGHBOUR: 'it returns false'. Refute it at one input. -/
def fnExactUnpackTextWrong : ChangeSpec := { name := "fnExactUnpackText", fn := fun _ => fun
  | [d] => { results := [.lit (.bool false)], args := [d] }
  | _ => none }
def FnExactUnpackTextWrongFalsely : Prop := fnExactUnpackTextRow.holds Try.pinned (OpenSpec.ofChange fnExactUnpackTextWrong)

/-- 'laws.FnExactFlashNew': WHATEVER THE INPUT: true; the input reads as it did. -/
def fnExactFlashNewSpec : ChangeSpec := { name := "fnExactFlashNew", fn := fun _ => fun
  | [d] => { results := [.lit (.bool true)], args := [d] }
  | _ => none }
def fnExactFlashNewRow : OpenClaim := { program := "ytcfkbemlldfnnam", sum := "333971c726cc53928df0172d348652a2e7d8ea1db65e7c4a0e586c007bcacc1b", func := "loop.example/g00195/laws.FnExactFlashNew", spec := "fnExactFlashNew", plainKeys := false, apart := false }
def FnExactFlashNewSaid : Prop := fnExactFlashNewRow.holds Try.pinned (OpenSpec.ofChange fnExactFlashNewSpec)

/-- ITS FALSE NEIGHBOUR: 'it returns false'. Refute it at one input. -/
def fnExactFlashNewWrong : ChangeSpec := { name := "fnExactFlashNew", fn := fun _ => fun
  | [d] => { results := [.lit (.bool false)], args := [d] }
  | _ => none }
def FnExactFlashNewWrongFalsely : Prop := fnExactFlashNewRow.holds Try.pinned (OpenSpec.ofChange fnExactFlashNewWrong)

/-- 'laws.FnExactFlashOk': WHATEVER THE INPUT: true; the input reads as it did. -/
def fnExactFlashOkSpec : ChangeSpec := { name := "fnExactFlashOk", fn := fun _ => fun
  | [d] => { results := [.lit (.bool true)], args := [d] }
  | _ => none }
def fnExactFlashOkRow : OpenClaim := { program := "ytcfkbemlldfnnam", sum := "333971c726cc53928df0172d348652a2e7d8ea1db65e7c4a0e586c007bcacc1b", func := "loop.example/g00195/laws.FnExactFlashOk", spec := "fnExactFlashOk", plainKeys := false, apart := false }
def FnExactFlashOkSaid : Prop := fnExactFlashOkRow.holds Try.pinned (OpenSpec.ofChange fnExactFlashOkSpec)

/-- ITS FALSE NEIGHBOUR: 'it returns false'. Refute it at one input. -/
def fnExactFlashOkWrong : ChangeSpec := { name := "fnExactFlashOk", fn := fun _ => fun
  | [d] => { results := [.lit (.bool false)], args := [d] }
  | _ => none }
def FnExactFlashOkWrongFalsely : Prop := fnExactFlashOkRow.holds Try.pinned (OpenSpec.ofChange fnExactFlashOkWrong)

/- THE SECOND FORM. 'bulk': how many values and letters a reading holds, each counted each time it is reached (what is shared counts as often as it is met; a slice's spare places count too). A statement '..UptoSaid' is the law's where the arguments, and the package variables that the reading takes, are together of bulk at most 1048576: NARROWER than '..Said'. Prove '..Said' where nothing that the law and all that it calls make is longer than what came in: it says more and counts as full. Else prove '..UptoSaid'. A law counts once. -/
mutual
def uptoBulk {H : Type} : DataW H → Nat
  | .lit (.string bytes) => bytes.length + 1
  | .lit _ => 1
  | .nil => 1
  | .ptr d => uptoBulk d + 1
  | .slice elems spare => uptoBulkAll elems + uptoBulkAll spare + 1
  | .agg parts => uptoBulkAll parts + 1
  | .iface _ d => uptoBulk d + 1
  | .map entries => uptoBulkEntries entries + 1
  | .held _ => 1
def uptoBulkAll {H : Type} : List (DataW H) → Nat
  | [] => 0
  | d :: r => uptoBulk d + uptoBulkAll r
def uptoBulkEntries {H : Type} : List (Lit × DataW H) → Nat
  | [] => 0
  | x :: r => uptoBulkEntry x + uptoBulkEntries r
def uptoBulkEntry {H : Type} : Lit × DataW H → Nat
  | (.string bytes, d) => bytes.length + uptoBulk d + 1
  | (_, d) => uptoBulk d + 1
 end
def uptoSmall : (H : Type) → List (DataW H) → Bool := fun _ ds => decide (uptoBulkAll ds ≤ 1048576)
def OpenSpec.upto (s : _root_.Go.ChangeSpec) : _root_.Go.OpenSpec := { _root_.Go.OpenSpec.ofChange s with cond := some uptoSmall }

/-- 'laws.FnExactTokensOf', WHERE WHAT IT READS IS OF BULK AT MOST 1048576: true; the input reads as it did. -/
def fnExactTokensOfUptoRow : OpenClaim := { program := "ytcfkbemlldfnnam", sum := "333971c726cc53928df0172d348652a2e7d8ea1db65e7c4a0e586c007bcacc1b", func := "loop.example/g00195/laws.FnExactTokensOf", spec := "fnExactTokensOf", plainKeys := false, apart := false, narrowed := true }
def FnExactTokensOfUptoSaid : Prop := fnExactTokensOfUptoRow.holds Try.pinned (OpenSpec.upto fnExactTokensOfSpec)

/-- 'laws.FnExactPlainOf', WHERE WHAT IT READS IS OF BULK AT MOST 1048576: true; the input reads as it did. -/
def fnExactPlainOfUptoRow : OpenClaim := { program := "ytcfkbemlldfnnam", sum := "333971c726cc53928df0172d348652a2e7d8ea1db65e7c4a0e586c007bcacc1b", func := "loop.example/g00195/laws.FnExactPlainOf", spec := "fnExactPlainOf", plainKeys := false, apart := false, narrowed := true }
def FnExactPlainOfUptoSaid : Prop := fnExactPlainOfUptoRow.holds Try.pinned (OpenSpec.upto fnExactPlainOfSpec)

/-- 'laws.FnExactPackText', WHERE WHAT IT READS IS OF BULK AT MOST 1048576: true; the input reads as it did. -/
def fnExactPackTextUptoRow : OpenClaim := { program := "ytcfkbemlldfnnam", sum := "333971c726cc53928df0172d348652a2e7d8ea1db65e7c4a0e586c007bcacc1b", func := "loop.example/g00195/laws.FnExactPackText", spec := "fnExactPackText", plainKeys := false, apart := false, narrowed := true }
def FnExactPackTextUptoSaid : Prop := fnExactPackTextUptoRow.holds Try.pinned (OpenSpec.upto fnExactPackTextSpec)

/-- 'laws.FnExactUnpackText', WHERE WHAT IT READS IS OF BULK AT MOST 1048576: true; the input reads as it did. -/
def fnExactUnpackTextUptoRow : OpenClaim := { program := "ytcfkbemlldfnnam", sum := "333971c726cc53928df0172d348652a2e7d8ea1db65e7c4a0e586c007bcacc1b", func := "loop.example/g00195/laws.FnExactUnpackText", spec := "fnExactUnpackText", plainKeys := false, apart := false, narrowed := true }
def FnExactUnpackTextUptoSaid : Prop := fnExactUnpackTextUptoRow.holds Try.pinned (OpenSpec.upto fnExactUnpackTextSpec)

/-- 'laws.FnExactFlashNew', WHERE WHAT IT READS IS OF BULK AT MOST 1048576: true; the input reads as it did. -/
def fnExactFlashNewUptoRow : OpenClaim := { program := "ytcfkbemlldfnnam", sum := "333971c726cc53928df0172d348652a2e7d8ea1db65e7c4a0e586c007bcacc1b", func := "loop.example/g00195/laws.FnExactFlashNew", spec := "fnExactFlashNew", plainKeys := false, apart := false, narrowed := true }
def FnExactFlashNewUptoSaid : Prop := fnExactFlashNewUptoRow.holds Try.pinned (OpenSpec.upto fnExactFlashNewSpec)

/-- 'laws.FnExactFlashOk', WHERE WHAT IT READS IS OF BULK AT MOST 1048576: true; the input reads as it did. -/
def fnExactFlashOkUptoRow : OpenClaim := { program := "ytcfkbemlldfnnam", sum := "333971c726cc53928df0172d348652a2e7d8ea1db65e7c4a0e586c007bcacc1b", func := "loop.example/g00195/laws.FnExactFlashOk", spec := "fnExactFlashOk", plainKeys := false, apart := false, narrowed := true }
def FnExactFlashOkUptoSaid : Prop := fnExactFlashOkUptoRow.holds Try.pinned (OpenSpec.upto fnExactFlashOkSpec)

end Rows
end Go.Proofs.Ytcfkbemlldfnnam
