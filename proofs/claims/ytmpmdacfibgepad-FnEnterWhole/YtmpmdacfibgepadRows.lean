/-
  No cell of these rows narrows 'for every input' (looked for: loops, veiled, ifaces, maps, wideKeys, modest, calm, conditions, laid).
  DERIVED. THE GIVEN ROWS OF THIS SEAT. 4 by the template 'for every input the law returns true; each argument reads behind the call as it read before'; 0 by the template 'total and deterministic' (their statements: YtmpmdacfibgepadTotals.lean).
  GIVEN WITH THE SEED: the statements are not yours to turn. If you find one false, say at which input.
  Laid BY PROGRAM, IN A SANDBOX (cutbox-rows.mjs): the forced cells as the released guide's own fill.sh prints them over the translation 2edf96fc62454e15… (all of the seat's roots in one cut). By AI agents, Wed Nov 11 2026. No macro, syntax, notation, axiom, sorry.
-/
import Derived.Test.YtmpmdacfibgepadChecked
import GoSem.Claim
import GoSem.ClaimJoined
import GoSem.ClaimMapViews
import Derived.JoinedTies
import Derived.KernelRfl
namespace Go.Proofs.Ytmpmdacfibgepad
/- THE CELL 'sum', in the pinned program and in every row, IS THE sha256 OF THE DUMP (.gsa) THAT YtmpmdacfibgepadProg.lean LOADS. Nothing in Lean hashes anything: it is a label: what it is worth is what the hold of that sum in a sandbox is worth. -/
noncomputable def Try.pinned : Pinned := { name := "ytmpmdacfibgepad", sum := "2edf96fc62454e15aec954b63a7e5d100fcce7bb5c34fb1f69a4c300f652c694", checked := Try.checked }
namespace Rows
def none {H : Type} : Left H := { results := [], args := [] }

/-- 'laws.FnTwoTx': WHATEVER THE INPUT: true; the input reads as it did. -/
def fnTwoTxSpec : ChangeSpec := { name := "fnTwoTx", fn := fun _ => fun
  | [d] => { results := [.lit (.bool true)], args := [d] }
  | _ => none }
def fnTwoTxRow : OpenClaim := { program := "ytmpmdacfibgepad", sum := "2edf96fc62454e15aec954b63a7e5d100fcce7bb5c34fb1f69a4c300f652c694", func := "loop.example/g00195/laws.FnTwoTx", spec := "fnTwoTx", inPlace := ["internal/abi.NoEscape"], unfollowed := true, recurses := true, apart := false }
def FnTwoTxSaid : Prop := fnTwoTxRow.holds Try.pinned (OpenSpec.ofChange fnTwoTxSpec)

/-- ITS FALSE NEIGHBOUR: 'it returns false'. Refute it at one input. -/
def fnTwoTxWrong : ChangeSpec := { name := "fnTwoTx", fn := fun _ => fun
  | [d] => { results := [.lit (.bool false)], args := [d] }
  | _ => none }
def FnTwoTxWrongFalsely : Prop := fnTwoTxRow.holds Try.pinned (OpenSpec.ofChange fnTwoTxWrong)

/-- 'laws.FnClones': WHATEVER THE INPUT: true; the input reads as it did. -/
def fnClonesSpec : ChangeSpec := { name := "fnClones", fn := fun _ => fun
  | [d] => { results := [.lit (.bool true)], args := [d] }
  | _ => none }
def fnClonesRow : OpenClaim := { program := "ytmpmdacfibgepad", sum := "2edf96fc62454e15aec954b63a7e5d100fcce7bb5c34fb1f69a4c300f652c694", func := "loop.example/g00195/laws.FnClones", spec := "fnClones", inPlace := ["slices.overlaps[loop.example/g00195/impl.Vol]"], unfollowed := true, recurses := true, apart := false }
def FnClonesSaid : Prop := fnClonesRow.holds Try.pinned (OpenSpec.ofChange fnClonesSpec)

/-- ITS FALSE NEIGHBOUR: 'it returns false'. Refute it at one input. -/
def fnClonesWrong : ChangeSpec := { name := "fnClones", fn := fun _ => fun
  | [d] => { results := [.lit (.bool false)], args := [d] }
  | _ => none }
def FnClonesWrongFalsely : Prop := fnClonesRow.holds Try.pinned (OpenSpec.ofChange fnClonesWrong)

/-- 'laws.FnEnterWhole': WHATEVER THE INPUT: true; the input reads as it did. -/
def fnEnterWholeSpec : ChangeSpec := { name := "fnEnterWhole", fn := fun _ => fun
  | [d] => { results := [.lit (.bool true)], args := [d] }
  | _ => none }
def fnEnterWholeRow : OpenClaim := { program := "ytmpmdacfibgepad", sum := "2edf96fc62454e15aec954b63a7e5d100fcce7bb5c34fb1f69a4c300f652c694", func := "loop.example/g00195/laws.FnEnterWhole", spec := "fnEnterWhole", inPlace := ["slices.overlaps[loop.example/g00195/impl.Vol]"], unfollowed := true, recurses := true, apart := false }
def FnEnterWholeSaid : Prop := fnEnterWholeRow.holds Try.pinned (OpenSpec.ofChange fnEnterWholeSpec)

/-- ITS FALSE NEIGHBOUR: 'it returns false'. Refute it at one input. -/
def fnEnterWholeWrong : ChangeSpec := { name := "fnEnterWhole", fn := fun _ => fun
  | [d] => { results := [.lit (.bool false)], args := [d] }
  | _ => none }
def FnEnterWholeWrongFalsely : Prop := fnEnterWholeRow.holds Try.pinned (OpenSpec.ofChange fnEnterWholeWrong)

/-- 'laws.FnExactHasherOk': WHATEVER THE INPUT: true; the input reads as it did. -/
def fnExactHasherOkSpec : ChangeSpec := { name := "fnExactHasherOk", fn := fun _ => fun
  | [d] => { results := [.lit (.bool true)], args := [d] }
  | _ => none }
def fnExactHasherOkRow : OpenClaim := { program := "ytmpmdacfibgepad", sum := "2edf96fc62454e15aec954b63a7e5d100fcce7bb5c34fb1f69a4c300f652c694", func := "loop.example/g00195/laws.FnExactHasherOk", spec := "fnExactHasherOk", apart := false }
def FnExactHasherOkSaid : Prop := fnExactHasherOkRow.holds Try.pinned (OpenSpec.ofChange fnExactHasherOkSpec)

/-- ITS FALSE NEIGHBOUR: 'it returns false'. Refute it at one input. -/
def fnExactHasherOkWrong : ChangeSpec := { name := "fnExactHasherOk", fn := fun _ => fun
  | [d] => { results := [.lit (.bool false)], args := [d] }
  | _ => none }
def FnExactHasherOkWrongFalsely : Prop := fnExactHasherOkRow.holds Try.pinned (OpenSpec.ofChange fnExactHasherOkWrong)

/- THE SECOND FORM. 'bulk': how many values and letters a reading holds, each counted each time it is reached (what is shared counts as often as it is met; a slice's spare places count too). A statement '..UptoSaid' is the law's where the arguments, and the package variables that the reading takes, are together of bulk at most 1048576: NARROWER than '..Said'. Prove '..Said' where nothing that the law and all that it calls make is longer than what came in: it says more and counts as full. Else prove '..UptoSaid'. A law counts once. -/
mutual
def uptoBulk {H : Type} : DataW H → Nat
  | .lit (.string bytes) => bytes.length + 1
  | .lit _ => 1
  | .nil => 1
  | .ptr d => uptoBulk d + 1
  | .slice elems spare => uptoBulkAll elems + uptoBulkAll spare + 1
  | .agg parts => uptoBulkAll parts + 1
  | .iface _ d => uptoBulk d + 1
  | .map entries => uptoBulkEntries entries + 1
  | .held _ => 1
def uptoBulkAll {H : Type} : List (DataW H) → Nat
  | [] => 0
  | d :: r => uptoBulk d + uptoBulkAll r
def uptoBulkEntries {H : Type} : List (Lit × DataW H) → Nat
  | [] => 0
  | x :: r => uptoBulkEntry x + uptoBulkEntries r
def uptoBulkEntry {H : Type} : Lit × DataW H → Nat
  | (.string bytes, d) => bytes.length + uptoBulk d + 1
  | (_, d) => uptoBulk d + 1
 end
def uptoSmall : (H : Type) → List (DataW H) → Bool := fun _ ds => decide (uptoBulkAll ds ≤ 1048576)
def OpenSpec.upto (s : _root_.Go.ChangeSpec) : _root_.Go.OpenSpec := { _root_.Go.OpenSpec.ofChange s with cond := some uptoSmall }

/-- 'laws.FnTwoTx', WHERE WHAT IT READS IS OF BULK AT MOST 1048576: true; the input reads as it did. -/
def fnTwoTxUptoRow : OpenClaim := { program := "ytmpmdacfibgepad", sum := "2edf96fc62454e15aec954b63a7e5d100fcce7bb5c34fb1f69a4c300f652c694", func := "loop.example/g00195/laws.FnTwoTx", spec := "fnTwoTx", inPlace := ["internal/abi.NoEscape"], unfollowed := true, recurses := true, apart := false, narrowed := true }
def FnTwoTxUptoSaid : Prop := fnTwoTxUptoRow.holds Try.pinned (OpenSpec.upto fnTwoTxSpec)

/-- 'laws.FnClones', WHERE WHAT IT READS IS OF BULK AT MOST 1048576: true; the input reads as it did. -/
def fnClonesUptoRow : OpenClaim := { program := "ytmpmdacfibgepad", sum := "2edf96fc62454e15aec954b63a7e5d100fcce7bb5c34fb1f69a4c300f652c694", func := "loop.example/g00195/laws.FnClones", spec := "fnClones", inPlace := ["slices.overlaps[loop.example/g00195/impl.Vol]"], unfollowed := true, recurses := true, apart := false, narrowed := true }
def FnClonesUptoSaid : Prop := fnClonesUptoRow.holds Try.pinned (OpenSpec.upto fnClonesSpec)

/-- 'laws.FnEnterWhole', WHERE WHAT IT READS IS OF BULK AT MOST 1048576: true; the input reads as it did. -/
def fnEnterWholeUptoRow : OpenClaim := { program := "ytmpmdacfibgepad", sum := "2edf96fc62454e15aec954b63a7e5d100fcce7bb5c34fb1f69a4c300f652c694", func := "loop.example/g00195/laws.FnEnterWhole", spec := "fnEnterWhole", inPlace := ["slices.overlaps[loop.example/g00195/impl.Vol]"], unfollowed := true, recurses := true, apart := false, narrowed := true }
def FnEnterWholeUptoSaid : Prop := fnEnterWholeUptoRow.holds Try.pinned (OpenSpec.upto fnEnterWholeSpec)

/-- 'laws.FnExactHasherOk', WHERE WHAT IT READS IS OF BULK AT MOST 1048576: true; the input reads as it did. -/
def fnExactHasherOkUptoRow : OpenClaim := { program := "ytmpmdacfibgepad", sum := "2edf96fc62454e15aec954b63a7e5d100fcce7bb5c34fb1f69a4c300f652c694", func := "loop.example/g00195/laws.FnExactHasherOk", spec := "fnExactHasherOk", apart := false, narrowed := true }
def FnExactHasherOkUptoSaid : Prop := fnExactHasherOkUptoRow.holds Try.pinned (OpenSpec.upto fnExactHasherOkSpec)

end Rows
end Go.Proofs.Ytmpmdacfibgepad
