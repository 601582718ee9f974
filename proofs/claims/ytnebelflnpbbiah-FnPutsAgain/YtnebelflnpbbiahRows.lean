/-
  No cell of these rows narrows 'for every input' (looked for: loops, veiled, ifaces, maps, wideKeys, modest, calm, conditions, laid).
  DERIVED. THE GIVEN ROWS OF THIS SEAT. 3 by the template 'for every input the law returns true; each argument reads behind the call as it read before'; 0 by the template 'total and deterministic' (their statements: YtnebelflnpbbiahTotals.lean).
  GIVEN WITH THE SEED: the statements are not yours to turn. If you find one false, say at which input.
  Laid BY PROGRAM, IN A SANDBOX (cutbox-rows.mjs): the forced cells as the released guide's own fill.sh prints them over the translation 18fcf05c3f48d0b4… (all of the seat's roots in one cut). By AI agents, Wed Nov 11 2026. No macro, syntax, notation, axiom, sorry.
-/
import Derived.Test.YtnebelflnpbbiahChecked
import GoSem.Claim
import GoSem.ClaimJoined
import GoSem.ClaimMapViews
import Derived.JoinedTies
import Derived.KernelRfl
namespace Go.Proofs.Ytnebelflnpbbiah
/- THE CELL 'sum', in the pinned program and in every row, IS THE sha256 OF THE DUMP (.gsa) THAT YtnebelflnpbbiahProg.lean LOADS. Nothing in Lean hashes anything: it is a label: what it is worth is what the hold of that sum in a sandbox is worth. -/
noncomputable def Try.pinned : Pinned := { name := "ytnebelflnpbbiah", sum := "18fcf05c3f48d0b46ddee9f4ea268d0c5010857bda484f00319ed361f5bdd391", checked := Try.checked }
namespace Rows
def none {H : Type} : Left H := { results := [], args := [] }

/-- 'laws.FnWear': WHATEVER THE INPUT: true; the input reads as it did. -/
def fnWearSpec : ChangeSpec := { name := "fnWear", fn := fun _ => fun
  | [d] => { results := [.lit (.bool true)], args := [d] }
  | _ => none }
def fnWearRow : OpenClaim := { program := "ytnebelflnpbbiah", sum := "18fcf05c3f48d0b46ddee9f4ea268d0c5010857bda484f00319ed361f5bdd391", func := "loop.example/g00195/laws.FnWear", spec := "fnWear", unfollowed := true, recurses := true, apart := false }
def FnWearSaid : Prop := fnWearRow.holds Try.pinned (OpenSpec.ofChange fnWearSpec)

/-- ITS FALSE NEIGHBOUR: 'it returns false'. Refute it at one input. -/
def fnWearWrong : ChangeSpec := { name := "fnWear", fn := fun _ => fun
  | [d] => { results := [.lit (.bool false)], args := [d] }
  | _ => none }
def FnWearWrongFalsely : Prop := fnWearRow.holds Try.pinned (OpenSpec.ofChange fnWearWrong)

/-- 'laws.FnTwoTx': WHATEVER THE INPUT: true; the input reads as it did. -/
def fnTwoTxSpec : ChangeSpec := { name := "fnTwoTx", fn := fun _ => fun
  | [d] => { results := [.lit (.bool true)], args := [d] }
  | _ => none }
def fnTwoTxRow : OpenClaim := { program := "ytnebelflnpbbiah", sum := "18fcf05c3f48d0b46ddee9f4ea268d0c5010857bda484f00319ed361f5bdd391", func := "loop.example/g00195/laws.FnTwoTx", spec := "fnTwoTx", inPlace := ["internal/abi.NoEscape"], unfollowed := true, recurses := true, apart := false }
def FnTwoTxSaid : Prop := fnTwoTxRow.holds Try.pinned (OpenSpec.ofChange fnTwoTxSpec)

/-- ITS FALSE NEIGHBOUR: 'it returns false'. Refute it at one input. -/
def fnTwoTxWrong : ChangeSpec := { name := "fnTwoTx", fn := fun _ => fun
  | [d] => { results := [.lit (.bool false)], args := [d] }
  | _ => none }
def FnTwoTxWrongFalsely : Prop := fnTwoTxRow.holds Try.pinned (OpenSpec.ofChange fnTwoTxWrong)

/-- 'laws.FnPutsAgain': WHATEVER THE INPUT: true; the input reads as it did. -/
def fnPutsAgainSpec : ChangeSpec := { name := "fnPutsAgain", fn := fun _ => fun
  | [d] => { results := [.lit (.bool true)], args := [d] }
  | _ => none }
def fnPutsAgainRow : OpenClaim := { program := "ytnebelflnpbbiah", sum := "18fcf05c3f48d0b46ddee9f4ea268d0c5010857bda484f00319ed361f5bdd391", func := "loop.example/g00195/laws.FnPutsAgain", spec := "fnPutsAgain", apart := false }
def FnPutsAgainSaid : Prop := fnPutsAgainRow.holds Try.pinned (OpenSpec.ofChange fnPutsAgainSpec)

/-- ITS FALSE NEIGHBOUR: 'it returns false'. Refute it at one input. -/
def fnPutsAgainWrong : ChangeSpec := { name := "fnPutsAgain", fn := fun _ => fun
  | [d] => { results := [.lit (.bool false)], args := [d] }
  | _ => none }
def FnPutsAgainWrongFalsely : Prop := fnPutsAgainRow.holds Try.pinned (OpenSpec.ofChange fnPutsAgainWrong)

/- THE SECOND FORM. 'bulk': how many values and letters a reading holds, each counted each time it is reached (what is shared counts as often as it is met; a slice's spare places count too). A statement '..UptoSaid' is the law's where the arguments, and the package variables that the reading takes, are together of bulk at most 1048576: NARROWER than '..Said'. Prove '..Said' where nothing that the law and all that it calls make is longer than what came in: it says more and counts as full. Else prove '..UptoSaid'. A law counts once. -/
mutual
def uptoBulk {H : Type} : DataW H → Nat
  | .lit (.string bytes) => bytes.length + 1
  | .lit _ => 1
  | .nil => 1
  | .ptr d => uptoBulk d + 1
  | .slice elems spare => uptoBulkAll elems + uptoBulkAll spare + 1
  | .agg parts => uptoBulkAll parts + 1
  | .iface _ d => uptoBulk d + 1
  | .map entries => uptoBulkEntries entries + 1
  | .held _ => 1
def uptoBulkAll {H : Type} : List (DataW H) → Nat
  | [] => 0
  | d :: r => uptoBulk d + uptoBulkAll r
def uptoBulkEntries {H : Type} : List (Lit × DataW H) → Nat
  | [] => 0
  | x :: r => uptoBulkEntry x + uptoBulkEntries r
def uptoBulkEntry {H : Type} : Lit × DataW H → Nat
  | (.string bytes, d) => bytes.length + uptoBulk d + 1
  | (_, d) => uptoBulk d + 1
 end
def uptoSmall : (H : Type) → List (DataW H) → Bool := fun _ ds => decide (uptoBulkAll ds ≤ 1048576)
def OpenSpec.upto (s : _root_.Go.ChangeSpec) : _root_.Go.OpenSpec := { _root_.Go.OpenSpec.ofChange s with cond := some uptoSmall }

/-- 'laws.FnWear', WHERE WHAT IT READS IS OF BULK AT MOST 1048576: true; the input reads as it did. -/
def fnWearUptoRow : OpenClaim := { program := "ytnebelflnpbbiah", sum := "18fcf05c3f48d0b46ddee9f4ea268d0c5010857bda484f00319ed361f5bdd391", func := "loop.example/g00195/laws.FnWear", spec := "fnWear", unfollowed := true, recurses := true, apart := false, narrowed := true }
def FnWearUptoSaid : Prop := fnWearUptoRow.holds Try.pinned (OpenSpec.upto fnWearSpec)

/-- 'laws.FnTwoTx', WHERE WHAT IT READS IS OF BULK AT MOST 1048576: true; the input reads as it did. -/
def fnTwoTxUptoRow : OpenClaim := { program := "ytnebelflnpbbiah", sum := "18fcf05c3f48d0b46ddee9f4ea268d0c5010857bda484f00319ed361f5bdd391", func := "loop.example/g00195/laws.FnTwoTx", spec := "fnTwoTx", inPlace := ["internal/abi.NoEscape"], unfollowed := true, recurses := true, apart := false, narrowed := true }
def FnTwoTxUptoSaid : Prop := fnTwoTxUptoRow.holds Try.pinned (OpenSpec.upto fnTwoTxSpec)

/-- 'laws.FnPutsAgain', WHERE WHAT IT READS IS OF BULK AT MOST 1048576: true; the input reads as it did. -/
def fnPutsAgainUptoRow : OpenClaim := { program := "ytnebelflnpbbiah", sum := "18fcf05c3f48d0b46ddee9f4ea268d0c5010857bda484f00319ed361f5bdd391", func := "loop.example/g00195/laws.FnPutsAgain", spec := "fnPutsAgain", apart := false, narrowed := true }
def FnPutsAgainUptoSaid : Prop := fnPutsAgainUptoRow.holds Try.pinned (OpenSpec.upto fnPutsAgainSpec)

end Rows
end Go.Proofs.Ytnebelflnpbbiah
