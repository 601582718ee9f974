/-
  No cell of these rows narrows 'for every input' (looked for: loops, veiled, ifaces, maps, wideKeys, modest, calm, conditions, laid).
  DERIVED. THE GIVEN ROWS OF THIS SEAT. 3 by the template 'for every input the law returns true; each argument reads behind the call as it read before'; 0 by the template 'total and deterministic' (their statements: YtogfdhfmamabiaaTotals.lean).
  GIVEN WITH THE SEED: the statements are not yours to turn. If you find one false, say at which input.
  Laid BY PROGRAM, IN A SANDBOX (cutbox-rows.mjs): the forced cells as the released guide's own fill.sh prints them over the translation a1655ea534e78472… (all of the seat's roots in one cut). By AI agents, Wed Nov 11 2026. No macro, syntax, notation, axiom, sorry.
-/
import Derived.Test.YtogfdhfmamabiaaChecked
import GoSem.Claim
import GoSem.ClaimJoined
import GoSem.ClaimMapViews
import Derived.JoinedTies
import Derived.KernelRfl
namespace Go.Proofs.Ytogfdhfmamabiaa
/- THE CELL 'sum', in the pinned program and in every row, IS THE sha256 OF THE DUMP (.gsa) THAT YtogfdhfmamabiaaProg.lean LOADS. Nothing in Lean hashes anything: it is a label: what it is worth is what the hold of that sum in a sandbox is worth. -/
noncomputable def Try.pinned : Pinned := { name := "ytogfdhfmamabiaa", sum := "a1655ea534e784725a0c72d0d50acf4223213a9c1ceb68c1a7fb96a5c311024e", checked := Try.checked }
namespace Rows
def none {H : Type} : Left H := { results := [], args := [] }

/-- 'laws.FnGathers': WHATEVER THE INPUT: true; the input reads as it did. -/
def fnGathersSpec : ChangeSpec := { name := "fnGathers", fn := fun _ => fun
  | [d] => { results := [.lit (.bool true)], args := [d] }
  | _ => none }
def fnGathersRow : OpenClaim := { program := "ytogfdhfmamabiaa", sum := "a1655ea534e784725a0c72d0d50acf4223213a9c1ceb68c1a7fb96a5c311024e", func := "loop.example/g00195/laws.FnGathers", spec := "fnGathers", inPlace := ["internal/abi.NoEscape"], unfollowed := true, recurses := true, apart := false }
def FnGathersSaid : Prop := fnGathersRow.holds Try.pinned (OpenSpec.ofChange fnGathersSpec)

/-- ITS FALSE NEIGHBOUR: 'it returns false'. Refute it at one input. -/
def fnGathersWrong : ChangeSpec := { name := "fnGathers", fn := fun _ => fun
  | [d] => { results := [.lit (.bool false)], args := [d] }
  | _ => none }
def FnGathersWrongFalsely : Prop := fnGathersRow.holds Try.pinned (OpenSpec.ofChange fnGathersWrong)

/-- 'laws.FnTwoTx': WHATEVER THE INPUT: true; the input reads as it did. -/
def fnTwoTxSpec : ChangeSpec := { name := "fnTwoTx", fn := fun _ => fun
  | [d] => { results := [.lit (.bool true)], args := [d] }
  | _ => none }
def fnTwoTxRow : OpenClaim := { program := "ytogfdhfmamabiaa", sum := "a1655ea534e784725a0c72d0d50acf4223213a9c1ceb68c1a7fb96a5c311024e", func := "loop.example/g00195/laws.FnTwoTx", spec := "fnTwoTx", inPlace := ["internal/abi.NoEscape"], unfollowed := true, recurses := true, apart := false }
def FnTwoTxSaid : Prop := fnTwoTxRow.holds Try.pinned (OpenSpec.ofChange fnTwoTxSpec)

/-- ITS FALSE NEIGHBOUR: 'it returns false'. Refute it at one input. -/
def fnTwoTxWrong : ChangeSpec := { name := "fnTwoTx", fn := fun _ => fun
  | [d] => { results := [.lit (.bool false)], args := [d] }
  | _ => none }
def FnTwoTxWrongFalsely : Prop := fnTwoTxRow.holds Try.pinned (OpenSpec.ofChange fnTwoTxWrong)

/-- 'laws.FnExactSinceBase': WHATEVER THE INPUT: true; the input reads as it did. -/
def fnExactSinceBaseSpec : ChangeSpec := { name := "fnExactSinceBase", fn := fun _ => fun
  | [d] => { results := [.lit (.bool true)], args := [d] }
  | _ => none }
def fnExactSinceBaseRow : OpenClaim := { program := "ytogfdhfmamabiaa", sum := "a1655ea534e784725a0c72d0d50acf4223213a9c1ceb68c1a7fb96a5c311024e", func := "loop.example/g00195/laws.FnExactSinceBase", spec := "fnExactSinceBase", apart := false }
def FnExactSinceBaseSaid : Prop := fnExactSinceBaseRow.holds Try.pinned (OpenSpec.ofChange fnExactSinceBaseSpec)

/-- ITS FALSE NEIGHBOUR: 'it returns false'. Refute it at one input. -/
def fnExactSinceBaseWrong : ChangeSpec := { name := "fnExactSinceBase", fn := fun _ => fun
  | [d] => { results := [.lit (.bool false)], args := [d] }
  | _ => none }
def FnExactSinceBaseWrongFalsely : Prop := fnExactSinceBaseRow.holds Try.pinned (OpenSpec.ofChange fnExactSinceBaseWrong)

/- THE SECOND FORM. 'bulk': how many values and letters a reading holds, each counted each time it is reached (what is shared counts as often as it is met; a slice's spare places count too). A statement '..UptoSaid' is the law's where the arguments, and the package variables that the reading takes, are together of bulk at most 1048576: NARROWER than '..Said'. Prove '..Said' where nothing that the law and all that it calls make is longer than what came in: it says more and counts as full. Else prove '..UptoSaid'. A law counts once. -/
mutual
def uptoBulk {H : Type} : DataW H → Nat
  | .lit (.string bytes) => bytes.length + 1
  | .lit _ => 1
  | .nil => 1
  | .ptr d => uptoBulk d + 1
  | .slice elems spare => uptoBulkAll elems + uptoBulkAll spare + 1
  | .agg parts => uptoBulkAll parts + 1
  | .iface _ d => uptoBulk d + 1
  | .map entries => uptoBulkEntries entries + 1
  | .held _ => 1
def uptoBulkAll {H : Type} : List (DataW H) → Nat
  | [] => 0
  | d :: r => uptoBulk d + uptoBulkAll r
def uptoBulkEntries {H : Type} : List (Lit × DataW H) → Nat
  | [] => 0
  | x :: r => uptoBulkEntry x + uptoBulkEntries r
def uptoBulkEntry {H : Type} : Lit × DataW H → Nat
  | (.string bytes, d) => bytes.length + uptoBulk d + 1
  | (_, d) => uptoBulk d + 1
 end
def uptoSmall : (H : Type) → List (DataW H) → Bool := fun _ ds => decide (uptoBulkAll ds ≤ 1048576)
def OpenSpec.upto (s : _root_.Go.ChangeSpec) : _root_.Go.OpenSpec := { _root_.Go.OpenSpec.ofChange s with cond := some uptoSmall }

/-- 'laws.FnGathers', WHERE WHAT IT READS IS OF BULK AT MOST 1048576: true; the input reads as it did. -/
def fnGathersUptoRow : OpenClaim := { program := "ytogfdhfmamabiaa", sum := "a1655ea534e784725a0c72d0d50acf4223213a9c1ceb68c1a7fb96a5c311024e", func := "loop.example/g00195/laws.FnGathers", spec := "fnGathers", inPlace := ["internal/abi.NoEscape"], unfollowed := true, recurses := true, apart := false, narrowed := true }
def FnGathersUptoSaid : Prop := fnGathersUptoRow.holds Try.pinned (OpenSpec.upto fnGathersSpec)

/-- 'laws.FnTwoTx', WHERE WHAT IT READS IS OF BULK AT MOST 1048576: true; the input reads as it did. -/
def fnTwoTxUptoRow : OpenClaim := { program := "ytogfdhfmamabiaa", sum := "a1655ea534e784725a0c72d0d50acf4223213a9c1ceb68c1a7fb96a5c311024e", func := "loop.example/g00195/laws.FnTwoTx", spec := "fnTwoTx", inPlace := ["internal/abi.NoEscape"], unfollowed := true, recurses := true, apart := false, narrowed := true }
def FnTwoTxUptoSaid : Prop := fnTwoTxUptoRow.holds Try.pinned (OpenSpec.upto fnTwoTxSpec)

/-- 'laws.FnExactSinceBase', WHERE WHAT IT READS IS OF BULK AT MOST 1048576: true; the input reads as it did. -/
def fnExactSinceBaseUptoRow : OpenClaim := { program := "ytogfdhfmamabiaa", sum := "a1655ea534e784725a0c72d0d50acf4223213a9c1ceb68c1a7fb96a5c311024e", func := "loop.example/g00195/laws.FnExactSinceBase", spec := "fnExactSinceBase", apart := false, narrowed := true }
def FnExactSinceBaseUptoSaid : Prop := fnExactSinceBaseUptoRow.holds Try.pinned (OpenSpec.upto fnExactSinceBaseSpec)

end Rows
end Go.Proofs.Ytogfdhfmamabiaa
