/-
  No cell of these rows narrows 'for every input' (looked for: loops, veiled, ifaces, maps, wideKeys, modest, calm, conditions, laid).
  DERIVED. THE GIVEN ROWS OF THIS SEAT. 6 by the template 'for every input the law returns true; each argument reads behind the call as it read before'; 0 by the template 'total and deterministic' (their statements: YtmpmdacfibgepagTotals.lean).
  GIVEN WITH THE SEED: the statements are not yours to turn. If you find one false, say at which input.
  Laid BY PROGRAM, IN A SANDBOX (cutbox-rows.mjs): the forced cells as the released guide's own fill.sh prints them over the translation 4599927a2a5da262… (all of the seat's roots in one cut). By AI agents, Wed Nov 11 2026. No macro, syntax, notation, axiom, sorry.
-/
import Derived.Test.YtmpmdacfibgepagChecked
import GoSem.Claim
import GoSem.ClaimJoined
import GoSem.ClaimMapViews
import Derived.JoinedTies
import Derived.KernelRfl
namespace Go.Proofs.Ytmpmdacfibgepag
/- THE CELL 'sum', in the pinned program and in every row, IS THE sha256 OF THE DUMP (.gsa) THAT YtmpmdacfibgepagProg.lean LOADS. Nothing in Lean hashes anything: it is a label: what it is worth is what the hold of that sum in a sandbox is worth. -/
noncomputable def Try.pinned : Pinned := { name := "ytmpmdacfibgepag", sum := "4599927a2a5da26233278136a04c85a50e1a8b2ffd921e99d0d03c8d89afe7bb", checked := Try.checked }
namespace Rows
def none {H : Type} : Left H := { results := [], args := [] }

/-- 'laws.FnExactRecText': WHATEVER THE INPUT: true; the input reads as it did. -/
def fnExactRecTextSpec : ChangeSpec := { name := "fnExactRecText", fn := fun _ => fun
  | [d] => { results := [.lit (.bool true)], args := [d] }
  | _ => none }
def fnExactRecTextRow : OpenClaim := { program := "ytmpmdacfibgepag", sum := "4599927a2a5da26233278136a04c85a50e1a8b2ffd921e99d0d03c8d89afe7bb", func := "loop.example/g00195/laws.FnExactRecText", spec := "fnExactRecText", apart := false }
def FnExactRecTextSaid : Prop := fnExactRecTextRow.holds Try.pinned (OpenSpec.ofChange fnExactRecTextSpec)

/-- ITS FALSE NEIGHBOUR: 'it returns false'. Refute it at one input. -/
def fnExactRecTextWrong : ChangeSpec := { name := "fnExactRecText", fn := fun _ => fun
  | [d] => { results := [.lit (.bool false)], args := [d] }
  | _ => none }
def FnExactRecTextWrongFalsely : Prop := fnExactRecTextRow.holds Try.pinned (OpenSpec.ofChange fnExactRecTextWrong)

/-- 'laws.FnExactReadRecs': WHATEVER THE INPUT: true; the input reads as it did. -/
def fnExactReadRecsSpec : ChangeSpec := { name := "fnExactReadRecs", fn := fun _ => fun
  | [d] => { results := [.lit (.bool true)], args := [d] }
  | _ => none }
def fnExactReadRecsRow : OpenClaim := { program := "ytmpmdacfibgepag", sum := "4599927a2a5da26233278136a04c85a50e1a8b2ffd921e99d0d03c8d89afe7bb", func := "loop.example/g00195/laws.FnExactReadRecs", spec := "fnExactReadRecs", apart := false }
def FnExactReadRecsSaid : Prop := fnExactReadRecsRow.holds Try.pinned (OpenSpec.ofChange fnExactReadRecsSpec)

/-- ITS FALSE NEIGHBOUR: 'it returns false'. Refute it at one input. -/
def fnExactReadRecsWrong : ChangeSpec := { name := "fnExactReadRecs", fn := fun _ => fun
  | [d] => { results := [.lit (.bool false)], args := [d] }
  | _ => none }
def FnExactReadRecsWrongFalsely : Prop := fnExactReadRecsRow.holds Try.pinned (OpenSpec.ofChange fnExactReadRecsWrong)

/-- 'laws.FnExactTxPages': WHATEVER THE INPUT: true; the input reads as it did. -/
def fnExactTxPagesSpec : ChangeSpec := { name := "fnExactTxPages", fn := fun _ => fun
  | [d1, d2, d3] => { results := [.lit (.bool true)], args := [d1, d2, d3] }
  | _ => none }
def fnExactTxPagesRow : OpenClaim := { program := "ytmpmdacfibgepag", sum := "4599927a2a5da26233278136a04c85a50e1a8b2ffd921e99d0d03c8d89afe7bb", func := "loop.example/g00195/laws.FnExactTxPages", spec := "fnExactTxPages", apart := false }
def FnExactTxPagesSaid : Prop := fnExactTxPagesRow.holds Try.pinned (OpenSpec.ofChange fnExactTxPagesSpec)

/-- ITS FALSE NEIGHBOUR: 'it returns false'. Refute it at one input. -/
def fnExactTxPagesWrong : ChangeSpec := { name := "fnExactTxPages", fn := fun _ => fun
  | [d1, d2, d3] => { results := [.lit (.bool false)], args := [d1, d2, d3] }
  | _ => none }
def FnExactTxPagesWrongFalsely : Prop := fnExactTxPagesRow.holds Try.pinned (OpenSpec.ofChange fnExactTxPagesWrong)

/-- 'laws.FnExactGather': WHATEVER THE INPUT: true; the input reads as it did. -/
def fnExactGatherSpec : ChangeSpec := { name := "fnExactGather", fn := fun _ => fun
  | [d] => { results := [.lit (.bool true)], args := [d] }
  | _ => none }
def fnExactGatherRow : OpenClaim := { program := "ytmpmdacfibgepag", sum := "4599927a2a5da26233278136a04c85a50e1a8b2ffd921e99d0d03c8d89afe7bb", func := "loop.example/g00195/laws.FnExactGather", spec := "fnExactGather", inPlace := ["internal/abi.NoEscape"], unfollowed := true, recurses := true, apart := false }
def FnExactGatherSaid : Prop := fnExactGatherRow.holds Try.pinned (OpenSpec.ofChange fnExactGatherSpec)

/-- ITS FALSE NEIGHBOUR: 'it returns false'. Refute it at one input. -/
def fnExactGatherWrong : ChangeSpec := { name := "fnExactGather", fn := fun _ => fun
  | [d] => { results := [.lit (.bool false)], args := [d] }
  | _ => none }
def FnExactGatherWrongFalsely : Prop := fnExactGatherRow.holds Try.pinned (OpenSpec.ofChange fnExactGatherWrong)

/-- 'laws.FnExactSinceBase': WHATEVER THE INPUT: true; the input reads as it did. -/
def fnExactSinceBaseSpec : ChangeSpec := { name := "fnExactSinceBase", fn := fun _ => fun
  | [d] => { results := [.lit (.bool true)], args := [d] }
  | _ => none }
def fnExactSinceBaseRow : OpenClaim := { program := "ytmpmdacfibgepag", sum := "4599927a2a5da26233278136a04c85a50e1a8b2ffd921e99d0d03c8d89afe7bb", func := "loop.example/g00195/laws.FnExactSinceBase", spec := "fnExactSinceBase", apart := false }
def FnExactSinceBaseSaid : Prop := fnExactSinceBaseRow.holds Try.pinned (OpenSpec.ofChange fnExactSinceBaseSpec)

/-- ITS FALSE NEIGHBOUR: 'it returns false'. Refute it at one input. -/
def fnExactSinceBaseWrong : ChangeSpec := { name := "fnExactSinceBase", fn := fun _ => fun
  | [d] => { results := [.lit (.bool false)], args := [d] }
  | _ => none }
def FnExactSinceBaseWrongFalsely : Prop := fnExactSinceBaseRow.holds Try.pinned (OpenSpec.ofChange fnExactSinceBaseWrong)

/-- 'laws.FnExactStoreNew': WHATEVER THE INPUT: true; the input reads as it did. -/
def fnExactStoreNewSpec : ChangeSpec := { name := "fnExactStoreNew", fn := fun _ => fun
  | [] => { results := [.lit (.bool true)], args := [] }
  | _ => none }
def fnExactStoreNewRow : OpenClaim := { program := "ytmpmdacfibgepag", sum := "4599927a2a5da26233278136a04c85a50e1a8b2ffd921e99d0d03c8d89afe7bb", func := "loop.example/g00195/laws.FnExactStoreNew", spec := "fnExactStoreNew", apart := false }
def FnExactStoreNewSaid : Prop := fnExactStoreNewRow.holds Try.pinned (OpenSpec.ofChange fnExactStoreNewSpec)

/-- ITS FALSE NEIGHBOUR: 'it returns false'. Refute it at one input. -/
def fnExactStoreNewWrong : ChangeSpec := { name := "fnExactStoreNew", fn := fun _ => fun
  | [] => { results := [.lit (.bool false)], args := [] }
  | _ => none }
def FnExactStoreNewWrongFalsely : Prop := fnExactStoreNewRow.holds Try.pinned (OpenSpec.ofChange fnExactStoreNewWrong)

/- THE SECOND FORM. 'bulk': how many values and letters a reading holds, each counted each time it is reached (what is shared counts as often as it is met; a slice's spare places count too). A statement '..UptoSaid' is the law's where the arguments, and the package variables that the reading takes, are together of bulk at most 1048576: NARROWER than '..Said'. Prove '..Said' where nothing that the law and all that it calls make is longer than what came in: it says more and counts as full. Else prove '..UptoSaid'. A law counts once. -/
mutual
def uptoBulk {H : Type} : DataW H → Nat
  | .lit (.string bytes) => bytes.length + 1
  | .lit _ => 1
  | .nil => 1
  | .ptr d => uptoBulk d + 1
  | .slice elems spare => uptoBulkAll elems + uptoBulkAll spare + 1
  | .agg parts => uptoBulkAll parts + 1
  | .iface _ d => uptoBulk d + 1
  | .map entries => uptoBulkEntries entries + 1
  | .held _ => 1
def uptoBulkAll {H : Type} : List (DataW H) → Nat
  | [] => 0
  | d :: r => uptoBulk d + uptoBulkAll r
def uptoBulkEntries {H : Type} : List (Lit × DataW H) → Nat
  | [] => 0
  | x :: r => uptoBulkEntry x + uptoBulkEntries r
def uptoBulkEntry {H : Type} : Lit × DataW H → Nat
  | (.string bytes, d) => bytes.length + uptoBulk d + 1
  | (_, d) => uptoBulk d + 1
 end
def uptoSmall : (H : Type) → List (DataW H) → Bool := fun _ ds => decide (uptoBulkAll ds ≤ 1048576)
def OpenSpec.upto (s : _root_.Go.ChangeSpec) : _root_.Go.OpenSpec := { _root_.Go.OpenSpec.ofChange s with cond := some uptoSmall }

/-- 'laws.FnExactRecText', WHERE WHAT IT READS IS OF BULK AT MOST 1048576: true; the input reads as it did. -/
def fnExactRecTextUptoRow : OpenClaim := { program := "ytmpmdacfibgepag", sum := "4599927a2a5da26233278136a04c85a50e1a8b2ffd921e99d0d03c8d89afe7bb", func := "loop.example/g00195/laws.FnExactRecText", spec := "fnExactRecText", apart := false, narrowed := true }
def FnExactRecTextUptoSaid : Prop := fnExactRecTextUptoRow.holds Try.pinned (OpenSpec.upto fnExactRecTextSpec)

/-- 'laws.FnExactReadRecs', WHERE WHAT IT READS IS OF BULK AT MOST 1048576: true; the input reads as it did. -/
def fnExactReadRecsUptoRow : OpenClaim := { program := "ytmpmdacfibgepag", sum := "4599927a2a5da26233278136a04c85a50e1a8b2ffd921e99d0d03c8d89afe7bb", func := "loop.example/g00195/laws.FnExactReadRecs", spec := "fnExactReadRecs", apart := false, narrowed := true }
def FnExactReadRecsUptoSaid : Prop := fnExactReadRecsUptoRow.holds Try.pinned (OpenSpec.upto fnExactReadRecsSpec)

/-- 'laws.FnExactTxPages', WHERE WHAT IT READS IS OF BULK AT MOST 1048576: true; the input reads as it did. -/
def fnExactTxPagesUptoRow : OpenClaim := { program := "ytmpmdacfibgepag", sum := "4599927a2a5da26233278136a04c85a50e1a8b2ffd921e99d0d03c8d89afe7bb", func := "loop.example/g00195/laws.FnExactTxPages", spec := "fnExactTxPages", apart := false, narrowed := true }
def FnExactTxPagesUptoSaid : Prop := fnExactTxPagesUptoRow.holds Try.pinned (OpenSpec.upto fnExactTxPagesSpec)

/-- 'laws.FnExactGather', WHERE WHAT IT READS IS OF BULK AT MOST 1048576: true; the input reads as it did. -/
def fnExactGatherUptoRow : OpenClaim := { program := "ytmpmdacfibgepag", sum := "4599927a2a5da26233278136a04c85a50e1a8b2ffd921e99d0d03c8d89afe7bb", func := "loop.example/g00195/laws.FnExactGather", spec := "fnExactGather", inPlace := ["internal/abi.NoEscape"], unfollowed := true, recurses := true, apart := false, narrowed := true }
def FnExactGatherUptoSaid : Prop := fnExactGatherUptoRow.holds Try.pinned (OpenSpec.upto fnExactGatherSpec)

/-- 'laws.FnExactSinceBase', WHERE WHAT IT READS IS OF BULK AT MOST 1048576: true; the input reads as it did. -/
def fnExactSinceBaseUptoRow : OpenClaim := { program := "ytmpmdacfibgepag", sum := "4599927a2a5da26233278136a04c85a50e1a8b2ffd921e99d0d03c8d89afe7bb", func := "loop.example/g00195/laws.FnExactSinceBase", spec := "fnExactSinceBase", apart := false, narrowed := true }
def FnExactSinceBaseUptoSaid : Prop := fnExactSinceBaseUptoRow.holds Try.pinned (OpenSpec.upto fnExactSinceBaseSpec)

/-- 'laws.FnExactStoreNew', WHERE WHAT IT READS IS OF BULK AT MOST 1048576: true; the input reads as it did. -/
def fnExactStoreNewUptoRow : OpenClaim := { program := "ytmpmdacfibgepag", sum := "4599927a2a5da26233278136a04c85a50e1a8b2ffd921e99d0d03c8d89afe7bb", func := "loop.example/g00195/laws.FnExactStoreNew", spec := "fnExactStoreNew", apart := false, narrowed := true }
def FnExactStoreNewUptoSaid : Prop := fnExactStoreNewUptoRow.holds Try.pinned (OpenSpec.upto fnExactStoreNewSpec)

end Rows
end Go.Proofs.Ytmpmdacfibgepag
