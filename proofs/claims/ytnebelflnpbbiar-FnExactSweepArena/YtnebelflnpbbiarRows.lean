/-
  No cell of these rows narrows 'for every input' (looked for: loops, veiled, ifaces, maps, wideKeys, modest, calm, conditions, laid).
  DERIVED. THE GIVEN ROWS OF THIS SEAT. 6 by the template 'for every input the law returns true; each argument reads behind the call as it read before'; 0 by the template 'total and deterministic' (their statements: YtnebelflnpbbiarTotals.lean).
  GIVEN WITH THE SEED: the statements are not yours to turn. If you find one false, say at which input.
  Laid BY PROGRAM, IN A SANDBOX (cutbox-rows.mjs): the forced cells as the released guide's own fill.sh prints them over the translation 3dac3d4fcc96d462… (all of the seat's roots in one cut). By AI agents, Wed Nov 11 2026. No macro, syntax, notation, axiom, sorry.
-/
import Derived.Test.YtnebelflnpbbiarChecked
import GoSem.Claim
import GoSem.ClaimJoined
import GoSem.ClaimMapViews
import Derived.JoinedTies
import Derived.KernelRfl
namespace Go.Proofs.Ytnebelflnpbbiar
/- THE CELL 'sum', in the pinned program and in every row, IS THE sha256 OF THE DUMP (.gsa) THAT YtnebelflnpbbiarProg.lean LOADS. Nothing in Lean hashes anything: it is a label: what it is worth is what the hold of that sum in a sandbox is worth. -/
noncomputable def Try.pinned : Pinned := { name := "ytnebelflnpbbiar", sum := "3dac3d4fcc96d4622f80b303ae82c576d3691e37985ac8fe988f7c9aa7d18fa6", checked := Try.checked }
namespace Rows
def none {H : Type} : Left H := { results := [], args := [] }

/-- 'laws.FnExactArenaOk': WHATEVER THE INPUT: true; the input reads as it did. -/
def fnExactArenaOkSpec : ChangeSpec := { name := "fnExactArenaOk", fn := fun _ => fun
  | [d] => { results := [.lit (.bool true)], args := [d] }
  | _ => none }
def fnExactArenaOkRow : OpenClaim := { program := "ytnebelflnpbbiar", sum := "3dac3d4fcc96d4622f80b303ae82c576d3691e37985ac8fe988f7c9aa7d18fa6", func := "loop.example/g00195/laws.FnExactArenaOk", spec := "fnExactArenaOk", apart := false }
def FnExactArenaOkSaid : Prop := fnExactArenaOkRow.holds Try.pinned (OpenSpec.ofChange fnExactArenaOkSpec)

/-- ITS FALSE NEIGHBOUR: 'it returns false'. Refute it at one input. -/
def fnExactArenaOkWrong : ChangeSpec := { name := "fnExactArenaOk", fn := fun _ => fun
  | [d] => { results := [.lit (.bool false)], args := [d] }
  | _ => none }
def FnExactArenaOkWrongFalsely : Prop := fnExactArenaOkRow.holds Try.pinned (OpenSpec.ofChange fnExactArenaOkWrong)

/-- 'laws.FnExactGetAt': WHATEVER THE INPUT: true; the input reads as it did. -/
def fnExactGetAtSpec : ChangeSpec := { name := "fnExactGetAt", fn := fun _ => fun
  | [d1, d2, d3] => { results := [.lit (.bool true)], args := [d1, d2, d3] }
  | _ => none }
def fnExactGetAtRow : OpenClaim := { program := "ytnebelflnpbbiar", sum := "3dac3d4fcc96d4622f80b303ae82c576d3691e37985ac8fe988f7c9aa7d18fa6", func := "loop.example/g00195/laws.FnExactGetAt", spec := "fnExactGetAt", apart := false }
def FnExactGetAtSaid : Prop := fnExactGetAtRow.holds Try.pinned (OpenSpec.ofChange fnExactGetAtSpec)

/-- ITS FALSE NEIGHBOUR: 'it returns false'. Refute it at one input. -/
def fnExactGetAtWrong : ChangeSpec := { name := "fnExactGetAt", fn := fun _ => fun
  | [d1, d2, d3] => { results := [.lit (.bool false)], args := [d1, d2, d3] }
  | _ => none }
def FnExactGetAtWrongFalsely : Prop := fnExactGetAtRow.holds Try.pinned (OpenSpec.ofChange fnExactGetAtWrong)

/-- 'laws.FnExactPutAt': WHATEVER THE INPUT: true; the input reads as it did. -/
def fnExactPutAtSpec : ChangeSpec := { name := "fnExactPutAt", fn := fun _ => fun
  | [d1, d2, d3, d4] => { results := [.lit (.bool true)], args := [d1, d2, d3, d4] }
  | _ => none }
def fnExactPutAtRow : OpenClaim := { program := "ytnebelflnpbbiar", sum := "3dac3d4fcc96d4622f80b303ae82c576d3691e37985ac8fe988f7c9aa7d18fa6", func := "loop.example/g00195/laws.FnExactPutAt", spec := "fnExactPutAt", apart := false }
def FnExactPutAtSaid : Prop := fnExactPutAtRow.holds Try.pinned (OpenSpec.ofChange fnExactPutAtSpec)

/-- ITS FALSE NEIGHBOUR: 'it returns false'. Refute it at one input. -/
def fnExactPutAtWrong : ChangeSpec := { name := "fnExactPutAt", fn := fun _ => fun
  | [d1, d2, d3, d4] => { results := [.lit (.bool false)], args := [d1, d2, d3, d4] }
  | _ => none }
def FnExactPutAtWrongFalsely : Prop := fnExactPutAtRow.holds Try.pinned (OpenSpec.ofChange fnExactPutAtWrong)

/-- 'laws.FnExactAllAt': WHATEVER THE INPUT: true; the input reads as it did. -/
def fnExactAllAtSpec : ChangeSpec := { name := "fnExactAllAt", fn := fun _ => fun
  | [d1, d2] => { results := [.lit (.bool true)], args := [d1, d2] }
  | _ => none }
def fnExactAllAtRow : OpenClaim := { program := "ytnebelflnpbbiar", sum := "3dac3d4fcc96d4622f80b303ae82c576d3691e37985ac8fe988f7c9aa7d18fa6", func := "loop.example/g00195/laws.FnExactAllAt", spec := "fnExactAllAt", apart := false }
def FnExactAllAtSaid : Prop := fnExactAllAtRow.holds Try.pinned (OpenSpec.ofChange fnExactAllAtSpec)

/-- ITS FALSE NEIGHBOUR: 'it returns false'. Refute it at one input. -/
def fnExactAllAtWrong : ChangeSpec := { name := "fnExactAllAt", fn := fun _ => fun
  | [d1, d2] => { results := [.lit (.bool false)], args := [d1, d2] }
  | _ => none }
def FnExactAllAtWrongFalsely : Prop := fnExactAllAtRow.holds Try.pinned (OpenSpec.ofChange fnExactAllAtWrong)

/-- 'laws.FnExactSharedBy': WHATEVER THE INPUT: true; the input reads as it did. -/
def fnExactSharedBySpec : ChangeSpec := { name := "fnExactSharedBy", fn := fun _ => fun
  | [d1, d2, d3] => { results := [.lit (.bool true)], args := [d1, d2, d3] }
  | _ => none }
def fnExactSharedByRow : OpenClaim := { program := "ytnebelflnpbbiar", sum := "3dac3d4fcc96d4622f80b303ae82c576d3691e37985ac8fe988f7c9aa7d18fa6", func := "loop.example/g00195/laws.FnExactSharedBy", spec := "fnExactSharedBy", apart := false }
def FnExactSharedBySaid : Prop := fnExactSharedByRow.holds Try.pinned (OpenSpec.ofChange fnExactSharedBySpec)

/-- ITS FALSE NEIGHBOUR: 'it returns false'. Refute it at one input. -/
def fnExactSharedByWrong : ChangeSpec := { name := "fnExactSharedBy", fn := fun _ => fun
  | [d1, d2, d3] => { results := [.lit (.bool false)], args := [d1, d2, d3] }
  | _ => none }
def FnExactSharedByWrongFalsely : Prop := fnExactSharedByRow.holds Try.pinned (OpenSpec.ofChange fnExactSharedByWrong)

/-- 'laws.FnExactSweepArena': WHATEVER THE INPUT: true; the input reads as it did. -/
def fnExactSweepArenaSpec : ChangeSpec := { name := "fnExactSweepArena", fn := fun _ => fun
  | [d1, d2] => { results := [.lit (.bool true)], args := [d1, d2] }
  | _ => none }
def fnExactSweepArenaRow : OpenClaim := { program := "ytnebelflnpbbiar", sum := "3dac3d4fcc96d4622f80b303ae82c576d3691e37985ac8fe988f7c9aa7d18fa6", func := "loop.example/g00195/laws.FnExactSweepArena", spec := "fnExactSweepArena", apart := false }
def FnExactSweepArenaSaid : Prop := fnExactSweepArenaRow.holds Try.pinned (OpenSpec.ofChange fnExactSweepArenaSpec)

/-- ITS FALSE NEIGHBOUR: 'it returns false'. Refute it at one input. -/
def fnExactSweepArenaWrong : ChangeSpec := { name := "fnExactSweepArena", fn := fun _ => fun
  | [d1, d2] => { results := [.lit (.bool false)], args := [d1, d2] }
  | _ => none }
def FnExactSweepArenaWrongFalsely : Prop := fnExactSweepArenaRow.holds Try.pinned (OpenSpec.ofChange fnExactSweepArenaWrong)

/- THE SECOND FORM. 'bulk': how many values and letters a reading holds, each counted each time it is reached (what is shared counts as often as it is met; a slice's spare places count too). A statement '..UptoSaid' is the law's where the arguments, and the package variables that the reading takes, are together of bulk at most 1048576: NARROWER than '..Said'. Prove '..Said' where nothing that the law and all that it calls make is longer than what came in: it says more and counts as full. Else prove '..UptoSaid'. A law counts once. -/
mutual
def uptoBulk {H : Type} : DataW H → Nat
  | .lit (.string bytes) => bytes.length + 1
  | .lit _ => 1
  | .nil => 1
  | .ptr d => uptoBulk d + 1
  | .slice elems spare => uptoBulkAll elems + uptoBulkAll spare + 1
  | .agg parts => uptoBulkAll parts + 1
  | .iface _ d => uptoBulk d + 1
  | .map entries => uptoBulkEntries entries + 1
  | .held _ => 1
def uptoBulkAll {H : Type} : List (DataW H) → Nat
  | [] => 0
  | d :: r => uptoBulk d + uptoBulkAll r
def uptoBulkEntries {H : Type} : List (Lit × DataW H) → Nat
  | [] => 0
  | x :: r => uptoBulkEntry x + uptoBulkEntries r
def uptoBulkEntry {H : Type} : Lit × DataW H → Nat
  | (.string bytes, d) => bytes.length + uptoBulk d + 1
  | (_, d) => uptoBulk d + 1
 end
def uptoSmall : (H : Type) → List (DataW H) → Bool := fun _ ds => decide (uptoBulkAll ds ≤ 1048576)
def OpenSpec.upto (s : _root_.Go.ChangeSpec) : _root_.Go.OpenSpec := { _root_.Go.OpenSpec.ofChange s with cond := some uptoSmall }

/-- 'laws.FnExactArenaOk', WHERE WHAT IT READS IS OF BULK AT MOST 1048576: true; the input reads as it did. -/
def fnExactArenaOkUptoRow : OpenClaim := { program := "ytnebelflnpbbiar", sum := "3dac3d4fcc96d4622f80b303ae82c576d3691e37985ac8fe988f7c9aa7d18fa6", func := "loop.example/g00195/laws.FnExactArenaOk", spec := "fnExactArenaOk", apart := false, narrowed := true }
def FnExactArenaOkUptoSaid : Prop := fnExactArenaOkUptoRow.holds Try.pinned (OpenSpec.upto fnExactArenaOkSpec)

/-- 'laws.FnExactGetAt', WHERE WHAT IT READS IS OF BULK AT MOST 1048576: true; the input reads as it did. -/
def fnExactGetAtUptoRow : OpenClaim := { program := "ytnebelflnpbbiar", sum := "3dac3d4fcc96d4622f80b303ae82c576d3691e37985ac8fe988f7c9aa7d18fa6", func := "loop.example/g00195/laws.FnExactGetAt", spec := "fnExactGetAt", apart := false, narrowed := true }
def FnExactGetAtUptoSaid : Prop := fnExactGetAtUptoRow.holds Try.pinned (OpenSpec.upto fnExactGetAtSpec)

/-- 'laws.FnExactPutAt', WHERE WHAT IT READS IS OF BULK AT MOST 1048576: true; the input reads as it did. -/
def fnExactPutAtUptoRow : OpenClaim := { program := "ytnebelflnpbbiar", sum := "3dac3d4fcc96d4622f80b303ae82c576d3691e37985ac8fe988f7c9aa7d18fa6", func := "loop.example/g00195/laws.FnExactPutAt", spec := "fnExactPutAt", apart := false, narrowed := true }
def FnExactPutAtUptoSaid : Prop := fnExactPutAtUptoRow.holds Try.pinned (OpenSpec.upto fnExactPutAtSpec)

/-- 'laws.FnExactAllAt', WHERE WHAT IT READS IS OF BULK AT MOST 1048576: true; the input reads as it did. -/
def fnExactAllAtUptoRow : OpenClaim := { program := "ytnebelflnpbbiar", sum := "3dac3d4fcc96d4622f80b303ae82c576d3691e37985ac8fe988f7c9aa7d18fa6", func := "loop.example/g00195/laws.FnExactAllAt", spec := "fnExactAllAt", apart := false, narrowed := true }
def FnExactAllAtUptoSaid : Prop := fnExactAllAtUptoRow.holds Try.pinned (OpenSpec.upto fnExactAllAtSpec)

/-- 'laws.FnExactSharedBy', WHERE WHAT IT READS IS OF BULK AT MOST 1048576: true; the input reads as it did. -/
def fnExactSharedByUptoRow : OpenClaim := { program := "ytnebelflnpbbiar", sum := "3dac3d4fcc96d4622f80b303ae82c576d3691e37985ac8fe988f7c9aa7d18fa6", func := "loop.example/g00195/laws.FnExactSharedBy", spec := "fnExactSharedBy", apart := false, narrowed := true }
def FnExactSharedByUptoSaid : Prop := fnExactSharedByUptoRow.holds Try.pinned (OpenSpec.upto fnExactSharedBySpec)

/-- 'laws.FnExactSweepArena', WHERE WHAT IT READS IS OF BULK AT MOST 1048576: true; the input reads as it did. -/
def fnExactSweepArenaUptoRow : OpenClaim := { program := "ytnebelflnpbbiar", sum := "3dac3d4fcc96d4622f80b303ae82c576d3691e37985ac8fe988f7c9aa7d18fa6", func := "loop.example/g00195/laws.FnExactSweepArena", spec := "fnExactSweepArena", apart := false, narrowed := true }
def FnExactSweepArenaUptoSaid : Prop := fnExactSweepArenaUptoRow.holds Try.pinned (OpenSpec.upto fnExactSweepArenaSpec)

end Rows
end Go.Proofs.Ytnebelflnpbbiar
