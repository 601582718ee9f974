/-
  No cell of these rows narrows 'for every input' (looked for: loops, veiled, ifaces, maps, wideKeys, modest, calm, conditions, laid).
  DERIVED. THE GIVEN ROWS OF THIS SEAT. 6 by the template 'for every input the law returns true; each argument reads behind the call as it read before'; 0 by the template 'total and deterministic' (their statements: YthgfhjfnlecolapTotals.lean).
  GIVEN WITH THE SEED: the statements are not yours to turn. If you find one false, say at which input.
  Laid BY PROGRAM, IN A SANDBOX (cutbox-rows.mjs): the forced cells as the released guide's own fill.sh prints them over the translation 9c98faf6fdd13764… (all of the seat's roots in one cut). By AI agents, Wed Nov 11 2026. No macro, syntax, notation, axiom, sorry.
-/
import Derived.Test.YthgfhjfnlecolapChecked
import GoSem.Claim
import GoSem.ClaimJoined
import GoSem.ClaimMapViews
import Derived.JoinedTies
import Derived.KernelRfl
namespace Go.Proofs.Ythgfhjfnlecolap
/- THE CELL 'sum', in the pinned program and in every row, IS THE sha256 OF THE DUMP (.gsa) THAT YthgfhjfnlecolapProg.lean LOADS. Nothing in Lean hashes anything: it is a label: what it is worth is what the hold of that sum in a sandbox is worth. -/
noncomputable def Try.pinned : Pinned := { name := "ythgfhjfnlecolap", sum := "9c98faf6fdd137647cf48979830693ea29183a7a06589fb242ec779398eb7219", checked := Try.checked }
namespace Rows
def none {H : Type} : Left H := { results := [], args := [] }

/-- 'laws.FnExactPlaceOf': WHATEVER THE INPUT: true; the input reads as it did. -/
def fnExactPlaceOfSpec : ChangeSpec := { name := "fnExactPlaceOf", fn := fun _ => fun
  | [d] => { results := [.lit (.bool true)], args := [d] }
  | _ => none }
def fnExactPlaceOfRow : OpenClaim := { program := "ythgfhjfnlecolap", sum := "9c98faf6fdd137647cf48979830693ea29183a7a06589fb242ec779398eb7219", func := "loop.example/g00195/laws.FnExactPlaceOf", spec := "fnExactPlaceOf", unfollowed := true, recurses := true, apart := false }
def FnExactPlaceOfSaid : Prop := fnExactPlaceOfRow.holds Try.pinned (OpenSpec.ofChange fnExactPlaceOfSpec)

/-- ITS FALSE NEIGHBOUR: 'it returns false'. Refute it at one input. -/
def fnExactPlaceOfWrong : ChangeSpec := { name := "fnExactPlaceOf", fn := fun _ => fun
  | [d] => { results := [.lit (.bool false)], args := [d] }
  | _ => none }
def FnExactPlaceOfWrongFalsely : Prop := fnExactPlaceOfRow.holds Try.pinned (OpenSpec.ofChange fnExactPlaceOfWrong)

/-- 'laws.FnExactRoomOf': WHATEVER THE INPUT: true; the input reads as it did. -/
def fnExactRoomOfSpec : ChangeSpec := { name := "fnExactRoomOf", fn := fun _ => fun
  | [d] => { results := [.lit (.bool true)], args := [d] }
  | _ => none }
def fnExactRoomOfRow : OpenClaim := { program := "ythgfhjfnlecolap", sum := "9c98faf6fdd137647cf48979830693ea29183a7a06589fb242ec779398eb7219", func := "loop.example/g00195/laws.FnExactRoomOf", spec := "fnExactRoomOf", apart := false }
def FnExactRoomOfSaid : Prop := fnExactRoomOfRow.holds Try.pinned (OpenSpec.ofChange fnExactRoomOfSpec)

/-- ITS FALSE NEIGHBOUR: 'it returns false'. Refute it at one input. -/
def fnExactRoomOfWrong : ChangeSpec := { name := "fnExactRoomOf", fn := fun _ => fun
  | [d] => { results := [.lit (.bool false)], args := [d] }
  | _ => none }
def FnExactRoomOfWrongFalsely : Prop := fnExactRoomOfRow.holds Try.pinned (OpenSpec.ofChange fnExactRoomOfWrong)

/-- 'laws.FnExactDoStep': WHATEVER THE INPUT: true; the input reads as it did. -/
def fnExactDoStepSpec : ChangeSpec := { name := "fnExactDoStep", fn := fun _ => fun
  | [d1, d2] => { results := [.lit (.bool true)], args := [d1, d2] }
  | _ => none }
def fnExactDoStepRow : OpenClaim := { program := "ythgfhjfnlecolap", sum := "9c98faf6fdd137647cf48979830693ea29183a7a06589fb242ec779398eb7219", func := "loop.example/g00195/laws.FnExactDoStep", spec := "fnExactDoStep", unfollowed := true, recurses := true, apart := false }
def FnExactDoStepSaid : Prop := fnExactDoStepRow.holds Try.pinned (OpenSpec.ofChange fnExactDoStepSpec)

/-- ITS FALSE NEIGHBOUR: 'it returns false'. Refute it at one input. -/
def fnExactDoStepWrong : ChangeSpec := { name := "fnExactDoStep", fn := fun _ => fun
  | [d1, d2] => { results := [.lit (.bool false)], args := [d1, d2] }
  | _ => none }
def FnExactDoStepWrongFalsely : Prop := fnExactDoStepRow.holds Try.pinned (OpenSpec.ofChange fnExactDoStepWrong)

/-- 'laws.FnExactDoSteps': WHATEVER THE INPUT: true; the input reads as it did. -/
def fnExactDoStepsSpec : ChangeSpec := { name := "fnExactDoSteps", fn := fun _ => fun
  | [d1, d2] => { results := [.lit (.bool true)], args := [d1, d2] }
  | _ => none }
def fnExactDoStepsRow : OpenClaim := { program := "ythgfhjfnlecolap", sum := "9c98faf6fdd137647cf48979830693ea29183a7a06589fb242ec779398eb7219", func := "loop.example/g00195/laws.FnExactDoSteps", spec := "fnExactDoSteps", unfollowed := true, recurses := true, apart := false }
def FnExactDoStepsSaid : Prop := fnExactDoStepsRow.holds Try.pinned (OpenSpec.ofChange fnExactDoStepsSpec)

/-- ITS FALSE NEIGHBOUR: 'it returns false'. Refute it at one input. -/
def fnExactDoStepsWrong : ChangeSpec := { name := "fnExactDoSteps", fn := fun _ => fun
  | [d1, d2] => { results := [.lit (.bool false)], args := [d1, d2] }
  | _ => none }
def FnExactDoStepsWrongFalsely : Prop := fnExactDoStepsRow.holds Try.pinned (OpenSpec.ofChange fnExactDoStepsWrong)

/-- 'laws.FnExactCutSteps': WHATEVER THE INPUT: true; the input reads as it did. -/
def fnExactCutStepsSpec : ChangeSpec := { name := "fnExactCutSteps", fn := fun _ => fun
  | [d1, d2, d3, d4] => { results := [.lit (.bool true)], args := [d1, d2, d3, d4] }
  | _ => none }
def fnExactCutStepsRow : OpenClaim := { program := "ythgfhjfnlecolap", sum := "9c98faf6fdd137647cf48979830693ea29183a7a06589fb242ec779398eb7219", func := "loop.example/g00195/laws.FnExactCutSteps", spec := "fnExactCutSteps", unfollowed := true, recurses := true, apart := false }
def FnExactCutStepsSaid : Prop := fnExactCutStepsRow.holds Try.pinned (OpenSpec.ofChange fnExactCutStepsSpec)

/-- ITS FALSE NEIGHBOUR: 'it returns false'. Refute it at one input. -/
def fnExactCutStepsWrong : ChangeSpec := { name := "fnExactCutSteps", fn := fun _ => fun
  | [d1, d2, d3, d4] => { results := [.lit (.bool false)], args := [d1, d2, d3, d4] }
  | _ => none }
def FnExactCutStepsWrongFalsely : Prop := fnExactCutStepsRow.holds Try.pinned (OpenSpec.ofChange fnExactCutStepsWrong)

/-- 'laws.FnExactTorment': WHATEVER THE INPUT: true; the input reads as it did. -/
def fnExactTormentSpec : ChangeSpec := { name := "fnExactTorment", fn := fun _ => fun
  | [d1, d2] => { results := [.lit (.bool true)], args := [d1, d2] }
  | _ => none }
def fnExactTormentRow : OpenClaim := { program := "ythgfhjfnlecolap", sum := "9c98faf6fdd137647cf48979830693ea29183a7a06589fb242ec779398eb7219", func := "loop.example/g00195/laws.FnExactTorment", spec := "fnExactTorment", unfollowed := true, recurses := true, apart := false }
def FnExactTormentSaid : Prop := fnExactTormentRow.holds Try.pinned (OpenSpec.ofChange fnExactTormentSpec)

/-- ITS FALSE NEIGHBOUR: 'it returns false'. Refute it at one input. -/
def fnExactTormentWrong : ChangeSpec := { name := "fnExactTorment", fn := fun _ => fun
  | [d1, d2] => { results := [.lit (.bool false)], args := [d1, d2] }
  | _ => none }
def FnExactTormentWrongFalsely : Prop := fnExactTormentRow.holds Try.pinned (OpenSpec.ofChange fnExactTormentWrong)

/- THE SECOND FORM. 'bulk': how many values and letters a reading holds, each counted each time it is reached (what is shared counts as often as it is met; a slice's spare places count too). A statement '..UptoSaid' is the law's where the arguments, and the package variables that the reading takes, are together of bulk at most 1048576: NARROWER than '..Said'. Prove '..Said' where nothing that the law and all that it calls make is longer than what came in: it says more and counts as full. Else prove '..UptoSaid'. A law counts once. -/
mutual
def uptoBulk {H : Type} : DataW H → Nat
  | .lit (.string bytes) => bytes.length + 1
  | .lit _ => 1
  | .nil => 1
  | .ptr d => uptoBulk d + 1
  | .slice elems spare => uptoBulkAll elems + uptoBulkAll spare + 1
  | .agg parts => uptoBulkAll parts + 1
  | .iface _ d => uptoBulk d + 1
  | .map entries => uptoBulkEntries entries + 1
  | .held _ => 1
def uptoBulkAll {H : Type} : List (DataW H) → Nat
  | [] => 0
  | d :: r => uptoBulk d + uptoBulkAll r
def uptoBulkEntries {H : Type} : List (Lit × DataW H) → Nat
  | [] => 0
  | x :: r => uptoBulkEntry x + uptoBulkEntries r
def uptoBulkEntry {H : Type} : Lit × DataW H → Nat
  | (.string bytes, d) => bytes.length + uptoBulk d + 1
  | (_, d) => uptoBulk d + 1
 end
def uptoSmall : (H : Type) → List (DataW H) → Bool := fun _ ds => decide (uptoBulkAll ds ≤ 1048576)
def OpenSpec.upto (s : _root_.Go.ChangeSpec) : _root_.Go.OpenSpec := { _root_.Go.OpenSpec.ofChange s with cond := some uptoSmall }

/-- 'laws.FnExactPlaceOf', WHERE WHAT IT READS IS OF BULK AT MOST 1048576: true; the input reads as it did. -/
def fnExactPlaceOfUptoRow : OpenClaim := { program := "ythgfhjfnlecolap", sum := "9c98faf6fdd137647cf48979830693ea29183a7a06589fb242ec779398eb7219", func := "loop.example/g00195/laws.FnExactPlaceOf", spec := "fnExactPlaceOf", unfollowed := true, recurses := true, apart := false, narrowed := true }
def FnExactPlaceOfUptoSaid : Prop := fnExactPlaceOfUptoRow.holds Try.pinned (OpenSpec.upto fnExactPlaceOfSpec)

/-- 'laws.FnExactRoomOf', WHERE WHAT IT READS IS OF BULK AT MOST 1048576: true; the input reads as it did. -/
def fnExactRoomOfUptoRow : OpenClaim := { program := "ythgfhjfnlecolap", sum := "9c98faf6fdd137647cf48979830693ea29183a7a06589fb242ec779398eb7219", func := "loop.example/g00195/laws.FnExactRoomOf", spec := "fnExactRoomOf", apart := false, narrowed := true }
def FnExactRoomOfUptoSaid : Prop := fnExactRoomOfUptoRow.holds Try.pinned (OpenSpec.upto fnExactRoomOfSpec)

/-- 'laws.FnExactDoStep', WHERE WHAT IT READS IS OF BULK AT MOST 1048576: true; the input reads as it did. -/
def fnExactDoStepUptoRow : OpenClaim := { program := "ythgfhjfnlecolap", sum := "9c98faf6fdd137647cf48979830693ea29183a7a06589fb242ec779398eb7219", func := "loop.example/g00195/laws.FnExactDoStep", spec := "fnExactDoStep", unfollowed := true, recurses := true, apart := false, narrowed := true }
def FnExactDoStepUptoSaid : Prop := fnExactDoStepUptoRow.holds Try.pinned (OpenSpec.upto fnExactDoStepSpec)

/-- 'laws.FnExactDoSteps', WHERE WHAT IT READS IS OF BULK AT MOST 1048576: true; the input reads as it did. -/
def fnExactDoStepsUptoRow : OpenClaim := { program := "ythgfhjfnlecolap", sum := "9c98faf6fdd137647cf48979830693ea29183a7a06589fb242ec779398eb7219", func := "loop.example/g00195/laws.FnExactDoSteps", spec := "fnExactDoSteps", unfollowed := true, recurses := true, apart := false, narrowed := true }
def FnExactDoStepsUptoSaid : Prop := fnExactDoStepsUptoRow.holds Try.pinned (OpenSpec.upto fnExactDoStepsSpec)

/-- 'laws.FnExactCutSteps', WHERE WHAT IT READS IS OF BULK AT MOST 1048576: true; the input reads as it did. -/
def fnExactCutStepsUptoRow : OpenClaim := { program := "ythgfhjfnlecolap", sum := "9c98faf6fdd137647cf48979830693ea29183a7a06589fb242ec779398eb7219", func := "loop.example/g00195/laws.FnExactCutSteps", spec := "fnExactCutSteps", unfollowed := true, recurses := true, apart := false, narrowed := true }
def FnExactCutStepsUptoSaid : Prop := fnExactCutStepsUptoRow.holds Try.pinned (OpenSpec.upto fnExactCutStepsSpec)

/-- 'laws.FnExactTorment', WHERE WHAT IT READS IS OF BULK AT MOST 1048576: true; the input reads as it did. -/
def fnExactTormentUptoRow : OpenClaim := { program := "ythgfhjfnlecolap", sum := "9c98faf6fdd137647cf48979830693ea29183a7a06589fb242ec779398eb7219", func := "loop.example/g00195/laws.FnExactTorment", spec := "fnExactTorment", unfollowed := true, recurses := true, apart := false, narrowed := true }
def FnExactTormentUptoSaid : Prop := fnExactTormentUptoRow.holds Try.pinned (OpenSpec.upto fnExactTormentSpec)

end Rows
end Go.Proofs.Ythgfhjfnlecolap
