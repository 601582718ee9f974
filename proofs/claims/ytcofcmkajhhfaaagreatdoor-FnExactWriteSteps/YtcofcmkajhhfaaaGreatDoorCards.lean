/-
  DERIVED. GIVEN WITH THE SEED: THE CARDS: each row of YtcofcmkajhhfaaaGreatDoorRows.lean that lists a variable, with what it lists TIED to the program's text (the seventh form; the later family's looks); each row that meets fmt, with fmt's text TOLD by the authors' own Lean function (tested against real Go, not proved from fmt's source: count such statements apart). THE CARD IS WHAT COUNTS. Prove the row's statement (the work); the ties are given (YtcofcmkajhhfaaaGreatDoorTie.lean); close each card by the builder's one call (the guide's Derived/Test/ToyasCard.lean, 'card_holds'). Laid BY PROGRAM, IN A SANDBOX (cutbox-door.mjs). By AI agents, Wed Nov 11 2026. No macro, syntax, notation, axiom, sorry.
-/
import Derived.Test.YtcofcmkajhhfaaaGreatDoorRows
import GoSem.ClaimSeven
namespace Go.Proofs.YtcofcmkajhhfaaaGreatDoor
namespace Rows

/-- THE TIED CARD OF 'laws.FnExactWriteSteps'. -/
def fnExactWriteStepsCard : Claim7 := { stood := { row := fnExactWriteStepsRow, standIns := [], harness := (true, "5de3a604271ab233e5be3c4f564a2fe4f49cd74b5f4b89502adc61636eab84f3"), looks := true }, kinds := [], alts := [], laidByText := true, laidKinds := [.data], laidTests := true, laidLooks := .later }
def FnExactWriteStepsCardSaid : Prop := Claim7.holds Tryz.pinned (.plain (OpenSpec.ofChange fnExactWriteStepsSpec)) fnExactWriteStepsCard

/-- THE SECOND FORM's CARD OF 'laws.FnExactWriteSteps'. -/
def fnExactWriteStepsUptoCard : Claim7 := { stood := { row := fnExactWriteStepsUptoRow, standIns := [], harness := (true, "5de3a604271ab233e5be3c4f564a2fe4f49cd74b5f4b89502adc61636eab84f3"), looks := true }, kinds := [], alts := [], laidByText := true, laidKinds := [.data], laidTests := true, laidLooks := .later }
def FnExactWriteStepsUptoCardSaid : Prop := Claim7.holds Tryz.pinned (.plain (OpenSpec.upto fnExactWriteStepsSpec)) fnExactWriteStepsUptoCard
end Rows
end Go.Proofs.YtcofcmkajhhfaaaGreatDoor
