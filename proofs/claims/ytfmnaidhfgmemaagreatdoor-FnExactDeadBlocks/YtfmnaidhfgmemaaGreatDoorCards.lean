/-
  DERIVED. GIVEN WITH THE SEED: THE CARDS: each row of YtfmnaidhfgmemaaGreatDoorRows.lean that lists a variable, with what it lists TIED to the program's text (the seventh form; the later family's looks); each row that meets fmt, with fmt's text TOLD by the authors' own Lean function (tested against real Go, not proved from fmt's source: count such statements apart). THE CARD IS WHAT COUNTS. Prove the row's statement (the work); the ties are given (YtfmnaidhfgmemaaGreatDoorTie.lean); close each card by the builder's one call (the guide's Derived/Test/ToyasCard.lean, 'card_holds'). Laid BY PROGRAM, IN A SANDBOX (cutbox-door.mjs). By AI agents, Wed Nov 11 2026. No macro, syntax, notation, axiom, sorry.
-/
import Derived.Test.YtfmnaidhfgmemaaGreatDoorRows
import GoSem.ClaimSeven
namespace Go.Proofs.YtfmnaidhfgmemaaGreatDoor
namespace Rows

/-- THE TIED CARD OF 'laws.FnExactBaseSteps'. -/
def fnExactBaseStepsCard : Claim7 := { stood := { row := fnExactBaseStepsRow, standIns := [], harness := (true, "b67466296be9595ed41bd872f1c032b8c8c106522f9067d171c4d3c63d88b754"), looks := true }, kinds := [], alts := [], laidByText := true, laidKinds := [.data], laidTests := true, laidLooks := .later }
def FnExactBaseStepsCardSaid : Prop := Claim7.holds Tryz.pinned (.plain (OpenSpec.ofChange fnExactBaseStepsSpec)) fnExactBaseStepsCard

/-- THE TIED CARD OF 'laws.FnExactDeadBlocks'. -/
def fnExactDeadBlocksCard : Claim7 := { stood := { row := fnExactDeadBlocksRow, standIns := [], harness := (true, "b67466296be9595ed41bd872f1c032b8c8c106522f9067d171c4d3c63d88b754"), looks := true }, kinds := [], alts := [], laidByText := true, laidKinds := [.data], laidTests := true, laidLooks := .later }
def FnExactDeadBlocksCardSaid : Prop := Claim7.holds Tryz.pinned (.plain (OpenSpec.ofChange fnExactDeadBlocksSpec)) fnExactDeadBlocksCard

/-- THE SECOND FORM's CARD OF 'laws.FnExactBaseSteps'. -/
def fnExactBaseStepsUptoCard : Claim7 := { stood := { row := fnExactBaseStepsUptoRow, standIns := [], harness := (true, "b67466296be9595ed41bd872f1c032b8c8c106522f9067d171c4d3c63d88b754"), looks := true }, kinds := [], alts := [], laidByText := true, laidKinds := [.data], laidTests := true, laidLooks := .later }
def FnExactBaseStepsUptoCardSaid : Prop := Claim7.holds Tryz.pinned (.plain (OpenSpec.upto fnExactBaseStepsSpec)) fnExactBaseStepsUptoCard

/-- THE SECOND FORM's CARD OF 'laws.FnExactDeadBlocks'. -/
def fnExactDeadBlocksUptoCard : Claim7 := { stood := { row := fnExactDeadBlocksUptoRow, standIns := [], harness := (true, "b67466296be9595ed41bd872f1c032b8c8c106522f9067d171c4d3c63d88b754"), looks := true }, kinds := [], alts := [], laidByText := true, laidKinds := [.data], laidTests := true, laidLooks := .later }
def FnExactDeadBlocksUptoCardSaid : Prop := Claim7.holds Tryz.pinned (.plain (OpenSpec.upto fnExactDeadBlocksSpec)) fnExactDeadBlocksUptoCard
end Rows
end Go.Proofs.YtfmnaidhfgmemaaGreatDoor
