/-
  DERIVED. GIVEN WITH THE SEED: THE CARDS: each row of YtiicghepilbgfaaGreatDoorRows.lean that lists a variable, with what it lists TIED to the program's text (the seventh form; the later family's looks); each row that meets fmt, with fmt's text TOLD by the authors' own Lean function (tested against real Go, not proved from fmt's source: count such statements apart). THE CARD IS WHAT COUNTS. Prove the row's statement (the work); the ties are given (YtiicghepilbgfaaGreatDoorTie.lean); close each card by the builder's one call (the guide's Derived/Test/ToyasCard.lean, 'card_holds'). Laid BY PROGRAM, IN A SANDBOX (cutbox-door.mjs). By AI agents, Wed Nov 11 2026. No macro, syntax, notation, axiom, sorry.
-/
import Derived.Test.YtiicghepilbgfaaGreatDoorRows
import GoSem.ClaimSeven
namespace Go.Proofs.YtiicghepilbgfaaGreatDoor
namespace Rows

/-- THE TIED CARD OF 'laws.FnExactEventOk'. -/
def fnExactEventOkCard : Claim7 := { stood := { row := fnExactEventOkRow, standIns := [], harness := (true, "717a0d118e3aa5e53d025dbef48862eff14efd444501aab26b100ed6c5999d86"), looks := true }, kinds := [], alts := [], laidByText := true, laidKinds := [.data, .data], laidTests := true, laidLooks := .later }
def FnExactEventOkCardSaid : Prop := Claim7.holds Tryz.pinned (.plain (OpenSpec.ofChange fnExactEventOkSpec)) fnExactEventOkCard

/-- THE TIED CARD OF 'laws.FnExactModelOfDevice'. -/
def fnExactModelOfDeviceCard : Claim7 := { stood := { row := fnExactModelOfDeviceRow, standIns := [], harness := (true, "717a0d118e3aa5e53d025dbef48862eff14efd444501aab26b100ed6c5999d86"), looks := true }, kinds := [], alts := [], laidByText := true, laidKinds := [.data], laidTests := true, laidLooks := .later }
def FnExactModelOfDeviceCardSaid : Prop := Claim7.holds Tryz.pinned (.plain (OpenSpec.ofChange fnExactModelOfDeviceSpec)) fnExactModelOfDeviceCard

/-- THE SECOND FORM's CARD OF 'laws.FnExactEventOk'. -/
def fnExactEventOkUptoCard : Claim7 := { stood := { row := fnExactEventOkUptoRow, standIns := [], harness := (true, "717a0d118e3aa5e53d025dbef48862eff14efd444501aab26b100ed6c5999d86"), looks := true }, kinds := [], alts := [], laidByText := true, laidKinds := [.data, .data], laidTests := true, laidLooks := .later }
def FnExactEventOkUptoCardSaid : Prop := Claim7.holds Tryz.pinned (.plain (OpenSpec.upto fnExactEventOkSpec)) fnExactEventOkUptoCard

/-- THE SECOND FORM's CARD OF 'laws.FnExactModelOfDevice'. -/
def fnExactModelOfDeviceUptoCard : Claim7 := { stood := { row := fnExactModelOfDeviceUptoRow, standIns := [], harness := (true, "717a0d118e3aa5e53d025dbef48862eff14efd444501aab26b100ed6c5999d86"), looks := true }, kinds := [], alts := [], laidByText := true, laidKinds := [.data], laidTests := true, laidLooks := .later }
def FnExactModelOfDeviceUptoCardSaid : Prop := Claim7.holds Tryz.pinned (.plain (OpenSpec.upto fnExactModelOfDeviceSpec)) fnExactModelOfDeviceUptoCard
end Rows
end Go.Proofs.YtiicghepilbgfaaGreatDoor
