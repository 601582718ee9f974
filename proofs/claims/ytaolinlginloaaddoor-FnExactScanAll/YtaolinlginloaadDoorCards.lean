/-
  DERIVED. GIVEN WITH THE SEED: THE CARDS: each row of YtaolinlginloaadDoorRows.lean that lists a variable, with what it lists TIED to the program's text (the seventh form; the later family's looks); each row that meets fmt, with fmt's text TOLD by the authors' own Lean function (tested against real Go, not proved from fmt's source: count such statements apart). THE CARD IS WHAT COUNTS. Prove the row's statement (the work); the ties are given (YtaolinlginloaadDoorTie.lean); close each card by the builder's one call (the guide's Derived/Test/ToyasCard.lean, 'card_holds'). Laid BY PROGRAM, IN A SANDBOX (cutbox-door.mjs). By AI agents, Wed Nov 11 2026. No macro, syntax, notation, axiom, sorry.
-/
import Derived.Test.YtaolinlginloaadDoorRows
import GoSem.ClaimSeven
namespace Go.Proofs.YtaolinlginloaadDoor
namespace Rows

/-- THE TIED CARD OF 'laws.FnExactScanAll'. -/
def fnExactScanAllCard : Claim7 := { stood := { row := fnExactScanAllRow, standIns := [], harness := (true, "abe5262450570f8fa07ede5423d699de8c08e1164db957fa752d532e992f925f"), looks := true }, kinds := [], alts := [], laidByText := true, laidKinds := [.data], laidTests := true, laidLooks := .later }
def FnExactScanAllCardSaid : Prop := Claim7.holds Tryd.pinned (.plain (OpenSpec.ofChange fnExactScanAllSpec)) fnExactScanAllCard

/-- THE TIED CARD OF 'laws.FnExactLastSeq'. -/
def fnExactLastSeqCard : Claim7 := { stood := { row := fnExactLastSeqRow, standIns := [], harness := (true, "abe5262450570f8fa07ede5423d699de8c08e1164db957fa752d532e992f925f"), looks := true }, kinds := [], alts := [], laidByText := true, laidKinds := [.data], laidTests := true, laidLooks := .later }
def FnExactLastSeqCardSaid : Prop := Claim7.holds Tryd.pinned (.plain (OpenSpec.ofChange fnExactLastSeqSpec)) fnExactLastSeqCard

/-- THE SECOND FORM's CARD OF 'laws.FnExactScanAll'. -/
def fnExactScanAllUptoCard : Claim7 := { stood := { row := fnExactScanAllUptoRow, standIns := [], harness := (true, "abe5262450570f8fa07ede5423d699de8c08e1164db957fa752d532e992f925f"), looks := true }, kinds := [], alts := [], laidByText := true, laidKinds := [.data], laidTests := true, laidLooks := .later }
def FnExactScanAllUptoCardSaid : Prop := Claim7.holds Tryd.pinned (.plain (OpenSpec.upto fnExactScanAllSpec)) fnExactScanAllUptoCard

/-- THE SECOND FORM's CARD OF 'laws.FnExactLastSeq'. -/
def fnExactLastSeqUptoCard : Claim7 := { stood := { row := fnExactLastSeqUptoRow, standIns := [], harness := (true, "abe5262450570f8fa07ede5423d699de8c08e1164db957fa752d532e992f925f"), looks := true }, kinds := [], alts := [], laidByText := true, laidKinds := [.data], laidTests := true, laidLooks := .later }
def FnExactLastSeqUptoCardSaid : Prop := Claim7.holds Tryd.pinned (.plain (OpenSpec.upto fnExactLastSeqSpec)) fnExactLastSeqUptoCard
end Rows
end Go.Proofs.YtaolinlginloaadDoor
