/-
  DERIVED. GIVEN WITH THE SEED: THE CARDS: each row of YtcbhbjglgkaabaoDoorRows.lean that lists a variable, with what it lists TIED to the program's text (the seventh form; the later family's looks); each row that meets fmt, with fmt's text TOLD by the authors' own Lean function (tested against real Go, not proved from fmt's source: count such statements apart). THE CARD IS WHAT COUNTS. Prove the row's statement (the work); the ties are given (YtcbhbjglgkaabaoDoorTie.lean); close each card by the builder's one call (the guide's Derived/Test/ToyasCard.lean, 'card_holds'). Laid BY PROGRAM, IN A SANDBOX (cutbox-door.mjs). By AI agents, Wed Nov 11 2026. No macro, syntax, notation, axiom, sorry.
-/
import Derived.Test.YtcbhbjglgkaabaoDoorRows
import GoSem.ClaimSeven
namespace Go.Proofs.YtcbhbjglgkaabaoDoor
namespace Rows

/-- THE TIED CARD OF 'laws.FnExactPageText'. -/
def fnExactPageTextCard : Claim7 := { stood := { row := fnExactPageTextRow, standIns := [], harness := (true, "379fa4ff9ab5814720f2406b8f7a44337d94f59e5dda366e4f0b44ab0ae965b7"), looks := true }, kinds := [], alts := [], laidByText := true, laidKinds := [.data], laidTests := true, laidLooks := .later }
def FnExactPageTextCardSaid : Prop := Claim7.holds Tryd.pinned (.plain (OpenSpec.ofChange fnExactPageTextSpec)) fnExactPageTextCard

/-- THE TIED CARD OF 'laws.FnExactReadPage'. -/
def fnExactReadPageCard : Claim7 := { stood := { row := fnExactReadPageRow, standIns := [], harness := (true, "379fa4ff9ab5814720f2406b8f7a44337d94f59e5dda366e4f0b44ab0ae965b7"), looks := true }, kinds := [], alts := [], laidByText := true, laidKinds := [.data], laidTests := true, laidLooks := .later }
def FnExactReadPageCardSaid : Prop := Claim7.holds Tryd.pinned (.plain (OpenSpec.ofChange fnExactReadPageSpec)) fnExactReadPageCard

/-- THE TIED CARD OF 'laws.FnExactScanAll'. -/
def fnExactScanAllCard : Claim7 := { stood := { row := fnExactScanAllRow, standIns := [], harness := (true, "379fa4ff9ab5814720f2406b8f7a44337d94f59e5dda366e4f0b44ab0ae965b7"), looks := true }, kinds := [], alts := [], laidByText := true, laidKinds := [.data], laidTests := true, laidLooks := .later }
def FnExactScanAllCardSaid : Prop := Claim7.holds Tryd.pinned (.plain (OpenSpec.ofChange fnExactScanAllSpec)) fnExactScanAllCard

/-- THE TIED CARD OF 'laws.FnExactLastSeq'. -/
def fnExactLastSeqCard : Claim7 := { stood := { row := fnExactLastSeqRow, standIns := [], harness := (true, "379fa4ff9ab5814720f2406b8f7a44337d94f59e5dda366e4f0b44ab0ae965b7"), looks := true }, kinds := [], alts := [], laidByText := true, laidKinds := [.data], laidTests := true, laidLooks := .later }
def FnExactLastSeqCardSaid : Prop := Claim7.holds Tryd.pinned (.plain (OpenSpec.ofChange fnExactLastSeqSpec)) fnExactLastSeqCard

/-- THE SECOND FORM's CARD OF 'laws.FnExactPageText'. -/
def fnExactPageTextUptoCard : Claim7 := { stood := { row := fnExactPageTextUptoRow, standIns := [], harness := (true, "379fa4ff9ab5814720f2406b8f7a44337d94f59e5dda366e4f0b44ab0ae965b7"), looks := true }, kinds := [], alts := [], laidByText := true, laidKinds := [.data], laidTests := true, laidLooks := .later }
def FnExactPageTextUptoCardSaid : Prop := Claim7.holds Tryd.pinned (.plain (OpenSpec.upto fnExactPageTextSpec)) fnExactPageTextUptoCard

/-- THE SECOND FORM's CARD OF 'laws.FnExactReadPage'. -/
def fnExactReadPageUptoCard : Claim7 := { stood := { row := fnExactReadPageUptoRow, standIns := [], harness := (true, "379fa4ff9ab5814720f2406b8f7a44337d94f59e5dda366e4f0b44ab0ae965b7"), looks := true }, kinds := [], alts := [], laidByText := true, laidKinds := [.data], laidTests := true, laidLooks := .later }
def FnExactReadPageUptoCardSaid : Prop := Claim7.holds Tryd.pinned (.plain (OpenSpec.upto fnExactReadPageSpec)) fnExactReadPageUptoCard

/-- THE SECOND FORM's CARD OF 'laws.FnExactScanAll'. -/
def fnExactScanAllUptoCard : Claim7 := { stood := { row := fnExactScanAllUptoRow, standIns := [], harness := (true, "379fa4ff9ab5814720f2406b8f7a44337d94f59e5dda366e4f0b44ab0ae965b7"), looks := true }, kinds := [], alts := [], laidByText := true, laidKinds := [.data], laidTests := true, laidLooks := .later }
def FnExactScanAllUptoCardSaid : Prop := Claim7.holds Tryd.pinned (.plain (OpenSpec.upto fnExactScanAllSpec)) fnExactScanAllUptoCard

/-- THE SECOND FORM's CARD OF 'laws.FnExactLastSeq'. -/
def fnExactLastSeqUptoCard : Claim7 := { stood := { row := fnExactLastSeqUptoRow, standIns := [], harness := (true, "379fa4ff9ab5814720f2406b8f7a44337d94f59e5dda366e4f0b44ab0ae965b7"), looks := true }, kinds := [], alts := [], laidByText := true, laidKinds := [.data], laidTests := true, laidLooks := .later }
def FnExactLastSeqUptoCardSaid : Prop := Claim7.holds Tryd.pinned (.plain (OpenSpec.upto fnExactLastSeqSpec)) fnExactLastSeqUptoCard
end Rows
end Go.Proofs.YtcbhbjglgkaabaoDoor
