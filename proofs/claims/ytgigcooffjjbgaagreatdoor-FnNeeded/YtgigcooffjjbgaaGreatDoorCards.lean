/-
  DERIVED. GIVEN WITH THE SEED: THE CARDS: each row of YtgigcooffjjbgaaGreatDoorRows.lean that lists a variable, with what it lists TIED to the program's text (the seventh form; the later family's looks); each row that meets fmt, with fmt's text TOLD by the authors' own Lean function (tested against real Go, not proved from fmt's source: count such statements apart). THE CARD IS WHAT COUNTS. Prove the row's statement (the work); the ties are given (YtgigcooffjjbgaaGreatDoorTie.lean); close each card by the builder's one call (the guide's Derived/Test/ToyasCard.lean, 'card_holds'). Laid BY PROGRAM, IN A SANDBOX (cutbox-door.mjs). By AI agents, Wed Nov 11 2026. No macro, syntax, notation, axiom, sorry.
-/
import Derived.Test.YtgigcooffjjbgaaGreatDoorRows
import GoSem.ClaimSeven
namespace Go.Proofs.YtgigcooffjjbgaaGreatDoor
namespace Rows

/-- THE TIED CARD OF 'laws.FnChunks'. -/
def fnChunksCard : Claim7 := { stood := { row := fnChunksRow, standIns := [], harness := (true, "1ba54a1072d36b674917b3a44645585e1c453b3623d849d4a09385fcb8ec3757"), looks := true }, kinds := [], alts := [], laidByText := true, laidKinds := [.data, .data], laidTests := true, laidLooks := .later }
def FnChunksCardSaid : Prop := Claim7.holds Tryz.pinned (.plain (OpenSpec.ofChange fnChunksSpec)) fnChunksCard

/-- THE TIED CARD OF 'laws.FnNeeded'. -/
def fnNeededCard : Claim7 := { stood := { row := fnNeededRow, standIns := [], harness := (true, "1ba54a1072d36b674917b3a44645585e1c453b3623d849d4a09385fcb8ec3757"), looks := true }, kinds := [], alts := [], laidByText := true, laidKinds := [.data], laidTests := true, laidLooks := .later }
def FnNeededCardSaid : Prop := Claim7.holds Tryz.pinned (.plain (OpenSpec.ofChange fnNeededSpec)) fnNeededCard

/-- THE TIED CARD OF 'laws.FnPlans'. -/
def fnPlansCard : Claim7 := { stood := { row := fnPlansRow, standIns := [], harness := (true, "1ba54a1072d36b674917b3a44645585e1c453b3623d849d4a09385fcb8ec3757"), looks := true }, kinds := [], alts := [], laidByText := true, laidKinds := [.data, .data], laidTests := true, laidLooks := .later }
def FnPlansCardSaid : Prop := Claim7.holds Tryz.pinned (.plain (OpenSpec.ofChange fnPlansSpec)) fnPlansCard

/-- THE TIED CARD OF 'laws.FnReadsOf'. -/
def fnReadsOfCard : Claim7 := { stood := { row := fnReadsOfRow, standIns := [], harness := (true, "1ba54a1072d36b674917b3a44645585e1c453b3623d849d4a09385fcb8ec3757"), looks := true }, kinds := [], alts := [], laidByText := true, laidKinds := [.data, .data], laidTests := true, laidLooks := .later }
def FnReadsOfCardSaid : Prop := Claim7.holds Tryz.pinned (.plain (OpenSpec.ofChange fnReadsOfSpec)) fnReadsOfCard

/-- THE SECOND FORM's CARD OF 'laws.FnChunks'. -/
def fnChunksUptoCard : Claim7 := { stood := { row := fnChunksUptoRow, standIns := [], harness := (true, "1ba54a1072d36b674917b3a44645585e1c453b3623d849d4a09385fcb8ec3757"), looks := true }, kinds := [], alts := [], laidByText := true, laidKinds := [.data, .data], laidTests := true, laidLooks := .later }
def FnChunksUptoCardSaid : Prop := Claim7.holds Tryz.pinned (.plain (OpenSpec.upto fnChunksSpec)) fnChunksUptoCard

/-- THE SECOND FORM's CARD OF 'laws.FnNeeded'. -/
def fnNeededUptoCard : Claim7 := { stood := { row := fnNeededUptoRow, standIns := [], harness := (true, "1ba54a1072d36b674917b3a44645585e1c453b3623d849d4a09385fcb8ec3757"), looks := true }, kinds := [], alts := [], laidByText := true, laidKinds := [.data], laidTests := true, laidLooks := .later }
def FnNeededUptoCardSaid : Prop := Claim7.holds Tryz.pinned (.plain (OpenSpec.upto fnNeededSpec)) fnNeededUptoCard

/-- THE SECOND FORM's CARD OF 'laws.FnPlans'. -/
def fnPlansUptoCard : Claim7 := { stood := { row := fnPlansUptoRow, standIns := [], harness := (true, "1ba54a1072d36b674917b3a44645585e1c453b3623d849d4a09385fcb8ec3757"), looks := true }, kinds := [], alts := [], laidByText := true, laidKinds := [.data, .data], laidTests := true, laidLooks := .later }
def FnPlansUptoCardSaid : Prop := Claim7.holds Tryz.pinned (.plain (OpenSpec.upto fnPlansSpec)) fnPlansUptoCard

/-- THE SECOND FORM's CARD OF 'laws.FnReadsOf'. -/
def fnReadsOfUptoCard : Claim7 := { stood := { row := fnReadsOfUptoRow, standIns := [], harness := (true, "1ba54a1072d36b674917b3a44645585e1c453b3623d849d4a09385fcb8ec3757"), looks := true }, kinds := [], alts := [], laidByText := true, laidKinds := [.data, .data], laidTests := true, laidLooks := .later }
def FnReadsOfUptoCardSaid : Prop := Claim7.holds Tryz.pinned (.plain (OpenSpec.upto fnReadsOfSpec)) fnReadsOfUptoCard
end Rows
end Go.Proofs.YtgigcooffjjbgaaGreatDoor
