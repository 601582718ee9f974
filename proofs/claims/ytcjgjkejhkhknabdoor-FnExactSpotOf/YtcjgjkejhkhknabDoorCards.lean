/-
  DERIVED. GIVEN WITH THE SEED: THE CARDS: each row of YtcjgjkejhkhknabDoorRows.lean that lists a variable, with what it lists TIED to the program's text (the seventh form; the later family's looks); each row that meets fmt, with fmt's text TOLD by the authors' own Lean function (tested against real Go, not proved from fmt's source: count such statements apart). THE CARD IS WHAT COUNTS. Prove the row's statement (the work); the ties are given (YtcjgjkejhkhknabDoorTie.lean); close each card by the builder's one call (the guide's Derived/Test/ToyasCard.lean, 'card_holds'). Laid BY PROGRAM, IN A SANDBOX (cutbox-door.mjs). By AI agents, Wed Nov 11 2026. No macro, syntax, notation, axiom, sorry.
-/
import Derived.Test.YtcjgjkejhkhknabDoorRows
import GoSem.ClaimSeven
namespace Go.Proofs.YtcjgjkejhkhknabDoor
namespace Rows

/-- THE TIED CARD OF 'laws.FnExactChunkText'. -/
def fnExactChunkTextCard : Claim7 := { stood := { row := fnExactChunkTextRow, standIns := [], harness := (true, "a581f64f3a19ec92ced2d80ded7e7a720488d5fcd338a91e36e1055244bf9508"), looks := true }, kinds := [], alts := [], laidByText := true, laidKinds := [.data], laidTests := true, laidLooks := .later }
def FnExactChunkTextCardSaid : Prop := Claim7.holds Tryd.pinned (.plain (OpenSpec.ofChange fnExactChunkTextSpec)) fnExactChunkTextCard

/-- THE TIED CARD OF 'laws.FnExactSpotOf'. -/
def fnExactSpotOfCard : Claim7 := { stood := { row := fnExactSpotOfRow, standIns := [], harness := (true, "a581f64f3a19ec92ced2d80ded7e7a720488d5fcd338a91e36e1055244bf9508"), looks := true }, kinds := [], alts := [], laidByText := true, laidKinds := [.data], laidTests := true, laidLooks := .later }
def FnExactSpotOfCardSaid : Prop := Claim7.holds Tryd.pinned (.plain (OpenSpec.ofChange fnExactSpotOfSpec)) fnExactSpotOfCard

/-- THE SECOND FORM's CARD OF 'laws.FnExactChunkText'. -/
def fnExactChunkTextUptoCard : Claim7 := { stood := { row := fnExactChunkTextUptoRow, standIns := [], harness := (true, "a581f64f3a19ec92ced2d80ded7e7a720488d5fcd338a91e36e1055244bf9508"), looks := true }, kinds := [], alts := [], laidByText := true, laidKinds := [.data], laidTests := true, laidLooks := .later }
def FnExactChunkTextUptoCardSaid : Prop := Claim7.holds Tryd.pinned (.plain (OpenSpec.upto fnExactChunkTextSpec)) fnExactChunkTextUptoCard

/-- THE SECOND FORM's CARD OF 'laws.FnExactSpotOf'. -/
def fnExactSpotOfUptoCard : Claim7 := { stood := { row := fnExactSpotOfUptoRow, standIns := [], harness := (true, "a581f64f3a19ec92ced2d80ded7e7a720488d5fcd338a91e36e1055244bf9508"), looks := true }, kinds := [], alts := [], laidByText := true, laidKinds := [.data], laidTests := true, laidLooks := .later }
def FnExactSpotOfUptoCardSaid : Prop := Claim7.holds Tryd.pinned (.plain (OpenSpec.upto fnExactSpotOfSpec)) fnExactSpotOfUptoCard
end Rows
end Go.Proofs.YtcjgjkejhkhknabDoor
