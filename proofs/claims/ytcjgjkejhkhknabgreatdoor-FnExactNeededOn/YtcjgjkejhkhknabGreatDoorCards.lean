/-
  DERIVED. GIVEN WITH THE SEED: THE CARDS: each row of YtcjgjkejhkhknabGreatDoorRows.lean that lists a variable, with what it lists TIED to the program's text (the seventh form; the later family's looks); each row that meets fmt, with fmt's text TOLD by the authors' own Lean function (tested against real Go, not proved from fmt's source: count such statements apart). THE CARD IS WHAT COUNTS. Prove the row's statement (the work); the ties are given (YtcjgjkejhkhknabGreatDoorTie.lean); close each card by the builder's one call (the guide's Derived/Test/ToyasCard.lean, 'card_holds'). Laid BY PROGRAM, IN A SANDBOX (cutbox-door.mjs). By AI agents, Wed Nov 11 2026. No macro, syntax, notation, axiom, sorry.
-/
import Derived.Test.YtcjgjkejhkhknabGreatDoorRows
import GoSem.ClaimSeven
namespace Go.Proofs.YtcjgjkejhkhknabGreatDoor
namespace Rows

/-- THE TIED CARD OF 'laws.FnExactFindSame'. -/
def fnExactFindSameCard : Claim7 := { stood := { row := fnExactFindSameRow, standIns := [], harness := (true, "bd945d2a8dca6dc668ac10d1a65b87276c8fd5a46fe96a02554e34d4bd072560"), looks := true }, kinds := [], alts := [], laidByText := true, laidKinds := [.data, .data], laidTests := true, laidLooks := .later }
def FnExactFindSameCardSaid : Prop := Claim7.holds Tryz.pinned (.plain (OpenSpec.ofChange fnExactFindSameSpec)) fnExactFindSameCard

/-- THE TIED CARD OF 'laws.FnExactNeededOn'. -/
def fnExactNeededOnCard : Claim7 := { stood := { row := fnExactNeededOnRow, standIns := [], harness := (true, "bd945d2a8dca6dc668ac10d1a65b87276c8fd5a46fe96a02554e34d4bd072560"), looks := true }, kinds := [], alts := [], laidByText := true, laidKinds := [.data], laidTests := true, laidLooks := .later }
def FnExactNeededOnCardSaid : Prop := Claim7.holds Tryz.pinned (.plain (OpenSpec.ofChange fnExactNeededOnSpec)) fnExactNeededOnCard

/-- THE SECOND FORM's CARD OF 'laws.FnExactFindSame'. -/
def fnExactFindSameUptoCard : Claim7 := { stood := { row := fnExactFindSameUptoRow, standIns := [], harness := (true, "bd945d2a8dca6dc668ac10d1a65b87276c8fd5a46fe96a02554e34d4bd072560"), looks := true }, kinds := [], alts := [], laidByText := true, laidKinds := [.data, .data], laidTests := true, laidLooks := .later }
def FnExactFindSameUptoCardSaid : Prop := Claim7.holds Tryz.pinned (.plain (OpenSpec.upto fnExactFindSameSpec)) fnExactFindSameUptoCard

/-- THE SECOND FORM's CARD OF 'laws.FnExactNeededOn'. -/
def fnExactNeededOnUptoCard : Claim7 := { stood := { row := fnExactNeededOnUptoRow, standIns := [], harness := (true, "bd945d2a8dca6dc668ac10d1a65b87276c8fd5a46fe96a02554e34d4bd072560"), looks := true }, kinds := [], alts := [], laidByText := true, laidKinds := [.data], laidTests := true, laidLooks := .later }
def FnExactNeededOnUptoCardSaid : Prop := Claim7.holds Tryz.pinned (.plain (OpenSpec.upto fnExactNeededOnSpec)) fnExactNeededOnUptoCard
end Rows
end Go.Proofs.YtcjgjkejhkhknabGreatDoor
