/-
  DERIVED. GIVEN WITH THE SEED: THE CARDS: each row of YtpdoponghlpkcaaDoorRows.lean that lists a variable, with what it lists TIED to the program's text (the seventh form; the later family's looks); each row that meets fmt, with fmt's text TOLD by the authors' own Lean function (tested against real Go, not proved from fmt's source: count such statements apart). THE CARD IS WHAT COUNTS. Prove the row's statement (the work); the ties are given (YtpdoponghlpkcaaDoorTie.lean); close each card by the builder's one call (the guide's Derived/Test/ToyasCard.lean, 'card_holds'). Laid BY PROGRAM, IN A SANDBOX (cutbox-door.mjs). By AI agents, Wed Nov 11 2026. No macro, syntax, notation, axiom, sorry.
-/
import Derived.Test.YtpdoponghlpkcaaDoorRows
import GoSem.ClaimSeven
namespace Go.Proofs.YtpdoponghlpkcaaDoor
namespace Rows

/-- THE TIED CARD OF 'laws.FnExactBounds'. -/
def fnExactBoundsCard : Claim7 := { stood := { row := fnExactBoundsRow, standIns := [], harness := (true, "fb3481df2392b2584f5430086ea2f549965720a09a1d49185e4f28b2e9621f8b"), looks := true }, kinds := [], alts := [], laidByText := true, laidKinds := [.data], laidTests := true, laidLooks := .later }
def FnExactBoundsCardSaid : Prop := Claim7.holds Tryd.pinned (.plain (OpenSpec.ofChange fnExactBoundsSpec)) fnExactBoundsCard

/-- THE SECOND FORM's CARD OF 'laws.FnExactBounds'. -/
def fnExactBoundsUptoCard : Claim7 := { stood := { row := fnExactBoundsUptoRow, standIns := [], harness := (true, "fb3481df2392b2584f5430086ea2f549965720a09a1d49185e4f28b2e9621f8b"), looks := true }, kinds := [], alts := [], laidByText := true, laidKinds := [.data], laidTests := true, laidLooks := .later }
def FnExactBoundsUptoCardSaid : Prop := Claim7.holds Tryd.pinned (.plain (OpenSpec.upto fnExactBoundsSpec)) fnExactBoundsUptoCard
end Rows
end Go.Proofs.YtpdoponghlpkcaaDoor
