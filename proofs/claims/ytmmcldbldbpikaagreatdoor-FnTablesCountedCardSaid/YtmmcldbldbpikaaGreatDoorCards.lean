/-
  DERIVED. GIVEN WITH THE SEED: THE CARDS: each row of YtmmcldbldbpikaaGreatDoorRows.lean that lists a variable, with what it lists TIED to the program's text (the seventh form; the later family's looks); each row that meets fmt, with fmt's text TOLD by the authors' own Lean function (tested against real Go, not proved from fmt's source: count such statements apart). THE CARD IS WHAT COUNTS. Prove the row's statement (the work); the ties are given (YtmmcldbldbpikaaGreatDoorTie.lean); close each card by the builder's one call (the guide's Derived/Test/ToyasCard.lean, 'card_holds'). Laid BY PROGRAM, IN A SANDBOX (cutbox-door.mjs). By AI agents, Wed Nov 11 2026. No macro, syntax, notation, axiom, sorry.
-/
import Derived.Test.YtmmcldbldbpikaaGreatDoorRows
import GoSem.ClaimSeven
namespace Go.Proofs.YtmmcldbldbpikaaGreatDoor
namespace Rows

/-- THE TIED CARD OF 'laws.FnTablesCounted'. -/
def fnTablesCountedCard : Claim7 := { stood := { row := fnTablesCountedRow, standIns := [], harness := (true, "c68dfd45b76ce05d6ba9b427b8b88782f9615b9630d7ca066ed0dc1554a33a35"), looks := true }, kinds := [], alts := [], laidByText := true, laidKinds := [.data, .pinned], laidTests := true, laidLooks := .later }
def FnTablesCountedCardSaid : Prop := Claim7.holds Tryz.pinned (.plain (OpenSpec.ofChange fnTablesCountedSpec)) fnTablesCountedCard

/-- THE SECOND FORM's CARD OF 'laws.FnTablesCounted'. -/
def fnTablesCountedUptoCard : Claim7 := { stood := { row := fnTablesCountedUptoRow, standIns := [], harness := (true, "c68dfd45b76ce05d6ba9b427b8b88782f9615b9630d7ca066ed0dc1554a33a35"), looks := true }, kinds := [], alts := [], laidByText := true, laidKinds := [.data, .pinned], laidTests := true, laidLooks := .later }
def FnTablesCountedUptoCardSaid : Prop := Claim7.holds Tryz.pinned (.plain (OpenSpec.upto fnTablesCountedSpec)) fnTablesCountedUptoCard
end Rows
end Go.Proofs.YtmmcldbldbpikaaGreatDoor
