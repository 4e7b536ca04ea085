/-
  DERIVED. GIVEN WITH THE SEED: THE CARDS: each row of YtngfogpbljconaaGreatDoorRows.lean that lists a variable, with what it lists TIED to the program's text (the seventh form; the later family's looks); each row that meets fmt, with fmt's text TOLD by the authors' own Lean function (tested against real Go, not proved from fmt's source: count such statements apart). THE CARD IS WHAT COUNTS. Prove the row's statement (the work); the ties are given (YtngfogpbljconaaGreatDoorTie.lean); close each card by the builder's one call (the guide's Derived/Test/ToyasCard.lean, 'card_holds'). Laid BY PROGRAM, IN A SANDBOX (cutbox-door.mjs). By AI agents, Wed Nov 11 2026. No macro, syntax, notation, axiom, sorry.
-/
import Derived.Test.YtngfogpbljconaaGreatDoorRows
import GoSem.ClaimSeven
namespace Go.Proofs.YtngfogpbljconaaGreatDoor
namespace Rows

/-- THE TIED CARD OF 'laws.FnBoardsCounted'. -/
def fnBoardsCountedCard : Claim7 := { stood := { row := fnBoardsCountedRow, standIns := [], harness := (true, "066ac8e02cf92fac6553cee063a93ae9c973627c4cc1e7d633b73fd84d03b83d"), looks := true }, kinds := [], alts := [], laidByText := true, laidKinds := [.data, .pinned], laidTests := true, laidLooks := .later }
def FnBoardsCountedCardSaid : Prop := Claim7.holds Tryz.pinned (.plain (OpenSpec.ofChange fnBoardsCountedSpec)) fnBoardsCountedCard

/-- THE SECOND FORM's CARD OF 'laws.FnBoardsCounted'. -/
def fnBoardsCountedUptoCard : Claim7 := { stood := { row := fnBoardsCountedUptoRow, standIns := [], harness := (true, "066ac8e02cf92fac6553cee063a93ae9c973627c4cc1e7d633b73fd84d03b83d"), looks := true }, kinds := [], alts := [], laidByText := true, laidKinds := [.data, .pinned], laidTests := true, laidLooks := .later }
def FnBoardsCountedUptoCardSaid : Prop := Claim7.holds Tryz.pinned (.plain (OpenSpec.upto fnBoardsCountedSpec)) fnBoardsCountedUptoCard
end Rows
end Go.Proofs.YtngfogpbljconaaGreatDoor
