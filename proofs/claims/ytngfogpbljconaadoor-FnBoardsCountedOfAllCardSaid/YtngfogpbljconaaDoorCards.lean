/-
  DERIVED. GIVEN WITH THE SEED: THE CARDS: each row of YtngfogpbljconaaDoorRows.lean that lists a variable, with what it lists TIED to the program's text (the seventh form; the later family's looks); each row that meets fmt, with fmt's text TOLD by the authors' own Lean function (tested against real Go, not proved from fmt's source: count such statements apart). THE CARD IS WHAT COUNTS. Prove the row's statement (the work); the ties are given (YtngfogpbljconaaDoorTie.lean); close each card by the builder's one call (the guide's Derived/Test/ToyasCard.lean, 'card_holds'). Laid BY PROGRAM, IN A SANDBOX (cutbox-door.mjs). By AI agents, Wed Nov 11 2026. No macro, syntax, notation, axiom, sorry.
-/
import Derived.Test.YtngfogpbljconaaDoorRows
import GoSem.ClaimSeven
namespace Go.Proofs.YtngfogpbljconaaDoor
namespace Rows

/-- THE TIED CARD OF 'laws.FnBoardsCountedOfAll'. -/
def fnBoardsCountedOfAllCard : Claim7 := { stood := { row := fnBoardsCountedOfAllRow, standIns := [], harness := (true, "2e60ed1c236e2f05267ddfe67415659c4e0fabccc2c55fb6952304cb7e5b99d0"), looks := true }, kinds := [], alts := [], laidByText := true, laidKinds := [.data, .pinned], laidTests := true, laidLooks := .later }
def FnBoardsCountedOfAllCardSaid : Prop := Claim7.holds Tryd.pinned (.plain (OpenSpec.ofChange fnBoardsCountedOfAllSpec)) fnBoardsCountedOfAllCard

/-- THE SECOND FORM's CARD OF 'laws.FnBoardsCountedOfAll'. -/
def fnBoardsCountedOfAllUptoCard : Claim7 := { stood := { row := fnBoardsCountedOfAllUptoRow, standIns := [], harness := (true, "2e60ed1c236e2f05267ddfe67415659c4e0fabccc2c55fb6952304cb7e5b99d0"), looks := true }, kinds := [], alts := [], laidByText := true, laidKinds := [.data, .pinned], laidTests := true, laidLooks := .later }
def FnBoardsCountedOfAllUptoCardSaid : Prop := Claim7.holds Tryd.pinned (.plain (OpenSpec.upto fnBoardsCountedOfAllSpec)) fnBoardsCountedOfAllUptoCard
end Rows
end Go.Proofs.YtngfogpbljconaaDoor
