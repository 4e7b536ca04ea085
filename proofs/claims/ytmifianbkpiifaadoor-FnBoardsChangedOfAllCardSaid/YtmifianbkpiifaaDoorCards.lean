/-
  DERIVED. GIVEN WITH THE SEED: THE CARDS: each row of YtmifianbkpiifaaDoorRows.lean that lists a variable, with what it lists TIED to the program's text (the seventh form; the later family's looks); each row that meets fmt, with fmt's text TOLD by the authors' own Lean function (tested against real Go, not proved from fmt's source: count such statements apart). THE CARD IS WHAT COUNTS. Prove the row's statement (the work); the ties are given (YtmifianbkpiifaaDoorTie.lean); close each card by the builder's one call (the guide's Derived/Test/ToyasCard.lean, 'card_holds'). Laid BY PROGRAM, IN A SANDBOX (cutbox-door.mjs). By AI agents, Wed Nov 11 2026. No macro, syntax, notation, axiom, sorry.
-/
import Derived.Test.YtmifianbkpiifaaDoorRows
import GoSem.ClaimSeven
namespace Go.Proofs.YtmifianbkpiifaaDoor
namespace Rows

/-- THE TIED CARD OF 'laws.FnBoardsChangedOfAll'. -/
def fnBoardsChangedOfAllCard : Claim7 := { stood := { row := fnBoardsChangedOfAllRow, standIns := [], harness := (true, "8259b0bcf0f3fdabae14d667467e905c9aa22d4ea853f6c35b6ecd404de9fe23"), looks := true }, kinds := [], alts := [], laidByText := true, laidKinds := [.data, .pinned], laidTests := true, laidLooks := .later }
def FnBoardsChangedOfAllCardSaid : Prop := Claim7.holds Tryd.pinned (.plain (OpenSpec.ofChange fnBoardsChangedOfAllSpec)) fnBoardsChangedOfAllCard

/-- THE SECOND FORM's CARD OF 'laws.FnBoardsChangedOfAll'. -/
def fnBoardsChangedOfAllUptoCard : Claim7 := { stood := { row := fnBoardsChangedOfAllUptoRow, standIns := [], harness := (true, "8259b0bcf0f3fdabae14d667467e905c9aa22d4ea853f6c35b6ecd404de9fe23"), looks := true }, kinds := [], alts := [], laidByText := true, laidKinds := [.data, .pinned], laidTests := true, laidLooks := .later }
def FnBoardsChangedOfAllUptoCardSaid : Prop := Claim7.holds Tryd.pinned (.plain (OpenSpec.upto fnBoardsChangedOfAllSpec)) fnBoardsChangedOfAllUptoCard
end Rows
end Go.Proofs.YtmifianbkpiifaaDoor
