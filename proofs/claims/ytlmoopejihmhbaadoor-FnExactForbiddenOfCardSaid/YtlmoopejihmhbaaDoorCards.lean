/-
  DERIVED. GIVEN WITH THE SEED: THE CARDS: each row of YtlmoopejihmhbaaDoorRows.lean that lists a variable, with what it lists TIED to the program's text (the seventh form; the later family's looks); each row that meets fmt, with fmt's text TOLD by the authors' own Lean function (tested against real Go, not proved from fmt's source: count such statements apart). THE CARD IS WHAT COUNTS. Prove the row's statement (the work); the ties are given (YtlmoopejihmhbaaDoorTie.lean); close each card by the builder's one call (the guide's Derived/Test/ToyasCard.lean, 'card_holds'). Laid BY PROGRAM, IN A SANDBOX (cutbox-door.mjs). By AI agents, Wed Nov 11 2026. No macro, syntax, notation, axiom, sorry.
-/
import Derived.Test.YtlmoopejihmhbaaDoorRows
import GoSem.ClaimSeven
namespace Go.Proofs.YtlmoopejihmhbaaDoor
namespace Rows

/-- THE TIED CARD OF 'laws.FnExactIsBoard'. -/
def fnExactIsBoardCard : Claim7 := { stood := { row := fnExactIsBoardRow, standIns := [], harness := (true, "5cf660a5b1a82739375371e65a2f9c0bda544ce561aa6753e41a5459e97b5285"), looks := false }, kinds := [], alts := [], laidByText := true, laidKinds := [.data, .pinned], laidTests := true, laidLooks := .later }
def FnExactIsBoardCardSaid : Prop := Claim7.holds Tryd.pinned (.plain (OpenSpec.ofChange fnExactIsBoardSpec)) fnExactIsBoardCard

/-- THE TIED CARD OF 'laws.FnExactSideOf'. -/
def fnExactSideOfCard : Claim7 := { stood := { row := fnExactSideOfRow, standIns := [], harness := (true, "5cf660a5b1a82739375371e65a2f9c0bda544ce561aa6753e41a5459e97b5285"), looks := false }, kinds := [], alts := [], laidByText := true, laidKinds := [.data, .pinned], laidTests := true, laidLooks := .later }
def FnExactSideOfCardSaid : Prop := Claim7.holds Tryd.pinned (.plain (OpenSpec.ofChange fnExactSideOfSpec)) fnExactSideOfCard

/-- THE TIED CARD OF 'laws.FnExactOtherBoard'. -/
def fnExactOtherBoardCard : Claim7 := { stood := { row := fnExactOtherBoardRow, standIns := [], harness := (true, "5cf660a5b1a82739375371e65a2f9c0bda544ce561aa6753e41a5459e97b5285"), looks := false }, kinds := [], alts := [], laidByText := true, laidKinds := [.data, .pinned], laidTests := true, laidLooks := .later }
def FnExactOtherBoardCardSaid : Prop := Claim7.holds Tryd.pinned (.plain (OpenSpec.ofChange fnExactOtherBoardSpec)) fnExactOtherBoardCard

/-- THE TIED CARD OF 'laws.FnExactTurnedBoard'. -/
def fnExactTurnedBoardCard : Claim7 := { stood := { row := fnExactTurnedBoardRow, standIns := [], harness := (true, "5cf660a5b1a82739375371e65a2f9c0bda544ce561aa6753e41a5459e97b5285"), looks := false }, kinds := [], alts := [], laidByText := true, laidKinds := [.data, .pinned], laidTests := true, laidLooks := .later }
def FnExactTurnedBoardCardSaid : Prop := Claim7.holds Tryd.pinned (.plain (OpenSpec.ofChange fnExactTurnedBoardSpec)) fnExactTurnedBoardCard

/-- THE TIED CARD OF 'laws.FnExactForbidPlace'. -/
def fnExactForbidPlaceCard : Claim7 := { stood := { row := fnExactForbidPlaceRow, standIns := [], harness := (true, "5cf660a5b1a82739375371e65a2f9c0bda544ce561aa6753e41a5459e97b5285"), looks := false }, kinds := [], alts := [], laidByText := true, laidKinds := [.data, .pinned], laidTests := true, laidLooks := .later }
def FnExactForbidPlaceCardSaid : Prop := Claim7.holds Tryd.pinned (.plain (OpenSpec.ofChange fnExactForbidPlaceSpec)) fnExactForbidPlaceCard

/-- THE TIED CARD OF 'laws.FnExactAllowPlace'. -/
def fnExactAllowPlaceCard : Claim7 := { stood := { row := fnExactAllowPlaceRow, standIns := [], harness := (true, "5cf660a5b1a82739375371e65a2f9c0bda544ce561aa6753e41a5459e97b5285"), looks := false }, kinds := [], alts := [], laidByText := true, laidKinds := [.data, .pinned], laidTests := true, laidLooks := .later }
def FnExactAllowPlaceCardSaid : Prop := Claim7.holds Tryd.pinned (.plain (OpenSpec.ofChange fnExactAllowPlaceSpec)) fnExactAllowPlaceCard

/-- THE TIED CARD OF 'laws.FnExactJoinBoards'. -/
def fnExactJoinBoardsCard : Claim7 := { stood := { row := fnExactJoinBoardsRow, standIns := [], harness := (true, "5cf660a5b1a82739375371e65a2f9c0bda544ce561aa6753e41a5459e97b5285"), looks := false }, kinds := [], alts := [], laidByText := true, laidKinds := [.data, .pinned], laidTests := true, laidLooks := .later }
def FnExactJoinBoardsCardSaid : Prop := Claim7.holds Tryd.pinned (.plain (OpenSpec.ofChange fnExactJoinBoardsSpec)) fnExactJoinBoardsCard

/-- THE TIED CARD OF 'laws.FnExactForbiddenOf'. -/
def fnExactForbiddenOfCard : Claim7 := { stood := { row := fnExactForbiddenOfRow, standIns := [], harness := (true, "5cf660a5b1a82739375371e65a2f9c0bda544ce561aa6753e41a5459e97b5285"), looks := false }, kinds := [], alts := [], laidByText := true, laidKinds := [.data, .pinned], laidTests := true, laidLooks := .later }
def FnExactForbiddenOfCardSaid : Prop := Claim7.holds Tryd.pinned (.plain (OpenSpec.ofChange fnExactForbiddenOfSpec)) fnExactForbiddenOfCard

/-- THE TIED CARD OF 'laws.FnExactHitsOf'. -/
def fnExactHitsOfCard : Claim7 := { stood := { row := fnExactHitsOfRow, standIns := [], harness := (true, "5cf660a5b1a82739375371e65a2f9c0bda544ce561aa6753e41a5459e97b5285"), looks := false }, kinds := [], alts := [], laidByText := true, laidKinds := [.data, .pinned], laidTests := true, laidLooks := .later }
def FnExactHitsOfCardSaid : Prop := Claim7.holds Tryd.pinned (.plain (OpenSpec.ofChange fnExactHitsOfSpec)) fnExactHitsOfCard

/-- THE TIED CARD OF 'laws.FnExactIsAllowed'. -/
def fnExactIsAllowedCard : Claim7 := { stood := { row := fnExactIsAllowedRow, standIns := [], harness := (true, "5cf660a5b1a82739375371e65a2f9c0bda544ce561aa6753e41a5459e97b5285"), looks := false }, kinds := [], alts := [], laidByText := true, laidKinds := [.data, .pinned], laidTests := true, laidLooks := .later }
def FnExactIsAllowedCardSaid : Prop := Claim7.holds Tryd.pinned (.plain (OpenSpec.ofChange fnExactIsAllowedSpec)) fnExactIsAllowedCard

/-- THE SECOND FORM's CARD OF 'laws.FnExactIsBoard'. -/
def fnExactIsBoardUptoCard : Claim7 := { stood := { row := fnExactIsBoardUptoRow, standIns := [], harness := (true, "5cf660a5b1a82739375371e65a2f9c0bda544ce561aa6753e41a5459e97b5285"), looks := false }, kinds := [], alts := [], laidByText := true, laidKinds := [.data, .pinned], laidTests := true, laidLooks := .later }
def FnExactIsBoardUptoCardSaid : Prop := Claim7.holds Tryd.pinned (.plain (OpenSpec.upto fnExactIsBoardSpec)) fnExactIsBoardUptoCard

/-- THE SECOND FORM's CARD OF 'laws.FnExactSideOf'. -/
def fnExactSideOfUptoCard : Claim7 := { stood := { row := fnExactSideOfUptoRow, standIns := [], harness := (true, "5cf660a5b1a82739375371e65a2f9c0bda544ce561aa6753e41a5459e97b5285"), looks := false }, kinds := [], alts := [], laidByText := true, laidKinds := [.data, .pinned], laidTests := true, laidLooks := .later }
def FnExactSideOfUptoCardSaid : Prop := Claim7.holds Tryd.pinned (.plain (OpenSpec.upto fnExactSideOfSpec)) fnExactSideOfUptoCard

/-- THE SECOND FORM's CARD OF 'laws.FnExactOtherBoard'. -/
def fnExactOtherBoardUptoCard : Claim7 := { stood := { row := fnExactOtherBoardUptoRow, standIns := [], harness := (true, "5cf660a5b1a82739375371e65a2f9c0bda544ce561aa6753e41a5459e97b5285"), looks := false }, kinds := [], alts := [], laidByText := true, laidKinds := [.data, .pinned], laidTests := true, laidLooks := .later }
def FnExactOtherBoardUptoCardSaid : Prop := Claim7.holds Tryd.pinned (.plain (OpenSpec.upto fnExactOtherBoardSpec)) fnExactOtherBoardUptoCard

/-- THE SECOND FORM's CARD OF 'laws.FnExactTurnedBoard'. -/
def fnExactTurnedBoardUptoCard : Claim7 := { stood := { row := fnExactTurnedBoardUptoRow, standIns := [], harness := (true, "5cf660a5b1a82739375371e65a2f9c0bda544ce561aa6753e41a5459e97b5285"), looks := false }, kinds := [], alts := [], laidByText := true, laidKinds := [.data, .pinned], laidTests := true, laidLooks := .later }
def FnExactTurnedBoardUptoCardSaid : Prop := Claim7.holds Tryd.pinned (.plain (OpenSpec.upto fnExactTurnedBoardSpec)) fnExactTurnedBoardUptoCard

/-- THE SECOND FORM's CARD OF 'laws.FnExactForbidPlace'. -/
def fnExactForbidPlaceUptoCard : Claim7 := { stood := { row := fnExactForbidPlaceUptoRow, standIns := [], harness := (true, "5cf660a5b1a82739375371e65a2f9c0bda544ce561aa6753e41a5459e97b5285"), looks := false }, kinds := [], alts := [], laidByText := true, laidKinds := [.data, .pinned], laidTests := true, laidLooks := .later }
def FnExactForbidPlaceUptoCardSaid : Prop := Claim7.holds Tryd.pinned (.plain (OpenSpec.upto fnExactForbidPlaceSpec)) fnExactForbidPlaceUptoCard

/-- THE SECOND FORM's CARD OF 'laws.FnExactAllowPlace'. -/
def fnExactAllowPlaceUptoCard : Claim7 := { stood := { row := fnExactAllowPlaceUptoRow, standIns := [], harness := (true, "5cf660a5b1a82739375371e65a2f9c0bda544ce561aa6753e41a5459e97b5285"), looks := false }, kinds := [], alts := [], laidByText := true, laidKinds := [.data, .pinned], laidTests := true, laidLooks := .later }
def FnExactAllowPlaceUptoCardSaid : Prop := Claim7.holds Tryd.pinned (.plain (OpenSpec.upto fnExactAllowPlaceSpec)) fnExactAllowPlaceUptoCard

/-- THE SECOND FORM's CARD OF 'laws.FnExactJoinBoards'. -/
def fnExactJoinBoardsUptoCard : Claim7 := { stood := { row := fnExactJoinBoardsUptoRow, standIns := [], harness := (true, "5cf660a5b1a82739375371e65a2f9c0bda544ce561aa6753e41a5459e97b5285"), looks := false }, kinds := [], alts := [], laidByText := true, laidKinds := [.data, .pinned], laidTests := true, laidLooks := .later }
def FnExactJoinBoardsUptoCardSaid : Prop := Claim7.holds Tryd.pinned (.plain (OpenSpec.upto fnExactJoinBoardsSpec)) fnExactJoinBoardsUptoCard

/-- THE SECOND FORM's CARD OF 'laws.FnExactForbiddenOf'. -/
def fnExactForbiddenOfUptoCard : Claim7 := { stood := { row := fnExactForbiddenOfUptoRow, standIns := [], harness := (true, "5cf660a5b1a82739375371e65a2f9c0bda544ce561aa6753e41a5459e97b5285"), looks := false }, kinds := [], alts := [], laidByText := true, laidKinds := [.data, .pinned], laidTests := true, laidLooks := .later }
def FnExactForbiddenOfUptoCardSaid : Prop := Claim7.holds Tryd.pinned (.plain (OpenSpec.upto fnExactForbiddenOfSpec)) fnExactForbiddenOfUptoCard

/-- THE SECOND FORM's CARD OF 'laws.FnExactHitsOf'. -/
def fnExactHitsOfUptoCard : Claim7 := { stood := { row := fnExactHitsOfUptoRow, standIns := [], harness := (true, "5cf660a5b1a82739375371e65a2f9c0bda544ce561aa6753e41a5459e97b5285"), looks := false }, kinds := [], alts := [], laidByText := true, laidKinds := [.data, .pinned], laidTests := true, laidLooks := .later }
def FnExactHitsOfUptoCardSaid : Prop := Claim7.holds Tryd.pinned (.plain (OpenSpec.upto fnExactHitsOfSpec)) fnExactHitsOfUptoCard

/-- THE SECOND FORM's CARD OF 'laws.FnExactIsAllowed'. -/
def fnExactIsAllowedUptoCard : Claim7 := { stood := { row := fnExactIsAllowedUptoRow, standIns := [], harness := (true, "5cf660a5b1a82739375371e65a2f9c0bda544ce561aa6753e41a5459e97b5285"), looks := false }, kinds := [], alts := [], laidByText := true, laidKinds := [.data, .pinned], laidTests := true, laidLooks := .later }
def FnExactIsAllowedUptoCardSaid : Prop := Claim7.holds Tryd.pinned (.plain (OpenSpec.upto fnExactIsAllowedSpec)) fnExactIsAllowedUptoCard
end Rows
end Go.Proofs.YtlmoopejihmhbaaDoor
