/-
  DERIVED. GIVEN WITH THE SEED: THE CARDS: each row of YtjgcmbihbeokeaaDoorRows.lean that lists a variable, with what it lists TIED to the program's text (the seventh form; the later family's looks); each row that meets fmt, with fmt's text TOLD by the authors' own Lean function (tested against real Go, not proved from fmt's source: count such statements apart). THE CARD IS WHAT COUNTS. Prove the row's statement (the work); the ties are given (YtjgcmbihbeokeaaDoorTie.lean); close each card by the builder's one call (the guide's Derived/Test/ToyasCard.lean, 'card_holds'). Laid BY PROGRAM, IN A SANDBOX (cutbox-door.mjs). By AI agents, Wed Nov 11 2026. No macro, syntax, notation, axiom, sorry.
-/
import Derived.Test.YtjgcmbihbeokeaaDoorRows
import GoSem.ClaimSeven
namespace Go.Proofs.YtjgcmbihbeokeaaDoor
namespace Rows

/-- THE TIED CARD OF 'laws.FnExactPuzzleText'. -/
def fnExactPuzzleTextCard : Claim7 := { stood := { row := fnExactPuzzleTextRow, standIns := [], harness := (true, "15b22ac2f7de46ebb5824f3a4ef5f08e601665bdba49f225871c65506604a69f"), looks := true }, kinds := [], alts := [], laidByText := true, laidKinds := [.data, .data, .data], laidTests := true, laidLooks := .later }
def FnExactPuzzleTextCardSaid : Prop := Claim7.holds Tryd.pinned (.plain (OpenSpec.ofChange fnExactPuzzleTextSpec)) fnExactPuzzleTextCard

/-- THE TIED CARD OF 'laws.FnExactExchangeText'. -/
def fnExactExchangeTextCard : Claim7 := { stood := { row := fnExactExchangeTextRow, standIns := [], harness := (true, "15b22ac2f7de46ebb5824f3a4ef5f08e601665bdba49f225871c65506604a69f"), looks := true }, kinds := [], alts := [], laidByText := true, laidKinds := [.data, .data, .data], laidTests := true, laidLooks := .later }
def FnExactExchangeTextCardSaid : Prop := Claim7.holds Tryd.pinned (.plain (OpenSpec.ofChange fnExactExchangeTextSpec)) fnExactExchangeTextCard

/-- THE TIED CARD OF 'laws.FnExactParseExchange'. -/
def fnExactParseExchangeCard : Claim7 := { stood := { row := fnExactParseExchangeRow, standIns := [], harness := (true, "15b22ac2f7de46ebb5824f3a4ef5f08e601665bdba49f225871c65506604a69f"), looks := true }, kinds := [], alts := [], laidByText := true, laidKinds := [.data, .data, .data, .data, .sentinel, .sentinel, .pinned], laidTests := true, laidLooks := .later }
def FnExactParseExchangeCardSaid : Prop := Claim7.holds Tryd.pinned (.plain (OpenSpec.ofChange fnExactParseExchangeSpec)) fnExactParseExchangeCard

/-- THE SECOND FORM's CARD OF 'laws.FnExactPuzzleText'. -/
def fnExactPuzzleTextUptoCard : Claim7 := { stood := { row := fnExactPuzzleTextUptoRow, standIns := [], harness := (true, "15b22ac2f7de46ebb5824f3a4ef5f08e601665bdba49f225871c65506604a69f"), looks := true }, kinds := [], alts := [], laidByText := true, laidKinds := [.data, .data, .data], laidTests := true, laidLooks := .later }
def FnExactPuzzleTextUptoCardSaid : Prop := Claim7.holds Tryd.pinned (.plain (OpenSpec.upto fnExactPuzzleTextSpec)) fnExactPuzzleTextUptoCard

/-- THE SECOND FORM's CARD OF 'laws.FnExactExchangeText'. -/
def fnExactExchangeTextUptoCard : Claim7 := { stood := { row := fnExactExchangeTextUptoRow, standIns := [], harness := (true, "15b22ac2f7de46ebb5824f3a4ef5f08e601665bdba49f225871c65506604a69f"), looks := true }, kinds := [], alts := [], laidByText := true, laidKinds := [.data, .data, .data], laidTests := true, laidLooks := .later }
def FnExactExchangeTextUptoCardSaid : Prop := Claim7.holds Tryd.pinned (.plain (OpenSpec.upto fnExactExchangeTextSpec)) fnExactExchangeTextUptoCard

/-- THE SECOND FORM's CARD OF 'laws.FnExactParseExchange'. -/
def fnExactParseExchangeUptoCard : Claim7 := { stood := { row := fnExactParseExchangeUptoRow, standIns := [], harness := (true, "15b22ac2f7de46ebb5824f3a4ef5f08e601665bdba49f225871c65506604a69f"), looks := true }, kinds := [], alts := [], laidByText := true, laidKinds := [.data, .data, .data, .data, .sentinel, .sentinel, .pinned], laidTests := true, laidLooks := .later }
def FnExactParseExchangeUptoCardSaid : Prop := Claim7.holds Tryd.pinned (.plain (OpenSpec.upto fnExactParseExchangeSpec)) fnExactParseExchangeUptoCard
end Rows
end Go.Proofs.YtjgcmbihbeokeaaDoor
