/-
  DERIVED. GIVEN WITH THE SEED: THE CARDS: each row of YtinalepjmlilpaaDoorRows.lean that lists a variable, with what it lists TIED to the program's text (the seventh form; the later family's looks); each row that meets fmt, with fmt's text TOLD by the authors' own Lean function (tested against real Go, not proved from fmt's source: count such statements apart). THE CARD IS WHAT COUNTS. Prove the row's statement (the work); the ties are given (YtinalepjmlilpaaDoorTie.lean); close each card by the builder's one call (the guide's Derived/Test/ToyasCard.lean, 'card_holds'). Laid BY PROGRAM, IN A SANDBOX (cutbox-door.mjs). By AI agents, Wed Nov 11 2026. No macro, syntax, notation, axiom, sorry.
-/
import Derived.Test.YtinalepjmlilpaaDoorRows
import GoSem.ClaimSeven
namespace Go.Proofs.YtinalepjmlilpaaDoor
namespace Rows

/-- THE TIED CARD OF 'laws.FnExactExchangeText'. -/
def fnExactExchangeTextCard : Claim7 := { stood := { row := fnExactExchangeTextRow, standIns := [], harness := (true, "0ca320302c276d028338963926552d81c7db262d7210c85129dde42ee83e5b38"), looks := true }, kinds := [], alts := [], laidByText := true, laidKinds := [.data, .data, .data], laidTests := true, laidLooks := .later }
def FnExactExchangeTextCardSaid : Prop := Claim7.holds Tryd.pinned (.plain (OpenSpec.ofChange fnExactExchangeTextSpec)) fnExactExchangeTextCard

/-- THE TIED CARD OF 'laws.FnExactParseExchange'. -/
def fnExactParseExchangeCard : Claim7 := { stood := { row := fnExactParseExchangeRow, standIns := [], harness := (true, "0ca320302c276d028338963926552d81c7db262d7210c85129dde42ee83e5b38"), looks := true }, kinds := [], alts := [], laidByText := true, laidKinds := [.data, .data, .data, .data, .sentinel, .sentinel, .pinned], laidTests := true, laidLooks := .later }
def FnExactParseExchangeCardSaid : Prop := Claim7.holds Tryd.pinned (.plain (OpenSpec.ofChange fnExactParseExchangeSpec)) fnExactParseExchangeCard

/-- THE SECOND FORM's CARD OF 'laws.FnExactExchangeText'. -/
def fnExactExchangeTextUptoCard : Claim7 := { stood := { row := fnExactExchangeTextUptoRow, standIns := [], harness := (true, "0ca320302c276d028338963926552d81c7db262d7210c85129dde42ee83e5b38"), looks := true }, kinds := [], alts := [], laidByText := true, laidKinds := [.data, .data, .data], laidTests := true, laidLooks := .later }
def FnExactExchangeTextUptoCardSaid : Prop := Claim7.holds Tryd.pinned (.plain (OpenSpec.upto fnExactExchangeTextSpec)) fnExactExchangeTextUptoCard

/-- THE SECOND FORM's CARD OF 'laws.FnExactParseExchange'. -/
def fnExactParseExchangeUptoCard : Claim7 := { stood := { row := fnExactParseExchangeUptoRow, standIns := [], harness := (true, "0ca320302c276d028338963926552d81c7db262d7210c85129dde42ee83e5b38"), looks := true }, kinds := [], alts := [], laidByText := true, laidKinds := [.data, .data, .data, .data, .sentinel, .sentinel, .pinned], laidTests := true, laidLooks := .later }
def FnExactParseExchangeUptoCardSaid : Prop := Claim7.holds Tryd.pinned (.plain (OpenSpec.upto fnExactParseExchangeSpec)) fnExactParseExchangeUptoCard
end Rows
end Go.Proofs.YtinalepjmlilpaaDoor
