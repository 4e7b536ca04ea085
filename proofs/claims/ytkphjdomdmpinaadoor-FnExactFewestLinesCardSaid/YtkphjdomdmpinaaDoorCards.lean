/-
  DERIVED. GIVEN WITH THE SEED: THE CARDS: each row of YtkphjdomdmpinaaDoorRows.lean that lists a variable, with what it lists TIED to the program's text (the seventh form; the later family's looks); each row that meets fmt, with fmt's text TOLD by the authors' own Lean function (tested against real Go, not proved from fmt's source: count such statements apart). THE CARD IS WHAT COUNTS. Prove the row's statement (the work); the ties are given (YtkphjdomdmpinaaDoorTie.lean); close each card by the builder's one call (the guide's Derived/Test/ToyasCard.lean, 'card_holds'). Laid BY PROGRAM, IN A SANDBOX (cutbox-door.mjs). By AI agents, Wed Nov 11 2026. No macro, syntax, notation, axiom, sorry.
-/
import Derived.Test.YtkphjdomdmpinaaDoorRows
import GoSem.ClaimSeven
namespace Go.Proofs.YtkphjdomdmpinaaDoor
namespace Rows

/-- THE TIED CARD OF 'laws.FnExactIsDesk'. -/
def fnExactIsDeskCard : Claim7 := { stood := { row := fnExactIsDeskRow, standIns := [], harness := (true, "744dce49894b89aae0c022e2e22a464b63b662239d3aa05efd5b3242774261af"), looks := true }, kinds := [], alts := [], laidByText := true, laidKinds := [.data, .pinned], laidTests := true, laidLooks := .later }
def FnExactIsDeskCardSaid : Prop := Claim7.holds Tryd.pinned (.plain (OpenSpec.ofChange fnExactIsDeskSpec)) fnExactIsDeskCard

/-- THE TIED CARD OF 'laws.FnExactRookNumbers'. -/
def fnExactRookNumbersCard : Claim7 := { stood := { row := fnExactRookNumbersRow, standIns := [], harness := (true, "744dce49894b89aae0c022e2e22a464b63b662239d3aa05efd5b3242774261af"), looks := true }, kinds := [], alts := [], laidByText := true, laidKinds := [.data, .pinned], laidTests := true, laidLooks := .later }
def FnExactRookNumbersCardSaid : Prop := Claim7.holds Tryd.pinned (.plain (OpenSpec.ofChange fnExactRookNumbersSpec)) fnExactRookNumbersCard

/-- THE TIED CARD OF 'laws.FnExactHitNumbers'. -/
def fnExactHitNumbersCard : Claim7 := { stood := { row := fnExactHitNumbersRow, standIns := [], harness := (true, "744dce49894b89aae0c022e2e22a464b63b662239d3aa05efd5b3242774261af"), looks := true }, kinds := [], alts := [], laidByText := true, laidKinds := [.data, .pinned], laidTests := true, laidLooks := .later }
def FnExactHitNumbersCardSaid : Prop := Claim7.holds Tryd.pinned (.plain (OpenSpec.ofChange fnExactHitNumbersSpec)) fnExactHitNumbersCard

/-- THE TIED CARD OF 'laws.FnExactCountAllowed'. -/
def fnExactCountAllowedCard : Claim7 := { stood := { row := fnExactCountAllowedRow, standIns := [], harness := (true, "744dce49894b89aae0c022e2e22a464b63b662239d3aa05efd5b3242774261af"), looks := true }, kinds := [], alts := [], laidByText := true, laidKinds := [.data, .pinned], laidTests := true, laidLooks := .later }
def FnExactCountAllowedCardSaid : Prop := Claim7.holds Tryd.pinned (.plain (OpenSpec.ofChange fnExactCountAllowedSpec)) fnExactCountAllowedCard

/-- THE TIED CARD OF 'laws.FnExactMostRooks'. -/
def fnExactMostRooksCard : Claim7 := { stood := { row := fnExactMostRooksRow, standIns := [], harness := (true, "744dce49894b89aae0c022e2e22a464b63b662239d3aa05efd5b3242774261af"), looks := true }, kinds := [], alts := [], laidByText := true, laidKinds := [.data, .pinned], laidTests := true, laidLooks := .later }
def FnExactMostRooksCardSaid : Prop := Claim7.holds Tryd.pinned (.plain (OpenSpec.ofChange fnExactMostRooksSpec)) fnExactMostRooksCard

/-- THE TIED CARD OF 'laws.FnExactFewestLines'. -/
def fnExactFewestLinesCard : Claim7 := { stood := { row := fnExactFewestLinesRow, standIns := [], harness := (true, "744dce49894b89aae0c022e2e22a464b63b662239d3aa05efd5b3242774261af"), looks := true }, kinds := [], alts := [], laidByText := true, laidKinds := [.data, .pinned], laidTests := true, laidLooks := .later }
def FnExactFewestLinesCardSaid : Prop := Claim7.holds Tryd.pinned (.plain (OpenSpec.ofChange fnExactFewestLinesSpec)) fnExactFewestLinesCard

/-- THE SECOND FORM's CARD OF 'laws.FnExactIsDesk'. -/
def fnExactIsDeskUptoCard : Claim7 := { stood := { row := fnExactIsDeskUptoRow, standIns := [], harness := (true, "744dce49894b89aae0c022e2e22a464b63b662239d3aa05efd5b3242774261af"), looks := true }, kinds := [], alts := [], laidByText := true, laidKinds := [.data, .pinned], laidTests := true, laidLooks := .later }
def FnExactIsDeskUptoCardSaid : Prop := Claim7.holds Tryd.pinned (.plain (OpenSpec.upto fnExactIsDeskSpec)) fnExactIsDeskUptoCard

/-- THE SECOND FORM's CARD OF 'laws.FnExactRookNumbers'. -/
def fnExactRookNumbersUptoCard : Claim7 := { stood := { row := fnExactRookNumbersUptoRow, standIns := [], harness := (true, "744dce49894b89aae0c022e2e22a464b63b662239d3aa05efd5b3242774261af"), looks := true }, kinds := [], alts := [], laidByText := true, laidKinds := [.data, .pinned], laidTests := true, laidLooks := .later }
def FnExactRookNumbersUptoCardSaid : Prop := Claim7.holds Tryd.pinned (.plain (OpenSpec.upto fnExactRookNumbersSpec)) fnExactRookNumbersUptoCard

/-- THE SECOND FORM's CARD OF 'laws.FnExactHitNumbers'. -/
def fnExactHitNumbersUptoCard : Claim7 := { stood := { row := fnExactHitNumbersUptoRow, standIns := [], harness := (true, "744dce49894b89aae0c022e2e22a464b63b662239d3aa05efd5b3242774261af"), looks := true }, kinds := [], alts := [], laidByText := true, laidKinds := [.data, .pinned], laidTests := true, laidLooks := .later }
def FnExactHitNumbersUptoCardSaid : Prop := Claim7.holds Tryd.pinned (.plain (OpenSpec.upto fnExactHitNumbersSpec)) fnExactHitNumbersUptoCard

/-- THE SECOND FORM's CARD OF 'laws.FnExactCountAllowed'. -/
def fnExactCountAllowedUptoCard : Claim7 := { stood := { row := fnExactCountAllowedUptoRow, standIns := [], harness := (true, "744dce49894b89aae0c022e2e22a464b63b662239d3aa05efd5b3242774261af"), looks := true }, kinds := [], alts := [], laidByText := true, laidKinds := [.data, .pinned], laidTests := true, laidLooks := .later }
def FnExactCountAllowedUptoCardSaid : Prop := Claim7.holds Tryd.pinned (.plain (OpenSpec.upto fnExactCountAllowedSpec)) fnExactCountAllowedUptoCard

/-- THE SECOND FORM's CARD OF 'laws.FnExactMostRooks'. -/
def fnExactMostRooksUptoCard : Claim7 := { stood := { row := fnExactMostRooksUptoRow, standIns := [], harness := (true, "744dce49894b89aae0c022e2e22a464b63b662239d3aa05efd5b3242774261af"), looks := true }, kinds := [], alts := [], laidByText := true, laidKinds := [.data, .pinned], laidTests := true, laidLooks := .later }
def FnExactMostRooksUptoCardSaid : Prop := Claim7.holds Tryd.pinned (.plain (OpenSpec.upto fnExactMostRooksSpec)) fnExactMostRooksUptoCard

/-- THE SECOND FORM's CARD OF 'laws.FnExactFewestLines'. -/
def fnExactFewestLinesUptoCard : Claim7 := { stood := { row := fnExactFewestLinesUptoRow, standIns := [], harness := (true, "744dce49894b89aae0c022e2e22a464b63b662239d3aa05efd5b3242774261af"), looks := true }, kinds := [], alts := [], laidByText := true, laidKinds := [.data, .pinned], laidTests := true, laidLooks := .later }
def FnExactFewestLinesUptoCardSaid : Prop := Claim7.holds Tryd.pinned (.plain (OpenSpec.upto fnExactFewestLinesSpec)) fnExactFewestLinesUptoCard
end Rows
end Go.Proofs.YtkphjdomdmpinaaDoor
