/-
  DERIVED. GIVEN WITH THE SEED: THE CARDS: each row of YtdejhocekhbanaaDoorRows.lean that lists a variable, with what it lists TIED to the program's text (the seventh form; the later family's looks); each row that meets fmt, with fmt's text TOLD by the authors' own Lean function (tested against real Go, not proved from fmt's source: count such statements apart). THE CARD IS WHAT COUNTS. Prove the row's statement (the work); the ties are given (YtdejhocekhbanaaDoorTie.lean); close each card by the builder's one call (the guide's Derived/Test/ToyasCard.lean, 'card_holds'). Laid BY PROGRAM, IN A SANDBOX (cutbox-door.mjs). By AI agents, Wed Nov 11 2026. No macro, syntax, notation, axiom, sorry.
-/
import Derived.Test.YtdejhocekhbanaaDoorRows
import GoSem.ClaimSeven
namespace Go.Proofs.YtdejhocekhbanaaDoor
namespace Rows

/-- THE TIED CARD OF 'laws.FnExactFirstAllowed'. -/
def fnExactFirstAllowedCard : Claim7 := { stood := { row := fnExactFirstAllowedRow, standIns := [], harness := (true, "92079e770dbf66465df7fcc8065feb0560e9fabe7557827290468d885b52c04c"), looks := false }, kinds := [], alts := [], laidByText := true, laidKinds := [.data, .pinned], laidTests := true, laidLooks := .later }
def FnExactFirstAllowedCardSaid : Prop := Claim7.holds Tryd.pinned (.plain (OpenSpec.ofChange fnExactFirstAllowedSpec)) fnExactFirstAllowedCard

/-- THE TIED CARD OF 'laws.FnExactNextAllowed'. -/
def fnExactNextAllowedCard : Claim7 := { stood := { row := fnExactNextAllowedRow, standIns := [], harness := (true, "92079e770dbf66465df7fcc8065feb0560e9fabe7557827290468d885b52c04c"), looks := false }, kinds := [], alts := [], laidByText := true, laidKinds := [.data, .pinned], laidTests := true, laidLooks := .later }
def FnExactNextAllowedCardSaid : Prop := Claim7.holds Tryd.pinned (.plain (OpenSpec.ofChange fnExactNextAllowedSpec)) fnExactNextAllowedCard

/-- THE TIED CARD OF 'laws.FnExactIsAllowed'. -/
def fnExactIsAllowedCard : Claim7 := { stood := { row := fnExactIsAllowedRow, standIns := [], harness := (true, "92079e770dbf66465df7fcc8065feb0560e9fabe7557827290468d885b52c04c"), looks := false }, kinds := [], alts := [], laidByText := true, laidKinds := [.data, .pinned], laidTests := true, laidLooks := .later }
def FnExactIsAllowedCardSaid : Prop := Claim7.holds Tryd.pinned (.plain (OpenSpec.ofChange fnExactIsAllowedSpec)) fnExactIsAllowedCard

/-- THE TIED CARD OF 'laws.FnExactHitsOf'. -/
def fnExactHitsOfCard : Claim7 := { stood := { row := fnExactHitsOfRow, standIns := [], harness := (true, "92079e770dbf66465df7fcc8065feb0560e9fabe7557827290468d885b52c04c"), looks := false }, kinds := [], alts := [], laidByText := true, laidKinds := [.data, .pinned], laidTests := true, laidLooks := .later }
def FnExactHitsOfCardSaid : Prop := Claim7.holds Tryd.pinned (.plain (OpenSpec.ofChange fnExactHitsOfSpec)) fnExactHitsOfCard

/-- THE SECOND FORM's CARD OF 'laws.FnExactFirstAllowed'. -/
def fnExactFirstAllowedUptoCard : Claim7 := { stood := { row := fnExactFirstAllowedUptoRow, standIns := [], harness := (true, "92079e770dbf66465df7fcc8065feb0560e9fabe7557827290468d885b52c04c"), looks := false }, kinds := [], alts := [], laidByText := true, laidKinds := [.data, .pinned], laidTests := true, laidLooks := .later }
def FnExactFirstAllowedUptoCardSaid : Prop := Claim7.holds Tryd.pinned (.plain (OpenSpec.upto fnExactFirstAllowedSpec)) fnExactFirstAllowedUptoCard

/-- THE SECOND FORM's CARD OF 'laws.FnExactNextAllowed'. -/
def fnExactNextAllowedUptoCard : Claim7 := { stood := { row := fnExactNextAllowedUptoRow, standIns := [], harness := (true, "92079e770dbf66465df7fcc8065feb0560e9fabe7557827290468d885b52c04c"), looks := false }, kinds := [], alts := [], laidByText := true, laidKinds := [.data, .pinned], laidTests := true, laidLooks := .later }
def FnExactNextAllowedUptoCardSaid : Prop := Claim7.holds Tryd.pinned (.plain (OpenSpec.upto fnExactNextAllowedSpec)) fnExactNextAllowedUptoCard

/-- THE SECOND FORM's CARD OF 'laws.FnExactIsAllowed'. -/
def fnExactIsAllowedUptoCard : Claim7 := { stood := { row := fnExactIsAllowedUptoRow, standIns := [], harness := (true, "92079e770dbf66465df7fcc8065feb0560e9fabe7557827290468d885b52c04c"), looks := false }, kinds := [], alts := [], laidByText := true, laidKinds := [.data, .pinned], laidTests := true, laidLooks := .later }
def FnExactIsAllowedUptoCardSaid : Prop := Claim7.holds Tryd.pinned (.plain (OpenSpec.upto fnExactIsAllowedSpec)) fnExactIsAllowedUptoCard

/-- THE SECOND FORM's CARD OF 'laws.FnExactHitsOf'. -/
def fnExactHitsOfUptoCard : Claim7 := { stood := { row := fnExactHitsOfUptoRow, standIns := [], harness := (true, "92079e770dbf66465df7fcc8065feb0560e9fabe7557827290468d885b52c04c"), looks := false }, kinds := [], alts := [], laidByText := true, laidKinds := [.data, .pinned], laidTests := true, laidLooks := .later }
def FnExactHitsOfUptoCardSaid : Prop := Claim7.holds Tryd.pinned (.plain (OpenSpec.upto fnExactHitsOfSpec)) fnExactHitsOfUptoCard
end Rows
end Go.Proofs.YtdejhocekhbanaaDoor
