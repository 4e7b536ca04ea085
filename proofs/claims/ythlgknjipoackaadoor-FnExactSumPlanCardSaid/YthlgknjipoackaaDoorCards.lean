/-
  DERIVED. GIVEN WITH THE SEED: THE CARDS: each row of YthlgknjipoackaaDoorRows.lean that lists a variable, with what it lists TIED to the program's text (the seventh form; the later family's looks); each row that meets fmt, with fmt's text TOLD by the authors' own Lean function (tested against real Go, not proved from fmt's source: count such statements apart). THE CARD IS WHAT COUNTS. Prove the row's statement (the work); the ties are given (YthlgknjipoackaaDoorTie.lean); close each card by the builder's one call (the guide's Derived/Test/ToyasCard.lean, 'card_holds'). Laid BY PROGRAM, IN A SANDBOX (cutbox-door.mjs). By AI agents, Wed Nov 11 2026. No macro, syntax, notation, axiom, sorry.
-/
import Derived.Test.YthlgknjipoackaaDoorRows
import GoSem.ClaimSeven
namespace Go.Proofs.YthlgknjipoackaaDoor
namespace Rows

/-- THE TIED CARD OF 'laws.FnExactSumPlan'. -/
def fnExactSumPlanCard : Claim7 := { stood := { row := fnExactSumPlanRow, standIns := [], harness := (true, "7b0754040c7f9462acd1a519df9b70db4002b4f637ce646ed99d0e30a9982833"), looks := false }, kinds := [], alts := [], laidByText := true, laidKinds := [.data, .data, .data], laidTests := true, laidLooks := .later }
def FnExactSumPlanCardSaid : Prop := Claim7.holds Tryd.pinned (.plain (OpenSpec.ofChange fnExactSumPlanSpec)) fnExactSumPlanCard

/-- THE TIED CARD OF 'laws.FnExactSamePlan'. -/
def fnExactSamePlanCard : Claim7 := { stood := { row := fnExactSamePlanRow, standIns := [], harness := (true, "7b0754040c7f9462acd1a519df9b70db4002b4f637ce646ed99d0e30a9982833"), looks := false }, kinds := [], alts := [], laidByText := true, laidKinds := [.data, .data, .data], laidTests := true, laidLooks := .later }
def FnExactSamePlanCardSaid : Prop := Claim7.holds Tryd.pinned (.plain (OpenSpec.ofChange fnExactSamePlanSpec)) fnExactSamePlanCard

/-- THE TIED CARD OF 'laws.FnExactRowGuesses'. -/
def fnExactRowGuessesCard : Claim7 := { stood := { row := fnExactRowGuessesRow, standIns := [], harness := (true, "7b0754040c7f9462acd1a519df9b70db4002b4f637ce646ed99d0e30a9982833"), looks := false }, kinds := [], alts := [], laidByText := true, laidKinds := [.data, .data, .data], laidTests := true, laidLooks := .later }
def FnExactRowGuessesCardSaid : Prop := Claim7.holds Tryd.pinned (.plain (OpenSpec.ofChange fnExactRowGuessesSpec)) fnExactRowGuessesCard

/-- THE TIED CARD OF 'laws.FnExactRightInRow'. -/
def fnExactRightInRowCard : Claim7 := { stood := { row := fnExactRightInRowRow, standIns := [], harness := (true, "7b0754040c7f9462acd1a519df9b70db4002b4f637ce646ed99d0e30a9982833"), looks := false }, kinds := [], alts := [], laidByText := true, laidKinds := [.data, .data, .data], laidTests := true, laidLooks := .later }
def FnExactRightInRowCardSaid : Prop := Claim7.holds Tryd.pinned (.plain (OpenSpec.ofChange fnExactRightInRowSpec)) fnExactRightInRowCard

/-- THE SECOND FORM's CARD OF 'laws.FnExactSumPlan'. -/
def fnExactSumPlanUptoCard : Claim7 := { stood := { row := fnExactSumPlanUptoRow, standIns := [], harness := (true, "7b0754040c7f9462acd1a519df9b70db4002b4f637ce646ed99d0e30a9982833"), looks := false }, kinds := [], alts := [], laidByText := true, laidKinds := [.data, .data, .data], laidTests := true, laidLooks := .later }
def FnExactSumPlanUptoCardSaid : Prop := Claim7.holds Tryd.pinned (.plain (OpenSpec.upto fnExactSumPlanSpec)) fnExactSumPlanUptoCard

/-- THE SECOND FORM's CARD OF 'laws.FnExactSamePlan'. -/
def fnExactSamePlanUptoCard : Claim7 := { stood := { row := fnExactSamePlanUptoRow, standIns := [], harness := (true, "7b0754040c7f9462acd1a519df9b70db4002b4f637ce646ed99d0e30a9982833"), looks := false }, kinds := [], alts := [], laidByText := true, laidKinds := [.data, .data, .data], laidTests := true, laidLooks := .later }
def FnExactSamePlanUptoCardSaid : Prop := Claim7.holds Tryd.pinned (.plain (OpenSpec.upto fnExactSamePlanSpec)) fnExactSamePlanUptoCard

/-- THE SECOND FORM's CARD OF 'laws.FnExactRowGuesses'. -/
def fnExactRowGuessesUptoCard : Claim7 := { stood := { row := fnExactRowGuessesUptoRow, standIns := [], harness := (true, "7b0754040c7f9462acd1a519df9b70db4002b4f637ce646ed99d0e30a9982833"), looks := false }, kinds := [], alts := [], laidByText := true, laidKinds := [.data, .data, .data], laidTests := true, laidLooks := .later }
def FnExactRowGuessesUptoCardSaid : Prop := Claim7.holds Tryd.pinned (.plain (OpenSpec.upto fnExactRowGuessesSpec)) fnExactRowGuessesUptoCard

/-- THE SECOND FORM's CARD OF 'laws.FnExactRightInRow'. -/
def fnExactRightInRowUptoCard : Claim7 := { stood := { row := fnExactRightInRowUptoRow, standIns := [], harness := (true, "7b0754040c7f9462acd1a519df9b70db4002b4f637ce646ed99d0e30a9982833"), looks := false }, kinds := [], alts := [], laidByText := true, laidKinds := [.data, .data, .data], laidTests := true, laidLooks := .later }
def FnExactRightInRowUptoCardSaid : Prop := Claim7.holds Tryd.pinned (.plain (OpenSpec.upto fnExactRightInRowSpec)) fnExactRightInRowUptoCard
end Rows
end Go.Proofs.YthlgknjipoackaaDoor
