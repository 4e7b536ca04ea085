/-
  DERIVED. GIVEN WITH THE SEED: THE CARDS: each row of YtfoecdaggmagaaaDoorRows.lean that lists a variable, with what it lists TIED to the program's text (the seventh form; the later family's looks); each row that meets fmt, with fmt's text TOLD by the authors' own Lean function (tested against real Go, not proved from fmt's source: count such statements apart). THE CARD IS WHAT COUNTS. Prove the row's statement (the work); the ties are given (YtfoecdaggmagaaaDoorTie.lean); close each card by the builder's one call (the guide's Derived/Test/ToyasCard.lean, 'card_holds'). Laid BY PROGRAM, IN A SANDBOX (cutbox-door.mjs). By AI agents, Wed Nov 11 2026. No macro, syntax, notation, axiom, sorry.
-/
import Derived.Test.YtfoecdaggmagaaaDoorRows
import GoSem.ClaimSeven
namespace Go.Proofs.YtfoecdaggmagaaaDoor
namespace Rows

/-- THE TIED CARD OF 'laws.FnExactParseHatPlan'. -/
def fnExactParseHatPlanCard : Claim7 := { stood := { row := fnExactParseHatPlanRow, standIns := [], harness := (true, "182d8a3e33f25bdd5c613bd04fff56e0ea11c641fedde2a9cc1490a7b16bad16"), looks := true }, kinds := [], alts := [], laidByText := true, laidKinds := [.data, .data, .data, .data, .sentinel, .sentinel, .pinned], laidTests := true, laidLooks := .later }
def FnExactParseHatPlanCardSaid : Prop := Claim7.holds Tryd.pinned (.plain (OpenSpec.ofChange fnExactParseHatPlanSpec)) fnExactParseHatPlanCard

/-- THE SECOND FORM's CARD OF 'laws.FnExactParseHatPlan'. -/
def fnExactParseHatPlanUptoCard : Claim7 := { stood := { row := fnExactParseHatPlanUptoRow, standIns := [], harness := (true, "182d8a3e33f25bdd5c613bd04fff56e0ea11c641fedde2a9cc1490a7b16bad16"), looks := true }, kinds := [], alts := [], laidByText := true, laidKinds := [.data, .data, .data, .data, .sentinel, .sentinel, .pinned], laidTests := true, laidLooks := .later }
def FnExactParseHatPlanUptoCardSaid : Prop := Claim7.holds Tryd.pinned (.plain (OpenSpec.upto fnExactParseHatPlanSpec)) fnExactParseHatPlanUptoCard
end Rows
end Go.Proofs.YtfoecdaggmagaaaDoor
