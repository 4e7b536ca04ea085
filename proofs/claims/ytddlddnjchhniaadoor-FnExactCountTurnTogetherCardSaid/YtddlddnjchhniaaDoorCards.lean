/-
  DERIVED. GIVEN WITH THE SEED: THE CARDS: each row of YtddlddnjchhniaaDoorRows.lean that lists a variable, with what it lists TIED to the program's text (the seventh form; the later family's looks); each row that meets fmt, with fmt's text TOLD by the authors' own Lean function (tested against real Go, not proved from fmt's source: count such statements apart). THE CARD IS WHAT COUNTS. Prove the row's statement (the work); the ties are given (YtddlddnjchhniaaDoorTie.lean); close each card by the builder's one call (the guide's Derived/Test/ToyasCard.lean, 'card_holds'). Laid BY PROGRAM, IN A SANDBOX (cutbox-door.mjs). By AI agents, Wed Nov 11 2026. No macro, syntax, notation, axiom, sorry.
-/
import Derived.Test.YtddlddnjchhniaaDoorRows
import GoSem.ClaimSeven
namespace Go.Proofs.YtddlddnjchhniaaDoor
namespace Rows

/-- THE TIED CARD OF 'laws.FnExactCountTurnTogether'. -/
def fnExactCountTurnTogetherCard : Claim7 := { stood := { row := fnExactCountTurnTogetherRow, standIns := [], harness := (true, "7eb5d9e29694e748daca0510b128932f7cccf99d2912883c2c45e9281a8255f6"), looks := true }, kinds := [], alts := [], laidByText := true, laidKinds := [.data, .pinned], laidTests := true, laidLooks := .later }
def FnExactCountTurnTogetherCardSaid : Prop := Claim7.holds Tryd.pinned (.plain (OpenSpec.ofChange fnExactCountTurnTogetherSpec)) fnExactCountTurnTogetherCard

/-- THE SECOND FORM's CARD OF 'laws.FnExactCountTurnTogether'. -/
def fnExactCountTurnTogetherUptoCard : Claim7 := { stood := { row := fnExactCountTurnTogetherUptoRow, standIns := [], harness := (true, "7eb5d9e29694e748daca0510b128932f7cccf99d2912883c2c45e9281a8255f6"), looks := true }, kinds := [], alts := [], laidByText := true, laidKinds := [.data, .pinned], laidTests := true, laidLooks := .later }
def FnExactCountTurnTogetherUptoCardSaid : Prop := Claim7.holds Tryd.pinned (.plain (OpenSpec.upto fnExactCountTurnTogetherSpec)) fnExactCountTurnTogetherUptoCard
end Rows
end Go.Proofs.YtddlddnjchhniaaDoor
