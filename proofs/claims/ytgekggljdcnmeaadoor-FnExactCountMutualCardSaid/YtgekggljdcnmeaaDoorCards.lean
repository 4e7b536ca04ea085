/-
  DERIVED. GIVEN WITH THE SEED: THE CARDS: each row of YtgekggljdcnmeaaDoorRows.lean that lists a variable, with what it lists TIED to the program's text (the seventh form; the later family's looks); each row that meets fmt, with fmt's text TOLD by the authors' own Lean function (tested against real Go, not proved from fmt's source: count such statements apart). THE CARD IS WHAT COUNTS. Prove the row's statement (the work); the ties are given (YtgekggljdcnmeaaDoorTie.lean); close each card by the builder's one call (the guide's Derived/Test/ToyasCard.lean, 'card_holds'). Laid BY PROGRAM, IN A SANDBOX (cutbox-door.mjs). By AI agents, Wed Nov 11 2026. No macro, syntax, notation, axiom, sorry.
-/
import Derived.Test.YtgekggljdcnmeaaDoorRows
import GoSem.ClaimSeven
namespace Go.Proofs.YtgekggljdcnmeaaDoor
namespace Rows

/-- THE TIED CARD OF 'laws.FnExactCountMutual'. -/
def fnExactCountMutualCard : Claim7 := { stood := { row := fnExactCountMutualRow, standIns := [], harness := (true, "fa9941c102c95301c708dfc53bd2ef8ff17c48dea28e33eef8f451fc9461e16a"), looks := false }, kinds := [], alts := [], laidByText := true, laidKinds := [.data], laidTests := true, laidLooks := .later }
def FnExactCountMutualCardSaid : Prop := Claim7.holds Tryd.pinned (.plain (OpenSpec.ofChange fnExactCountMutualSpec)) fnExactCountMutualCard

/-- THE SECOND FORM's CARD OF 'laws.FnExactCountMutual'. -/
def fnExactCountMutualUptoCard : Claim7 := { stood := { row := fnExactCountMutualUptoRow, standIns := [], harness := (true, "fa9941c102c95301c708dfc53bd2ef8ff17c48dea28e33eef8f451fc9461e16a"), looks := false }, kinds := [], alts := [], laidByText := true, laidKinds := [.data], laidTests := true, laidLooks := .later }
def FnExactCountMutualUptoCardSaid : Prop := Claim7.holds Tryd.pinned (.plain (OpenSpec.upto fnExactCountMutualSpec)) fnExactCountMutualUptoCard
end Rows
end Go.Proofs.YtgekggljdcnmeaaDoor
