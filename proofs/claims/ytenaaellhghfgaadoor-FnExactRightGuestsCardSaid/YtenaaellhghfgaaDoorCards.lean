/-
  DERIVED. GIVEN WITH THE SEED: THE CARDS: each row of YtenaaellhghfgaaDoorRows.lean that lists a variable, with what it lists TIED to the program's text (the seventh form; the later family's looks); each row that meets fmt, with fmt's text TOLD by the authors' own Lean function (tested against real Go, not proved from fmt's source: count such statements apart). THE CARD IS WHAT COUNTS. Prove the row's statement (the work); the ties are given (YtenaaellhghfgaaDoorTie.lean); close each card by the builder's one call (the guide's Derived/Test/ToyasCard.lean, 'card_holds'). Laid BY PROGRAM, IN A SANDBOX (cutbox-door.mjs). By AI agents, Wed Nov 11 2026. No macro, syntax, notation, axiom, sorry.
-/
import Derived.Test.YtenaaellhghfgaaDoorRows
import GoSem.ClaimSeven
namespace Go.Proofs.YtenaaellhghfgaaDoor
namespace Rows

/-- THE TIED CARD OF 'laws.FnExactIsHatPlan'. -/
def fnExactIsHatPlanCard : Claim7 := { stood := { row := fnExactIsHatPlanRow, standIns := [], harness := (true, "a8dda62ec99669661eb048c57f22ac2de7644afe460e50bd9271f88a6ffb7780"), looks := false }, kinds := [], alts := [], laidByText := true, laidKinds := [.data, .data, .data], laidTests := true, laidLooks := .later }
def FnExactIsHatPlanCardSaid : Prop := Claim7.holds Tryd.pinned (.plain (OpenSpec.ofChange fnExactIsHatPlanSpec)) fnExactIsHatPlanCard

/-- THE TIED CARD OF 'laws.FnExactViewOf'. -/
def fnExactViewOfCard : Claim7 := { stood := { row := fnExactViewOfRow, standIns := [], harness := (true, "a8dda62ec99669661eb048c57f22ac2de7644afe460e50bd9271f88a6ffb7780"), looks := false }, kinds := [], alts := [], laidByText := true, laidKinds := [.data, .data, .data], laidTests := true, laidLooks := .later }
def FnExactViewOfCardSaid : Prop := Claim7.holds Tryd.pinned (.plain (OpenSpec.ofChange fnExactViewOfSpec)) fnExactViewOfCard

/-- THE TIED CARD OF 'laws.FnExactGuessesOf'. -/
def fnExactGuessesOfCard : Claim7 := { stood := { row := fnExactGuessesOfRow, standIns := [], harness := (true, "a8dda62ec99669661eb048c57f22ac2de7644afe460e50bd9271f88a6ffb7780"), looks := false }, kinds := [], alts := [], laidByText := true, laidKinds := [.data, .data, .data], laidTests := true, laidLooks := .later }
def FnExactGuessesOfCardSaid : Prop := Claim7.holds Tryd.pinned (.plain (OpenSpec.ofChange fnExactGuessesOfSpec)) fnExactGuessesOfCard

/-- THE TIED CARD OF 'laws.FnExactRightGuests'. -/
def fnExactRightGuestsCard : Claim7 := { stood := { row := fnExactRightGuestsRow, standIns := [], harness := (true, "a8dda62ec99669661eb048c57f22ac2de7644afe460e50bd9271f88a6ffb7780"), looks := false }, kinds := [], alts := [], laidByText := true, laidKinds := [.data, .data, .data], laidTests := true, laidLooks := .later }
def FnExactRightGuestsCardSaid : Prop := Claim7.holds Tryd.pinned (.plain (OpenSpec.ofChange fnExactRightGuestsSpec)) fnExactRightGuestsCard

/-- THE TIED CARD OF 'laws.FnExactLeastRight'. -/
def fnExactLeastRightCard : Claim7 := { stood := { row := fnExactLeastRightRow, standIns := [], harness := (true, "a8dda62ec99669661eb048c57f22ac2de7644afe460e50bd9271f88a6ffb7780"), looks := false }, kinds := [], alts := [], laidByText := true, laidKinds := [.data, .data, .data], laidTests := true, laidLooks := .later }
def FnExactLeastRightCardSaid : Prop := Claim7.holds Tryd.pinned (.plain (OpenSpec.ofChange fnExactLeastRightSpec)) fnExactLeastRightCard

/-- THE TIED CARD OF 'laws.FnExactMostRight'. -/
def fnExactMostRightCard : Claim7 := { stood := { row := fnExactMostRightRow, standIns := [], harness := (true, "a8dda62ec99669661eb048c57f22ac2de7644afe460e50bd9271f88a6ffb7780"), looks := false }, kinds := [], alts := [], laidByText := true, laidKinds := [.data, .data, .data], laidTests := true, laidLooks := .later }
def FnExactMostRightCardSaid : Prop := Claim7.holds Tryd.pinned (.plain (OpenSpec.ofChange fnExactMostRightSpec)) fnExactMostRightCard

/-- THE TIED CARD OF 'laws.FnExactCountByRight'. -/
def fnExactCountByRightCard : Claim7 := { stood := { row := fnExactCountByRightRow, standIns := [], harness := (true, "a8dda62ec99669661eb048c57f22ac2de7644afe460e50bd9271f88a6ffb7780"), looks := false }, kinds := [], alts := [], laidByText := true, laidKinds := [.data, .data, .data], laidTests := true, laidLooks := .later }
def FnExactCountByRightCardSaid : Prop := Claim7.holds Tryd.pinned (.plain (OpenSpec.ofChange fnExactCountByRightSpec)) fnExactCountByRightCard

/-- THE TIED CARD OF 'laws.FnExactWorstHats'. -/
def fnExactWorstHatsCard : Claim7 := { stood := { row := fnExactWorstHatsRow, standIns := [], harness := (true, "a8dda62ec99669661eb048c57f22ac2de7644afe460e50bd9271f88a6ffb7780"), looks := false }, kinds := [], alts := [], laidByText := true, laidKinds := [.data, .data, .data], laidTests := true, laidLooks := .later }
def FnExactWorstHatsCardSaid : Prop := Claim7.holds Tryd.pinned (.plain (OpenSpec.ofChange fnExactWorstHatsSpec)) fnExactWorstHatsCard

/-- THE TIED CARD OF 'laws.FnExactMaskPlan'. -/
def fnExactMaskPlanCard : Claim7 := { stood := { row := fnExactMaskPlanRow, standIns := [], harness := (true, "a8dda62ec99669661eb048c57f22ac2de7644afe460e50bd9271f88a6ffb7780"), looks := false }, kinds := [], alts := [], laidByText := true, laidKinds := [.data, .data, .data], laidTests := true, laidLooks := .later }
def FnExactMaskPlanCardSaid : Prop := Claim7.holds Tryd.pinned (.plain (OpenSpec.ofChange fnExactMaskPlanSpec)) fnExactMaskPlanCard

/-- THE SECOND FORM's CARD OF 'laws.FnExactIsHatPlan'. -/
def fnExactIsHatPlanUptoCard : Claim7 := { stood := { row := fnExactIsHatPlanUptoRow, standIns := [], harness := (true, "a8dda62ec99669661eb048c57f22ac2de7644afe460e50bd9271f88a6ffb7780"), looks := false }, kinds := [], alts := [], laidByText := true, laidKinds := [.data, .data, .data], laidTests := true, laidLooks := .later }
def FnExactIsHatPlanUptoCardSaid : Prop := Claim7.holds Tryd.pinned (.plain (OpenSpec.upto fnExactIsHatPlanSpec)) fnExactIsHatPlanUptoCard

/-- THE SECOND FORM's CARD OF 'laws.FnExactViewOf'. -/
def fnExactViewOfUptoCard : Claim7 := { stood := { row := fnExactViewOfUptoRow, standIns := [], harness := (true, "a8dda62ec99669661eb048c57f22ac2de7644afe460e50bd9271f88a6ffb7780"), looks := false }, kinds := [], alts := [], laidByText := true, laidKinds := [.data, .data, .data], laidTests := true, laidLooks := .later }
def FnExactViewOfUptoCardSaid : Prop := Claim7.holds Tryd.pinned (.plain (OpenSpec.upto fnExactViewOfSpec)) fnExactViewOfUptoCard

/-- THE SECOND FORM's CARD OF 'laws.FnExactGuessesOf'. -/
def fnExactGuessesOfUptoCard : Claim7 := { stood := { row := fnExactGuessesOfUptoRow, standIns := [], harness := (true, "a8dda62ec99669661eb048c57f22ac2de7644afe460e50bd9271f88a6ffb7780"), looks := false }, kinds := [], alts := [], laidByText := true, laidKinds := [.data, .data, .data], laidTests := true, laidLooks := .later }
def FnExactGuessesOfUptoCardSaid : Prop := Claim7.holds Tryd.pinned (.plain (OpenSpec.upto fnExactGuessesOfSpec)) fnExactGuessesOfUptoCard

/-- THE SECOND FORM's CARD OF 'laws.FnExactRightGuests'. -/
def fnExactRightGuestsUptoCard : Claim7 := { stood := { row := fnExactRightGuestsUptoRow, standIns := [], harness := (true, "a8dda62ec99669661eb048c57f22ac2de7644afe460e50bd9271f88a6ffb7780"), looks := false }, kinds := [], alts := [], laidByText := true, laidKinds := [.data, .data, .data], laidTests := true, laidLooks := .later }
def FnExactRightGuestsUptoCardSaid : Prop := Claim7.holds Tryd.pinned (.plain (OpenSpec.upto fnExactRightGuestsSpec)) fnExactRightGuestsUptoCard

/-- THE SECOND FORM's CARD OF 'laws.FnExactLeastRight'. -/
def fnExactLeastRightUptoCard : Claim7 := { stood := { row := fnExactLeastRightUptoRow, standIns := [], harness := (true, "a8dda62ec99669661eb048c57f22ac2de7644afe460e50bd9271f88a6ffb7780"), looks := false }, kinds := [], alts := [], laidByText := true, laidKinds := [.data, .data, .data], laidTests := true, laidLooks := .later }
def FnExactLeastRightUptoCardSaid : Prop := Claim7.holds Tryd.pinned (.plain (OpenSpec.upto fnExactLeastRightSpec)) fnExactLeastRightUptoCard

/-- THE SECOND FORM's CARD OF 'laws.FnExactMostRight'. -/
def fnExactMostRightUptoCard : Claim7 := { stood := { row := fnExactMostRightUptoRow, standIns := [], harness := (true, "a8dda62ec99669661eb048c57f22ac2de7644afe460e50bd9271f88a6ffb7780"), looks := false }, kinds := [], alts := [], laidByText := true, laidKinds := [.data, .data, .data], laidTests := true, laidLooks := .later }
def FnExactMostRightUptoCardSaid : Prop := Claim7.holds Tryd.pinned (.plain (OpenSpec.upto fnExactMostRightSpec)) fnExactMostRightUptoCard

/-- THE SECOND FORM's CARD OF 'laws.FnExactCountByRight'. -/
def fnExactCountByRightUptoCard : Claim7 := { stood := { row := fnExactCountByRightUptoRow, standIns := [], harness := (true, "a8dda62ec99669661eb048c57f22ac2de7644afe460e50bd9271f88a6ffb7780"), looks := false }, kinds := [], alts := [], laidByText := true, laidKinds := [.data, .data, .data], laidTests := true, laidLooks := .later }
def FnExactCountByRightUptoCardSaid : Prop := Claim7.holds Tryd.pinned (.plain (OpenSpec.upto fnExactCountByRightSpec)) fnExactCountByRightUptoCard

/-- THE SECOND FORM's CARD OF 'laws.FnExactWorstHats'. -/
def fnExactWorstHatsUptoCard : Claim7 := { stood := { row := fnExactWorstHatsUptoRow, standIns := [], harness := (true, "a8dda62ec99669661eb048c57f22ac2de7644afe460e50bd9271f88a6ffb7780"), looks := false }, kinds := [], alts := [], laidByText := true, laidKinds := [.data, .data, .data], laidTests := true, laidLooks := .later }
def FnExactWorstHatsUptoCardSaid : Prop := Claim7.holds Tryd.pinned (.plain (OpenSpec.upto fnExactWorstHatsSpec)) fnExactWorstHatsUptoCard

/-- THE SECOND FORM's CARD OF 'laws.FnExactMaskPlan'. -/
def fnExactMaskPlanUptoCard : Claim7 := { stood := { row := fnExactMaskPlanUptoRow, standIns := [], harness := (true, "a8dda62ec99669661eb048c57f22ac2de7644afe460e50bd9271f88a6ffb7780"), looks := false }, kinds := [], alts := [], laidByText := true, laidKinds := [.data, .data, .data], laidTests := true, laidLooks := .later }
def FnExactMaskPlanUptoCardSaid : Prop := Claim7.holds Tryd.pinned (.plain (OpenSpec.upto fnExactMaskPlanSpec)) fnExactMaskPlanUptoCard
end Rows
end Go.Proofs.YtenaaellhghfgaaDoor
