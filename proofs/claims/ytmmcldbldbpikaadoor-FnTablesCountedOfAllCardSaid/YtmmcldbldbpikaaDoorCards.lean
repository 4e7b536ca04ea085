/-
  DERIVED. GIVEN WITH THE SEED: THE CARDS: each row of YtmmcldbldbpikaaDoorRows.lean that lists a variable, with what it lists TIED to the program's text (the seventh form; the later family's looks); each row that meets fmt, with fmt's text TOLD by the authors' own Lean function (tested against real Go, not proved from fmt's source: count such statements apart). THE CARD IS WHAT COUNTS. Prove the row's statement (the work); the ties are given (YtmmcldbldbpikaaDoorTie.lean); close each card by the builder's one call (the guide's Derived/Test/ToyasCard.lean, 'card_holds'). Laid BY PROGRAM, IN A SANDBOX (cutbox-door.mjs). By AI agents, Wed Nov 11 2026. No macro, syntax, notation, axiom, sorry.
-/
import Derived.Test.YtmmcldbldbpikaaDoorRows
import GoSem.ClaimSeven
namespace Go.Proofs.YtmmcldbldbpikaaDoor
namespace Rows

/-- THE TIED CARD OF 'laws.FnTablesCountedOfAll'. -/
def fnTablesCountedOfAllCard : Claim7 := { stood := { row := fnTablesCountedOfAllRow, standIns := [], harness := (true, "5df450cc3e92bad42c237902308e2a1edb1af38cd2ce3342858d1c1b0006d0cb"), looks := true }, kinds := [], alts := [], laidByText := true, laidKinds := [.data, .pinned], laidTests := true, laidLooks := .later }
def FnTablesCountedOfAllCardSaid : Prop := Claim7.holds Tryd.pinned (.plain (OpenSpec.ofChange fnTablesCountedOfAllSpec)) fnTablesCountedOfAllCard

/-- THE SECOND FORM's CARD OF 'laws.FnTablesCountedOfAll'. -/
def fnTablesCountedOfAllUptoCard : Claim7 := { stood := { row := fnTablesCountedOfAllUptoRow, standIns := [], harness := (true, "5df450cc3e92bad42c237902308e2a1edb1af38cd2ce3342858d1c1b0006d0cb"), looks := true }, kinds := [], alts := [], laidByText := true, laidKinds := [.data, .pinned], laidTests := true, laidLooks := .later }
def FnTablesCountedOfAllUptoCardSaid : Prop := Claim7.holds Tryd.pinned (.plain (OpenSpec.upto fnTablesCountedOfAllSpec)) fnTablesCountedOfAllUptoCard
end Rows
end Go.Proofs.YtmmcldbldbpikaaDoor
