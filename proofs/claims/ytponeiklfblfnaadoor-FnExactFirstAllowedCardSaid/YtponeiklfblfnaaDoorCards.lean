/-
  DERIVED. GIVEN WITH THE SEED: THE CARDS: each row of YtponeiklfblfnaaDoorRows.lean that lists a variable, with what it lists TIED to the program's text (the seventh form; the later family's looks); each row that meets fmt, with fmt's text TOLD by the authors' own Lean function (tested against real Go, not proved from fmt's source: count such statements apart). THE CARD IS WHAT COUNTS. Prove the row's statement (the work); the ties are given (YtponeiklfblfnaaDoorTie.lean); close each card by the builder's one call (the guide's Derived/Test/ToyasCard.lean, 'card_holds'). Laid BY PROGRAM, IN A SANDBOX (cutbox-door.mjs). By AI agents, Wed Nov 11 2026. No macro, syntax, notation, axiom, sorry.
-/
import Derived.Test.YtponeiklfblfnaaDoorRows
import GoSem.ClaimSeven
namespace Go.Proofs.YtponeiklfblfnaaDoor
namespace Rows

/-- THE TIED CARD OF 'laws.FnExactFirstAllowed'. -/
def fnExactFirstAllowedCard : Claim7 := { stood := { row := fnExactFirstAllowedRow, standIns := [], harness := (true, "7d7819a45ea1584a3721d210f98a320da80c46035cd3be9bdb5e5321aa4ff0bd"), looks := false }, kinds := [], alts := [], laidByText := true, laidKinds := [.data, .pinned], laidTests := true, laidLooks := .later }
def FnExactFirstAllowedCardSaid : Prop := Claim7.holds Tryd.pinned (.plain (OpenSpec.ofChange fnExactFirstAllowedSpec)) fnExactFirstAllowedCard

/-- THE TIED CARD OF 'laws.FnExactNextAllowed'. -/
def fnExactNextAllowedCard : Claim7 := { stood := { row := fnExactNextAllowedRow, standIns := [], harness := (true, "7d7819a45ea1584a3721d210f98a320da80c46035cd3be9bdb5e5321aa4ff0bd"), looks := false }, kinds := [], alts := [], laidByText := true, laidKinds := [.data, .pinned], laidTests := true, laidLooks := .later }
def FnExactNextAllowedCardSaid : Prop := Claim7.holds Tryd.pinned (.plain (OpenSpec.ofChange fnExactNextAllowedSpec)) fnExactNextAllowedCard

/-- THE SECOND FORM's CARD OF 'laws.FnExactFirstAllowed'. -/
def fnExactFirstAllowedUptoCard : Claim7 := { stood := { row := fnExactFirstAllowedUptoRow, standIns := [], harness := (true, "7d7819a45ea1584a3721d210f98a320da80c46035cd3be9bdb5e5321aa4ff0bd"), looks := false }, kinds := [], alts := [], laidByText := true, laidKinds := [.data, .pinned], laidTests := true, laidLooks := .later }
def FnExactFirstAllowedUptoCardSaid : Prop := Claim7.holds Tryd.pinned (.plain (OpenSpec.upto fnExactFirstAllowedSpec)) fnExactFirstAllowedUptoCard

/-- THE SECOND FORM's CARD OF 'laws.FnExactNextAllowed'. -/
def fnExactNextAllowedUptoCard : Claim7 := { stood := { row := fnExactNextAllowedUptoRow, standIns := [], harness := (true, "7d7819a45ea1584a3721d210f98a320da80c46035cd3be9bdb5e5321aa4ff0bd"), looks := false }, kinds := [], alts := [], laidByText := true, laidKinds := [.data, .pinned], laidTests := true, laidLooks := .later }
def FnExactNextAllowedUptoCardSaid : Prop := Claim7.holds Tryd.pinned (.plain (OpenSpec.upto fnExactNextAllowedSpec)) fnExactNextAllowedUptoCard
end Rows
end Go.Proofs.YtponeiklfblfnaaDoor
