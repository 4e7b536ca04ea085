/- All seatings of less than seven guests, and of seven with few lost tickets. -/
import Derived.Test.YtamgcjdmcmbffaaZs6
set_option linter.unusedSectionVars false
namespace Go.Proofs.Ytamgcjdmcmbffaa
variable [Go.Am.CodeBlk]
open Go.Am
set_option maxHeartbeats 40000000 in
theorem sg_a : ∀ g < 7, 1 ≤ g → ∀ l < g + 1, sgTest g l = true := by decide +kernel
set_option maxHeartbeats 40000000 in
theorem sg_b : ∀ l < 4, sgTest 7 l = true := by decide +kernel
end Go.Proofs.Ytamgcjdmcmbffaa
