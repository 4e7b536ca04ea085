/- All seatings of seven guests with 6 lost tickets. -/
import Derived.Test.YtamgcjdmcmbffaaZs6
set_option linter.unusedSectionVars false
namespace Go.Proofs.Ytamgcjdmcmbffaa
variable [Go.Am.CodeBlk]
open Go.Am
set_option maxHeartbeats 40000000 in
theorem sg_6 : sgTest 7 6 = true := by decide +kernel
end Go.Proofs.Ytamgcjdmcmbffaa
