/- All seatings of seven guests with 4 lost tickets. -/
import Derived.Test.YtamgcjdmcmbffaaZs6
set_option linter.unusedSectionVars false
namespace Go.Proofs.Ytamgcjdmcmbffaa
variable [Go.Am.CodeBlk]
open Go.Am
set_option maxHeartbeats 40000000 in
theorem sg_4 : sgTest 7 4 = true := by decide +kernel
end Go.Proofs.Ytamgcjdmcmbffaa
