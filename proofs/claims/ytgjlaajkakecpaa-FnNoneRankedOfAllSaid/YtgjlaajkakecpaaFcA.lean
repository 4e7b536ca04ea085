/- A closed fact of the program, held by the kernel: no operation enters it otherwise. -/
import Derived.Test.YtgjlaajkakecpaaRows
import Derived.ProofKit
namespace Go.Proofs.Ytgjlaajkakecpaa
open Go.ChangeShapes Go.WideShapes Go.ChangeAt Go.RowKit
theorem factMayEnter : Try.checked.prog.mayEnter = true := by kernel_rfl
end Go.Proofs.Ytgjlaajkakecpaa
