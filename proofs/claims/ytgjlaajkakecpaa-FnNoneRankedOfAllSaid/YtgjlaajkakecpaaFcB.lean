/- A closed fact of the program, held by the kernel: nothing of it is lifted. -/
import Derived.Test.YtgjlaajkakecpaaRows
import Derived.ProofKit
namespace Go.Proofs.Ytgjlaajkakecpaa
open Go.ChangeShapes Go.WideShapes Go.ChangeAt Go.RowKit
theorem factLifts : Try.checked.prog.liftsFinal = false := by kernel_rfl
end Go.Proofs.Ytgjlaajkakecpaa
