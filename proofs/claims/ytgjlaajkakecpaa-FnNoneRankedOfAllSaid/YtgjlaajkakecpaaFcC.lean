/- A closed fact of the program, held by the kernel: how it was made. -/
import Derived.Test.YtgjlaajkakecpaaRows
import Derived.ProofKit
namespace Go.Proofs.Ytgjlaajkakecpaa
open Go.ChangeShapes Go.WideShapes Go.ChangeAt Go.RowKit
theorem factMake : Try.checked.prog.make = some (OpenClaim.make { program := "", sum := "", func := "", spec := "" }) := by kernel_rfl
end Go.Proofs.Ytgjlaajkakecpaa
