/- A closed fact of the program, held by the kernel: no operation enters it otherwise. -/
import Derived.Test.YteoogkiaacdmiaaRows
import Derived.ProofKit
namespace Go.Proofs.Yteoogkiaacdmiaa
open Go.ChangeShapes Go.WideShapes Go.ChangeAt Go.RowKit
theorem factMayEnter : Try.checked.prog.mayEnter = true := by kernel_rfl
end Go.Proofs.Yteoogkiaacdmiaa
