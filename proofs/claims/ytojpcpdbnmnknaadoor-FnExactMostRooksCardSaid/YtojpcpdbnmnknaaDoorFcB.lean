/- A closed fact of the program, held by the kernel: nothing of it is lifted. -/
import Derived.Test.YtojpcpdbnmnknaaDoorRows
import Derived.ProofKit
namespace Go.Proofs.YtojpcpdbnmnknaaDoor
open Go.ChangeShapes Go.WideShapes Go.ChangeAt Go.RowKit
theorem factLifts : Tryd.checked.prog.liftsFinal = false := by kernel_rfl
end Go.Proofs.YtojpcpdbnmnknaaDoor
