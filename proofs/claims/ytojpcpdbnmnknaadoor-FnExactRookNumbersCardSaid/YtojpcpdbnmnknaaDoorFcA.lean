/- A closed fact of the program, held by the kernel: no operation enters it otherwise. -/
import Derived.Test.YtojpcpdbnmnknaaDoorRows
import Derived.ProofKit
namespace Go.Proofs.YtojpcpdbnmnknaaDoor
open Go.ChangeShapes Go.WideShapes Go.ChangeAt Go.RowKit
theorem factMayEnter : Tryd.checked.prog.mayEnter = true := by kernel_rfl
end Go.Proofs.YtojpcpdbnmnknaaDoor
