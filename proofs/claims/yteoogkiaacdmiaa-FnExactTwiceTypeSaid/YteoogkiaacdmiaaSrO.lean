/- Contracts: the lesser and the greater one; guests and tries that there are. -/
import Derived.Test.YteoogkiaacdmiaaSpA
namespace Go.Proofs.Yteoogkiaacdmiaa
open Go.Am
attribute [local irreducible] AW Outs Weak Lends Lend Sp aops atree aop1 Then Round InBlock Done

/-- Guests and tries that there are. -/
def DrOk (g t : Int) : Prop := (1 ≤ g ∧ g ≤ 12) ∧ 1 ≤ t ∧ t ≤ g
instance (g t : Int) : Decidable (DrOk g t) := inferInstanceAs (Decidable (_ ∧ _))

end Go.Proofs.Yteoogkiaacdmiaa
