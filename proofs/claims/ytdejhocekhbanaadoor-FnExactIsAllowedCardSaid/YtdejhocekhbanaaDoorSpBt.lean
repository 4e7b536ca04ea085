/- Contracts: a board as text, as the code writes it. -/
import Derived.Test.YtdejhocekhbanaaDoorSpA
import Derived.Test.YtdejhocekhbanaaDoorAmU
namespace Go.Proofs.YtdejhocekhbanaaDoor
open Go.Am
attribute [local irreducible] AW Outs Weak Lends Lend Sp aops atree aop1 Then Round InBlock Done

end Go.Proofs.YtdejhocekhbanaaDoor
