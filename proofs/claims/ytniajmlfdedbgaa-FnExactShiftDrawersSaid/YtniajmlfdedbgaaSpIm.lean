/- Contracts: counts of exchanges without own coats. -/
import Derived.Test.YtniajmlfdedbgaaMaI
import Derived.Test.YtniajmlfdedbgaaSpB
namespace Go.Proofs.Ytniajmlfdedbgaa
open Go.Am
attribute [local irreducible] AW Outs Weak Lends Lend Sp aops atree aop1 Then Round InBlock Done

end Go.Proofs.Ytniajmlfdedbgaa
