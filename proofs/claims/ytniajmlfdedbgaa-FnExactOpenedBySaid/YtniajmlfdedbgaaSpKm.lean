/- Contracts: products, divisors, fractions in lowest terms. -/
import Derived.Test.YtniajmlfdedbgaaSpIm
namespace Go.Proofs.Ytniajmlfdedbgaa
open Go.Am
attribute [local irreducible] AW Outs Weak Lends Lend Sp aops atree aop1 Then Round InBlock Done

end Go.Proofs.Ytniajmlfdedbgaa
