/- Contracts: counts of exchanges without own coats. -/
import Derived.Test.YtojbhdkjmaekjaaMaI
import Derived.Test.YtojbhdkjmaekjaaSpB
namespace Go.Proofs.Ytojbhdkjmaekjaa
open Go.Am
attribute [local irreducible] AW Outs Weak Lends Lend Sp aops atree aop1 Then Round InBlock Done

end Go.Proofs.Ytojbhdkjmaekjaa
