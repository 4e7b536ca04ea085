/- Contracts: ChanceNone. -/
import Derived.Test.YtfmlmcikobdbcaaSpJ
namespace Go.Proofs.Ytfmlmcikobdbcaa
open Go.Am
attribute [local irreducible] AW Outs Weak Lends Lend Sp aops atree aop1 Then Round InBlock Done

theorem none_le : ∀ g < 13, 0 ≤ noneN g ∧ noneN g ≤ 1000000000 := by decide +kernel
def chanceG (n : Int) : Int := (Nat.gcd (noneN n.toNat).toNat (fac n.toNat).toNat : Nat)
def chanceA (n : Int) : Int := if 1 ≤ n ∧ n ≤ 12 then ((noneN n.toNat).toNat : Int) / chanceG n else 0
def chanceB (n : Int) : Int := if 1 ≤ n ∧ n ≤ 12 then ((fac n.toNat).toNat : Int) / chanceG n else 0

end Go.Proofs.Ytfmlmcikobdbcaa
