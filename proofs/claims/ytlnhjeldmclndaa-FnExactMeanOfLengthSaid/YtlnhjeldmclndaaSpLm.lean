/- Contracts: choices. -/
import Derived.Test.YtlnhjeldmclndaaSpKm
import Derived.Test.YtlnhjeldmclndaaMaNone
namespace Go.Proofs.Ytlnhjeldmclndaa
open Go.Am
attribute [local irreducible] AW Outs Weak Lends Lend Sp aops atree aop1 Then Round InBlock Done

theorem chz_le : ∀ n < 13, ∀ k < n + 1, ∀ j < k + 1, (0 ≤ chz n k j ∧ chz n k j ≤ 1000) ∧ 0 ≤ chz n k j * ((n : Int) - k + ((j : Int) + 1)) ∧ chz n k j * ((n : Int) - k + ((j : Int) + 1)) ≤ 100000 := by decide +kernel

end Go.Proofs.Ytlnhjeldmclndaa
