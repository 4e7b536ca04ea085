/- Contracts: the sizes of families; whether there is a giving. -/
import Derived.Test.YtjapgeciogcaiaaSpFa
import Derived.Test.YtjapgeciogcaiaaSpE
namespace Go.Proofs.Ytjapgeciogcaiaa
open Go.Am
attribute [local irreducible] AW Outs Weak Lends Lend Sp aops atree aop1 Then Round InBlock Done

/-- What FamilySizes tells. -/
def sizesRes (L : List Int) : List Int := if IsFam L then sizesOf L (famN L).toNat else []
theorem sizesRes_le (L : List Int) : (sizesRes L).length ≤ 9 := by
  unfold sizesRes
  split
  · rename_i h
    have := famN_le h
    have := h.2.1
    rw [sizesOf_len]; omega
  · simp

end Go.Proofs.Ytjapgeciogcaiaa
