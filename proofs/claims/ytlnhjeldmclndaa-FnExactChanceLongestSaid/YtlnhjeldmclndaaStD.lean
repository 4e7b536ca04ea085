/- Contracts: the specification's counts by chains, shortest chains, chances, all types. -/
import Derived.Test.YtlnhjeldmclndaaStC
import Derived.Test.YtlnhjeldmclndaaSqA
namespace Go.Proofs.Ytlnhjeldmclndaa
open Go.Am
attribute [local irreducible] AW Outs Weak Lends Lend Sp aops atree aop1 Then Round InBlock Done
attribute [local irreducible] SpH DoneH

def CbOk (g m : Int) : Prop := (1 ≤ g ∧ g ≤ 12) ∧ 0 ≤ m ∧ m ≤ g
instance (g m : Int) : Decidable (CbOk g m) := inferInstanceAs (Decidable (_ ∧ _))

def tpRes (g : Int) : List (List Int) := if 1 ≤ g ∧ g ≤ 12 then tyAll g.toNat g.toNat else []
theorem tpRes_ok (g : Int) : (tpRes g).length ≤ 77 ∧ ∀ r ∈ tpRes g, r.length ≤ 12 := by
  unfold tpRes
  split
  · rename_i h
    exact ⟨tyAll_len (by omega) (by omega), fun r hr => Nat.le_trans (tyAll_row (by omega) (by omega) hr) (by omega)⟩
  · simp

end Go.Proofs.Ytlnhjeldmclndaa
