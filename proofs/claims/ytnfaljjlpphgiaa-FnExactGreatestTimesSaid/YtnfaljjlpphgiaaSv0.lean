/- Types of exchanges that there are. -/
import Derived.Test.YtnfaljjlpphgiaaSpKm
import Derived.Test.YtnfaljjlpphgiaaMaTy
namespace Go.Proofs.Ytnfaljjlpphgiaa
open Go.Am
attribute [local irreducible] AW Outs Weak Lends Lend Sp aops atree aop1 Then Round InBlock Done

def TyOk (K : List Int) : Prop := 1 ≤ K.length ∧ K.length ≤ 12 ∧ (∀ x ∈ K, 1 ≤ x ∧ x ≤ 12) ∧ K.sum ≤ 12 ∧ ∀ i, i < K.length - 1 → K.getD (i + 1) 0 ≤ K.getD i 0

instance (K : List Int) : Decidable (TyOk K) := inferInstanceAs (Decidable (_ ∧ _ ∧ _ ∧ _ ∧ ∀ i, i < K.length - 1 → _))

theorem take_bd {K : List Int} (h : ∀ x ∈ K, 1 ≤ x ∧ x ≤ 12) {k : Nat} (hk : k ≤ 12) : 0 ≤ (K.take k).sum ∧ (K.take k).sum ≤ 144 := by
  have := sum_bd (L := K.take k) fun x hx => h x (List.mem_of_mem_take hx)
  have hl : (K.take k).length ≤ k := List.length_take_le ..
  omega
end Go.Proofs.Ytnfaljjlpphgiaa
