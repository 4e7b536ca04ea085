/- Contracts: FewestSwaps; ChainsOf. -/
import Derived.Test.YteoogkiaacdmiaaSpCh
namespace Go.Proofs.Yteoogkiaacdmiaa
open Go.Am
attribute [local irreducible] AW Outs Weak Lends Lend Sp aops atree aop1 Then Round InBlock Done
attribute [local irreducible] SpH DoneH

/-- What ChainsOf tells. -/
def chsRes (L : List Int) : List (List Int) := if IsEx L then chs L else []
theorem chsRes_ok (L : List Int) : (chsRes L).length ≤ 12 ∧ ∀ r ∈ chsRes L, r.length ≤ 12 := by
  unfold chsRes
  split
  · rename_i h
    have hp := ex_pm h
    have h12 := h.2.1
    have := chsTo_len L L.length
    refine ⟨by unfold chs; omega, fun r hr => ?_⟩
    unfold chs at hr
    rw [chs_sts, List.mem_map] at hr
    obtain ⟨i, hi, rfl⟩ := hr
    have := per_spec hp (sts_lt L _ i hi)
    unfold chn
    rw [chT_len]; omega
  · simp

end Go.Proofs.Yteoogkiaacdmiaa
