/- Contracts: a list's own copy. -/
import Derived.Test.YtgjlaajkakecpaaSpA
namespace Go.Proofs.Ytgjlaajkakecpaa
open Go.Am
attribute [local irreducible] AW Outs Weak Lends Lend Sp aops atree aop1 Then Round InBlock Done

theorem l1Own_spec (L : List Int) (hL : L.length ≤ 1048576) : Sp Try.prog 59 [ints L] (newInts L) := by
  refine spec_of Try.func59 rfl cc59 rfl ?_
  unfold ac59
  repeat (first | (refine step_ops ?_; (first | (refine m_mov (by conv => lhs; whnf) ?_) | (refine m_nils ?_) | (refine m_bsl0 ?_) | (refine m_appro rfl (by decide) rfl (by first | rfl | (simp; done) | (simp [*]; done) | (simp; omega)) rfl (oks_ints _) ?_ (by decide) ?_; (· first | omega | (simp; omega))))) | refine end_ops ?_ | refine seq_ops ?_ | refine AW_ret ?_ | refine ret_done ?_)
  exact outs_ints rfl rfl (Nat.zero_add _)

end Go.Proofs.Ytgjlaajkakecpaa
