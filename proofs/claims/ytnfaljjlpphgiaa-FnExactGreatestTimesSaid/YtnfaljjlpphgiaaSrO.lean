/- Contracts: the lesser and the greater one; guests and tries that there are. -/
import Derived.Test.YtnfaljjlpphgiaaSpA
namespace Go.Proofs.Ytnfaljjlpphgiaa
open Go.Am
attribute [local irreducible] AW Outs Weak Lends Lend Sp aops atree aop1 Then Round InBlock Done

theorem l1Least_spec (a b : Int) : Sp Try.prog 59 [.i a, .i b] (.i (min a b)) := by
  refine spec_of Try.func59 rfl cc59 rfl ?_
  unfold ac59
  by_cases h : a < b
  all_goals
    repeat (first | (refine step_ops ?_; (first | (refine m_mov (by conv => lhs; whnf) ?_) | (refine m_lss rfl rfl ?_))) | refine end_ops ?_ | refine seq_ops ?_ | refine AW_ops ?_ | (refine cond_t rfl ?_ ?_; (· first | rfl | assumption | (refine decide_eq_true ?_; first | assumption | omega) | (refine nt ?_; first | assumption | omega) | (simp [*]; done))) | (refine cond_f rfl ?_ ?_; (· first | rfl | assumption | (refine decide_eq_false ?_; first | assumption | omega) | (refine nf ?_; first | assumption | omega) | (simp [*]; done))) | refine skip_then ?_ | refine AW_seq ?_ | refine AW_ret ?_ | refine ret_done ?_ | refine norm_then ?_ | refine ret_then ?_ | refine exit_then ?_ | refine AW_skip ?_)
    refine outs_i ?_
    omega

theorem l1Most_spec (a b : Int) : Sp Try.prog 54 [.i a, .i b] (.i (max a b)) := by
  refine spec_of Try.func54 rfl cc54 rfl ?_
  unfold ac54
  by_cases h : a > b
  all_goals
    repeat (first | (refine step_ops ?_; (first | (refine m_mov (by conv => lhs; whnf) ?_) | (refine m_gtr rfl rfl ?_))) | refine end_ops ?_ | refine seq_ops ?_ | refine AW_ops ?_ | (refine cond_t rfl ?_ ?_; (· first | rfl | assumption | (refine decide_eq_true ?_; first | assumption | omega) | (refine nt ?_; first | assumption | omega) | (simp [*]; done))) | (refine cond_f rfl ?_ ?_; (· first | rfl | assumption | (refine decide_eq_false ?_; first | assumption | omega) | (refine nf ?_; first | assumption | omega) | (simp [*]; done))) | refine skip_then ?_ | refine AW_seq ?_ | refine AW_ret ?_ | refine ret_done ?_ | refine norm_then ?_ | refine ret_then ?_ | refine exit_then ?_ | refine AW_skip ?_)
    refine outs_i ?_
    omega

/-- Guests and tries that there are. -/
def DrOk (g t : Int) : Prop := (1 ≤ g ∧ g ≤ 12) ∧ 1 ≤ t ∧ t ≤ g
instance (g t : Int) : Decidable (DrOk g t) := inferInstanceAs (Decidable (_ ∧ _))

end Go.Proofs.Ytnfaljjlpphgiaa
