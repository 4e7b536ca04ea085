/- Contracts: CountNone. -/
import Derived.Test.YtfmlmcikobdbcaaSpI
namespace Go.Proofs.Ytfmlmcikobdbcaa
open Go.Am
attribute [local irreducible] AW Outs Weak Lends Lend Sp aops atree aop1 Then Round InBlock Done

theorem exGuests_spec (a : Int) : Sp Try.prog 51 [.i a] (.b (decide (1 ≤ a ∧ a ≤ 12))) := by
  refine spec_of Try.func51 rfl cc51 rfl ?_
  unfold ac51
  repeat (first | (refine step_ops ?_; (first | (refine m_mov (by conv => lhs; whnf) ?_))) | refine end_ops ?_ | refine seq_ops ?_ | refine AW_ops ?_ | refine AW_seq ?_ | refine AW_ret ?_ | refine ret_done ?_ | refine norm_then ?_ | refine ret_then ?_ | refine exit_then ?_)
  (refine step_ops ?_); (apply m_call (l1In_spec _ _ _)); (· repeat (first | exact lends_nil | (refine lends_cons ?_ ?_; (· first | exact lend_v | (refine lend_roM rfl; done) | (refine lend_mat rfl ?_; intro j hj; simp (disch := first | omega | assumption) only [hp_put, hp_mem_ne, hp_kill_ne]; first | exact stM_row rfl hj | (rw [stM_row rfl hj]; rfl)) | (refine lend_ints ?_; first | rfl | omega) | (refine lend_sli (by rfl) ?_; first | rfl | omega | (simp; done)) | exact lend_any | (refine lend_agg ?_; first | rfl | assumption | (simp [plainV]; done))))))
  repeat (first | (refine step_ops ?_; (first | (refine m_mov (by conv => lhs; whnf) ?_))) | refine end_ops ?_ | refine seq_ops ?_ | refine AW_ops ?_ | refine AW_seq ?_ | refine AW_ret ?_ | refine ret_done ?_ | refine norm_then ?_ | refine ret_then ?_ | refine exit_then ?_)
  exact outs_b rfl

theorem none_table : ∀ g < 13, (apOut g g).getD g 0 = noneN g := by decide +kernel
def countNoneR (n : Int) : Int := if 1 ≤ n ∧ n ≤ 12 then noneN n.toNat else 0

end Go.Proofs.Ytfmlmcikobdbcaa
