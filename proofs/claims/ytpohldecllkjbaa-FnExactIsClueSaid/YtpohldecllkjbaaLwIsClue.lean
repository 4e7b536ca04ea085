/- The law FnExactIsClue says true for every number of guests and every clue: IsClue answers as its model does. No condition. -/
import Derived.Test.YtpohldecllkjbaaZs6
namespace Go.Proofs.Ytpohldecllkjbaa
open Go.Am
attribute [local irreducible] AW Outs Weak Lends Lend Sp aops atree aop1 Then Round InBlock Done
theorem lawIsClue (g : Int) (c : Clu) : Sp Try.prog 3 [.i g, .agg [.i c.1, .i c.2.1, .i c.2.2]] (.b true) := by
  obtain ⟨k, a, b⟩ := c
  have hne : (true ^^ (decide (PzN g ∧ IsClu g (k, a, b)) == decide (PzN g ∧ IsClu g (k, a, b)))) = false := by simp
  have s0 := toClue_spec k a b
  have s1 := specIsClue_spec g k a b
  have s2 := implIsClue_spec g k a b
  refine spec_of Try.func3 rfl cc3 rfl ?_
  unfold ac3
  refine seq_ops ?_
  refine step_ops ?_
  refine m_box (l := [.i k, .i a, .i b]) rfl rfl ?_
  repeat (first | (refine step_ops ?_; (first | (refine m_mov (by conv => lhs; whnf) ?_) | (refine m_ldall rfl rfl ?_ ?_; (· first | rfl | (simp; done) | (simp [*]; done))))) | refine end_ops ?_ | refine seq_ops ?_)
  (refine step_ops ?_); (apply m_call (s0)); (· repeat (first | exact lends_nil | (refine lends_cons ?_ ?_; (· (refine lend_agg ?_; first | rfl | assumption | (simp [plainV]; done))))))
  skip
  (refine step_ops ?_); (apply m_call (s1)); (· repeat (first | exact lends_nil | (refine lends_cons ?_ ?_; (· (first | exact lend_v | (refine lend_agg ?_; first | rfl | assumption | (simp [plainV]; done)))))))
  repeat (first | (refine step_ops ?_; (first | (refine m_mov (by conv => lhs; whnf) ?_) | (refine m_ldall rfl rfl ?_ ?_; (· first | rfl | (simp; done) | (simp [*]; done))))) | refine end_ops ?_ | refine seq_ops ?_)
  (refine step_ops ?_); (apply m_call (s0)); (· repeat (first | exact lends_nil | (refine lends_cons ?_ ?_; (· (refine lend_agg ?_; first | rfl | assumption | (simp [plainV]; done))))))
  skip
  (refine step_ops ?_); (apply m_call (s2)); (· repeat (first | exact lends_nil | (refine lends_cons ?_ ?_; (· (first | exact lend_v | (refine lend_agg ?_; first | rfl | assumption | (simp [plainV]; done)))))))
  repeat (first | (refine step_ops ?_; (first | (refine m_mov (by conv => lhs; whnf) ?_) | (refine m_beq rfl rfl ?_))) | refine end_ops ?_ | refine seq_ops ?_ | (refine cond_f rfl ?_ ?_; (· first | rfl | assumption | (refine decide_eq_false ?_; first | assumption | omega) | (refine nf ?_; first | assumption | omega) | (simp [*]; done))) | refine skip_then ?_ | refine AW_seq ?_ | refine AW_ret ?_ | refine ret_done ?_)
  exact outs_b rfl
end Go.Proofs.Ytpohldecllkjbaa
