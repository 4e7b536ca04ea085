/- The law FnExactExchangeText says true for every list: ExchangeText answers as its model does, and leaves the list alone. No condition. -/
import Derived.Test.YtjgcmbihbeokeaaDoorZs3
namespace Go.Proofs.YtjgcmbihbeokeaaDoor
open Go.Am
attribute [local irreducible] AW Outs Weak Lends Lend Sp aops atree aop1 Then Round InBlock Done
theorem lawExchangeText (L : List Int) : Sp Tryd.prog 4 [ints L] (.b true) := by
  refine spec_of Tryd.func4 rfl cc4 rfl ?_
  unfold ac4
  by_cases hL : L.length ≤ 1048576
  · have s1 := specExchangeText_spec L hL
    have s2 := implExchangeText_spec L hL
    unfold exTup at s1 s2
    have hne : (true ^^ (decide (IsEx L) == decide (IsEx L))) = false := by simp
    repeat (first | (refine step_ops ?_; (first | (refine m_mov (by conv => lhs; whnf) ?_) | (refine m_gtr rfl rfl ?_) | (refine m_len_ro rfl ?_))) | refine end_ops ?_ | refine seq_ops ?_ | (refine cond_f rfl ?_ ?_; (· first | rfl | assumption | (refine decide_eq_false ?_; first | assumption | omega) | (refine nf ?_; first | assumption | omega) | (simp [*]; done))) | refine skip_then ?_ | refine AW_seq ?_)
    (refine step_ops ?_); (apply m_call (toIntS_spec _ hL)); (· repeat (first | exact lends_nil | (refine lends_cons ?_ ?_; (· (refine lend_ints ?_; first | rfl | omega)))))
    skip
    (refine step_ops ?_); (apply m_call (s1)); (· repeat (first | exact lends_nil | (refine lends_cons ?_ ?_; (· (refine lend_ints ?_; first | rfl | omega)))))
    repeat (first | (refine step_ops ?_; (first | (refine m_mov (by conv => lhs; whnf) ?_) | (refine m_ext rfl rfl ?_))) | refine end_ops ?_ | refine seq_ops ?_)
    (refine step_ops ?_); (apply m_call (toIntS_spec _ hL)); (· repeat (first | exact lends_nil | (refine lends_cons ?_ ?_; (· (refine lend_ints ?_; first | rfl | omega)))))
    repeat (first | (refine step_ops ?_; (refine m_mov (by conv => lhs; whnf) ?_)) | refine end_ops ?_ | refine seq_ops ?_)
    (refine step_ops ?_); (apply m_call (s2)); (· repeat (first | exact lends_nil | (refine lends_cons ?_ ?_; (· (refine lend_ints ?_; first | rfl | omega)))))
    repeat (first | (refine step_ops ?_; ((try (refine g_yes rfl ?_ ?_; (· first | rfl | assumption | (refine decide_eq_true ?_; first | assumption | omega) | (refine nt ?_; first | assumption | omega) | (simp [*]; done) | (refine decide_eq_false ?_; first | assumption | omega) | (refine nf ?_; first | assumption | omega)))); (first | (refine m_mov (by conv => lhs; whnf) ?_) | (refine m_neqs_self rfl rfl ?_) | (refine m_beq rfl rfl ?_) | (refine m_pick_f rfl ?_ (by conv => lhs; whnf) ?_; (· first | rfl | assumption | (refine decide_eq_false ?_; first | assumption | omega) | (refine nf ?_; first | assumption | omega) | (simp [*]; done))) | (refine m_ext rfl rfl ?_)))) | refine end_ops ?_ | refine seq_ops ?_ | (refine cond_f rfl ?_ ?_; (· first | rfl | assumption | (refine decide_eq_false ?_; first | assumption | omega) | (refine nf ?_; first | assumption | omega) | (simp [*]; done))) | refine skip_then ?_ | refine AW_seq ?_)
    (refine step_ops ?_); (apply m_call (toIntS_spec _ hL)); (· repeat (first | exact lends_nil | (refine lends_cons ?_ ?_; (· (refine lend_ints ?_; first | rfl | omega)))))
    skip
    (refine step_ops ?_); (apply m_call (eqIntS_spec _ _ hL)); (· repeat (first | exact lends_nil | (refine lends_cons ?_ ?_; (· (refine lend_ints ?_; first | rfl | omega)))))
    repeat (first | (refine step_ops ?_; (first | (refine m_mov (by conv => lhs; whnf) ?_) | (refine m_not rfl ?_))) | refine end_ops ?_ | refine seq_ops ?_ | (refine cond_f rfl ?_ ?_; (· first | rfl | assumption | (refine decide_eq_false ?_; first | assumption | omega) | (refine nf ?_; first | assumption | omega) | (simp [*]; done))) | refine skip_then ?_ | refine AW_ret ?_ | refine ret_done ?_)
    exact outs_b rfl
  · repeat (first | (refine step_ops ?_; (first | (refine m_mov (by conv => lhs; whnf) ?_) | (refine m_gtr rfl rfl ?_) | (refine m_len_ro rfl ?_))) | refine end_ops ?_ | refine seq_ops ?_ | (refine cond_t rfl ?_ ?_; (· first | rfl | assumption | (refine decide_eq_true ?_; first | assumption | omega) | (refine nt ?_; first | assumption | omega) | (simp [*]; done))) | refine AW_seq ?_ | refine AW_ret ?_ | refine ret_done ?_ | refine ret_then ?_)
    exact outs_b rfl
end Go.Proofs.YtjgcmbihbeokeaaDoor
