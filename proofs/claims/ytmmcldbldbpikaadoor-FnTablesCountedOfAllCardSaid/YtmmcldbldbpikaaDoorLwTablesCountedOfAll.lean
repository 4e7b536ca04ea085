/- The law FnTablesCountedOfAll says true for all numbers and every list: tables and rows by couples together add up to all, chances are those of counts, and tables with all apart are told in order. No condition but what its card ties. -/
import Derived.Test.YtmmcldbldbpikaaDoorZs5
namespace Go.Proofs.YtmmcldbldbpikaaDoor
open Go.Am
attribute [local irreducible] AW Outs Weak Lends Lend Sp aops atree aop1 Then Round InBlock Done
attribute [local irreducible] SpH SpX DoneH DoneX

theorem lawTablesCountedOfAll (n t m : Int) (L : List Int) : Sp Tryd.prog 3 [.i n, .i t, .i m, ints L] (.b true) := by
  by_cases hL : (L.length : Int) ≤ 10000
  · have h6 := tw1b n t m L (by omega)
    have s1 := implCountTogether_spec n t
    have s2 := specCountTogether_spec n t
    have s3 := implCountInRow_spec n t
    have s4 := specCountInRow_spec n t
    have s5 := implCountTurnTogether_spec n t
    have s6 := specCountTurnTogether_spec n t
    refine spec_of Tryd.func3 rfl cc3 rfl ?_
    unfold ac3
    have hp : ac3 = .seq (fstC ac3) (.seq (fstC (sndN 1 ac3)) (.seq (fstC (sndN 2 ac3)) (.seq (fstC (sndN 3 ac3)) (.seq (fstC (sndN 4 ac3)) (.seq (fstC (sndN 5 ac3)) (.seq (fstC (sndN 6 ac3)) (.seq (fstC (sndN 7 ac3)) twA2))))))) := rfl
    unfold ac3 at hp
    rw [hp]
    clear hp
    generalize twA2 = c6 at *
    generalize togNum n t = v1 at *
    generalize rowNum n t = v2 at *
    generalize turnNum n t = v3 at *
    generalize decide (TogOk n t) = B1 at *
    simp only [sndN, sndC, fstC]
    repeat (first | (refine step_ops ?_; (first | (refine m_mov (by conv => lhs; whnf) ?_) | (refine m_gtr rfl rfl ?_) | (refine m_len_ro rfl ?_))) | refine end_ops ?_ | refine seq_ops ?_ | (refine cond_f rfl ?_ ?_; (· first | rfl | assumption | (refine decide_eq_false ?_; first | assumption | omega) | (refine nf ?_; first | assumption | omega) | (simp [*]; done))) | refine skip_then ?_ | refine AW_seq ?_)
    (refine step_ops ?_); (apply m_call (s1)); (· repeat (first | exact lends_nil | (refine lends_cons ?_ ?_; (· exact lend_v))))
    repeat (first | (refine step_ops ?_; (first | (refine m_mov (by conv => lhs; whnf) ?_) | (refine m_ext rfl rfl ?_))) | refine end_ops ?_ | refine seq_ops ?_)
    (refine step_ops ?_); (apply m_call (s2)); (· repeat (first | exact lends_nil | (refine lends_cons ?_ ?_; (· exact lend_v))))
    repeat (first | (refine step_ops ?_; (first | (refine m_mov (by conv => lhs; whnf) ?_) | (refine m_ext rfl rfl ?_))) | refine end_ops ?_ | refine seq_ops ?_)
    (refine step_ops ?_); (apply m_call (s3)); (· repeat (first | exact lends_nil | (refine lends_cons ?_ ?_; (· exact lend_v))))
    repeat (first | (refine step_ops ?_; (first | (refine m_mov (by conv => lhs; whnf) ?_) | (refine m_ext rfl rfl ?_))) | refine end_ops ?_ | refine seq_ops ?_)
    (refine step_ops ?_); (apply m_call (s4)); (· repeat (first | exact lends_nil | (refine lends_cons ?_ ?_; (· exact lend_v))))
    repeat (first | (refine step_ops ?_; (first | (refine m_mov (by conv => lhs; whnf) ?_) | (refine m_ext rfl rfl ?_))) | refine end_ops ?_ | refine seq_ops ?_)
    (refine step_ops ?_); (apply m_call (s5)); (· repeat (first | exact lends_nil | (refine lends_cons ?_ ?_; (· exact lend_v))))
    repeat (first | (refine step_ops ?_; (first | (refine m_mov (by conv => lhs; whnf) ?_) | (refine m_ext rfl rfl ?_))) | refine end_ops ?_ | refine seq_ops ?_)
    (refine step_ops ?_); (apply m_call (s6)); (· repeat (first | exact lends_nil | (refine lends_cons ?_ ?_; (· exact lend_v))))
    repeat (first | (refine step_ops ?_; (first | (refine m_mov (by conv => lhs; whnf) ?_) | (refine m_ext rfl rfl ?_))) | refine end_ops ?_)
    refine AW_weak (weak_st ?_ ?_ rfl rfl) h6
    · (repeat' (first | exact trivial | refine And.intro ?_ ?_)) <;> (first | rfl | skip)
    · trivial
  · skip
    refine spec_of Tryd.func3 rfl cc3 rfl ?_
    unfold ac3
    repeat (first | (refine step_ops ?_; (first | (refine m_mov (by conv => lhs; whnf) ?_) | (refine m_gtr rfl rfl ?_) | (refine m_len_ro rfl ?_))) | refine end_ops ?_ | refine seq_ops ?_ | (refine cond_t rfl ?_ ?_; (· first | rfl | assumption | (refine decide_eq_true ?_; first | assumption | omega) | (refine nt ?_; first | assumption | omega) | (simp [*]; done))) | refine AW_seq ?_ | refine AW_ret ?_ | refine ret_done ?_ | refine ret_then ?_)
    exact outs_b rfl
end Go.Proofs.YtmmcldbldbpikaaDoor
