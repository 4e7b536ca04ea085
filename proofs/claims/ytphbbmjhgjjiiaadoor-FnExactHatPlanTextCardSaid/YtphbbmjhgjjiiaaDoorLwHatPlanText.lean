/- The law FnExactHatPlanText says true for every plan: HatPlanText answers as its model does, and leaves the plan alone. No condition but that the listed tables of the library read as the program laid them. -/
import Derived.Test.YtphbbmjhgjjiiaaDoorHtU
import Derived.Test.YtphbbmjhgjjiiaaDoorHtX3
namespace Go.Proofs.YtphbbmjhgjjiiaaDoor
open Go.Am
attribute [local irreducible] AW Outs Weak Lends Lend Sp aops atree aop1 Then Round InBlock Done
theorem lawHatPlanText (c : Int) (G : List (List UInt8)) (hG : G.length ≤ 9223372036854775807) (hB : ∀ t ∈ G, t.length ≤ 9223372036854775807) : Sp Tryd.prog 3 [pln c G] (.b true) := by
  obtain ⟨r, hs, hr⟩ := szHatPlan_spec c G hB hG
  refine spec_of Tryd.func3 rfl cc3 rfl ?_
  unfold ac3
  by_cases h0 : r < 0
  · repeat (first | (refine step_ops ?_; (first | (refine m_mov (by conv => lhs; whnf) ?_) | (refine m_box rfl ?_ ?_; (· first | rfl | (simp [cellOk, Value.oneCell']; done))) | (refine m_ldall rfl rfl ?_ ?_; (· first | rfl | (simp; done) | (simp [*]; done))))) | refine end_ops ?_ | refine seq_ops ?_)
    refine step_ops ?_; (apply m_call (hs)); (· repeat (first | exact lends_nil | (refine lends_cons ?_ ?_; (· (first | exact lend_v | (refine lend_pln rfl; done))))))
    repeat (first | (refine step_ops ?_; (first | (refine m_mov (by conv => lhs; whnf) ?_) | (refine m_lss rfl rfl ?_))) | refine end_ops ?_ | refine seq_ops ?_ | (refine cond_t rfl ?_ ?_; (· first | rfl | assumption | (refine decide_eq_true ?_; first | assumption | omega) | (refine nt ?_; first | assumption | omega) | (simp [*]; done))) | refine AW_seq ?_ | refine AW_ret ?_ | refine ret_done ?_ | refine ret_then ?_)
    exact outs_b rfl
  · obtain ⟨hl, _⟩ := hr (by omega)
    have heq : (!decide (c = c ∧ G = G)) = false := by simp
    have s0 := toHatPlan_spec c G hl
    have s1 := specHatPlanText_spec c G hl
    have s2 := implHatPlanText_spec c G hl
    unfold htR at s1 s2
    have hne : (true ^^ (decide (IsPln c G) == decide (IsPln c G))) = false := by simp
    repeat (first | (refine step_ops ?_; (first | (refine m_mov (by conv => lhs; whnf) ?_) | (refine m_box rfl ?_ ?_; (· first | rfl | (simp [cellOk, Value.oneCell']; done))) | (refine m_ldall rfl rfl ?_ ?_; (· first | rfl | (simp; done) | (simp [*]; done))))) | refine end_ops ?_ | refine seq_ops ?_)
    refine step_ops ?_; (apply m_call (hs)); (· repeat (first | exact lends_nil | (refine lends_cons ?_ ?_; (· (first | exact lend_v | (refine lend_pln rfl; done))))))
    repeat (first | (refine step_ops ?_; (first | (refine m_mov (by conv => lhs; whnf) ?_) | (refine m_lss rfl rfl ?_) | (refine m_ldall rfl rfl ?_ ?_; (· first | rfl | (simp; done) | (simp [*]; done))))) | refine end_ops ?_ | refine seq_ops ?_ | (refine cond_f rfl ?_ ?_; (· first | rfl | assumption | (refine decide_eq_false ?_; first | assumption | omega) | (refine nf ?_; first | assumption | omega) | (simp [*]; done))) | refine skip_then ?_ | refine AW_seq ?_)
    refine step_ops ?_; (apply m_call (s0)); (· repeat (first | exact lends_nil | (refine lends_cons ?_ ?_; (· (refine lend_pln rfl; done)))))
    skip
    refine step_ops ?_; (apply m_call (s1)); (· repeat (first | exact lends_nil | (refine lends_cons ?_ ?_; (· (refine lend_pln rfl; done)))))
    repeat (first | (refine step_ops ?_; (first | (refine m_mov (by conv => lhs; whnf) ?_) | (refine m_ext rfl rfl ?_) | (refine m_ldall rfl rfl ?_ ?_; (· first | rfl | (simp; done) | (simp [*]; done))))) | refine end_ops ?_ | refine seq_ops ?_)
    refine step_ops ?_; (apply m_call (s0)); (· repeat (first | exact lends_nil | (refine lends_cons ?_ ?_; (· (refine lend_pln rfl; done)))))
    repeat (first | (refine step_ops ?_; (first | (refine m_alloc ?_) | (refine m_ldall rfl rfl ?_ ?_; (· first | rfl | (simp; done) | (simp [*]; done))) | (refine m_stall rfl rfl rfl ?_ ?_ ?_ ?_; (· first | rfl | (simp [*]; done)); (· first | rfl | (simp [*]; done)); (· first | rfl | (simp [cellOk, Value.oneCell']; done))))) | refine end_ops ?_ | refine seq_ops ?_)
    refine step_ops ?_; (apply m_call (s2)); (· repeat (first | exact lends_nil | (refine lends_cons ?_ ?_; (· (refine lend_pln rfl; done)))))
    repeat (first | ((first | refine step_ops ?_ | refine step_tree ?_); ((try (refine g_yes rfl ?_ ?_; (· first | rfl | assumption | (refine decide_eq_true ?_; first | assumption | omega) | (refine nt ?_; first | assumption | omega) | (simp [*]; done) | (refine decide_eq_false ?_; first | assumption | omega) | (refine nf ?_; first | assumption | omega)))); (first | (refine m_mov (by conv => lhs; whnf) ?_) | (refine m_neqs_self rfl rfl ?_) | (refine m_beq rfl rfl ?_) | (refine m_pick_f rfl ?_ (by conv => lhs; whnf) ?_; (· first | rfl | assumption | (refine decide_eq_false ?_; first | assumption | omega) | (refine nf ?_; first | assumption | omega) | (simp [*]; done))) | (refine m_ext rfl rfl ?_) | (refine m_ldall rfl rfl ?_ ?_; (· first | rfl | (simp; done) | (simp [*]; done)))))) | refine end_ops ?_ | refine seq_ops ?_ | refine seq_tree ?_ | (refine cond_f rfl ?_ ?_; (· first | rfl | assumption | (refine decide_eq_false ?_; first | assumption | omega) | (refine nf ?_; first | assumption | omega) | (simp [*]; done))) | refine skip_then ?_ | refine AW_seq ?_)
    refine step_tree ?_; (apply m_call (s0)); (· repeat (first | exact lends_nil | (refine lends_cons ?_ ?_; (· (refine lend_pln rfl; done)))))
    skip
    refine step_tree ?_; (apply m_call (eqHatPlan_spec c c G G hl)); (· repeat (first | exact lends_nil | (refine lends_cons ?_ ?_; (· (refine lend_pln rfl; done)))))
    repeat (first | ((first | refine step_ops ?_ | refine step_tree ?_); (first | (refine m_mov (by conv => lhs; whnf) ?_) | (refine m_not rfl ?_))) | refine end_ops ?_ | refine seq_ops ?_ | refine end_tree ?_ | (refine cond_f rfl ?_ ?_; (· first | rfl | assumption | (refine decide_eq_false ?_; first | assumption | omega) | (refine nf ?_; first | assumption | omega) | (simp [*]; done))) | refine skip_then ?_ | refine AW_ret ?_ | refine ret_done ?_)
    exact outs_b rfl
end Go.Proofs.YtphbbmjhgjjiiaaDoor
