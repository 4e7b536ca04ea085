/- The law FnExactSamePlan says true for all numbers: SamePlan answers as its model does, and its answer is memory of its own. No condition but that the listed tables of the library read as the program laid them. -/
import Derived.Test.YthlgknjipoackaaDoorHtT
import Derived.Test.YthlgknjipoackaaDoorHtF
namespace Go.Proofs.YthlgknjipoackaaDoor
open Go.Am
attribute [local irreducible] AW Outs Weak Lends Lend Sp aops atree aop1 Then Round InBlock Done
attribute [local irreducible] SpM SpH
theorem lawSamePlan (g c k : Int) : Sp Tryd.prog 4 [.i g, .i c, .i k] (.b true) := by
  have s1 := specSamePlan_spec g c k
  have s2 := implSamePlan_spec g c k
  have hml := saG_le g c k
  unfold saR at s1 s2
  have hne : (true ^^ (decide (SaOk g c k) == decide (SaOk g c k))) = false := by simp
  generalize saC g c k = e at *
  generalize saG g c k = M at *
  have heqM : (!decide (e = e ∧ M = M)) = false := by simp
  refine spec_of Tryd.func4 rfl cc4 rfl ?_
  unfold ac4
  repeat (first | (refine step_ops ?_; (refine m_mov (by conv => lhs; whnf) ?_)) | refine end_ops ?_ | refine seq_ops ?_)
  (refine step_ops ?_); (apply m_call (s1)); (· repeat (first | exact lends_nil | (refine lends_cons ?_ ?_; (· exact lend_v))))
  repeat (first | (refine step_ops ?_; (first | (refine m_mov (by conv => lhs; whnf) ?_) | (refine m_ext rfl rfl ?_) | (refine m_alloc ?_) | (refine m_stall rfl rfl rfl ?_ ?_ ?_ ?_; (· first | rfl | (simp [*]; done)); (· first | rfl | (simp [*]; done)); (· first | rfl | (simp [cellOk, Value.oneCell']; done))))) | refine end_ops ?_ | refine seq_ops ?_)
  refine step_ops ?_
  refine m_newT 1001 s2 rfl ?_ rfl (by decide) ?_
  · exact lends_cons lend_v (lends_cons lend_v (lends_cons lend_v lends_nil))
  repeat (refine step_ops ?_; (first | (refine m_mov (by conv => lhs; whnf) ?_) | (refine m_ext rfl rfl ?_) | (refine m_alloc ?_)))
  refine step_opsW (weak_deep (r := 9) rfl (by simp) rfl) ?_
  refine m_stall (l := [.i e, .sl 1001 1 0 M.length]) rfl rfl rfl rfl rfl rfl ?_
  repeat (first | (refine step_ops ?_; (first | (refine m_mov (by conv => lhs; whnf) ?_) | (refine m_ldall rfl rfl ?_ ?_; (· first | rfl | (simp; done) | (simp [*]; done))))) | refine end_ops ?_ | refine seq_ops ?_ | refine AW_seq ?_)
  (refine step_ops ?_); (apply m_call (eqHatPlan_spec e e M M (by omega))); (· repeat (first | exact lends_nil | (refine lends_cons ?_ ?_; (· (first | (refine lend_pln rfl; done) | (refine lend_plns rfl rfl; done))))))
  repeat (first | (refine step_ops ?_; ((try (refine g_yes rfl ?_ ?_; (· first | rfl | assumption | (refine decide_eq_true ?_; first | assumption | omega) | (refine nt ?_; first | assumption | omega) | (simp [*]; done) | (refine decide_eq_false ?_; first | assumption | omega) | (refine nf ?_; first | assumption | omega)))); (first | (refine m_mov (by conv => lhs; whnf) ?_) | (refine m_not rfl ?_) | (refine m_beq rfl rfl ?_) | (refine m_pick_f rfl ?_ (by conv => lhs; whnf) ?_; (· first | rfl | assumption | (refine decide_eq_false ?_; first | assumption | omega) | (refine nf ?_; first | assumption | omega) | (simp [*]; done))) | (refine m_ldall rfl rfl ?_ ?_; (· first | rfl | (simp; done) | (simp [*]; done)))))) | refine end_ops ?_ | refine seq_ops ?_ | (refine cond_f rfl ?_ ?_; (· first | rfl | assumption | (refine decide_eq_false ?_; first | assumption | omega) | (refine nf ?_; first | assumption | omega) | (simp [*]; done))) | refine skip_then ?_)
  refine step_ops ?_
  refine m_markP 1001 (markHatPlan_spec e M 1 (by omega) (by decide) (by decide)) rfl rfl ?_
  repeat (first | (refine step_ops ?_; (first | (refine m_mov (by conv => lhs; whnf) ?_) | (refine m_ldall rfl rfl ?_ ?_; (· first | rfl | (simp; done) | (simp [*]; done))))) | refine end_ops ?_ | refine seq_ops ?_)
  refine step_ops ?_
  refine m_call (heldHatPlan_spec e 1 M.length (by omega) (by decide) (by decide)) ?_ ?_
  · exact lends_cons (lend_plns rfl (marksT_len _ _).symm) (lends_cons lend_v lends_nil)
  repeat (first | (refine step_ops ?_; (first | (refine m_mov (by conv => lhs; whnf) ?_) | (refine m_lss rfl rfl ?_) | (refine m_neq rfl rfl ?_))) | refine end_ops ?_ | refine seq_ops ?_ | (refine cond_f rfl ?_ ?_; (· first | rfl | assumption | (refine decide_eq_false ?_; first | assumption | omega) | (refine nf ?_; first | assumption | omega) | (simp [*]; done))) | refine skip_then ?_ | refine AW_seq ?_)
  (refine step_ops ?_); (apply m_call (s2)); (· repeat (first | exact lends_nil | (refine lends_cons ?_ ?_; (· exact lend_v))))
  repeat (first | (refine step_ops ?_; (first | (refine m_mov (by conv => lhs; whnf) ?_) | (refine m_ext rfl rfl ?_) | (refine m_alloc ?_) | (refine m_ldall rfl rfl ?_ ?_; (· first | rfl | (simp; done) | (simp [*]; done))) | (refine m_stall rfl rfl rfl ?_ ?_ ?_ ?_; (· first | rfl | (simp [*]; done)); (· first | rfl | (simp [*]; done)); (· first | rfl | (simp [cellOk, Value.oneCell']; done))))) | refine end_ops ?_ | refine seq_ops ?_ | refine AW_seq ?_)
  (refine step_ops ?_); (apply m_call (eqHatPlan_spec e e M M (by omega))); (· repeat (first | exact lends_nil | (refine lends_cons ?_ ?_; (· (refine lend_pln rfl; done)))))
  repeat (first | (refine step_ops ?_; ((try (refine g_yes rfl ?_ ?_; (· first | rfl | assumption | (refine decide_eq_true ?_; first | assumption | omega) | (refine nt ?_; first | assumption | omega) | (simp [*]; done) | (refine decide_eq_false ?_; first | assumption | omega) | (refine nf ?_; first | assumption | omega)))); (first | (refine m_mov (by conv => lhs; whnf) ?_) | (refine m_not rfl ?_) | (refine m_beq rfl rfl ?_) | (refine m_pick_f rfl ?_ (by conv => lhs; whnf) ?_; (· first | rfl | assumption | (refine decide_eq_false ?_; first | assumption | omega) | (refine nf ?_; first | assumption | omega) | (simp [*]; done))) | (refine m_ldall rfl rfl ?_ ?_; (· first | rfl | (simp; done) | (simp [*]; done)))))) | refine end_ops ?_ | refine seq_ops ?_ | (refine cond_f rfl ?_ ?_; (· first | rfl | assumption | (refine decide_eq_false ?_; first | assumption | omega) | (refine nf ?_; first | assumption | omega) | (simp [*]; done))) | refine skip_then ?_)
  refine step_ops ?_
  refine m_call (heldHatPlan_spec e 1 M.length (by omega) (by decide) (by decide)) ?_ ?_
  · exact lends_cons (lend_plns rfl (marksT_len _ _).symm) (lends_cons lend_v lends_nil)
  repeat (first | (refine step_ops ?_; (first | (refine m_mov (by conv => lhs; whnf) ?_) | (refine m_lss rfl rfl ?_) | (refine m_neq rfl rfl ?_))) | refine end_ops ?_ | refine seq_ops ?_ | (refine cond_f rfl ?_ ?_; (· first | rfl | assumption | (refine decide_eq_false ?_; first | assumption | omega) | (refine nf ?_; first | assumption | omega) | (simp [*]; done))) | refine skip_then ?_ | refine AW_seq ?_ | refine AW_ret ?_ | refine ret_done ?_)
  exact outs_b rfl
end Go.Proofs.YthlgknjipoackaaDoor
