/- Contracts: LikeliestSeatings of the program. -/
import Derived.Test.YtpefdmmnimmpiaaSqJ
import Derived.Test.YtpefdmmnimmpiaaSqD
import Derived.Test.YtpefdmmnimmpiaaMaSt
namespace Go.Proofs.Ytpefdmmnimmpiaa
open Go.Am
attribute [local irreducible] AW Outs Weak Lends Lend Sp aops atree aop1 Then Round InBlock Done
attribute [local irreducible] SpH DoneH

theorem likeKeeps (l : Int) (c n : Nat) (hn : n ≤ 7) : Keeps Try.prog 39 [.rp [.i l], .rp [.i c]] 0 n (likeB l c) where
  call := ⟨_, Try.func39, by rfl, by rfl⟩
  bears := bears_cons (bears_rp rfl) (bears_rp rfl)
  norefs := fun _ => rfl
  nokill := fun _ => rfl
  spec := fun M hM => by
    have hM' : M.length ≤ 12 := by omega
    unfold likeB
    show Sp Try.prog 39 [ints M, .rp [.i l], .rp [.i c]] _
    refine spec_of Try.func39 rfl cc39 rfl ?_
    unfold ac39
    repeat (first | ((first | refine step_ops ?_ | refine step_tree ?_); (first | (refine m_mov (by conv => lhs; whnf) ?_) | (refine m_eql rfl rfl ?_) | (refine m_eqk rfl rfl ?_) | (refine m_eqs rfl rfl ?_) | (refine m_ld_rpi rfl ?_ ?_; (· omega)) | (refine m_ld_pti rfl (by rfl) ?_ ?_; (· first | omega | (simp; omega))) | (apply m_ld_ptb; (· rfl); (· rfl); (· assumption)) | (apply m_ld_rp; (· rfl); (· rfl)) | (apply m_ld_pt; (· rfl); (· rfl); (· rfl)))) | refine end_ops ?_ | refine seq_ops ?_ | refine AW_ops ?_ | refine end_tree ?_ | refine seq_tree ?_ | refine AW_tree ?_ | refine AW_seq ?_ | refine AW_ret ?_ | refine ret_done ?_ | refine norm_then ?_ | refine ret_then ?_ | refine exit_then ?_)
    (first | refine step_ops ?_ | refine step_tree ?_); (apply m_call (countChosen_spec l M hM')); (· repeat (first | exact lends_nil | (refine lends_cons ?_ ?_; (· first | exact lend_v | (refine lend_roM rfl; done) | (refine lend_mat rfl ?_; intro j hj; simp (disch := first | omega | assumption) only [hp_put, hp_mem_ne, hp_kill_ne]; first | exact stM_row rfl hj | (rw [stM_row rfl hj]; rfl)) | (refine lend_ints ?_; first | rfl | omega) | (refine lend_sli (by rfl) ?_; first | rfl | omega | (simp; done)) | exact lend_any | (refine lend_agg ?_; first | rfl | assumption | (simp [plainV]; done))))))
    repeat (first | ((first | refine step_ops ?_ | refine step_tree ?_); (first | (refine m_mov (by conv => lhs; whnf) ?_) | (refine m_eql rfl rfl ?_) | (refine m_eqk rfl rfl ?_) | (refine m_eqs rfl rfl ?_) | (refine m_ld_rpi rfl ?_ ?_; (· omega)) | (refine m_ld_pti rfl (by rfl) ?_ ?_; (· first | omega | (simp; omega))) | (apply m_ld_ptb; (· rfl); (· rfl); (· assumption)) | (apply m_ld_rp; (· rfl); (· rfl)) | (apply m_ld_pt; (· rfl); (· rfl); (· rfl)))) | refine end_ops ?_ | refine seq_ops ?_ | refine AW_ops ?_ | refine end_tree ?_ | refine seq_tree ?_ | refine AW_tree ?_ | refine AW_seq ?_ | refine AW_ret ?_ | refine ret_done ?_ | refine norm_then ?_ | refine ret_then ?_ | refine exit_then ?_)
    refine outs_b ?_
    refine decide_eq_decide.2 ?_
    omega

def likeR (g l : Int) : List (List Int) := if SeOk 7 g l then (allS l g.toNat).filter (likeB l (downTo g.toNat l.toNat)) else []
theorem likeR_ok (g l : Int) : (likeR g l).length ≤ 5040 ∧ ∀ r ∈ likeR g l, r.length ≤ 7 := by
  unfold likeR
  split
  · rename_i h
    have h2 := h.1.2
    refine ⟨Nat.le_trans (List.length_filter_le ..) (allS_len l _ (by omega)), fun r hr => ?_⟩
    have := (allS_mem (List.mem_filter.1 hr).1).2
    omega
  · simp

end Go.Proofs.Ytpefdmmnimmpiaa
