/- The law FnExactNeedlessClues says true for every puzzle: NeedlessClues answers as its model does, leaves the puzzle alone, and its answer is memory of its own. No condition. -/
import Derived.Test.YtpohldecllkjbaaZw6
namespace Go.Proofs.Ytpohldecllkjbaa
open Go.Am
attribute [local irreducible] AW Outs Weak Lends Lend Sp aops atree aop1 Then Round InBlock Done
attribute [local irreducible] SpM SpH
attribute [local simp] marks_len
theorem needR_le (g : Int) (C : List Clu) : (needR g C).length ≤ 1048576 := by
  unfold needR
  split
  · rename_i h
    have h1 := needL_len g.toNat C C.length
    have h2 := h.2.1
    omega
  · simp
theorem lawNeedlessClues (g : Int) (C : List Clu) (hC : C.length ≤ 9223372036854775807) : Sp Try.prog 10 [pzl g C] (.b true) := by
  have hs := szPuzzle_spec g C hC
  by_cases hl : C.length ≤ 1048576
  · rw [if_pos hl] at hs
    have heq : (!decide (g = g ∧ C = C)) = false := by simp
    have s0 := toPuzzle_spec g C hl
    have s1 := specNeedlessClues_spec g C
    have s2 := implNeedlessClues_spec g C
    have hr : (needR g C).length ≤ 1048576 := needR_le g C
    have hne : (true ^^ ((decide (IsPz g C)) == (decide (IsPz g C)))) = false := by simp
    generalize needR g C = R at *
    generalize (decide (IsPz g C)) = ok at *
    refine spec_of Try.func10 rfl cc10 rfl ?_
    unfold ac10
    repeat (first | (refine step_ops ?_; (first | (refine m_mov (by conv => lhs; whnf) ?_) | (refine m_box rfl ?_ ?_; (· first | rfl | (simp [cellOk, Value.oneCell']; done))) | (refine m_ldall rfl rfl ?_ ?_; (· first | rfl | (simp; done) | (simp [*]; done))))) | refine end_ops ?_ | refine seq_ops ?_)
    refine step_ops ?_; (apply m_call (hs)); (· repeat (first | exact lends_nil | (refine lends_cons ?_ ?_; (· (first | exact lend_v | exact lend_pzl)))))
    repeat (first | (refine step_ops ?_; (first | (refine m_mov (by conv => lhs; whnf) ?_) | (refine m_lss rfl rfl ?_) | (refine m_ldall rfl rfl ?_ ?_; (· first | rfl | (simp; done) | (simp [*]; done))))) | refine end_ops ?_ | refine seq_ops ?_ | (refine cond_f rfl ?_ ?_; (· first | rfl | assumption | (refine decide_eq_false ?_; first | assumption | omega) | (refine nf ?_; first | assumption | omega) | (simp [*]; done))) | refine skip_then ?_ | refine AW_seq ?_)
    refine step_ops ?_; (apply m_call (s0)); (· repeat (first | exact lends_nil | (refine lends_cons ?_ ?_; (· exact lend_pzl))))
    skip
    refine step_ops ?_; (apply m_call (s1)); (· repeat (first | exact lends_nil | (refine lends_cons ?_ ?_; (· exact lend_pzl))))
    repeat (first | (refine step_ops ?_; (first | (refine m_mov (by conv => lhs; whnf) ?_) | (refine m_ext rfl rfl ?_) | (refine m_ldall rfl rfl ?_ ?_; (· first | rfl | (simp; done) | (simp [*]; done))))) | refine end_ops ?_ | refine seq_ops ?_)
    refine step_ops ?_
    refine m_newPz 1001 s0 (by rw [List.all_cons, pzl_flat]; rfl) ?_ rfl (by decide) ?_
    · exact lends_cons lend_pzl lends_nil
    repeat (refine step_ops ?_; (refine m_alloc ?_))
    refine step_opsW (weak_deep (r := 6) rfl (by simp) rfl) ?_
    refine m_stall (l := [.i g, .sl 1001 3 0 C.length]) rfl rfl rfl rfl rfl rfl ?_
    repeat (first | (refine step_ops ?_; (refine m_ldall rfl rfl ?_ ?_; (· first | rfl | (simp; done) | (simp [*]; done)))) | refine end_ops ?_ | refine seq_ops ?_)
    refine step_ops ?_; (apply m_callt (s2)); (· repeat (first | exact lends_nil | (refine lends_cons ?_ ?_; (· (exact lend_pzs (by rfl) rfl; done))))); (· first | exact allv_ints _ | rfl | (simp; done)); (· first | rfl | (simp; done))
    repeat (first | (refine step_ops ?_; (first | (refine m_mov (by conv => lhs; whnf) ?_) | (refine m_ext rfl rfl ?_))) | refine end_ops ?_ | refine seq_ops ?_ | refine AW_seq ?_)
    refine step_ops ?_; (apply m_call (eqIntS_spec _ _ hr)); (· repeat (first | exact lends_nil | (refine lends_cons ?_ ?_; (· (first | (refine lend_ints ?_; first | rfl | omega) | (refine lend_sli (by rfl) ?_; first | rfl | omega | (simp; done)))))))
    repeat (first | ((first | refine step_ops ?_ | refine step_tree ?_); ((try (refine g_yes rfl ?_ ?_; (· first | rfl | assumption | (refine decide_eq_true ?_; first | assumption | omega) | (refine nt ?_; first | assumption | omega) | (simp [*]; done) | (refine decide_eq_false ?_; first | assumption | omega) | (refine nf ?_; first | assumption | omega)))); (first | (refine m_mov (by conv => lhs; whnf) ?_) | (refine m_not rfl ?_) | (refine m_beq rfl rfl ?_) | (refine m_pick_f rfl ?_ (by conv => lhs; whnf) ?_; (· first | rfl | assumption | (refine decide_eq_false ?_; first | assumption | omega) | (refine nf ?_; first | assumption | omega) | (simp [*]; done))) | (refine m_ldall rfl rfl ?_ ?_; (· first | rfl | (simp; done) | (simp [*]; done)))))) | refine end_ops ?_ | refine seq_tree ?_ | (refine cond_f rfl ?_ ?_; (· first | rfl | assumption | (refine decide_eq_false ?_; first | assumption | omega) | (refine nf ?_; first | assumption | omega) | (simp [*]; done))) | refine skip_then ?_ | refine AW_seq ?_)
    refine step_tree ?_; (apply m_call (s0)); (· repeat (first | exact lends_nil | (refine lends_cons ?_ ?_; (· exact lend_pzl))))
    skip
    refine step_tree ?_; (apply m_call (eqPuzzle_spec g g C C hl)); (· repeat (first | exact lends_nil | (refine lends_cons ?_ ?_; (· (first | exact lend_pzl | (exact lend_pzs (by rfl) rfl; done))))))
    repeat (first | ((first | refine step_ops ?_ | refine step_tree ?_); (first | (refine m_mov (by conv => lhs; whnf) ?_) | (refine m_not rfl ?_) | (refine m_ldall rfl rfl ?_ ?_; (· first | rfl | (simp; done) | (simp [*]; done))))) | refine end_ops ?_ | refine seq_ops ?_ | refine end_tree ?_ | (refine cond_f rfl ?_ ?_; (· first | rfl | assumption | (refine decide_eq_false ?_; first | assumption | omega) | (refine nf ?_; first | assumption | omega) | (simp [*]; done))) | refine skip_then ?_)
    refine step_ops ?_
    refine m_markPz 1001 (markPuzzle_spec g C 1 (by omega) (by decide) (by decide)) rfl rfl ?_
    repeat (first | (refine step_ops ?_; ((try (refine g_yes rfl ?_ ?_; (· first | rfl | assumption | (refine decide_eq_true ?_; first | assumption | omega) | (refine nt ?_; first | assumption | omega) | (simp [*]; done) | (refine decide_eq_false ?_; first | assumption | omega) | (refine nf ?_; first | assumption | omega)))); (first | (refine m_mov (by conv => lhs; whnf) ?_) | (refine m_lss rfl rfl ?_)))) | refine end_ops ?_ | refine seq_ops ?_ | refine AW_seq ?_)
    refine step_ops ?_; (refine g_yes rfl ?_ ?_; (· first | (first | rfl | assumption | (refine decide_eq_true ?_; first | assumption | omega) | (refine nt ?_; first | assumption | omega) | (simp [*]; done)) | (first | rfl | assumption | (refine decide_eq_false ?_; first | assumption | omega) | (refine nf ?_; first | assumption | omega) | (simp [*]; done))); (apply m_call (eqIntS_spec _ _ hr))); (· repeat (first | exact lends_nil | (refine lends_cons ?_ ?_; (· (first | (refine lend_ints ?_; first | rfl | omega) | (refine lend_sli (by rfl) ?_; first | rfl | omega | (simp; done)))))))
    repeat (first | (refine step_ops ?_; ((try (refine g_yes rfl ?_ ?_; (· first | rfl | assumption | (refine decide_eq_true ?_; first | assumption | omega) | (refine nt ?_; first | assumption | omega) | (simp [*]; done) | (refine decide_eq_false ?_; first | assumption | omega) | (refine nf ?_; first | assumption | omega)))); (first | (refine m_mov (by conv => lhs; whnf) ?_) | (refine m_not rfl ?_) | (refine m_beq rfl rfl ?_) | (refine m_pick_f rfl ?_ (by conv => lhs; whnf) ?_; (· first | rfl | assumption | (refine decide_eq_false ?_; first | assumption | omega) | (refine nf ?_; first | assumption | omega) | (simp [*]; done)))))) | refine end_ops ?_ | refine seq_ops ?_ | (refine cond_f rfl ?_ ?_; (· first | rfl | assumption | (refine decide_eq_false ?_; first | assumption | omega) | (refine nf ?_; first | assumption | omega) | (simp [*]; done))) | refine skip_then ?_)
    refine step_ops ?_; (apply m_callm (markIntS_spec R 1 hr (by decide) (by decide))); (· first | rfl | (simp; done)); (· rfl); (· rfl); (· exact allv_ints _); (· exact allv_ints _); (· rfl)
    repeat (first | (refine step_ops ?_; (refine m_mov (by conv => lhs; whnf) ?_)) | refine end_ops ?_ | refine seq_ops ?_)
    refine step_ops ?_; (apply m_call (heldMarks_spec 1 R.length hr (by decide) (by decide))); (· repeat (first | exact lends_nil | (refine lends_cons ?_ ?_; (· (first | exact lend_v | (refine lend_sli (by rfl) ?_; first | rfl | omega | (simp; done)))))))
    repeat (first | (refine step_ops ?_; (first | (refine m_mov (by conv => lhs; whnf) ?_) | (refine m_lss rfl rfl ?_) | (refine m_neq rfl rfl ?_) | (refine m_ldall rfl rfl ?_ ?_; (· first | rfl | (simp; done) | (simp [*]; done))))) | refine end_ops ?_ | refine seq_ops ?_ | (refine cond_f rfl ?_ ?_; (· first | rfl | assumption | (refine decide_eq_false ?_; first | assumption | omega) | (refine nf ?_; first | assumption | omega) | (simp [*]; done))) | refine skip_then ?_ | refine AW_seq ?_)
    refine step_ops ?_; (apply m_call (s0)); (· repeat (first | exact lends_nil | (refine lends_cons ?_ ?_; (· exact lend_pzl))))
    skip
    refine step_ops ?_; (apply m_call (s2)); (· repeat (first | exact lends_nil | (refine lends_cons ?_ ?_; (· exact lend_pzl))))
    repeat (first | (refine step_ops ?_; (first | (refine m_mov (by conv => lhs; whnf) ?_) | (refine m_ext rfl rfl ?_))) | refine end_ops ?_ | refine seq_ops ?_ | refine AW_seq ?_)
    refine step_ops ?_; (apply m_call (eqIntS_spec _ _ hr)); (· repeat (first | exact lends_nil | (refine lends_cons ?_ ?_; (· (refine lend_ints ?_; first | rfl | omega)))))
    repeat (first | (refine step_ops ?_; ((try (refine g_yes rfl ?_ ?_; (· first | rfl | assumption | (refine decide_eq_true ?_; first | assumption | omega) | (refine nt ?_; first | assumption | omega) | (simp [*]; done) | (refine decide_eq_false ?_; first | assumption | omega) | (refine nf ?_; first | assumption | omega)))); (first | (refine m_mov (by conv => lhs; whnf) ?_) | (refine m_not rfl ?_) | (refine m_beq rfl rfl ?_) | (refine m_pick_f rfl ?_ (by conv => lhs; whnf) ?_; (· first | rfl | assumption | (refine decide_eq_false ?_; first | assumption | omega) | (refine nf ?_; first | assumption | omega) | (simp [*]; done)))))) | refine end_ops ?_ | refine seq_ops ?_ | (refine cond_f rfl ?_ ?_; (· first | rfl | assumption | (refine decide_eq_false ?_; first | assumption | omega) | (refine nf ?_; first | assumption | omega) | (simp [*]; done))) | refine skip_then ?_)
    refine step_ops ?_; (apply m_call (heldMarks_spec 1 R.length hr (by decide) (by decide))); (· repeat (first | exact lends_nil | (refine lends_cons ?_ ?_; (· (first | exact lend_v | (refine lend_sli (by rfl) ?_; first | rfl | omega | (simp; done)))))))
    repeat (first | (refine step_ops ?_; (first | (refine m_mov (by conv => lhs; whnf) ?_) | (refine m_lss rfl rfl ?_) | (refine m_neq rfl rfl ?_))) | refine end_ops ?_ | refine seq_ops ?_ | (refine cond_f rfl ?_ ?_; (· first | rfl | assumption | (refine decide_eq_false ?_; first | assumption | omega) | (refine nf ?_; first | assumption | omega) | (simp [*]; done))) | refine skip_then ?_ | refine AW_seq ?_ | refine AW_ret ?_ | refine ret_done ?_)
    exact outs_b rfl
  · rw [if_neg hl] at hs
    refine spec_of Try.func10 rfl cc10 rfl ?_
    unfold ac10
    repeat (first | (refine step_ops ?_; (first | (refine m_mov (by conv => lhs; whnf) ?_) | (refine m_box rfl ?_ ?_; (· first | rfl | (simp [cellOk, Value.oneCell']; done))) | (refine m_ldall rfl rfl ?_ ?_; (· first | rfl | (simp; done) | (simp [*]; done))))) | refine end_ops ?_ | refine seq_ops ?_)
    refine step_ops ?_; (apply m_call (hs)); (· repeat (first | exact lends_nil | (refine lends_cons ?_ ?_; (· (first | exact lend_v | exact lend_pzl)))))
    repeat (first | (refine step_ops ?_; (first | (refine m_mov (by conv => lhs; whnf) ?_) | (refine m_lss rfl rfl ?_))) | refine end_ops ?_ | refine seq_ops ?_ | (refine cond_t rfl ?_ ?_; (· first | rfl | assumption | (refine decide_eq_true ?_; first | assumption | omega) | (refine nt ?_; first | assumption | omega) | (simp [*]; done))) | refine AW_seq ?_ | refine AW_ret ?_ | refine ret_done ?_ | refine ret_then ?_)
    exact outs_b rfl
end Go.Proofs.Ytpohldecllkjbaa
