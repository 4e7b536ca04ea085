/- The law FnExactLikeliestSeatings says true for all numbers: LikeliestSeatings answers as its model does, and its answer is memory of its own. No condition. -/
import Derived.Test.YtkciccbpjdaekaaZs5
namespace Go.Proofs.Ytkciccbpjdaekaa
open Go.Am
attribute [local irreducible] AW Outs Weak Lends Lend Sp aops atree aop1 Then Round InBlock Done
attribute [local irreducible] SpM DoneM SpH DoneH
attribute [local simp] marks_len
theorem lawLikeliestSeatings (g : Int) (l : Int) : Sp Try.prog 4 [.i g, .i l] (.b true) := by
  have hpb : pbase = 4000000 := rfl
  refine spec_of Try.func4 rfl cc4 rfl ?_
  unfold ac4
  have hsp := specLikeliestSeatings_spec g l
  have him := implLikeliestSeatings_spec g l
  have hok := likeR_ok g l
  have ht := tot_le hok.1 hok.2
  generalize likeR g l = R at hsp him hok ht
  have hR : R.length ≤ 1048576 := by omega
  have hRr : ∀ r ∈ R, r.length ≤ 1048576 := fun r hr => by have := hok.2 r hr; omega
  have hml := mkM_len 1 R
  have hne : (true ^^ (decide (SeOk 7 g l) == decide (SeOk 7 g l))) = false := by simp
  repeat (first | (refine step_ops ?_; (refine m_mov (by conv => lhs; whnf) ?_)) | refine end_ops ?_ | refine seq_ops ?_)
  (refine step_ops ?_); (apply m_call (hsp)); (· repeat (first | exact lends_nil | (refine lends_cons ?_ ?_; (· exact lend_v))))
  repeat (first | (refine step_ops ?_; (first | (refine m_mov (by conv => lhs; whnf) ?_) | (refine m_ext rfl rfl ?_))) | refine end_ops ?_ | refine seq_ops ?_)
  refine step_ops ?_
  refine m_callM 22 1000 him ?_ rfl (by omega) (by omega) (by omega) rfl ?_ ?_
  · exact lends_cons (lend_v) (lends_cons (lend_v) (lends_nil))
  · intro j hj
    simp (disch := omega) only [hp_put, hp_mem_ne, hp_kill_ne]
    rfl
  refine weak_ops (weak_keep (l := [(0, .i g), (1, .i l), (5, roF R), (6, .b (decide (SeOk 7 g l))), (22, .tup [.sl 22 1 0 R.length, .b (decide (SeOk 7 g l))])]) (h := []) (r0 := 22) (b := 1000) (rows := R) id ?_ ?_ rfl rfl rfl (.inl (by omega)) rfl rfl rfl (.inl ⟨rfl, rfl⟩) ?_) ?_
  · (repeat' (first | exact trivial | refine And.intro ?_ ?_)) <;> (first | rfl | skip)
  · trivial
  · intro j hj
    simp only [hp_put]
    refine addM_row (by omega) ?_ hj
    simp (disch := omega) only [hp_put, hp_mem_ne, hp_kill_ne]
    rfl
  repeat (first | (refine step_ops ?_; (first | (refine m_mov (by conv => lhs; whnf) ?_) | (refine m_ext rfl rfl ?_))) | refine end_ops ?_ | refine seq_ops ?_ | refine AW_seq ?_)
  (refine step_ops ?_); (apply m_call (eqIntSS_spec R R hR hRr)); (· repeat (first | exact lends_nil | (refine lends_cons ?_ ?_; (· (first | (refine lend_roM rfl; done) | (refine lend_mat rfl ?_; intro j hj; simp (disch := first | omega | assumption) only [hp_put, hp_mem_ne, hp_kill_ne]; first | exact stM_row rfl hj | (rw [stM_row rfl hj]; rfl)))))))
  repeat (first | (refine step_ops ?_; ((try (refine g_yes rfl ?_ ?_; (· first | rfl | assumption | (refine decide_eq_true ?_; first | assumption | omega) | (refine nt ?_; first | assumption | omega) | (simp [*]; done) | (refine decide_eq_false ?_; first | assumption | omega) | (refine nf ?_; first | assumption | omega)))); (first | (refine m_mov (by conv => lhs; whnf) ?_) | (refine m_not rfl ?_) | (refine m_beq rfl rfl ?_) | (refine m_pick_f rfl ?_ (by conv => lhs; whnf) ?_; (· first | rfl | assumption | (refine decide_eq_false ?_; first | assumption | omega) | (refine nf ?_; first | assumption | omega) | (simp [*]; done)))))) | refine end_ops ?_ | refine seq_ops ?_ | (refine cond_f rfl ?_ ?_; (· first | rfl | assumption | (refine decide_eq_false ?_; first | assumption | omega) | (refine nf ?_; first | assumption | omega) | (simp [*]; done))) | refine skip_then ?_)
  refine step_ops ?_
  refine m_callL 22 1000 (markIntSS_spec R 1 hR hRr (by omega) (by omega) (by omega)) rfl rfl (by omega) hml (fun j _ => mkM_rowlen 1 R j) rfl ?_ ?_
  · (intro j hj; simp (disch := first | omega | assumption) only [hp_put, hp_mem_ne, hp_kill_ne]; first | exact stM_row rfl hj | (rw [stM_row rfl hj]; rfl))
  refine weak_ops (weak_keep (l := [(0, .i g), (1, .i l), (5, roF R), (6, .b (decide (SeOk 7 g l))), (7, .sl 22 1 0 (mkM 1 R).length), (8, .b (decide (SeOk 7 g l))), (36, .i (1 + (tot R : Nat)))]) (h := []) (r0 := 22) (b := 1000) (rows := mkM 1 R) id ?_ ?_ rfl rfl rfl (.inl (by omega)) rfl rfl rfl (.inl ⟨rfl, rowsC_same _ _ _ hml.symm fun j hj => (mkM_rowlen 1 R j).symm⟩) ?_) ?_
  · rw [hml]
    (repeat' (first | exact trivial | refine And.intro ?_ ?_)) <;> (first | rfl | skip)
  · trivial
  · intro j hj
    simp only [hp_put]
    exact setM_row hj
  repeat (first | (refine step_ops ?_; (refine m_mov (by conv => lhs; whnf) ?_)) | refine end_ops ?_ | refine seq_ops ?_)
  (refine step_ops ?_); (apply m_call (heldIntSS_spec R 1 hR hRr (by omega) (by omega) (by omega))); (· repeat (first | exact lends_nil | (refine lends_cons ?_ ?_; (· (first | exact lend_v | (refine lend_mat rfl ?_; intro j hj; simp (disch := first | omega | assumption) only [hp_put, hp_mem_ne, hp_kill_ne]; first | exact stM_row rfl hj | (rw [stM_row rfl hj]; rfl)))))))
  repeat (first | (refine step_ops ?_; (first | (refine m_mov (by conv => lhs; whnf) ?_) | (refine m_lss rfl rfl ?_) | (refine m_neq rfl rfl ?_))) | refine end_ops ?_ | refine seq_ops ?_ | (refine cond_f rfl ?_ ?_; (· first | rfl | assumption | (refine decide_eq_false ?_; first | assumption | omega) | (refine nf ?_; first | assumption | omega) | (simp [*]; done))) | refine skip_then ?_ | refine AW_seq ?_)
  (refine step_ops ?_); (apply m_call (sp_mat2 him)); (· repeat (first | exact lends_nil | (refine lends_cons ?_ ?_; (· exact lend_v))))
  repeat (first | (refine step_ops ?_; (first | (refine m_mov (by conv => lhs; whnf) ?_) | (refine m_ext rfl rfl ?_))) | refine end_ops ?_ | refine seq_ops ?_ | refine AW_seq ?_)
  (refine step_ops ?_); (apply m_call (eqIntSS_spec R R hR hRr)); (· repeat (first | exact lends_nil | (refine lends_cons ?_ ?_; (· (refine lend_roM rfl; done)))))
  repeat (first | (refine step_ops ?_; ((try (refine g_yes rfl ?_ ?_; (· first | rfl | assumption | (refine decide_eq_true ?_; first | assumption | omega) | (refine nt ?_; first | assumption | omega) | (simp [*]; done) | (refine decide_eq_false ?_; first | assumption | omega) | (refine nf ?_; first | assumption | omega)))); (first | (refine m_mov (by conv => lhs; whnf) ?_) | (refine m_not rfl ?_) | (refine m_beq rfl rfl ?_) | (refine m_pick_f rfl ?_ (by conv => lhs; whnf) ?_; (· first | rfl | assumption | (refine decide_eq_false ?_; first | assumption | omega) | (refine nf ?_; first | assumption | omega) | (simp [*]; done)))))) | refine end_ops ?_ | refine seq_ops ?_ | (refine cond_f rfl ?_ ?_; (· first | rfl | assumption | (refine decide_eq_false ?_; first | assumption | omega) | (refine nf ?_; first | assumption | omega) | (simp [*]; done))) | refine skip_then ?_)
  (refine step_ops ?_); (apply m_call (heldIntSS_spec R 1 hR hRr (by omega) (by omega) (by omega))); (· repeat (first | exact lends_nil | (refine lends_cons ?_ ?_; (· (first | exact lend_v | (refine lend_mat rfl ?_; intro j hj; simp (disch := first | omega | assumption) only [hp_put, hp_mem_ne, hp_kill_ne]; first | exact stM_row rfl hj | (rw [stM_row rfl hj]; rfl)))))))
  repeat (first | (refine step_ops ?_; (first | (refine m_mov (by conv => lhs; whnf) ?_) | (refine m_lss rfl rfl ?_) | (refine m_neq rfl rfl ?_))) | refine end_ops ?_ | refine seq_ops ?_ | (refine cond_f rfl ?_ ?_; (· first | rfl | assumption | (refine decide_eq_false ?_; first | assumption | omega) | (refine nf ?_; first | assumption | omega) | (simp [*]; done))) | refine skip_then ?_ | refine AW_seq ?_ | refine AW_ret ?_ | refine ret_done ?_)
  exact outs_b rfl
end Go.Proofs.Ytkciccbpjdaekaa
