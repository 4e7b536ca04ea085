/- The law FnExactSolutions says true for every puzzle: Solutions answers as its model does, leaves the puzzle alone, and its answer is memory of its own. No condition. -/
import Derived.Test.YtpohldecllkjbaaZs6
namespace Go.Am
theorem lend_matE {hp : Hp} {r b n : Nat} {rows rows0 : List (List Int)} (h0 : hp r = some (false, rowsC b rows0)) (hn : n = rows.length) (he : rowsC b rows0 = rowsC b rows) (hrow : ∀ j, j < rows.length → hp (b + j) = some (true, (rows.getD j []).map AV.i)) : Lend hp (.sl r 1 0 n) (roM rows) := by
  subst hn
  exact lend_mat (by rw [h0, he]) hrow
end Go.Am
namespace Go.Proofs.Ytpohldecllkjbaa
open Go.Am
attribute [local irreducible] AW Outs Weak Lends Lend Sp aops atree aop1 Then Round InBlock Done
attribute [local irreducible] SpM DoneM SpH DoneH
attribute [local simp] marks_len
theorem solS_ok (g : Int) (C : List Clu) : (solS g C).length ≤ 120 ∧ ∀ r ∈ solS g C, r.length ≤ 5 := by
  unfold solS
  split
  · rename_i hz
    obtain ⟨n, rfl, h1, h5⟩ := pz_nat hz
    rw [Int.toNat_natCast]
    refine ⟨sol_len h5, fun r hr => ?_⟩
    have := (allN_mem h1 h5 (List.mem_filter.1 hr).1).2.1
    omega
  · simp
theorem lawSolutions (g : Int) (C : List Clu) (hC : C.length ≤ 9223372036854775807) : Sp Try.prog 6 [pzl g C] (.b true) := by
  have hpb : pbase = 4000000 := rfl
  have hs := szPuzzle_spec g C hC
  by_cases hl : C.length ≤ 1048576
  · rw [if_pos hl] at hs
    have heq : (!decide (g = g ∧ C = C)) = false := by simp
    have s0 := toPuzzle_spec g C hl
    have s1 := sp_mat2 (specSolutions_spec g C)
    have s2 := implSolutions_spec g C
    have hok := solS_ok g C
    have hne : (true ^^ (decide (IsPz g C) == decide (IsPz g C))) = false := by simp
    have ht := tot_le (rs := solS g C) (n := 120) (m := 5) hok.1 hok.2
    generalize solS g C = R at *
    have hR : R.length ≤ 1048576 := by omega
    have hRr : ∀ r ∈ R, r.length ≤ 1048576 := fun r hr => by have := hok.2 r hr; omega
    have hml := mkM_len 1 R
    have hsame : rowsC 2000 R = rowsC 2000 (mkM 1 R) := rowsC_same _ _ _ hml.symm fun j hj => (mkM_rowlen 1 R j).symm
    refine spec_of Try.func6 rfl cc6 rfl ?_
    unfold ac6
    repeat (first | (refine step_ops ?_; (first | (refine m_mov (by conv => lhs; whnf) ?_) | (refine m_box rfl ?_ ?_; (· first | rfl | (simp [cellOk, Value.oneCell']; done))) | (refine m_ldall rfl rfl ?_ ?_; (· first | rfl | (simp; done) | (simp [*]; done))))) | refine end_ops ?_ | refine seq_ops ?_)
    refine step_ops ?_; (apply m_call (hs)); (· repeat (first | exact lends_nil | (refine lends_cons ?_ ?_; (· (first | exact lend_v | exact lend_pzl)))))
    repeat (first | (refine step_ops ?_; (first | (refine m_mov (by conv => lhs; whnf) ?_) | (refine m_lss rfl rfl ?_) | (refine m_ldall rfl rfl ?_ ?_; (· first | rfl | (simp; done) | (simp [*]; done))))) | refine end_ops ?_ | refine seq_ops ?_ | (refine cond_f rfl ?_ ?_; (· first | rfl | assumption | (refine decide_eq_false ?_; first | assumption | omega) | (refine nf ?_; first | assumption | omega) | (simp [*]; done))) | refine skip_then ?_ | refine AW_seq ?_)
    refine step_ops ?_; (apply m_call (s0)); (· repeat (first | exact lends_nil | (refine lends_cons ?_ ?_; (· exact lend_pzl))))
    skip
    refine step_ops ?_; (apply m_call (s1)); (· repeat (first | exact lends_nil | (refine lends_cons ?_ ?_; (· exact lend_pzl))))
    repeat (first | (refine step_ops ?_; (first | (refine m_mov (by conv => lhs; whnf) ?_) | (refine m_ext rfl rfl ?_) | (refine m_ldall rfl rfl ?_ ?_; (· first | rfl | (simp; done) | (simp [*]; done))))) | refine end_ops ?_ | refine seq_ops ?_)
    refine step_ops ?_
    refine m_newPz 1001 s0 (by rw [List.all_cons, pzl_flat]; rfl) ?_ rfl (by decide) ?_
    · exact lends_cons lend_pzl lends_nil
    repeat (refine step_ops ?_; (refine m_alloc ?_))
    refine step_opsW (weak_deep (r := 6) rfl (by simp) rfl) ?_
    refine m_stall (l := [.i g, .sl 1001 3 0 C.length]) rfl rfl rfl rfl rfl rfl ?_
    repeat (first | (refine step_ops ?_; (refine m_ldall rfl rfl ?_ ?_; (· first | rfl | (simp; done) | (simp [*]; done)))) | refine end_ops ?_ | refine seq_ops ?_)
    refine step_ops ?_
    refine m_callM 900 2000 s2 (lends_cons (lend_pzs (by rfl) rfl) lends_nil) rfl (by omega) (by omega) (by omega) rfl ?_ ?_
    · intro j hj
      simp (disch := omega) only [hp_put, hp_mem_ne, hp_kill_ne]
      rfl
    repeat (first | (refine step_ops ?_; (first | (refine m_mov (by conv => lhs; whnf) ?_) | (refine m_ext rfl rfl ?_))) | refine end_ops ?_ | refine seq_ops ?_ | refine AW_seq ?_)
    refine step_ops ?_; (apply m_call (eqIntSS_spec R R hR hRr)); (· repeat (first | exact lends_nil | (refine lends_cons ?_ ?_; (· (first | (refine lend_roM rfl; done) | (refine lend_mat rfl ?_; intro j hj; simp (disch := omega) only [hp_put]; first | exact setM_row hj | (refine addM_row (by omega) ?_ hj; simp (disch := omega) only [hp_put, hp_mem_ne, hp_kill_ne]; rfl)))))))
    repeat (first | ((first | refine step_ops ?_ | refine step_tree ?_); ((try (refine g_yes rfl ?_ ?_; (· first | rfl | assumption | (refine decide_eq_true ?_; first | assumption | omega) | (refine nt ?_; first | assumption | omega) | (simp [*]; done) | (refine decide_eq_false ?_; first | assumption | omega) | (refine nf ?_; first | assumption | omega)))); (first | (refine m_mov (by conv => lhs; whnf) ?_) | (refine m_not rfl ?_) | (refine m_beq rfl rfl ?_) | (refine m_pick_f rfl ?_ (by conv => lhs; whnf) ?_; (· first | rfl | assumption | (refine decide_eq_false ?_; first | assumption | omega) | (refine nf ?_; first | assumption | omega) | (simp [*]; done))) | (refine m_ldall rfl rfl ?_ ?_; (· first | rfl | (simp; done) | (simp [*]; done)))))) | refine end_ops ?_ | refine seq_tree ?_ | (refine cond_f rfl ?_ ?_; (· first | rfl | assumption | (refine decide_eq_false ?_; first | assumption | omega) | (refine nf ?_; first | assumption | omega) | (simp [*]; done))) | refine skip_then ?_ | refine AW_seq ?_)
    refine step_tree ?_; (apply m_call (s0)); (· repeat (first | exact lends_nil | (refine lends_cons ?_ ?_; (· exact lend_pzl))))
    skip
    refine step_tree ?_; (apply m_call (eqPuzzle_spec g g C C hl)); (· repeat (first | exact lends_nil | (refine lends_cons ?_ ?_; (· (first | exact lend_pzl | (exact lend_pzs (by rfl) rfl; done))))))
    repeat (first | ((first | refine step_ops ?_ | refine step_tree ?_); (first | (refine m_mov (by conv => lhs; whnf) ?_) | (refine m_not rfl ?_) | (refine m_ldall rfl rfl ?_ ?_; (· first | rfl | (simp; done) | (simp [*]; done))))) | refine end_ops ?_ | refine seq_ops ?_ | refine end_tree ?_ | (refine cond_f rfl ?_ ?_; (· first | rfl | assumption | (refine decide_eq_false ?_; first | assumption | omega) | (refine nf ?_; first | assumption | omega) | (simp [*]; done))) | refine skip_then ?_)
    refine step_ops ?_
    refine m_markPz 1001 (markPuzzle_spec g C 1 (by omega) (by decide) (by decide)) rfl rfl ?_
    repeat (first | (refine step_ops ?_; ((try (refine g_yes rfl ?_ ?_; (· first | rfl | assumption | (refine decide_eq_true ?_; first | assumption | omega) | (refine nt ?_; first | assumption | omega) | (simp [*]; done) | (refine decide_eq_false ?_; first | assumption | omega) | (refine nf ?_; first | assumption | omega)))); (first | (refine m_mov (by conv => lhs; whnf) ?_) | (refine m_lss rfl rfl ?_)))) | refine end_ops ?_ | refine seq_ops ?_ | refine AW_seq ?_)
    refine step_ops ?_; (refine g_yes rfl ?_ ?_; (· first | (first | rfl | assumption | (refine decide_eq_true ?_; first | assumption | omega) | (refine nt ?_; first | assumption | omega) | (simp [*]; done)) | (first | rfl | assumption | (refine decide_eq_false ?_; first | assumption | omega) | (refine nf ?_; first | assumption | omega) | (simp [*]; done))); (apply m_call (eqIntSS_spec R R hR hRr))); (· repeat (first | exact lends_nil | (refine lends_cons ?_ ?_; (· (first | (refine lend_roM rfl; done) | (refine lend_mat rfl ?_; intro j hj; simp (disch := omega) only [hp_put, hp_mem_ne]; first | exact setM_row hj | (refine addM_row (by omega) ?_ hj; simp (disch := omega) only [hp_put, hp_mem_ne, hp_kill_ne]; rfl)))))))
    repeat (first | (refine step_ops ?_; ((try (refine g_yes rfl ?_ ?_; (· first | rfl | assumption | (refine decide_eq_true ?_; first | assumption | omega) | (refine nt ?_; first | assumption | omega) | (simp [*]; done) | (refine decide_eq_false ?_; first | assumption | omega) | (refine nf ?_; first | assumption | omega)))); (first | (refine m_mov (by conv => lhs; whnf) ?_) | (refine m_not rfl ?_) | (refine m_beq rfl rfl ?_) | (refine m_pick_f rfl ?_ (by conv => lhs; whnf) ?_; (· first | rfl | assumption | (refine decide_eq_false ?_; first | assumption | omega) | (refine nf ?_; first | assumption | omega) | (simp [*]; done)))))) | refine end_ops ?_ | refine seq_ops ?_ | (refine cond_f rfl ?_ ?_; (· first | rfl | assumption | (refine decide_eq_false ?_; first | assumption | omega) | (refine nf ?_; first | assumption | omega) | (simp [*]; done))) | refine skip_then ?_)
    refine step_ops ?_
    refine m_callL 900 2000 (markIntSS_spec R 1 hR hRr (by omega) (by omega) (by omega)) rfl rfl (by omega) hml (fun j _ => mkM_rowlen 1 R j) rfl ?_ ?_
    · intro j hj
      simp (disch := omega) only [hp_put, hp_mem_ne]
      refine addM_row (by omega) ?_ hj
      simp (disch := omega) only [hp_put, hp_mem_ne, hp_kill_ne]
      rfl
    repeat (first | (refine step_ops ?_; (refine m_mov (by conv => lhs; whnf) ?_)) | refine end_ops ?_ | refine seq_ops ?_)
    refine step_ops ?_
    refine m_call (heldIntSS_spec R 1 hR hRr (by omega) (by omega) (by omega)) (lends_cons (lend_matE (b := 2000) (rows0 := R) rfl hml.symm hsame fun j hj => ?_) (lends_cons lend_v lends_nil)) ?_
    · simp (disch := omega) only [hp_put]
      exact setM_row hj
    repeat (first | (refine step_ops ?_; (first | (refine m_mov (by conv => lhs; whnf) ?_) | (refine m_lss rfl rfl ?_) | (refine m_neq rfl rfl ?_) | (refine m_ldall rfl rfl ?_ ?_; (· first | rfl | (simp; done) | (simp [*]; done))))) | refine end_ops ?_ | refine seq_ops ?_ | (refine cond_f rfl ?_ ?_; (· first | rfl | assumption | (refine decide_eq_false ?_; first | assumption | omega) | (refine nf ?_; first | assumption | omega) | (simp [*]; done))) | refine skip_then ?_ | refine AW_seq ?_)
    refine step_ops ?_; (apply m_call (s0)); (· repeat (first | exact lends_nil | (refine lends_cons ?_ ?_; (· exact lend_pzl))))
    skip
    refine step_ops ?_; (apply m_call (sp_mat2 s2)); (· repeat (first | exact lends_nil | (refine lends_cons ?_ ?_; (· exact lend_pzl))))
    repeat (first | (refine step_ops ?_; (first | (refine m_mov (by conv => lhs; whnf) ?_) | (refine m_ext rfl rfl ?_))) | refine end_ops ?_ | refine seq_ops ?_ | refine AW_seq ?_)
    refine step_ops ?_; (apply m_call (eqIntSS_spec R R hR hRr)); (· repeat (first | exact lends_nil | (refine lends_cons ?_ ?_; (· (refine lend_roM rfl; done)))))
    repeat (first | (refine step_ops ?_; ((try (refine g_yes rfl ?_ ?_; (· first | rfl | assumption | (refine decide_eq_true ?_; first | assumption | omega) | (refine nt ?_; first | assumption | omega) | (simp [*]; done) | (refine decide_eq_false ?_; first | assumption | omega) | (refine nf ?_; first | assumption | omega)))); (first | (refine m_mov (by conv => lhs; whnf) ?_) | (refine m_not rfl ?_) | (refine m_beq rfl rfl ?_) | (refine m_pick_f rfl ?_ (by conv => lhs; whnf) ?_; (· first | rfl | assumption | (refine decide_eq_false ?_; first | assumption | omega) | (refine nf ?_; first | assumption | omega) | (simp [*]; done)))))) | refine end_ops ?_ | refine seq_ops ?_ | (refine cond_f rfl ?_ ?_; (· first | rfl | assumption | (refine decide_eq_false ?_; first | assumption | omega) | (refine nf ?_; first | assumption | omega) | (simp [*]; done))) | refine skip_then ?_)
    refine step_ops ?_
    refine m_call (heldIntSS_spec R 1 hR hRr (by omega) (by omega) (by omega)) (lends_cons (lend_matE (b := 2000) (rows0 := R) rfl hml.symm hsame fun j hj => ?_) (lends_cons lend_v lends_nil)) ?_
    · simp (disch := omega) only [hp_put]
      exact setM_row hj
    repeat (first | (refine step_ops ?_; (first | (refine m_mov (by conv => lhs; whnf) ?_) | (refine m_lss rfl rfl ?_) | (refine m_neq rfl rfl ?_))) | refine end_ops ?_ | refine seq_ops ?_ | (refine cond_f rfl ?_ ?_; (· first | rfl | assumption | (refine decide_eq_false ?_; first | assumption | omega) | (refine nf ?_; first | assumption | omega) | (simp [*]; done))) | refine skip_then ?_ | refine AW_seq ?_ | refine AW_ret ?_ | refine ret_done ?_)
    exact outs_b rfl
  · rw [if_neg hl] at hs
    refine spec_of Try.func6 rfl cc6 rfl ?_
    unfold ac6
    repeat (first | (refine step_ops ?_; (first | (refine m_mov (by conv => lhs; whnf) ?_) | (refine m_box rfl ?_ ?_; (· first | rfl | (simp [cellOk, Value.oneCell']; done))) | (refine m_ldall rfl rfl ?_ ?_; (· first | rfl | (simp; done) | (simp [*]; done))))) | refine end_ops ?_ | refine seq_ops ?_)
    refine step_ops ?_; (apply m_call (hs)); (· repeat (first | exact lends_nil | (refine lends_cons ?_ ?_; (· (first | exact lend_v | exact lend_pzl)))))
    repeat (first | (refine step_ops ?_; (first | (refine m_mov (by conv => lhs; whnf) ?_) | (refine m_lss rfl rfl ?_))) | refine end_ops ?_ | refine seq_ops ?_ | (refine cond_t rfl ?_ ?_; (· first | rfl | assumption | (refine decide_eq_true ?_; first | assumption | omega) | (refine nt ?_; first | assumption | omega) | (simp [*]; done))) | refine AW_seq ?_ | refine AW_ret ?_ | refine ret_done ?_ | refine ret_then ?_)
    exact outs_b rfl
end Go.Proofs.Ytpohldecllkjbaa
