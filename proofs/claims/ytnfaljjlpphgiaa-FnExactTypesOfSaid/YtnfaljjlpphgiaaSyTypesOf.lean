/- Contracts: TypesOf, of the specification and of the code. -/
import Derived.Test.YtnfaljjlpphgiaaSvB
import Derived.Test.YtnfaljjlpphgiaaSuN
namespace Go.Proofs.Ytnfaljjlpphgiaa
open Go.Am
attribute [local irreducible] AW Outs Weak Lends Lend Sp aops atree aop1 Then Round InBlock Done
attribute [local irreducible] SpH DoneH SpG DoneT

def tpRes (g : Int) : List (List Int) := if 1 ≤ g ∧ g ≤ 12 then tyAll g.toNat g.toNat else []

theorem tpRes_ok (g : Int) : (tpRes g).length ≤ 77 ∧ ∀ r ∈ tpRes g, r.length ≤ 12 := by
  unfold tpRes
  split
  · rename_i h
    exact ⟨tyAll_len (by omega) (by omega), fun r hr => Nat.le_trans (tyAll_row (by omega) (by omega) hr) (by omega)⟩
  · simp

theorem specTypesOf_spec (g : Int) : SpH Try.prog 15 [.i g] (fun _ => none) (.tup [.sl nbase 1 0 (tpRes g).length, .v (.bool (decide (1 ≤ g ∧ g ≤ 12)))]) (matO (tpRes g)) := by
  have hpb : pbase = 4000000 := rfl
  refine specH_of Try.func15 rfl cc15 rfl (by first | exact static_mat1 _ | exact static_mat2 _ _ | assumption) ?_
  unfold ac15
  by_cases h : 1 ≤ g ∧ g ≤ 12
  · have e : tpRes g = _ := if_pos h
    rw [e]
    obtain ⟨n, rfl⟩ := Int.eq_ofNat_of_zero_le (show 0 ≤ g by omega)
    rw [Int.toNat_natCast]
    have hall := chAll_spec n (by omega) n (by omega)
    have hRl := tyAll_len (s := n) (m := n) (by omega) (by omega)
    rw [decide_eq_true h]
    generalize tyAll n n = R at *
    have hrl := rowsC_len 1000 R
    repeat (first | (refine step_ops ?_; (first | (refine m_mov (by conv => lhs; whnf) ?_) | (refine m_not rfl ?_) | (refine m_nils ?_))) | refine end_ops ?_ | refine seq_ops ?_ | refine AW_ops ?_ | (refine cond_t rfl ?_ ?_; (· first | rfl | assumption | (refine decide_eq_true ?_; first | assumption | omega) | (refine nt ?_; first | assumption | omega) | (simp [*]; done))) | (refine cond_f rfl ?_ ?_; (· first | rfl | assumption | (refine decide_eq_false ?_; first | assumption | omega) | (refine nf ?_; first | assumption | omega) | (simp [*]; done))) | refine skip_then ?_ | refine AW_seq ?_ | refine AW_ret ?_ | refine ret_done ?_ | refine norm_then ?_ | refine ret_then ?_ | refine exit_then ?_ | refine AW_skip ?_)
    (refine step_ops ?_); (apply m_call (exGuests_spec _)); (· repeat (first | exact lends_nil | (refine lends_cons ?_ ?_; (· first | exact lend_v | (refine lend_roM rfl; done) | (refine lend_mat rfl ?_; intro j hj; simp (disch := first | omega | assumption) only [hp_put, hp_mem_ne, hp_kill_ne]; first | exact stM_row rfl hj | (rw [stM_row rfl hj]; rfl)) | (refine lend_ints ?_; first | rfl | omega) | (refine lend_sli (by rfl) ?_; first | rfl | omega | (simp; done)) | exact lend_any | (refine lend_agg ?_; first | rfl | assumption | (simp [plainV]; done))))))
    repeat (first | (refine step_ops ?_; (first | (refine m_mov (by conv => lhs; whnf) ?_) | (refine m_not rfl ?_) | (refine m_nils ?_))) | refine end_ops ?_ | refine seq_ops ?_ | refine AW_ops ?_ | (refine cond_t rfl ?_ ?_; (· first | rfl | assumption | (refine decide_eq_true ?_; first | assumption | omega) | (refine nt ?_; first | assumption | omega) | (simp [*]; done))) | (refine cond_f rfl ?_ ?_; (· first | rfl | assumption | (refine decide_eq_false ?_; first | assumption | omega) | (refine nf ?_; first | assumption | omega) | (simp [*]; done))) | refine skip_then ?_ | refine AW_seq ?_ | refine AW_ret ?_ | refine ret_done ?_ | refine norm_then ?_ | refine ret_then ?_ | refine exit_then ?_ | refine AW_skip ?_)
    refine step_ops ?_
    refine m_callM 9 1000 hall ?_ rfl (by omega) (by omega) (by omega) rfl ?_ ?_
    · exact lends_cons lend_v (lends_cons lend_v lends_nil)
    · intro j hj
      simp (disch := omega) only [hp_put, hp_mem_ne, hp_kill_ne]
      rfl
    repeat (first | (refine step_ops ?_; (first | (refine m_mov (by conv => lhs; whnf) ?_) | (refine m_not rfl ?_) | (refine m_nils ?_))) | refine end_ops ?_ | refine seq_ops ?_ | refine AW_ops ?_ | (refine cond_t rfl ?_ ?_; (· first | rfl | assumption | (refine decide_eq_true ?_; first | assumption | omega) | (refine nt ?_; first | assumption | omega) | (simp [*]; done))) | (refine cond_f rfl ?_ ?_; (· first | rfl | assumption | (refine decide_eq_false ?_; first | assumption | omega) | (refine nf ?_; first | assumption | omega) | (simp [*]; done))) | refine skip_then ?_ | refine AW_seq ?_ | refine AW_ret ?_ | refine ret_done ?_ | refine norm_then ?_ | refine ret_then ?_ | refine exit_then ?_ | refine AW_skip ?_)
    refine ret_mat (r0 := 9) (b := 1000) (by omega) (by omega) (by omega) rfl rfl ?_
    intro j hj
    simp only [hp_put]
    refine addM_row (by omega) ?_ hj
    simp (disch := omega) only [hp_put, hp_mem_ne, hp_kill_ne]
    rfl
  · have e : tpRes g = _ := if_neg h
    rw [e]
    rw [decide_eq_false h]
    repeat (first | (refine step_ops ?_; (first | (refine m_mov (by conv => lhs; whnf) ?_) | (refine m_not rfl ?_) | (refine m_nils ?_))) | refine end_ops ?_ | refine seq_ops ?_ | refine AW_ops ?_ | (refine cond_t rfl ?_ ?_; (· first | rfl | assumption | (refine decide_eq_true ?_; first | assumption | omega) | (refine nt ?_; first | assumption | omega) | (simp [*]; done))) | (refine cond_f rfl ?_ ?_; (· first | rfl | assumption | (refine decide_eq_false ?_; first | assumption | omega) | (refine nf ?_; first | assumption | omega) | (simp [*]; done))) | refine skip_then ?_ | refine AW_seq ?_ | refine AW_ret ?_ | refine ret_done ?_ | refine norm_then ?_ | refine ret_then ?_ | refine exit_then ?_ | refine AW_skip ?_)
    (refine step_ops ?_); (apply m_call (exGuests_spec _)); (· repeat (first | exact lends_nil | (refine lends_cons ?_ ?_; (· first | exact lend_v | (refine lend_roM rfl; done) | (refine lend_mat rfl ?_; intro j hj; simp (disch := first | omega | assumption) only [hp_put, hp_mem_ne, hp_kill_ne]; first | exact stM_row rfl hj | (rw [stM_row rfl hj]; rfl)) | (refine lend_ints ?_; first | rfl | omega) | (refine lend_sli (by rfl) ?_; first | rfl | omega | (simp; done)) | exact lend_any | (refine lend_agg ?_; first | rfl | assumption | (simp [plainV]; done))))))
    repeat (first | (refine step_ops ?_; (first | (refine m_mov (by conv => lhs; whnf) ?_) | (refine m_not rfl ?_) | (refine m_nils ?_))) | refine end_ops ?_ | refine seq_ops ?_ | refine AW_ops ?_ | (refine cond_t rfl ?_ ?_; (· first | rfl | assumption | (refine decide_eq_true ?_; first | assumption | omega) | (refine nt ?_; first | assumption | omega) | (simp [*]; done))) | (refine cond_f rfl ?_ ?_; (· first | rfl | assumption | (refine decide_eq_false ?_; first | assumption | omega) | (refine nf ?_; first | assumption | omega) | (simp [*]; done))) | refine skip_then ?_ | refine AW_seq ?_ | refine AW_ret ?_ | refine ret_done ?_ | refine norm_then ?_ | refine ret_then ?_ | refine exit_then ?_ | refine AW_skip ?_)
    exact ret_mat0 (r0 := 2) (by omega) rfl rfl

theorem implTypesOf_spec (g : Int) : SpH Try.prog 16 [.i g] (fun _ => none) (.tup [.sl nbase 1 0 (tpRes g).length, .v (.bool (decide (1 ≤ g ∧ g ≤ 12)))]) (matO (tpRes g)) := by
  have hpb : pbase = 4000000 := rfl
  refine specH_of Try.func16 rfl cc16 rfl (by first | exact static_mat1 _ | exact static_mat2 _ _ | assumption) ?_
  unfold ac16
  by_cases h : 1 ≤ g ∧ g ≤ 12
  · have e : tpRes g = _ := if_pos h
    rw [e]
    obtain ⟨n, rfl⟩ := Int.eq_ofNat_of_zero_le (show 0 ≤ g by omega)
    rw [Int.toNat_natCast]
    have hall := typesOf_spec n (by omega) (by omega)
    have hRl := tyAll_len (s := n) (m := n) (by omega) (by omega)
    rw [decide_eq_true h]
    generalize tyAll n n = R at *
    have hrl := rowsC_len 1000 R
    repeat (first | (refine step_ops ?_; (first | (refine m_mov (by conv => lhs; whnf) ?_) | (refine m_not rfl ?_) | (refine m_nils ?_))) | refine end_ops ?_ | refine seq_ops ?_ | refine AW_ops ?_ | (refine cond_t rfl ?_ ?_; (· first | rfl | assumption | (refine decide_eq_true ?_; first | assumption | omega) | (refine nt ?_; first | assumption | omega) | (simp [*]; done))) | (refine cond_f rfl ?_ ?_; (· first | rfl | assumption | (refine decide_eq_false ?_; first | assumption | omega) | (refine nf ?_; first | assumption | omega) | (simp [*]; done))) | refine skip_then ?_ | refine AW_seq ?_ | refine AW_ret ?_ | refine ret_done ?_ | refine norm_then ?_ | refine ret_then ?_ | refine exit_then ?_ | refine AW_skip ?_)
    (refine step_ops ?_); (apply m_call (isGuestCount_spec _)); (· repeat (first | exact lends_nil | (refine lends_cons ?_ ?_; (· first | exact lend_v | (refine lend_roM rfl; done) | (refine lend_mat rfl ?_; intro j hj; simp (disch := first | omega | assumption) only [hp_put, hp_mem_ne, hp_kill_ne]; first | exact stM_row rfl hj | (rw [stM_row rfl hj]; rfl)) | (refine lend_ints ?_; first | rfl | omega) | (refine lend_sli (by rfl) ?_; first | rfl | omega | (simp; done)) | exact lend_any | (refine lend_agg ?_; first | rfl | assumption | (simp [plainV]; done))))))
    repeat (first | (refine step_ops ?_; (first | (refine m_mov (by conv => lhs; whnf) ?_) | (refine m_not rfl ?_) | (refine m_nils ?_))) | refine end_ops ?_ | refine seq_ops ?_ | refine AW_ops ?_ | (refine cond_t rfl ?_ ?_; (· first | rfl | assumption | (refine decide_eq_true ?_; first | assumption | omega) | (refine nt ?_; first | assumption | omega) | (simp [*]; done))) | (refine cond_f rfl ?_ ?_; (· first | rfl | assumption | (refine decide_eq_false ?_; first | assumption | omega) | (refine nf ?_; first | assumption | omega) | (simp [*]; done))) | refine skip_then ?_ | refine AW_seq ?_ | refine AW_ret ?_ | refine ret_done ?_ | refine norm_then ?_ | refine ret_then ?_ | refine exit_then ?_ | refine AW_skip ?_)
    refine step_ops ?_
    refine m_callM 8 1000 hall ?_ rfl (by omega) (by omega) (by omega) rfl ?_ ?_
    · exact lends_cons lend_v lends_nil
    · intro j hj
      simp (disch := omega) only [hp_put, hp_mem_ne, hp_kill_ne]
      rfl
    repeat (first | (refine step_ops ?_; (first | (refine m_mov (by conv => lhs; whnf) ?_) | (refine m_not rfl ?_) | (refine m_nils ?_))) | refine end_ops ?_ | refine seq_ops ?_ | refine AW_ops ?_ | (refine cond_t rfl ?_ ?_; (· first | rfl | assumption | (refine decide_eq_true ?_; first | assumption | omega) | (refine nt ?_; first | assumption | omega) | (simp [*]; done))) | (refine cond_f rfl ?_ ?_; (· first | rfl | assumption | (refine decide_eq_false ?_; first | assumption | omega) | (refine nf ?_; first | assumption | omega) | (simp [*]; done))) | refine skip_then ?_ | refine AW_seq ?_ | refine AW_ret ?_ | refine ret_done ?_ | refine norm_then ?_ | refine ret_then ?_ | refine exit_then ?_ | refine AW_skip ?_)
    refine ret_mat (r0 := 8) (b := 1000) (by omega) (by omega) (by omega) rfl rfl ?_
    intro j hj
    simp only [hp_put]
    refine addM_row (by omega) ?_ hj
    simp (disch := omega) only [hp_put, hp_mem_ne, hp_kill_ne]
    rfl
  · have e : tpRes g = _ := if_neg h
    rw [e]
    rw [decide_eq_false h]
    repeat (first | (refine step_ops ?_; (first | (refine m_mov (by conv => lhs; whnf) ?_) | (refine m_not rfl ?_) | (refine m_nils ?_))) | refine end_ops ?_ | refine seq_ops ?_ | refine AW_ops ?_ | (refine cond_t rfl ?_ ?_; (· first | rfl | assumption | (refine decide_eq_true ?_; first | assumption | omega) | (refine nt ?_; first | assumption | omega) | (simp [*]; done))) | (refine cond_f rfl ?_ ?_; (· first | rfl | assumption | (refine decide_eq_false ?_; first | assumption | omega) | (refine nf ?_; first | assumption | omega) | (simp [*]; done))) | refine skip_then ?_ | refine AW_seq ?_ | refine AW_ret ?_ | refine ret_done ?_ | refine norm_then ?_ | refine ret_then ?_ | refine exit_then ?_ | refine AW_skip ?_)
    (refine step_ops ?_); (apply m_call (isGuestCount_spec _)); (· repeat (first | exact lends_nil | (refine lends_cons ?_ ?_; (· first | exact lend_v | (refine lend_roM rfl; done) | (refine lend_mat rfl ?_; intro j hj; simp (disch := first | omega | assumption) only [hp_put, hp_mem_ne, hp_kill_ne]; first | exact stM_row rfl hj | (rw [stM_row rfl hj]; rfl)) | (refine lend_ints ?_; first | rfl | omega) | (refine lend_sli (by rfl) ?_; first | rfl | omega | (simp; done)) | exact lend_any | (refine lend_agg ?_; first | rfl | assumption | (simp [plainV]; done))))))
    repeat (first | (refine step_ops ?_; (first | (refine m_mov (by conv => lhs; whnf) ?_) | (refine m_not rfl ?_) | (refine m_nils ?_))) | refine end_ops ?_ | refine seq_ops ?_ | refine AW_ops ?_ | (refine cond_t rfl ?_ ?_; (· first | rfl | assumption | (refine decide_eq_true ?_; first | assumption | omega) | (refine nt ?_; first | assumption | omega) | (simp [*]; done))) | (refine cond_f rfl ?_ ?_; (· first | rfl | assumption | (refine decide_eq_false ?_; first | assumption | omega) | (refine nf ?_; first | assumption | omega) | (simp [*]; done))) | refine skip_then ?_ | refine AW_seq ?_ | refine AW_ret ?_ | refine ret_done ?_ | refine norm_then ?_ | refine ret_then ?_ | refine exit_then ?_ | refine AW_skip ?_)
    exact ret_mat0 (r0 := 2) (by omega) rfl rfl
end Go.Proofs.Ytnfaljjlpphgiaa
