/- Contracts: all types of a sum, made by a function value that calls itself: the calls. -/
import Derived.Test.YtnfaljjlpphgiaaSuK
namespace Go.Proofs.Ytnfaljjlpphgiaa
open Go.Am
attribute [local irreducible] AW Outs Weak Lends Lend Sp aops atree aop1 Then Round InBlock Done
attribute [local irreducible] SpH DoneH SpG DoneT

/-- A type is there: it goes behind those before. -/
theorem go_leaf (P : List (List Int)) (M : List Int) (hP : P.length ≤ 1500) : SpG Try.prog 60 [.i 0, .sl (gvb + 1 + P.length) 1 0 M.length, .pt (pbase + 1) 0, .pt pbase 0] (hinG P (P ++ [M])) (.tup []) (houtG (P ++ [M])) := by
  have hpb : pbase = 4000000 := rfl
  have hl : (P ++ [M]).length = P.length + 1 := by simp
  have hrl := rowsC_len 1000 P
  refine specT_of Try.func60 rfl cc60 rfl (go_static P (P ++ [M]) (P ++ [M])) (goS [(0, .i 0), (1, .sl (1000 + P.length) 1 0 M.length), (2, .pt (pbase + 1) 0), (3, .pt pbase 0)] P (P ++ [M])) (go_enter (by omega) (by omega) ?_ ?_) ?_
  · refine ⟨rfl, ?_, rfl, rfl, trivial⟩
    show AV.sl (gvb + 1 + P.length) 1 0 M.length = .sl (goF (1000 + P.length)) 1 0 M.length
    rw [goF_row (by omega)]
  · simp only [refsT, refsV, Bool.true_and, Bool.and_true, Bool.and_eq_true]
    refine ⟨?_, rfl, rfl⟩
    rw [famH_row (look3_none (by omega) (by omega) (by omega)) (by omega)]
    rfl
  unfold ac60
  repeat (first | ((first | refine step_ops ?_ | refine step_tree ?_); (first | ((try (refine g_yes rfl ?_ ?_; (· first | rfl | assumption | (refine decide_eq_true ?_; first | assumption | omega) | (refine nt ?_; first | assumption | omega) | (simp [*]; done) | (refine decide_eq_false ?_; first | assumption | omega) | (refine nf ?_; first | assumption | omega)))); (first | (refine m_mov (by conv => lhs; whnf) ?_) | (refine m_lss rfl rfl ?_) | (refine m_leq rfl rfl ?_) | (refine m_gtr rfl rfl ?_) | (refine m_geq rfl rfl ?_) | (refine m_eql rfl rfl ?_) | (refine m_eqk rfl rfl ?_) | (refine m_eqs rfl rfl ?_) | (refine m_neq rfl rfl ?_) | (refine m_neqk rfl rfl ?_) | (refine m_neqs_self rfl rfl ?_) | (refine m_neqs rfl rfl ?_) | (refine m_add rfl rfl ?_ ?_ ?_; (· omega); (· omega)) | (refine m_adds rfl rfl ?_ ?_; (· first | omega | (simp; omega))) | (refine m_sub rfl rfl ?_ ?_ ?_; (· omega); (· omega)) | (refine m_mul rfl rfl ?_ ?_ ?_; (· first | omega | (simp; done)); (· first | omega | (simp; done))) | (refine m_scutb rfl rfl rfl ?_ ?_ ?_; (· omega); (· first | omega | (simp; omega))) | (refine m_scutl rfl rfl ?_ ?_; (· first | omega | (simp; omega))) | (refine m_scuth rfl rfl ?_ ?_; (· first | omega | (simp; omega))) | (refine m_slen rfl ?_) | (refine m_six' rfl rfl ?_ ?_; (· first | omega | (simp; omega))) | (refine m_bts_sl rfl rfl ?_ ?_; (· first | rfl | omega | (simp; done))) | (refine m_not rfl ?_) | (refine m_beq rfl rfl ?_) | (refine m_len_ro rfl ?_) | (refine m_len_sl rfl ?_) | (refine m_len_nil rfl ?_) | (refine m_isnil_x rfl ?_) | (refine m_isnil_ro rfl ?_ ?_; (· omega)) | (refine m_isnil_sl rfl ?_ ?_; (· omega)) | (refine m_idx1_ro rfl rfl ?_ ?_; (· omega)) | (refine m_idx1_sl rfl rfl ?_ ?_; (· omega)) | (apply m_idx1_slj; (· rfl); (· rfl); (· assumption); (· omega)) | (apply m_idx1_roj; (· rfl); (· rfl); (· assumption); (· omega)) | (refine m_idx_ro rfl rfl ?_ ?_ ?_; (· omega); (· omega)) | (refine m_idx_sl rfl rfl ?_ ?_ ?_; (· omega); (· omega)) | (refine m_arr1 rfl rfl ?_ ?_; (· omega)) | (apply m_arr1j; (· rfl); (· rfl); (· assumption); (· omega)) | (refine m_arro rfl rfl ?_ ?_; (· omega)) | (refine m_arr rfl rfl ?_ ?_ ?_; (· omega); (· omega)) | (refine m_ld_rpi rfl ?_ ?_; (· omega)) | (refine m_ld_pti rfl (by rfl) ?_ ?_; (· first | omega | (simp; omega))) | (apply m_ld_ptb; (· rfl); (· rfl); (· assumption)) | (apply m_ld_rp; (· rfl); (· rfl)) | (apply m_ld_pt; (· rfl); (· rfl); (· rfl)) | (apply m_st; (· rfl); (· rfl); (· rfl); (· first | omega | (simp; done) | (simp; omega)); (· rfl)) | (refine m_pick_t rfl ?_ (by conv => lhs; whnf) ?_; (· first | rfl | assumption | (refine decide_eq_true ?_; first | assumption | omega) | (refine nt ?_; first | assumption | omega) | (simp [*]; done))) | (refine m_pick_f rfl ?_ (by conv => lhs; whnf) ?_; (· first | rfl | assumption | (refine decide_eq_false ?_; first | assumption | omega) | (refine nf ?_; first | assumption | omega) | (simp [*]; done))) | (refine m_cut_hi rfl rfl ?_ ?_ ?_; (· first | rfl | omega | simp); (· first | omega | (simp; omega))) | (refine m_cut_lo rfl rfl ?_ ?_ ?_; (· first | rfl | omega | simp); (· first | omega | (simp; omega))) | (refine m_inil rfl ?_) | (refine m_iface rfl ?_) | (refine m_mkf ?_) | (refine m_nchk rfl ?_) | (refine m_nchk_rp rfl ?_) | (refine m_mmk ?_) | (refine m_nils ?_) | (refine m_ext rfl rfl ?_) | (refine m_alloc ?_) | (refine m_fa rfl ?_) | (refine m_fa_rp rfl ?_) | (refine m_bsl1 rfl rfl ?_) | (refine m_bsl0 ?_) | (refine m_app1i rfl (by decide) (by rfl) (by first | rfl | omega | (simp; done)) rfl rfl ?_ (by decide) ?_; (· first | omega | (simp; omega))) | (refine m_app1 rfl (by decide) rfl (by first | (simp; done) | (simp [*]; done) | (simp; omega)) rfl rfl rfl ?_ (by decide) ?_; (· first | omega | (simp; omega))) | (refine m_appro rfl (by decide) rfl (by first | rfl | (simp; done) | (simp [*]; done) | (simp; omega)) rfl (oks_ints _) ?_ (by decide) ?_; (· first | omega | (simp; omega))) | (refine m_fld rfl (by rfl) ?_) | (refine m_fldk rfl (by simp) ?_) | (refine m_bld rfl ?_) | (refine m_bld_1 (by conv => lhs; whnf) (by decide)  (by rfl) ?_) | (refine m_bld_2 (by conv => lhs; whnf) (by conv => lhs; whnf) (by decide)  (by decide) (by rfl) (by rfl) ?_) | (refine m_bld_3 (by conv => lhs; whnf) (by conv => lhs; whnf) (by conv => lhs; whnf) (by decide)  (by decide) (by decide) (by rfl) (by rfl) (by rfl) ?_) | (refine m_cvt rfl ?_) | (refine m_aeq rfl rfl rfl ?_) | (refine m_max rfl rfl ?_) | (refine m_min rfl rfl ?_) | (refine m_box rfl ?_ ?_; (· first | rfl | (simp [cellOk, Value.oneCell']; done))) | (refine m_box1 rfl rfl ?_) | (refine m_ldall rfl rfl ?_ ?_; (· first | rfl | (simp; done) | (simp [*]; done))) | (refine m_ldall_rp rfl rfl ?_) | (refine m_stall rfl rfl rfl ?_ ?_ ?_ ?_; (· first | rfl | (simp [*]; done)); (· first | rfl | (simp [*]; done)); (· first | rfl | (simp [cellOk, Value.oneCell']; done))) | (refine m_quo rfl rfl ?_ ?_ ?_ ?_; (· omega); (· omega); (· omega)) | (refine m_rem rfl rfl ?_ ?_ ?_; (· omega); (· omega)))) | (refine g_noF rfl ?_ ?_; (· first | rfl | assumption | (refine decide_eq_true ?_; first | assumption | omega) | (refine nt ?_; first | assumption | omega) | (simp [*]; done))) | (refine g_noT rfl ?_ ?_; (· first | rfl | assumption | (refine decide_eq_false ?_; first | assumption | omega) | (refine nf ?_; first | assumption | omega) | (simp [*]; done))))) | refine end_ops ?_ | refine seq_ops ?_ | refine AW_ops ?_ | refine end_tree ?_ | refine seq_tree ?_ | refine AW_tree ?_ | (refine cond_t rfl ?_ ?_; (· first | rfl | assumption | (refine decide_eq_true ?_; first | assumption | omega) | (refine nt ?_; first | assumption | omega) | (simp [*]; done))) | (refine cond_f rfl ?_ ?_; (· first | rfl | assumption | (refine decide_eq_false ?_; first | assumption | omega) | (refine nf ?_; first | assumption | omega) | (simp [*]; done))) | refine skip_then ?_ | refine AW_seq ?_ | refine AW_ret ?_ | refine ret_done ?_ | refine norm_then ?_ | refine ret_then ?_ | refine exit_then ?_ | refine AW_block ?_ | refine norm_block ?_ | refine ret_block ?_ | refine ret_round ?_ | refine exit_round ?_ | refine AW_exit ?_ | refine exit_block ?_ | (refine exit_other ?_ ?_; (· decide)) | refine AW_skip ?_)
  refine step_ops ?_
  refine m_bsl1d rfl rfl ?_
  refine step_ops ?_
  have hk12 : killV 12 (AV.sl (1000 + P.length) 1 0 M.length) = .sl (1000 + P.length) 1 0 M.length := by
    simp only [killV]
    rw [if_neg (by omega)]
  refine m_app1d (v := .sl (1000 + P.length) 1 0 M.length) rfl (by decide) rfl ?_ rfl (by show some (false, [killV 12 (AV.sl (1000 + P.length) 1 0 M.length)]) = _; rw [hk12]) rfl ?_ (by decide) ?_
  · simp [rowsC_kill, rowsC_len]
  · omega
  repeat (first | ((first | refine step_ops ?_ | refine step_tree ?_); (first | ((try (refine g_yes rfl ?_ ?_; (· first | rfl | assumption | (refine decide_eq_true ?_; first | assumption | omega) | (refine nt ?_; first | assumption | omega) | (simp [*]; done) | (refine decide_eq_false ?_; first | assumption | omega) | (refine nf ?_; first | assumption | omega)))); (first | (refine m_mov (by conv => lhs; whnf) ?_) | (refine m_lss rfl rfl ?_) | (refine m_leq rfl rfl ?_) | (refine m_gtr rfl rfl ?_) | (refine m_geq rfl rfl ?_) | (refine m_eql rfl rfl ?_) | (refine m_eqk rfl rfl ?_) | (refine m_eqs rfl rfl ?_) | (refine m_neq rfl rfl ?_) | (refine m_neqk rfl rfl ?_) | (refine m_neqs_self rfl rfl ?_) | (refine m_neqs rfl rfl ?_) | (refine m_add rfl rfl ?_ ?_ ?_; (· omega); (· omega)) | (refine m_adds rfl rfl ?_ ?_; (· first | omega | (simp; omega))) | (refine m_sub rfl rfl ?_ ?_ ?_; (· omega); (· omega)) | (refine m_mul rfl rfl ?_ ?_ ?_; (· first | omega | (simp; done)); (· first | omega | (simp; done))) | (refine m_scutb rfl rfl rfl ?_ ?_ ?_; (· omega); (· first | omega | (simp; omega))) | (refine m_scutl rfl rfl ?_ ?_; (· first | omega | (simp; omega))) | (refine m_scuth rfl rfl ?_ ?_; (· first | omega | (simp; omega))) | (refine m_slen rfl ?_) | (refine m_six' rfl rfl ?_ ?_; (· first | omega | (simp; omega))) | (refine m_bts_sl rfl rfl ?_ ?_; (· first | rfl | omega | (simp; done))) | (refine m_not rfl ?_) | (refine m_beq rfl rfl ?_) | (refine m_len_ro rfl ?_) | (refine m_len_sl rfl ?_) | (refine m_len_nil rfl ?_) | (refine m_isnil_x rfl ?_) | (refine m_isnil_ro rfl ?_ ?_; (· omega)) | (refine m_isnil_sl rfl ?_ ?_; (· omega)) | (refine m_idx1_ro rfl rfl ?_ ?_; (· omega)) | (refine m_idx1_sl rfl rfl ?_ ?_; (· omega)) | (apply m_idx1_slj; (· rfl); (· rfl); (· assumption); (· omega)) | (apply m_idx1_roj; (· rfl); (· rfl); (· assumption); (· omega)) | (refine m_idx_ro rfl rfl ?_ ?_ ?_; (· omega); (· omega)) | (refine m_idx_sl rfl rfl ?_ ?_ ?_; (· omega); (· omega)) | (refine m_arr1 rfl rfl ?_ ?_; (· omega)) | (apply m_arr1j; (· rfl); (· rfl); (· assumption); (· omega)) | (refine m_arro rfl rfl ?_ ?_; (· omega)) | (refine m_arr rfl rfl ?_ ?_ ?_; (· omega); (· omega)) | (refine m_ld_rpi rfl ?_ ?_; (· omega)) | (refine m_ld_pti rfl (by rfl) ?_ ?_; (· first | omega | (simp; omega))) | (apply m_ld_ptb; (· rfl); (· rfl); (· assumption)) | (apply m_ld_rp; (· rfl); (· rfl)) | (apply m_ld_pt; (· rfl); (· rfl); (· rfl)) | (apply m_st; (· rfl); (· rfl); (· rfl); (· first | omega | (simp; done) | (simp; omega)); (· rfl)) | (refine m_pick_t rfl ?_ (by conv => lhs; whnf) ?_; (· first | rfl | assumption | (refine decide_eq_true ?_; first | assumption | omega) | (refine nt ?_; first | assumption | omega) | (simp [*]; done))) | (refine m_pick_f rfl ?_ (by conv => lhs; whnf) ?_; (· first | rfl | assumption | (refine decide_eq_false ?_; first | assumption | omega) | (refine nf ?_; first | assumption | omega) | (simp [*]; done))) | (refine m_cut_hi rfl rfl ?_ ?_ ?_; (· first | rfl | omega | simp); (· first | omega | (simp; omega))) | (refine m_cut_lo rfl rfl ?_ ?_ ?_; (· first | rfl | omega | simp); (· first | omega | (simp; omega))) | (refine m_inil rfl ?_) | (refine m_iface rfl ?_) | (refine m_mkf ?_) | (refine m_nchk rfl ?_) | (refine m_nchk_rp rfl ?_) | (refine m_mmk ?_) | (refine m_nils ?_) | (refine m_ext rfl rfl ?_) | (refine m_alloc ?_) | (refine m_fa rfl ?_) | (refine m_fa_rp rfl ?_) | (refine m_bsl1 rfl rfl ?_) | (refine m_bsl0 ?_) | (refine m_app1i rfl (by decide) (by rfl) (by first | rfl | omega | (simp; done)) rfl rfl ?_ (by decide) ?_; (· first | omega | (simp; omega))) | (refine m_app1 rfl (by decide) rfl (by first | (simp; done) | (simp [*]; done) | (simp; omega)) rfl rfl rfl ?_ (by decide) ?_; (· first | omega | (simp; omega))) | (refine m_appro rfl (by decide) rfl (by first | rfl | (simp; done) | (simp [*]; done) | (simp; omega)) rfl (oks_ints _) ?_ (by decide) ?_; (· first | omega | (simp; omega))) | (refine m_fld rfl (by rfl) ?_) | (refine m_fldk rfl (by simp) ?_) | (refine m_bld rfl ?_) | (refine m_bld_1 (by conv => lhs; whnf) (by decide)  (by rfl) ?_) | (refine m_bld_2 (by conv => lhs; whnf) (by conv => lhs; whnf) (by decide)  (by decide) (by rfl) (by rfl) ?_) | (refine m_bld_3 (by conv => lhs; whnf) (by conv => lhs; whnf) (by conv => lhs; whnf) (by decide)  (by decide) (by decide) (by rfl) (by rfl) (by rfl) ?_) | (refine m_cvt rfl ?_) | (refine m_aeq rfl rfl rfl ?_) | (refine m_max rfl rfl ?_) | (refine m_min rfl rfl ?_) | (refine m_box rfl ?_ ?_; (· first | rfl | (simp [cellOk, Value.oneCell']; done))) | (refine m_box1 rfl rfl ?_) | (refine m_ldall rfl rfl ?_ ?_; (· first | rfl | (simp; done) | (simp [*]; done))) | (refine m_ldall_rp rfl rfl ?_) | (refine m_stall rfl rfl rfl ?_ ?_ ?_ ?_; (· first | rfl | (simp [*]; done)); (· first | rfl | (simp [*]; done)); (· first | rfl | (simp [cellOk, Value.oneCell']; done))) | (refine m_quo rfl rfl ?_ ?_ ?_ ?_; (· omega); (· omega); (· omega)) | (refine m_rem rfl rfl ?_ ?_ ?_; (· omega); (· omega)))) | (refine g_noF rfl ?_ ?_; (· first | rfl | assumption | (refine decide_eq_true ?_; first | assumption | omega) | (refine nt ?_; first | assumption | omega) | (simp [*]; done))) | (refine g_noT rfl ?_ ?_; (· first | rfl | assumption | (refine decide_eq_false ?_; first | assumption | omega) | (refine nf ?_; first | assumption | omega) | (simp [*]; done))))) | refine end_ops ?_ | refine seq_ops ?_ | refine AW_ops ?_ | refine end_tree ?_ | refine seq_tree ?_ | refine AW_tree ?_ | (refine cond_t rfl ?_ ?_; (· first | rfl | assumption | (refine decide_eq_true ?_; first | assumption | omega) | (refine nt ?_; first | assumption | omega) | (simp [*]; done))) | (refine cond_f rfl ?_ ?_; (· first | rfl | assumption | (refine decide_eq_false ?_; first | assumption | omega) | (refine nf ?_; first | assumption | omega) | (simp [*]; done))) | refine skip_then ?_ | refine AW_seq ?_ | refine AW_ret ?_ | refine ret_done ?_ | refine norm_then ?_ | refine ret_then ?_ | refine exit_then ?_ | refine AW_block ?_ | refine norm_block ?_ | refine ret_block ?_ | refine ret_round ?_ | refine exit_round ?_ | refine AW_exit ?_ | refine exit_block ?_ | (refine exit_other ?_ ?_; (· decide)) | refine AW_skip ?_)
  refine step_ops ?_
  refine m_st (r := pbase + 1) (off := 0) (fl := false) (cs := [.any]) rfl rfl rfl (by decide) rfl ?_
  repeat (first | ((first | refine step_ops ?_ | refine step_tree ?_); (first | ((try (refine g_yes rfl ?_ ?_; (· first | rfl | assumption | (refine decide_eq_true ?_; first | assumption | omega) | (refine nt ?_; first | assumption | omega) | (simp [*]; done) | (refine decide_eq_false ?_; first | assumption | omega) | (refine nf ?_; first | assumption | omega)))); (first | (refine m_mov (by conv => lhs; whnf) ?_) | (refine m_lss rfl rfl ?_) | (refine m_leq rfl rfl ?_) | (refine m_gtr rfl rfl ?_) | (refine m_geq rfl rfl ?_) | (refine m_eql rfl rfl ?_) | (refine m_eqk rfl rfl ?_) | (refine m_eqs rfl rfl ?_) | (refine m_neq rfl rfl ?_) | (refine m_neqk rfl rfl ?_) | (refine m_neqs_self rfl rfl ?_) | (refine m_neqs rfl rfl ?_) | (refine m_add rfl rfl ?_ ?_ ?_; (· omega); (· omega)) | (refine m_adds rfl rfl ?_ ?_; (· first | omega | (simp; omega))) | (refine m_sub rfl rfl ?_ ?_ ?_; (· omega); (· omega)) | (refine m_mul rfl rfl ?_ ?_ ?_; (· first | omega | (simp; done)); (· first | omega | (simp; done))) | (refine m_scutb rfl rfl rfl ?_ ?_ ?_; (· omega); (· first | omega | (simp; omega))) | (refine m_scutl rfl rfl ?_ ?_; (· first | omega | (simp; omega))) | (refine m_scuth rfl rfl ?_ ?_; (· first | omega | (simp; omega))) | (refine m_slen rfl ?_) | (refine m_six' rfl rfl ?_ ?_; (· first | omega | (simp; omega))) | (refine m_bts_sl rfl rfl ?_ ?_; (· first | rfl | omega | (simp; done))) | (refine m_not rfl ?_) | (refine m_beq rfl rfl ?_) | (refine m_len_ro rfl ?_) | (refine m_len_sl rfl ?_) | (refine m_len_nil rfl ?_) | (refine m_isnil_x rfl ?_) | (refine m_isnil_ro rfl ?_ ?_; (· omega)) | (refine m_isnil_sl rfl ?_ ?_; (· omega)) | (refine m_idx1_ro rfl rfl ?_ ?_; (· omega)) | (refine m_idx1_sl rfl rfl ?_ ?_; (· omega)) | (apply m_idx1_slj; (· rfl); (· rfl); (· assumption); (· omega)) | (apply m_idx1_roj; (· rfl); (· rfl); (· assumption); (· omega)) | (refine m_idx_ro rfl rfl ?_ ?_ ?_; (· omega); (· omega)) | (refine m_idx_sl rfl rfl ?_ ?_ ?_; (· omega); (· omega)) | (refine m_arr1 rfl rfl ?_ ?_; (· omega)) | (apply m_arr1j; (· rfl); (· rfl); (· assumption); (· omega)) | (refine m_arro rfl rfl ?_ ?_; (· omega)) | (refine m_arr rfl rfl ?_ ?_ ?_; (· omega); (· omega)) | (refine m_ld_rpi rfl ?_ ?_; (· omega)) | (refine m_ld_pti rfl (by rfl) ?_ ?_; (· first | omega | (simp; omega))) | (apply m_ld_ptb; (· rfl); (· rfl); (· assumption)) | (apply m_ld_rp; (· rfl); (· rfl)) | (apply m_ld_pt; (· rfl); (· rfl); (· rfl)) | (apply m_st; (· rfl); (· rfl); (· rfl); (· first | omega | (simp; done) | (simp; omega)); (· rfl)) | (refine m_pick_t rfl ?_ (by conv => lhs; whnf) ?_; (· first | rfl | assumption | (refine decide_eq_true ?_; first | assumption | omega) | (refine nt ?_; first | assumption | omega) | (simp [*]; done))) | (refine m_pick_f rfl ?_ (by conv => lhs; whnf) ?_; (· first | rfl | assumption | (refine decide_eq_false ?_; first | assumption | omega) | (refine nf ?_; first | assumption | omega) | (simp [*]; done))) | (refine m_cut_hi rfl rfl ?_ ?_ ?_; (· first | rfl | omega | simp); (· first | omega | (simp; omega))) | (refine m_cut_lo rfl rfl ?_ ?_ ?_; (· first | rfl | omega | simp); (· first | omega | (simp; omega))) | (refine m_inil rfl ?_) | (refine m_iface rfl ?_) | (refine m_mkf ?_) | (refine m_nchk rfl ?_) | (refine m_nchk_rp rfl ?_) | (refine m_mmk ?_) | (refine m_nils ?_) | (refine m_ext rfl rfl ?_) | (refine m_alloc ?_) | (refine m_fa rfl ?_) | (refine m_fa_rp rfl ?_) | (refine m_bsl1 rfl rfl ?_) | (refine m_bsl0 ?_) | (refine m_app1i rfl (by decide) (by rfl) (by first | rfl | omega | (simp; done)) rfl rfl ?_ (by decide) ?_; (· first | omega | (simp; omega))) | (refine m_app1 rfl (by decide) rfl (by first | (simp; done) | (simp [*]; done) | (simp; omega)) rfl rfl rfl ?_ (by decide) ?_; (· first | omega | (simp; omega))) | (refine m_appro rfl (by decide) rfl (by first | rfl | (simp; done) | (simp [*]; done) | (simp; omega)) rfl (oks_ints _) ?_ (by decide) ?_; (· first | omega | (simp; omega))) | (refine m_fld rfl (by rfl) ?_) | (refine m_fldk rfl (by simp) ?_) | (refine m_bld rfl ?_) | (refine m_bld_1 (by conv => lhs; whnf) (by decide)  (by rfl) ?_) | (refine m_bld_2 (by conv => lhs; whnf) (by conv => lhs; whnf) (by decide)  (by decide) (by rfl) (by rfl) ?_) | (refine m_bld_3 (by conv => lhs; whnf) (by conv => lhs; whnf) (by conv => lhs; whnf) (by decide)  (by decide) (by decide) (by rfl) (by rfl) (by rfl) ?_) | (refine m_cvt rfl ?_) | (refine m_aeq rfl rfl rfl ?_) | (refine m_max rfl rfl ?_) | (refine m_min rfl rfl ?_) | (refine m_box rfl ?_ ?_; (· first | rfl | (simp [cellOk, Value.oneCell']; done))) | (refine m_box1 rfl rfl ?_) | (refine m_ldall rfl rfl ?_ ?_; (· first | rfl | (simp; done) | (simp [*]; done))) | (refine m_ldall_rp rfl rfl ?_) | (refine m_stall rfl rfl rfl ?_ ?_ ?_ ?_; (· first | rfl | (simp [*]; done)); (· first | rfl | (simp [*]; done)); (· first | rfl | (simp [cellOk, Value.oneCell']; done))) | (refine m_quo rfl rfl ?_ ?_ ?_ ?_; (· omega); (· omega); (· omega)) | (refine m_rem rfl rfl ?_ ?_ ?_; (· omega); (· omega)))) | (refine g_noF rfl ?_ ?_; (· first | rfl | assumption | (refine decide_eq_true ?_; first | assumption | omega) | (refine nt ?_; first | assumption | omega) | (simp [*]; done))) | (refine g_noT rfl ?_ ?_; (· first | rfl | assumption | (refine decide_eq_false ?_; first | assumption | omega) | (refine nf ?_; first | assumption | omega) | (simp [*]; done))))) | refine end_ops ?_ | refine seq_ops ?_ | refine AW_ops ?_ | refine end_tree ?_ | refine seq_tree ?_ | refine AW_tree ?_ | (refine cond_t rfl ?_ ?_; (· first | rfl | assumption | (refine decide_eq_true ?_; first | assumption | omega) | (refine nt ?_; first | assumption | omega) | (simp [*]; done))) | (refine cond_f rfl ?_ ?_; (· first | rfl | assumption | (refine decide_eq_false ?_; first | assumption | omega) | (refine nf ?_; first | assumption | omega) | (simp [*]; done))) | refine skip_then ?_ | refine AW_seq ?_ | refine AW_ret ?_ | refine ret_done ?_ | refine norm_then ?_ | refine ret_then ?_ | refine exit_then ?_ | refine AW_block ?_ | refine norm_block ?_ | refine ret_block ?_ | refine ret_round ?_ | refine exit_round ?_ | refine AW_exit ?_ | refine exit_block ?_ | (refine exit_other ?_ ?_; (· decide)) | refine AW_skip ?_)
  refine go_done (P' := P ++ [M]) (q := 13) (by decide) (by omega) ?_ ?_ ?_ fun j hj => ?_
  · rfl
  · rw [hl]
    rfl
  · rw [rowsC_snoc]
    simp (disch := decide) only [hp_put, hp_mem_ne]
    simp [AS.mem, killR, rowsC_kill, killL_append, killL, killV]
    rw [if_neg (by omega)]
    simp only [killV]
    rw [if_neg (by omega)]
  · simp (disch := omega) only [hp_put, hp_mem_ne, hp_kill_ne]
    rw [goS_row hj (by omega)]
    rfl

/-- The callee's names for what the caller has. -/
def goG (n : Nat) : Nat → Nat := fun r => if r = gvb then 900 else if gvb + 1 ≤ r then (if r - (gvb + 1) < n then 1000 + (r - (gvb + 1)) else 37) else if r = nbase then 900 else if nbase + 1 ≤ r then 1000 + (r - (nbase + 1)) else r
/-- What is given, and the list that was made for the call. -/
def goP : Nat → Bool := fun r => r == 900 || (decide (1000 ≤ r) && decide (r < pbase)) || r == 37
theorem goG_row {n j : Nat} (h : j < n) : goG n (gvb + 1 + j) = 1000 + j := by
  unfold goG
  rw [if_neg (by omega), if_pos (by omega), Nat.add_sub_cancel_left, if_pos h]
theorem goG_new (n : Nat) : goG n (gvb + 1 + n) = 37 := by
  unfold goG
  rw [if_neg (by omega), if_pos (by omega), Nat.add_sub_cancel_left, if_neg (by omega)]
theorem goG_out {n j : Nat} (h : j < 3000) : goG n (nbase + 1 + j) = 1000 + j := by
  have hn : nbase = 8000000 := rfl
  have hg : gvb = 16000000 := rfl
  unfold goG
  rw [if_neg (by omega), if_neg (by omega), if_neg (by omega), if_pos (by omega), Nat.add_sub_cancel_left]
theorem goG_0 (n : Nat) : goG n pbase = pbase ∧ goG n (pbase + 1) = pbase + 1 ∧ goG n gvb = 900 ∧ goG n nbase = 900 := by
  have hp : pbase = 4000000 := rfl
  have hn : nbase = 8000000 := rfl
  have hg : gvb = 16000000 := rfl
  unfold goG
  exact ⟨by rw [if_neg (by omega), if_neg (by omega), if_neg (by omega), if_neg (by omega)], by rw [if_neg (by omega), if_neg (by omega), if_neg (by omega), if_neg (by omega)], by rw [if_pos rfl], by rw [if_neg (by omega), if_neg (by omega), if_pos rfl]⟩

/-- The caller's regions behind the call. -/
def goH (s : AS) (P' : List (List Int)) : Hp := fun q => if q = pbase then some goC else if q = pbase + 1 then some (tyC 900 P'.length) else if q = 900 then some (false, rowsC 1000 P') else if 1000 ≤ q ∧ q < 1000 + P'.length then some (true, (P'.getD (q - 1000) []).map AV.i) else (s.drop goP).hp q
theorem goH_at (s : AS) (P' : List (List Int)) : goH s P' pbase = some goC ∧ goH s P' (pbase + 1) = some (tyC 900 P'.length) ∧ goH s P' 900 = some (false, rowsC 1000 P') := ⟨rfl, rfl, rfl⟩
theorem goH_row {s : AS} {P' : List (List Int)} {j : Nat} (hj : j < P'.length) (h2 : P'.length ≤ 2000) : goH s P' (1000 + j) = some (true, (P'.getD j []).map AV.i) := by
  have hp : pbase = 4000000 := rfl
  unfold goH
  rw [if_neg (by omega), if_neg (by omega), if_neg (by omega), if_pos (by omega), Nat.add_sub_cancel_left]
theorem goP_row {j : Nat} (h : j < 3000) : goP (1000 + j) = true := by
  have hp : pbase = 4000000 := rfl
  unfold goP
  rw [decide_eq_true (show 1000 ≤ 1000 + j by omega), decide_eq_true (show 1000 + j < pbase by omega)]
  simp

theorem go_given {s : AS} {P R P' : List (List Int)} (hP : P.length ≤ 1500) (hR : R.length ≤ P.length + 1) (hP' : P'.length ≤ 2000) (h0 : s.hp pbase = some goC) (h1 : s.hp (pbase + 1) = some (tyC 900 P.length)) (h2 : s.hp 900 = some (false, rowsC 1000 P)) (h3 : ∀ j, j < R.length → s.hp (goG P.length (gvb + 1 + j)) = some (true, (R.getD j []).map AV.i)) (hPR : P.length ≤ R.length) :
    Given s goP (goG P.length) (hinG P R) (houtG P') (goH s P') (.tup []) := by
  have hp : pbase = 4000000 := rfl
  have hn : nbase = 8000000 := rfl
  have hg : gvb = 16000000 := rfl
  obtain ⟨g0, g1, g2, g3⟩ := goG_0 P.length
  have grow : ∀ j, j < R.length → (goG P.length (gvb + 1 + j) = 1000 + j ∧ j < P.length) ∨ (goG P.length (gvb + 1 + j) = 37 ∧ j = P.length) := by
    intro j hj
    by_cases h : j < P.length
    · exact .inl ⟨goG_row h, h⟩
    · obtain rfl : j = P.length := by omega
      exact .inr ⟨goG_new _, rfl⟩
  have gout : ∀ j, j < P'.length → goG P.length (nbase + 1 + j) = 1000 + j := fun j hj => goG_out (by omega)
  have q37 : goP 37 = true := rfl
  have q900 : goP 900 = true := rfl
  have qp : goP pbase = false ∧ goP (pbase + 1) = false := ⟨rfl, rfl⟩
  have hinS : ∀ r, (hinG P R r).isSome = true → r = pbase ∨ r = pbase + 1 ∨ r = gvb ∨ ∃ j, j < R.length ∧ r = gvb + 1 + j := by
    intro r hr
    obtain ⟨c, hc⟩ := Option.isSome_iff_exists.1 hr
    rcases hinG_some hc with ⟨h, _⟩ | ⟨h, _⟩ | ⟨h, _⟩ | ⟨j, h, h', _⟩
    · exact .inl h
    · exact .inr (.inl h)
    · exact .inr (.inr (.inl h))
    · exact .inr (.inr (.inr ⟨j, h, h'⟩))
  have houtS : ∀ r, (houtG P' r).isSome = true → r = pbase ∨ r = pbase + 1 ∨ r = nbase ∨ ∃ j, j < P'.length ∧ r = nbase + 1 + j := by
    intro r hr
    obtain ⟨c, hc⟩ := Option.isSome_iff_exists.1 hr
    rcases houtG_some hc with ⟨h, _⟩ | ⟨h, _⟩ | ⟨h, _⟩ | ⟨j, h, h', _⟩
    · exact .inl h
    · exact .inr (.inl h)
    · exact .inr (.inr (.inl h))
    · exact .inr (.inr (.inr ⟨j, h, h'⟩))
  have hinV : ∀ r, (hinG P R r).isSome = true → (r = pbase ∧ goG P.length r = pbase) ∨ (r = pbase + 1 ∧ goG P.length r = pbase + 1) ∨ (r = gvb ∧ goG P.length r = 900) ∨ (∃ j, j < P.length ∧ r = gvb + 1 + j ∧ goG P.length r = 1000 + j) ∨ (r = gvb + 1 + P.length ∧ goG P.length r = 37) := by
    intro r hr
    rcases hinS r hr with h | h | h | ⟨j, hj, h⟩
    · exact .inl ⟨h, by rw [h]; exact g0⟩
    · exact .inr (.inl ⟨h, by rw [h]; exact g1⟩)
    · exact .inr (.inr (.inl ⟨h, by rw [h]; exact g2⟩))
    · rcases grow j hj with ⟨e, h'⟩ | ⟨e, h'⟩
      · exact .inr (.inr (.inr (.inl ⟨j, h', h, by rw [h]; exact e⟩)))
      · exact .inr (.inr (.inr (.inr ⟨by rw [h, h'], by rw [h]; exact e⟩)))
  have houtV : ∀ r, (houtG P' r).isSome = true → (r = pbase ∧ goG P.length r = pbase) ∨ (r = pbase + 1 ∧ goG P.length r = pbase + 1) ∨ (r = nbase ∧ goG P.length r = 900) ∨ ∃ j, j < P'.length ∧ r = nbase + 1 + j ∧ goG P.length r = 1000 + j := by
    intro r hr
    rcases houtS r hr with h | h | h | ⟨j, hj, h⟩
    · exact .inl ⟨h, by rw [h]; exact g0⟩
    · exact .inr (.inl ⟨h, by rw [h]; exact g1⟩)
    · exact .inr (.inr (.inl ⟨h, by rw [h]; exact g3⟩))
    · exact .inr (.inr (.inr ⟨j, hj, h, by rw [h]; exact gout j hj⟩))
  refine ⟨fun r c hc => ?_, fun r hr => ?_, fun r hr hge => ?_, fun r r' hr hr' e => ?_, fun r r' hr hr' e => ?_, fun r hr hlt => ?_, fun r hr => ?_, fun r hr hno => ?_, fun r c hc => ?_, fun q hq => ?_, fun r c hc => ?_, fun r c hc => ?_, rfl⟩
  · rcases hinG_some hc with ⟨rfl, rfl⟩ | ⟨rfl, rfl⟩ | ⟨rfl, rfl⟩ | ⟨j, hj, rfl, rfl⟩
    · rw [g0, h0]
      simp only [renR, renL, renV, g0, g1]
    · rw [g1, h1]
      simp only [renR, renL, renV, g2]
    · rw [g2, h2]
      simp only [renR]
      rw [rowsC_ren _ (gvb + 1) 1000 P fun j hj => goG_row hj]
    · rw [h3 j hj]
      simp only [renR]
      rw [renL_ints]
  · rcases hinS r hr with rfl | rfl | rfl | ⟨j, hj, rfl⟩
    · rw [g0, qp.1]
      exact ⟨fun h => (by cases h), fun h => by omega⟩
    · rw [g1, qp.2]
      exact ⟨fun h => (by cases h), fun h => by omega⟩
    · rw [g2]
      exact ⟨fun _ => Nat.le_refl _, fun _ => q900⟩
    · refine ⟨fun _ => by omega, fun _ => ?_⟩
      rcases grow j hj with ⟨e, h⟩ | ⟨e, _⟩
      · rw [e]; exact goP_row (by omega)
      · rw [e]; exact q37
  · refine .inl ?_
    rcases hinS r hr with rfl | rfl | rfl | ⟨j, hj, rfl⟩
    · omega
    · omega
    · rw [g2]; omega
    · rcases grow j hj with ⟨e, h⟩ | ⟨e, _⟩
      · rw [e]; omega
      · rw [e]; omega
  · rcases hinV r hr with ⟨a, b⟩ | ⟨a, b⟩ | ⟨a, b⟩ | ⟨j, h, a, b⟩ | ⟨a, b⟩ <;> rcases hinV r' hr' with ⟨a', b'⟩ | ⟨a', b'⟩ | ⟨a', b'⟩ | ⟨j', h', a', b'⟩ | ⟨a', b'⟩ <;> omega
  · rcases houtV r hr with ⟨a, b⟩ | ⟨a, b⟩ | ⟨a, b⟩ | ⟨j, h, a, b⟩ <;> rcases houtV r' hr' with ⟨a', b'⟩ | ⟨a', b'⟩ | ⟨a', b'⟩ | ⟨j', h', a', b'⟩ <;> omega
  · rcases hinS r hr with rfl | rfl | rfl | ⟨j, hj, rfl⟩
    · rfl
    · rfl
    · omega
    · omega
  · rcases houtS r hr with rfl | rfl | rfl | ⟨j, hj, rfl⟩ <;> omega
  · have drop : ∀ q, goP q = true → (s.drop goP).hp q = none := fun q h => by
      show (if goP q = true then none else (s.hp q).map (dropR goP)) = none
      rw [if_pos h]
    rcases houtS r hr with rfl | rfl | rfl | ⟨j, hj, rfl⟩
    · have e : hinG P R pbase = some goC := rfl
      rw [e] at hno; cases hno
    · have e : hinG P R (pbase + 1) = some (tyC gvb P.length) := rfl
      rw [e] at hno; cases hno
    · rw [g3]
      exact ⟨drop _ q900, by omega⟩
    · rw [gout j hj]
      exact ⟨drop _ (goP_row (by omega)), by omega⟩
  · obtain ⟨k0, k1, k2⟩ := goH_at s P'
    rcases houtG_some hc with ⟨rfl, rfl⟩ | ⟨rfl, rfl⟩ | ⟨rfl, rfl⟩ | ⟨j, hj, rfl, rfl⟩
    · rw [g0, k0]
      simp only [renR, renL, renV, g0, g1]
    · rw [g1, k1]
      simp only [renR, renL, renV, g3]
    · rw [g3, k2]
      simp only [renR]
      rw [rowsC_ren _ (nbase + 1) 1000 P' fun j hj => gout j hj]
    · rw [gout j hj, goH_row hj hP']
      simp only [renR]
      rw [renL_ints]
  · have k0 := hq pbase rfl
    have k1 := hq (pbase + 1) rfl
    have k2 := hq nbase rfl
    rw [g0] at k0
    rw [g1] at k1
    rw [g3] at k2
    unfold goH
    rw [if_neg (Ne.symm k0), if_neg (Ne.symm k1), if_neg (Ne.symm k2), if_neg]
    rintro ⟨h4, h5⟩
    have := hq (nbase + 1 + (q - 1000)) (by rw [houtG_row (by omega)]; rfl)
    rw [gout _ (by omega)] at this
    omega
  · rcases hinG_some hc with ⟨rfl, rfl⟩ | ⟨rfl, rfl⟩ | ⟨rfl, rfl⟩ | ⟨j, hj, rfl, rfl⟩
    · exact ⟨rfl, rfl⟩
    · exact ⟨rfl, rfl⟩
    · refine ⟨rowsC_own _ _ _, rowsC_refs _ _ _ fun j hj => ?_⟩
      rw [hinG_row (by omega)]; rfl
    · exact ⟨ownL_ints _ _, refsL_ints _ _⟩
  · rcases houtG_some hc with ⟨rfl, rfl⟩ | ⟨rfl, rfl⟩ | ⟨rfl, rfl⟩ | ⟨j, hj, rfl, rfl⟩
    · rfl
    · rfl
    · exact rowsC_own _ _ _
    · exact ownL_ints _ _
end Go.Proofs.Ytnfaljjlpphgiaa
