/- Contracts: all seatings that begin with a list, as the specification lists them. -/
import Derived.Test.YtpefdmmnimmpiaaSqF
namespace Go.Proofs.Ytpefdmmnimmpiaa
open Go.Am
attribute [local irreducible] AW Outs Weak Lends Lend Sp aops atree aop1 Then Round InBlock Done
attribute [local irreducible] SpH DoneH

def freeI (n : Nat) (M : List Int) (k : Nat) : List Int := ((List.range k).filter fun (x : Nat) => !decide ((x : Int) ∈ M)).map fun (x : Nat) => (x : Int)
theorem freeI_yes {n k : Nat} {M : List Int} (h : ¬ (k : Int) ∈ M) : freeI n M (k + 1) = freeI n M k ++ [(k : Int)] := by
  unfold freeI; rw [List.range_succ, List.filter_append, List.map_append, List.filter_cons_of_pos (by simp [h])]; rfl
theorem freeI_no {n k : Nat} {M : List Int} (h : (k : Int) ∈ M) : freeI n M (k + 1) = freeI n M k := by
  unfold freeI; rw [List.range_succ, List.filter_append, List.map_append, List.filter_cons_of_neg (by simp [h])]; simp
theorem freeI_le (n : Nat) (M : List Int) (k : Nat) : (freeI n M k).length ≤ k := by
  unfold freeI; rw [List.length_map]; exact Nat.le_trans (List.length_filter_le ..) (by simp)
theorem freeI_all (n : Nat) (M : List Int) : freeI n M n = (freeN n M).map fun (x : Nat) => (x : Int) := rfl

theorem seFree_spec (M : List Int) (n : Nat) (hM : M.length ≤ 1048576) (hn : n ≤ 1000) : Sp Try.prog 50 [ints M, .i n] (newInts (freeI n M n)) := by
  refine spec_of Try.func50 rfl cc50 rfl ?_
  unfold ac50
  repeat (first | (refine step_ops ?_; (first | (refine m_mov (by conv => lhs; whnf) ?_) | (refine m_lss rfl rfl ?_) | (refine m_add rfl rfl ?_ ?_ ?_; (· omega); (· omega)) | (refine m_adds rfl rfl ?_ ?_; (· first | omega | (simp; omega))) | (refine m_not rfl ?_) | (refine m_nils ?_) | (refine m_bsl1 rfl rfl ?_) | (refine m_app1i rfl (by decide) (by rfl) (by first | rfl | omega | (simp; done)) rfl rfl ?_ (by decide) ?_; (· first | omega | (simp; omega))) | (refine m_app1 rfl (by decide) rfl (by first | (simp; done) | (simp [*]; done) | (simp; omega)) rfl rfl rfl ?_ (by decide) ?_; (· first | omega | (simp; omega))) | (refine m_appro rfl (by decide) rfl (by first | rfl | (simp; done) | (simp [*]; done) | (simp; omega)) rfl (oks_ints _) ?_ (by decide) ?_; (· first | omega | (simp; omega))))) | refine end_ops ?_ | refine seq_ops ?_ | refine AW_ops ?_ | (refine cond_t rfl ?_ ?_; (· first | rfl | assumption | (refine decide_eq_true ?_; first | assumption | omega) | (refine nt ?_; first | assumption | omega) | (simp [*]; done))) | (refine cond_f rfl ?_ ?_; (· first | rfl | assumption | (refine decide_eq_false ?_; first | assumption | omega) | (refine nf ?_; first | assumption | omega) | (simp [*]; done))) | refine skip_then ?_ | refine AW_seq ?_ | refine AW_ret ?_ | refine ret_done ?_ | refine norm_then ?_ | refine ret_then ?_ | refine exit_then ?_ | refine AW_block ?_ | refine norm_block ?_ | refine ret_block ?_ | refine ret_round ?_ | refine exit_round ?_ | refine AW_exit ?_ | refine exit_block ?_ | (refine exit_other ?_ ?_; (· decide)) | refine AW_skip ?_)
  refine AW_loop (α := Nat × Nat) (fun a => a.1 ≤ n ∧ (a.2 = 5 ∨ a.2 = 19)) (fun a => st [(0, ints M), (1, .i n), (6, .i a.1), (5, .sl a.2 1 0 (freeI n M a.1).length)] [(a.2, (true, (freeI n M a.1).map AV.i))]) (fun a => n - a.1) (0, 5) (by simp) (weak_st ?_ ?_ rfl rfl) ?_
  · (repeat' (first | exact trivial | refine And.intro ?_ ?_)) <;> (first | rfl | skip)
  · exact ⟨rfl, trivial⟩
  rintro ⟨k, r⟩ ⟨hk, hr⟩
  have hl := freeI_le n M k
  simp only at hk hr
  rcases hr with rfl | rfl
  all_goals
    dsimp only
    by_cases h : k < n
    · by_cases hx : (k : Int) ∈ M
      · repeat (first | (refine step_ops ?_; (first | (refine m_mov (by conv => lhs; whnf) ?_) | (refine m_lss rfl rfl ?_) | (refine m_add rfl rfl ?_ ?_ ?_; (· omega); (· omega)) | (refine m_adds rfl rfl ?_ ?_; (· first | omega | (simp; omega))) | (refine m_not rfl ?_) | (refine m_nils ?_) | (refine m_bsl1 rfl rfl ?_) | (refine m_app1i rfl (by decide) (by rfl) (by first | rfl | omega | (simp; done)) rfl rfl ?_ (by decide) ?_; (· first | omega | (simp; omega))) | (refine m_app1 rfl (by decide) rfl (by first | (simp; done) | (simp [*]; done) | (simp; omega)) rfl rfl rfl ?_ (by decide) ?_; (· first | omega | (simp; omega))) | (refine m_appro rfl (by decide) rfl (by first | rfl | (simp; done) | (simp [*]; done) | (simp; omega)) rfl (oks_ints _) ?_ (by decide) ?_; (· first | omega | (simp; omega))))) | refine end_ops ?_ | refine seq_ops ?_ | refine AW_ops ?_ | (refine cond_t rfl ?_ ?_; (· first | rfl | assumption | (refine decide_eq_true ?_; first | assumption | omega) | (refine nt ?_; first | assumption | omega) | (simp [*]; done))) | (refine cond_f rfl ?_ ?_; (· first | rfl | assumption | (refine decide_eq_false ?_; first | assumption | omega) | (refine nf ?_; first | assumption | omega) | (simp [*]; done))) | refine skip_then ?_ | refine AW_seq ?_ | refine AW_ret ?_ | refine ret_done ?_ | refine norm_then ?_ | refine ret_then ?_ | refine exit_then ?_ | refine AW_block ?_ | refine norm_block ?_ | refine ret_block ?_ | refine ret_round ?_ | refine exit_round ?_ | refine AW_exit ?_ | refine exit_block ?_ | (refine exit_other ?_ ?_; (· decide)) | refine AW_skip ?_)
        (refine step_ops ?_); (apply m_call (l1Has_spec M k hM)); (· repeat (first | exact lends_nil | (refine lends_cons ?_ ?_; (· first | exact lend_v | (refine lend_roM rfl; done) | (refine lend_mat rfl ?_; intro j hj; simp (disch := first | omega | assumption) only [hp_put, hp_mem_ne, hp_kill_ne]; first | exact stM_row rfl hj | (rw [stM_row rfl hj]; rfl)) | (refine lend_ints ?_; first | rfl | omega) | (refine lend_sli (by rfl) ?_; first | rfl | omega | (simp; done)) | exact lend_any | (refine lend_agg ?_; first | rfl | assumption | (simp [plainV]; done))))))
        repeat (first | (refine step_ops ?_; (first | (refine m_mov (by conv => lhs; whnf) ?_) | (refine m_lss rfl rfl ?_) | (refine m_add rfl rfl ?_ ?_ ?_; (· omega); (· omega)) | (refine m_adds rfl rfl ?_ ?_; (· first | omega | (simp; omega))) | (refine m_not rfl ?_) | (refine m_nils ?_) | (refine m_bsl1 rfl rfl ?_) | (refine m_app1i rfl (by decide) (by rfl) (by first | rfl | omega | (simp; done)) rfl rfl ?_ (by decide) ?_; (· first | omega | (simp; omega))) | (refine m_app1 rfl (by decide) rfl (by first | (simp; done) | (simp [*]; done) | (simp; omega)) rfl rfl rfl ?_ (by decide) ?_; (· first | omega | (simp; omega))) | (refine m_appro rfl (by decide) rfl (by first | rfl | (simp; done) | (simp [*]; done) | (simp; omega)) rfl (oks_ints _) ?_ (by decide) ?_; (· first | omega | (simp; omega))))) | refine end_ops ?_ | refine seq_ops ?_ | refine AW_ops ?_ | (refine cond_t rfl ?_ ?_; (· first | rfl | assumption | (refine decide_eq_true ?_; first | assumption | omega) | (refine nt ?_; first | assumption | omega) | (simp [*]; done))) | (refine cond_f rfl ?_ ?_; (· first | rfl | assumption | (refine decide_eq_false ?_; first | assumption | omega) | (refine nf ?_; first | assumption | omega) | (simp [*]; done))) | refine skip_then ?_ | refine AW_seq ?_ | refine AW_ret ?_ | refine ret_done ?_ | refine norm_then ?_ | refine ret_then ?_ | refine exit_then ?_ | refine AW_block ?_ | refine norm_block ?_ | refine ret_block ?_ | refine ret_round ?_ | refine exit_round ?_ | refine AW_exit ?_ | refine exit_block ?_ | (refine exit_other ?_ ?_; (· decide)) | refine AW_skip ?_)
        first
        | (refine next_round (k + 1, 5) ⟨by omega, .inl rfl⟩ (weak_st ?_ ?_ rfl rfl) ?_
           · exact ⟨rfl, rfl, rfl, by show _ = AV.sl 5 1 0 (freeI n M (k + 1)).length; rw [freeI_no hx]; rfl, trivial⟩
           · exact ⟨by show _ = some (true, (freeI n M (k + 1)).map AV.i); rw [freeI_no hx]; rfl, trivial⟩
           · omega)
        | (refine next_round (k + 1, 19) ⟨by omega, .inr rfl⟩ (weak_st ?_ ?_ rfl rfl) ?_
           · exact ⟨rfl, rfl, rfl, by show _ = AV.sl 19 1 0 (freeI n M (k + 1)).length; rw [freeI_no hx]; rfl, trivial⟩
           · exact ⟨by show _ = some (true, (freeI n M (k + 1)).map AV.i); rw [freeI_no hx]; rfl, trivial⟩
           · omega)
      · repeat (first | (refine step_ops ?_; (first | (refine m_mov (by conv => lhs; whnf) ?_) | (refine m_lss rfl rfl ?_) | (refine m_add rfl rfl ?_ ?_ ?_; (· omega); (· omega)) | (refine m_adds rfl rfl ?_ ?_; (· first | omega | (simp; omega))) | (refine m_not rfl ?_) | (refine m_nils ?_) | (refine m_bsl1 rfl rfl ?_) | (refine m_app1i rfl (by decide) (by rfl) (by first | rfl | omega | (simp; done)) rfl rfl ?_ (by decide) ?_; (· first | omega | (simp; omega))) | (refine m_app1 rfl (by decide) rfl (by first | (simp; done) | (simp [*]; done) | (simp; omega)) rfl rfl rfl ?_ (by decide) ?_; (· first | omega | (simp; omega))) | (refine m_appro rfl (by decide) rfl (by first | rfl | (simp; done) | (simp [*]; done) | (simp; omega)) rfl (oks_ints _) ?_ (by decide) ?_; (· first | omega | (simp; omega))))) | refine end_ops ?_ | refine seq_ops ?_ | refine AW_ops ?_ | (refine cond_t rfl ?_ ?_; (· first | rfl | assumption | (refine decide_eq_true ?_; first | assumption | omega) | (refine nt ?_; first | assumption | omega) | (simp [*]; done))) | (refine cond_f rfl ?_ ?_; (· first | rfl | assumption | (refine decide_eq_false ?_; first | assumption | omega) | (refine nf ?_; first | assumption | omega) | (simp [*]; done))) | refine skip_then ?_ | refine AW_seq ?_ | refine AW_ret ?_ | refine ret_done ?_ | refine norm_then ?_ | refine ret_then ?_ | refine exit_then ?_ | refine AW_block ?_ | refine norm_block ?_ | refine ret_block ?_ | refine ret_round ?_ | refine exit_round ?_ | refine AW_exit ?_ | refine exit_block ?_ | (refine exit_other ?_ ?_; (· decide)) | refine AW_skip ?_)
        (refine step_ops ?_); (apply m_call (l1Has_spec M k hM)); (· repeat (first | exact lends_nil | (refine lends_cons ?_ ?_; (· first | exact lend_v | (refine lend_roM rfl; done) | (refine lend_mat rfl ?_; intro j hj; simp (disch := first | omega | assumption) only [hp_put, hp_mem_ne, hp_kill_ne]; first | exact stM_row rfl hj | (rw [stM_row rfl hj]; rfl)) | (refine lend_ints ?_; first | rfl | omega) | (refine lend_sli (by rfl) ?_; first | rfl | omega | (simp; done)) | exact lend_any | (refine lend_agg ?_; first | rfl | assumption | (simp [plainV]; done))))))
        repeat (first | (refine step_ops ?_; (first | (refine m_mov (by conv => lhs; whnf) ?_) | (refine m_lss rfl rfl ?_) | (refine m_add rfl rfl ?_ ?_ ?_; (· omega); (· omega)) | (refine m_adds rfl rfl ?_ ?_; (· first | omega | (simp; omega))) | (refine m_not rfl ?_) | (refine m_nils ?_) | (refine m_bsl1 rfl rfl ?_) | (refine m_app1i rfl (by decide) (by rfl) (by first | rfl | omega | (simp; done)) rfl rfl ?_ (by decide) ?_; (· first | omega | (simp; omega))) | (refine m_app1 rfl (by decide) rfl (by first | (simp; done) | (simp [*]; done) | (simp; omega)) rfl rfl rfl ?_ (by decide) ?_; (· first | omega | (simp; omega))) | (refine m_appro rfl (by decide) rfl (by first | rfl | (simp; done) | (simp [*]; done) | (simp; omega)) rfl (oks_ints _) ?_ (by decide) ?_; (· first | omega | (simp; omega))))) | refine end_ops ?_ | refine seq_ops ?_ | refine AW_ops ?_ | (refine cond_t rfl ?_ ?_; (· first | rfl | assumption | (refine decide_eq_true ?_; first | assumption | omega) | (refine nt ?_; first | assumption | omega) | (simp [*]; done))) | (refine cond_f rfl ?_ ?_; (· first | rfl | assumption | (refine decide_eq_false ?_; first | assumption | omega) | (refine nf ?_; first | assumption | omega) | (simp [*]; done))) | refine skip_then ?_ | refine AW_seq ?_ | refine AW_ret ?_ | refine ret_done ?_ | refine norm_then ?_ | refine ret_then ?_ | refine exit_then ?_ | refine AW_block ?_ | refine norm_block ?_ | refine ret_block ?_ | refine ret_round ?_ | refine exit_round ?_ | refine AW_exit ?_ | refine exit_block ?_ | (refine exit_other ?_ ?_; (· decide)) | refine AW_skip ?_)
        refine next_round (k + 1, 19) ⟨by omega, .inr rfl⟩ (weak_st ?_ ?_ rfl rfl) ?_
        · refine ⟨rfl, rfl, rfl, ?_, trivial⟩
          show AV.sl 19 1 0 (freeI n M k ++ [(k : Int)]).length = AV.sl 19 1 0 (freeI n M (k + 1)).length
          rw [freeI_yes hx]
        · refine ⟨?_, trivial⟩
          show some (true, (freeI n M k ++ [(k : Int)]).map AV.i) = some (true, (freeI n M (k + 1)).map AV.i)
          rw [freeI_yes hx]
        · omega
    · repeat (first | (refine step_ops ?_; (first | (refine m_mov (by conv => lhs; whnf) ?_) | (refine m_lss rfl rfl ?_) | (refine m_add rfl rfl ?_ ?_ ?_; (· omega); (· omega)) | (refine m_adds rfl rfl ?_ ?_; (· first | omega | (simp; omega))) | (refine m_not rfl ?_) | (refine m_nils ?_) | (refine m_bsl1 rfl rfl ?_) | (refine m_app1i rfl (by decide) (by rfl) (by first | rfl | omega | (simp; done)) rfl rfl ?_ (by decide) ?_; (· first | omega | (simp; omega))) | (refine m_app1 rfl (by decide) rfl (by first | (simp; done) | (simp [*]; done) | (simp; omega)) rfl rfl rfl ?_ (by decide) ?_; (· first | omega | (simp; omega))) | (refine m_appro rfl (by decide) rfl (by first | rfl | (simp; done) | (simp [*]; done) | (simp; omega)) rfl (oks_ints _) ?_ (by decide) ?_; (· first | omega | (simp; omega))))) | refine end_ops ?_ | refine seq_ops ?_ | refine AW_ops ?_ | (refine cond_t rfl ?_ ?_; (· first | rfl | assumption | (refine decide_eq_true ?_; first | assumption | omega) | (refine nt ?_; first | assumption | omega) | (simp [*]; done))) | (refine cond_f rfl ?_ ?_; (· first | rfl | assumption | (refine decide_eq_false ?_; first | assumption | omega) | (refine nf ?_; first | assumption | omega) | (simp [*]; done))) | refine skip_then ?_ | refine AW_seq ?_ | refine AW_ret ?_ | refine ret_done ?_ | refine norm_then ?_ | refine ret_then ?_ | refine exit_then ?_ | refine AW_block ?_ | refine norm_block ?_ | refine ret_block ?_ | refine ret_round ?_ | refine exit_round ?_ | refine AW_exit ?_ | refine exit_block ?_ | (refine exit_other ?_ ?_; (· decide)) | refine AW_skip ?_)
      obtain rfl : k = n := by omega
      exact outs_ints rfl rfl rfl

theorem seAll_leaf (l : Int) (n : Nat) (hn : n ≤ 7) (M : List Int) (hl : M.length = n) :
    SpH Try.prog 22 [.i n, .i l, ints M] (fun _ => none) (.sl nbase 1 0 1) (matO [M]) := by
  have hpb : pbase = 100000 := rfl
  have hstat : Static (fun _ => none) (.sl nbase 1 0 1) (matO [M]) := static_mat1 [M]
  refine specH_of Try.func22 rfl cc22 rfl (by first | exact static_mat1 _ | exact static_mat2 _ _ | assumption) ?_
  unfold ac22
  repeat (first | (refine step_ops ?_; (first | (refine m_mov (by conv => lhs; whnf) ?_) | (refine m_lss rfl rfl ?_) | (refine m_eql rfl rfl ?_) | (refine m_eqk rfl rfl ?_) | (refine m_eqs rfl rfl ?_) | (refine m_add rfl rfl ?_ ?_ ?_; (· omega); (· omega)) | (refine m_adds rfl rfl ?_ ?_; (· first | omega | (simp; omega))) | (refine m_not rfl ?_) | (refine m_len_ro rfl ?_) | (refine m_len_sl rfl ?_) | (refine m_len_nil rfl ?_) | (refine m_idx1_ro rfl rfl ?_ ?_; (· omega)) | (refine m_idx1_sl rfl rfl ?_ ?_; (· omega)) | (apply m_idx1_slj; (· rfl); (· rfl); (· assumption); (· omega)) | (apply m_idx1_roj; (· rfl); (· rfl); (· assumption); (· omega)) | (refine m_idx_ro rfl rfl ?_ ?_ ?_; (· omega); (· omega)) | (refine m_idx_sl rfl rfl ?_ ?_ ?_; (· omega); (· omega)) | (refine m_ld_rpi rfl ?_ ?_; (· omega)) | (refine m_ld_pti rfl (by rfl) ?_ ?_; (· first | omega | (simp; omega))) | (apply m_ld_ptb; (· rfl); (· rfl); (· assumption)) | (apply m_ld_rp; (· rfl); (· rfl)) | (apply m_ld_pt; (· rfl); (· rfl); (· rfl)) | (refine m_nils ?_) | (refine m_bsl1 rfl rfl ?_) | (refine m_app1i rfl (by decide) (by rfl) (by first | rfl | omega | (simp; done)) rfl rfl ?_ (by decide) ?_; (· first | omega | (simp; omega))) | (refine m_app1 rfl (by decide) rfl (by first | (simp; done) | (simp [*]; done) | (simp; omega)) rfl rfl rfl ?_ (by decide) ?_; (· first | omega | (simp; omega))) | (refine m_appro rfl (by decide) rfl (by first | rfl | (simp; done) | (simp [*]; done) | (simp; omega)) rfl (oks_ints _) ?_ (by decide) ?_; (· first | omega | (simp; omega))))) | refine end_ops ?_ | refine seq_ops ?_ | refine AW_ops ?_ | (refine cond_t rfl ?_ ?_; (· first | rfl | assumption | (refine decide_eq_true ?_; first | assumption | omega) | (refine nt ?_; first | assumption | omega) | (simp [*]; done))) | (refine cond_f rfl ?_ ?_; (· first | rfl | assumption | (refine decide_eq_false ?_; first | assumption | omega) | (refine nf ?_; first | assumption | omega) | (simp [*]; done))) | refine skip_then ?_ | refine AW_seq ?_ | refine AW_ret ?_ | refine ret_done ?_ | refine norm_then ?_ | refine ret_then ?_ | refine exit_then ?_ | refine AW_block ?_ | refine norm_block ?_ | refine ret_block ?_ | refine ret_round ?_ | refine exit_round ?_ | refine AW_exit ?_ | refine exit_block ?_ | (refine exit_other ?_ ?_; (· decide)) | refine AW_skip ?_)
  (refine step_ops ?_); (apply m_callo (l1Own_spec M (by omega))); (· repeat (first | exact lends_nil | (refine lends_cons ?_ ?_; (· first | exact lend_v | (refine lend_roM rfl; done) | (refine lend_mat rfl ?_; intro j hj; simp (disch := first | omega | assumption) only [hp_put, hp_mem_ne, hp_kill_ne]; first | exact stM_row rfl hj | (rw [stM_row rfl hj]; rfl)) | (refine lend_ints ?_; first | rfl | omega) | (refine lend_sli (by rfl) ?_; first | rfl | omega | (simp; done)) | exact lend_any | (refine lend_agg ?_; first | rfl | assumption | (simp [plainV]; done)))))); (· first | exact allv_ints _ | rfl | (simp; done))
  refine step_ops ?_
  refine m_bsl1d rfl rfl ?_
  refine step_ops ?_; (first | (refine m_mov (by conv => lhs; whnf) ?_) | (refine m_lss rfl rfl ?_) | (refine m_eql rfl rfl ?_) | (refine m_eqk rfl rfl ?_) | (refine m_eqs rfl rfl ?_) | (refine m_add rfl rfl ?_ ?_ ?_; (· omega); (· omega)) | (refine m_adds rfl rfl ?_ ?_; (· first | omega | (simp; omega))) | (refine m_not rfl ?_) | (refine m_len_ro rfl ?_) | (refine m_len_sl rfl ?_) | (refine m_len_nil rfl ?_) | (refine m_idx1_ro rfl rfl ?_ ?_; (· omega)) | (refine m_idx1_sl rfl rfl ?_ ?_; (· omega)) | (apply m_idx1_slj; (· rfl); (· rfl); (· assumption); (· omega)) | (apply m_idx1_roj; (· rfl); (· rfl); (· assumption); (· omega)) | (refine m_idx_ro rfl rfl ?_ ?_ ?_; (· omega); (· omega)) | (refine m_idx_sl rfl rfl ?_ ?_ ?_; (· omega); (· omega)) | (refine m_ld_rpi rfl ?_ ?_; (· omega)) | (refine m_ld_pti rfl (by rfl) ?_ ?_; (· first | omega | (simp; omega))) | (apply m_ld_ptb; (· rfl); (· rfl); (· assumption)) | (apply m_ld_rp; (· rfl); (· rfl)) | (apply m_ld_pt; (· rfl); (· rfl); (· rfl)) | (refine m_nils ?_) | (refine m_bsl1 rfl rfl ?_) | (refine m_app1i rfl (by decide) (by rfl) (by first | rfl | omega | (simp; done)) rfl rfl ?_ (by decide) ?_; (· first | omega | (simp; omega))) | (refine m_app1 rfl (by decide) rfl (by first | (simp; done) | (simp [*]; done) | (simp; omega)) rfl rfl rfl ?_ (by decide) ?_; (· first | omega | (simp; omega))) | (refine m_appro rfl (by decide) rfl (by first | rfl | (simp; done) | (simp [*]; done) | (simp; omega)) rfl (oks_ints _) ?_ (by decide) ?_; (· first | omega | (simp; omega))))
  refine end_ops ?_
  refine AW_weak (weak_push (rows := []) (row := M) (r0 := 16) (b := 1000) (l := [(6, .sl 16 1 0 1)]) (h := []) id 15 ?_ ?_ rfl rfl rfl (by simp [hpb]) rfl rfl (by decide) rfl rfl ?_ ?_ ?_) ?_
  · (repeat' (first | exact trivial | refine And.intro ?_ ?_)) <;> (first | rfl | skip)
  · trivial
  · simp [rowsC, killL]
    rfl
  · rfl
  · intro j hj; simp at hj
  refine AW_ret ?_
  refine ret_then ?_
  refine ret_mat (r0 := 16) (b := 1000) (by omega) (by omega) (by simp [hpb]) rfl rfl ?_
  intro j hj
  exact stM_row rfl hj

def gjoin (b m b2 : Nat) : Nat → Nat := fun j => if j < m then b + j else b2 + (j - m)
theorem rowsC_app (b : Nat) (rows rows2 : List (List Int)) : rowsC b (rows ++ rows2) = rowsC b rows ++ rowsC (b + rows.length) rows2 := by
  induction rows generalizing b with
  | nil => rfl
  | cons r rs ih =>
    simp only [List.cons_append, rowsC, ih, List.length_cons]
    rw [show b + 1 + rs.length = b + (rs.length + 1) by omega]

/-- Forgetting, the rows of another matrix having been appended. -/
theorem weak_join {s : AS} {l : List (Nat × AV)} {h : List (Nat × (Bool × List AV))} {r0 b b2 : Nat} {rows rows2 : List (List Int)} (f0 : Nat → Nat)
    (hl : HasF s (nmF b f0 (gjoin b rows.length b2)) l) (hh : HasRF s (nmF b f0 (gjoin b rows.length b2)) h) (hflat : (h.all fun p => p.2.1) = true) (hk : (r0 :: h.map (·.1)).all (fun r => decide (r < b ∧ f0 r < b)) = true)
    (hpk : (r0 :: h.map (·.1)).all (fun r => decide ((r < pbase ∧ f0 r < pbase) ∨ (pbase ≤ r ∧ f0 r = r))) = true) (hb : b + rows.length + rows2.length ≤ b2) (hb2 : b2 + rows2.length ≤ pbase) (hr : refsT (fun r => (r0 :: h.map (·.1)).contains r) l = true) (hndB : nodupB ((r0 :: h.map (·.1)).map f0) = true)
    {cs : List AV} (h0 : s.hp (f0 r0) = some (false, cs)) (hcs : cs = rowsC b rows ++ rowsC b2 rows2)
    (hrow : ∀ j, j < rows.length → s.hp (b + j) = some (true, (rows.getD j []).map AV.i)) (hrow2 : ∀ j, j < rows2.length → s.hp (b2 + j) = some (true, (rows2.getD j []).map AV.i)) : Weak s (stM l h r0 b (rows ++ rows2)) := by
  have hlen : (rows ++ rows2).length = rows.length + rows2.length := by simp
  refine weak_mat f0 (gjoin b rows.length b2) hl hh hflat hk hpk (fun j hj => .inl ⟨by omega, by unfold gjoin; split <;> omega⟩) hr ⟨false, cs, h0, .inl ⟨rfl, ?_⟩⟩ (fun j hj => ?_) hndB (fun j hj r hr => ?_) (fun j j' h1 h2 e => ?_)
  · rw [hcs, rowsC_app, renL_append, rowsC_ren _ b b, rowsC_ren _ (b + rows.length) b2]
    · intro j hj
      unfold nmF gjoin
      rw [if_neg (by omega), if_neg (by omega)]; omega
    · intro j hj
      unfold nmF gjoin
      rw [if_neg (by omega), Nat.add_sub_cancel_left, if_pos hj]
  · unfold gjoin
    by_cases hj' : j < rows.length
    · rw [if_pos hj', hrow j hj']
      simp [List.getElem?_append, hj']
    · rw [if_neg hj', hrow2 (j - rows.length) (by omega)]
      simp [List.getElem?_append, hj']
  · have := of_decide_eq_true (List.all_eq_true.1 hk r hr)
    unfold gjoin
    split <;> omega
  · unfold gjoin at e
    split at e <;> split at e <;> omega
end Go.Proofs.Ytpefdmmnimmpiaa
