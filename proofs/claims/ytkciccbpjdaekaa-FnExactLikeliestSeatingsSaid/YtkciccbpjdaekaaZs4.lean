/- The abstract machine, contracts: part 4 of what this claim needs. -/
import Derived.Test.YtkciccbpjdaekaaZs3
namespace Go.Am
theorem lend_nil {hp : Hp} : Lend hp (.v (.slice none 0 0)) (ints []) := by
  intro w0 mu N tm w phi ro v hS hv
  simp only [SimV] at hv ⊢
  exact .inl ⟨rfl, rfl, none, 0, hv, by simp⟩
/-- New memory that a callee made is handed on. -/
theorem outs_ro {s : AS} {z n : Nat} {cs : List AV} (hall : cs.all plainV = true) : Outs s (.ro true z cs n) (.ro true z cs n) := by
  intro w0 N tm w phi ro y hS h
  simp only [SimV] at h ⊢
  rcases h with h | ⟨b, o, cap, cur, e, fz, h1, h2, h3, h4, h5, h6, h7⟩
  · exact .inl h
  · obtain ⟨k1, k2⟩ := h6 trivial
    exact .inr ⟨b, o, cap, cur, e, fz, h1, h2, ⟨k1, lt_of_get h2⟩, h4, h5, fun _ => ⟨k1, k2⟩, simL_allv hall h7⟩
end Go.Am
namespace Go.Proofs.Ytkciccbpjdaekaa
open Go.Am
attribute [local irreducible] AW Outs Weak Lends Lend Sp aops atree aop1 Then Round InBlock Done
theorem slicesClone_nil_spec : Sp Try.prog 56 [ints []] (newInts []) := by
  refine spec_of Try.func56 rfl cc56 rfl ?_
  unfold ac56
  repeat (first | (refine step_ops ?_; (first | (refine m_mov (by conv => lhs; whnf) ?_) | (refine m_isnil_x rfl ?_) | (refine m_isnil_ro rfl ?_ ?_; (· omega)) | (refine m_isnil_sl rfl ?_ ?_; (· omega)) | (refine m_nils ?_) | (refine m_bsl0 ?_) | (refine m_app1i rfl (by decide) (by rfl) (by first | rfl | omega | (simp; done)) rfl rfl ?_ (by decide) ?_; (· first | omega | (simp; omega))) | (refine m_app1 rfl (by decide) rfl (by first | (simp; done) | (simp [*]; done) | (simp; omega)) rfl rfl rfl ?_ (by decide) ?_; (· first | omega | (simp; omega))) | (refine m_appro rfl (by decide) rfl (by first | rfl | (simp; done) | (simp [*]; done) | (simp; omega)) rfl (oks_ints _) ?_ (by decide) ?_; (· first | omega | (simp; omega))))) | refine end_ops ?_ | refine seq_ops ?_ | refine AW_ops ?_ | (refine cond_t rfl ?_ ?_; (· first | rfl | assumption | (refine decide_eq_true ?_; first | assumption | omega) | (refine nt ?_; first | assumption | omega) | (simp [*]; done))) | (refine cond_f rfl ?_ ?_; (· first | rfl | assumption | (refine decide_eq_false ?_; first | assumption | omega) | (refine nf ?_; first | assumption | omega) | (simp [*]; done))) | refine skip_then ?_ | refine AW_seq ?_ | refine AW_ret ?_ | refine ret_done ?_ | refine norm_then ?_ | refine ret_then ?_ | refine exit_then ?_ | refine AW_skip ?_)
  refine step_ops ?_
  refine m_isnil_ro0 rfl fun b => ?_
  cases b
  · repeat (first | (refine step_ops ?_; (first | (refine m_mov (by conv => lhs; whnf) ?_) | (refine m_isnil_x rfl ?_) | (refine m_isnil_ro rfl ?_ ?_; (· omega)) | (refine m_isnil_sl rfl ?_ ?_; (· omega)) | (refine m_nils ?_) | (refine m_bsl0 ?_) | (refine m_app1i rfl (by decide) (by rfl) (by first | rfl | omega | (simp; done)) rfl rfl ?_ (by decide) ?_; (· first | omega | (simp; omega))) | (refine m_app1 rfl (by decide) rfl (by first | (simp; done) | (simp [*]; done) | (simp; omega)) rfl rfl rfl ?_ (by decide) ?_; (· first | omega | (simp; omega))) | (refine m_appro rfl (by decide) rfl (by first | rfl | (simp; done) | (simp [*]; done) | (simp; omega)) rfl (oks_ints _) ?_ (by decide) ?_; (· first | omega | (simp; omega))))) | refine end_ops ?_ | refine seq_ops ?_ | refine AW_ops ?_ | (refine cond_t rfl ?_ ?_; (· first | rfl | assumption | (refine decide_eq_true ?_; first | assumption | omega) | (refine nt ?_; first | assumption | omega) | (simp [*]; done))) | (refine cond_f rfl ?_ ?_; (· first | rfl | assumption | (refine decide_eq_false ?_; first | assumption | omega) | (refine nf ?_; first | assumption | omega) | (simp [*]; done))) | refine skip_then ?_ | refine AW_seq ?_ | refine AW_ret ?_ | refine ret_done ?_ | refine norm_then ?_ | refine ret_then ?_ | refine exit_then ?_ | refine AW_skip ?_)
    refine step_ops ?_
    refine m_appro (ys := []) (cs := []) (m := 0) (n := 0) rfl (by decide) rfl rfl rfl rfl (by decide) (by decide) ?_
    repeat (first | (refine step_ops ?_; (first | (refine m_mov (by conv => lhs; whnf) ?_) | (refine m_isnil_x rfl ?_) | (refine m_isnil_ro rfl ?_ ?_; (· omega)) | (refine m_isnil_sl rfl ?_ ?_; (· omega)) | (refine m_nils ?_) | (refine m_bsl0 ?_) | (refine m_app1i rfl (by decide) (by rfl) (by first | rfl | omega | (simp; done)) rfl rfl ?_ (by decide) ?_; (· first | omega | (simp; omega))) | (refine m_app1 rfl (by decide) rfl (by first | (simp; done) | (simp [*]; done) | (simp; omega)) rfl rfl rfl ?_ (by decide) ?_; (· first | omega | (simp; omega))) | (refine m_appro rfl (by decide) rfl (by first | rfl | (simp; done) | (simp [*]; done) | (simp; omega)) rfl (oks_ints _) ?_ (by decide) ?_; (· first | omega | (simp; omega))))) | refine end_ops ?_ | refine seq_ops ?_ | refine AW_ops ?_ | (refine cond_t rfl ?_ ?_; (· first | rfl | assumption | (refine decide_eq_true ?_; first | assumption | omega) | (refine nt ?_; first | assumption | omega) | (simp [*]; done))) | (refine cond_f rfl ?_ ?_; (· first | rfl | assumption | (refine decide_eq_false ?_; first | assumption | omega) | (refine nf ?_; first | assumption | omega) | (simp [*]; done))) | refine skip_then ?_ | refine AW_seq ?_ | refine AW_ret ?_ | refine ret_done ?_ | refine norm_then ?_ | refine ret_then ?_ | refine exit_then ?_ | refine AW_skip ?_)
    exact outs_ints (cs := []) rfl rfl rfl
  · repeat (first | (refine step_ops ?_; (first | (refine m_mov (by conv => lhs; whnf) ?_) | (refine m_isnil_x rfl ?_) | (refine m_isnil_ro rfl ?_ ?_; (· omega)) | (refine m_isnil_sl rfl ?_ ?_; (· omega)) | (refine m_nils ?_) | (refine m_bsl0 ?_) | (refine m_app1i rfl (by decide) (by rfl) (by first | rfl | omega | (simp; done)) rfl rfl ?_ (by decide) ?_; (· first | omega | (simp; omega))) | (refine m_app1 rfl (by decide) rfl (by first | (simp; done) | (simp [*]; done) | (simp; omega)) rfl rfl rfl ?_ (by decide) ?_; (· first | omega | (simp; omega))) | (refine m_appro rfl (by decide) rfl (by first | rfl | (simp; done) | (simp [*]; done) | (simp; omega)) rfl (oks_ints _) ?_ (by decide) ?_; (· first | omega | (simp; omega))))) | refine end_ops ?_ | refine seq_ops ?_ | refine AW_ops ?_ | (refine cond_t rfl ?_ ?_; (· first | rfl | assumption | (refine decide_eq_true ?_; first | assumption | omega) | (refine nt ?_; first | assumption | omega) | (simp [*]; done))) | (refine cond_f rfl ?_ ?_; (· first | rfl | assumption | (refine decide_eq_false ?_; first | assumption | omega) | (refine nf ?_; first | assumption | omega) | (simp [*]; done))) | refine skip_then ?_ | refine AW_seq ?_ | refine AW_ret ?_ | refine ret_done ?_ | refine norm_then ?_ | refine ret_then ?_ | refine exit_then ?_ | refine AW_skip ?_)
    exact outs_ints (cs := []) rfl rfl rfl
theorem slicesClone0_spec (L : List Int) (hL : L.length ≤ 1048576) : Sp Try.prog 56 [ints L] (newInts L) := by
  by_cases h1 : 1 ≤ L.length
  · exact slicesClone_spec L hL h1
  · obtain rfl : L = [] := by
      cases L with
      | nil => rfl
      | cons a l => simp at h1
    exact slicesClone_nil_spec
/-- What a search finds. -/
def srchR (o : Option (List Int)) : AV := .tup [newInts (o.getD []), .b o.isSome]
theorem fittingFrom_spec {f : FuncId} {fl : List AV} {kk : Nat} {n : Nat} {fits : List Int → Nat → Bool} (A : AsksK Try.prog f fl kk n fits) (l : List Int) (g : Nat) (hn : n ≤ 1000) (hl : l.length < n) (hb : ∀ x ∈ l, 0 ≤ x ∧ x < n) (hg : g ≤ n) :
    Sp Try.prog 54 [.i n, ints l, .i g, .fn f fl kk] (srchR (goAt fits n l g).head?) := by
  unfold srchR
  refine spec_of Try.func54 rfl cc54 rfl ?_
  unfold ac54
  repeat (first | (refine step_ops ?_; (first | ((try (refine g_yes rfl ?_ ?_; (· first | rfl | assumption | (refine decide_eq_true ?_; first | assumption | omega) | (refine nt ?_; first | assumption | omega) | (simp [*]; done) | (refine decide_eq_false ?_; first | assumption | omega) | (refine nf ?_; first | assumption | omega)))); (first | (refine m_mov (by conv => lhs; whnf) ?_) | (refine m_lss rfl rfl ?_) | (refine m_eql rfl rfl ?_) | (refine m_eqk rfl rfl ?_) | (refine m_eqs rfl rfl ?_) | (refine m_add rfl rfl ?_ ?_ ?_; (· omega); (· omega)) | (refine m_adds rfl rfl ?_ ?_; (· first | omega | (simp; omega))) | (refine m_sub rfl rfl ?_ ?_ ?_; (· omega); (· omega)) | (refine m_len_ro rfl ?_) | (refine m_len_sl rfl ?_) | (refine m_len_nil rfl ?_) | (refine m_idx1_ro rfl rfl ?_ ?_; (· omega)) | (refine m_idx1_sl rfl rfl ?_ ?_; (· omega)) | (apply m_idx1_slj; (· rfl); (· rfl); (· assumption); (· omega)) | (apply m_idx1_roj; (· rfl); (· rfl); (· assumption); (· omega)) | (refine m_idx_ro rfl rfl ?_ ?_ ?_; (· omega); (· omega)) | (refine m_idx_sl rfl rfl ?_ ?_ ?_; (· omega); (· omega)) | (refine m_ld_rpi rfl ?_ ?_; (· omega)) | (refine m_ld_pti rfl (by rfl) ?_ ?_; (· first | omega | (simp; omega))) | (apply m_ld_ptb; (· rfl); (· rfl); (· assumption)) | (apply m_ld_rp; (· rfl); (· rfl)) | (apply m_ld_pt; (· rfl); (· rfl); (· rfl)) | (refine m_pick_t rfl ?_ (by conv => lhs; whnf) ?_; (· first | rfl | assumption | (refine decide_eq_true ?_; first | assumption | omega) | (refine nt ?_; first | assumption | omega) | (simp [*]; done))) | (refine m_pick_f rfl ?_ (by conv => lhs; whnf) ?_; (· first | rfl | assumption | (refine decide_eq_false ?_; first | assumption | omega) | (refine nf ?_; first | assumption | omega) | (simp [*]; done))) | (refine m_cut_hi rfl rfl ?_ ?_ ?_; (· first | rfl | omega | simp); (· first | omega | (simp; omega))) | (refine m_cut_lo rfl rfl ?_ ?_ ?_; (· first | rfl | omega | simp); (· first | omega | (simp; omega))) | (refine m_nils ?_) | (refine m_bsl1 rfl rfl ?_) | (refine m_app1i rfl (by decide) (by rfl) (by first | rfl | omega | (simp; done)) rfl rfl ?_ (by decide) ?_; (· first | omega | (simp; omega))) | (refine m_app1 rfl (by decide) rfl (by first | (simp; done) | (simp [*]; done) | (simp; omega)) rfl rfl rfl ?_ (by decide) ?_; (· first | omega | (simp; omega))) | (refine m_appro rfl (by decide) rfl (by first | rfl | (simp; done) | (simp [*]; done) | (simp; omega)) rfl (oks_ints _) ?_ (by decide) ?_; (· first | omega | (simp; omega))))) | (refine g_noT rfl ?_ ?_; (· first | rfl | assumption | (refine decide_eq_false ?_; first | assumption | omega) | (refine nf ?_; first | assumption | omega) | (simp [*]; done))))) | refine end_ops ?_ | refine seq_ops ?_ | refine AW_ops ?_ | (refine cond_t rfl ?_ ?_; (· first | rfl | assumption | (refine decide_eq_true ?_; first | assumption | omega) | (refine nt ?_; first | assumption | omega) | (simp [*]; done))) | (refine cond_f rfl ?_ ?_; (· first | rfl | assumption | (refine decide_eq_false ?_; first | assumption | omega) | (refine nf ?_; first | assumption | omega) | (simp [*]; done))) | refine skip_then ?_ | refine AW_seq ?_ | refine AW_ret ?_ | refine ret_done ?_ | refine norm_then ?_ | refine ret_then ?_ | refine exit_then ?_ | refine AW_block ?_ | refine norm_block ?_ | refine ret_block ?_ | refine ret_round ?_ | refine exit_round ?_ | refine AW_exit ?_ | refine exit_block ?_ | (refine exit_other ?_ ?_; (· decide)))
  refine AW_scope (α := Unit) 0 (fun _ => False) (fun _ => st [] []) (fun _ => 0) rfl ?_ (fun _ hf => hf.elim)
  repeat (first | (refine step_ops ?_; (first | ((try (refine g_yes rfl ?_ ?_; (· first | rfl | assumption | (refine decide_eq_true ?_; first | assumption | omega) | (refine nt ?_; first | assumption | omega) | (simp [*]; done) | (refine decide_eq_false ?_; first | assumption | omega) | (refine nf ?_; first | assumption | omega)))); (first | (refine m_mov (by conv => lhs; whnf) ?_) | (refine m_lss rfl rfl ?_) | (refine m_eql rfl rfl ?_) | (refine m_eqk rfl rfl ?_) | (refine m_eqs rfl rfl ?_) | (refine m_add rfl rfl ?_ ?_ ?_; (· omega); (· omega)) | (refine m_adds rfl rfl ?_ ?_; (· first | omega | (simp; omega))) | (refine m_sub rfl rfl ?_ ?_ ?_; (· omega); (· omega)) | (refine m_len_ro rfl ?_) | (refine m_len_sl rfl ?_) | (refine m_len_nil rfl ?_) | (refine m_idx1_ro rfl rfl ?_ ?_; (· omega)) | (refine m_idx1_sl rfl rfl ?_ ?_; (· omega)) | (apply m_idx1_slj; (· rfl); (· rfl); (· assumption); (· omega)) | (apply m_idx1_roj; (· rfl); (· rfl); (· assumption); (· omega)) | (refine m_idx_ro rfl rfl ?_ ?_ ?_; (· omega); (· omega)) | (refine m_idx_sl rfl rfl ?_ ?_ ?_; (· omega); (· omega)) | (refine m_ld_rpi rfl ?_ ?_; (· omega)) | (refine m_ld_pti rfl (by rfl) ?_ ?_; (· first | omega | (simp; omega))) | (apply m_ld_ptb; (· rfl); (· rfl); (· assumption)) | (apply m_ld_rp; (· rfl); (· rfl)) | (apply m_ld_pt; (· rfl); (· rfl); (· rfl)) | (refine m_pick_t rfl ?_ (by conv => lhs; whnf) ?_; (· first | rfl | assumption | (refine decide_eq_true ?_; first | assumption | omega) | (refine nt ?_; first | assumption | omega) | (simp [*]; done))) | (refine m_pick_f rfl ?_ (by conv => lhs; whnf) ?_; (· first | rfl | assumption | (refine decide_eq_false ?_; first | assumption | omega) | (refine nf ?_; first | assumption | omega) | (simp [*]; done))) | (refine m_cut_hi rfl rfl ?_ ?_ ?_; (· first | rfl | omega | simp); (· first | omega | (simp; omega))) | (refine m_cut_lo rfl rfl ?_ ?_ ?_; (· first | rfl | omega | simp); (· first | omega | (simp; omega))) | (refine m_nils ?_) | (refine m_bsl1 rfl rfl ?_) | (refine m_app1i rfl (by decide) (by rfl) (by first | rfl | omega | (simp; done)) rfl rfl ?_ (by decide) ?_; (· first | omega | (simp; omega))) | (refine m_app1 rfl (by decide) rfl (by first | (simp; done) | (simp [*]; done) | (simp; omega)) rfl rfl rfl ?_ (by decide) ?_; (· first | omega | (simp; omega))) | (refine m_appro rfl (by decide) rfl (by first | rfl | (simp; done) | (simp [*]; done) | (simp; omega)) rfl (oks_ints _) ?_ (by decide) ?_; (· first | omega | (simp; omega))))) | (refine g_noT rfl ?_ ?_; (· first | rfl | assumption | (refine decide_eq_false ?_; first | assumption | omega) | (refine nf ?_; first | assumption | omega) | (simp [*]; done))))) | refine end_ops ?_ | refine seq_ops ?_ | refine AW_ops ?_ | (refine cond_t rfl ?_ ?_; (· first | rfl | assumption | (refine decide_eq_true ?_; first | assumption | omega) | (refine nt ?_; first | assumption | omega) | (simp [*]; done))) | (refine cond_f rfl ?_ ?_; (· first | rfl | assumption | (refine decide_eq_false ?_; first | assumption | omega) | (refine nf ?_; first | assumption | omega) | (simp [*]; done))) | refine skip_then ?_ | refine AW_seq ?_ | refine AW_ret ?_ | refine ret_done ?_ | refine norm_then ?_ | refine ret_then ?_ | refine exit_then ?_ | refine AW_block ?_ | refine norm_block ?_ | refine ret_block ?_ | refine ret_round ?_ | refine exit_round ?_ | refine AW_exit ?_ | refine exit_block ?_ | (refine exit_other ?_ ?_; (· decide)))
  (refine step_ops ?_); (first | (apply m_callo (slicesClone0_spec l (by omega))) | (refine g_yes rfl ?_ ?_; (· first | (first | rfl | assumption | (refine decide_eq_true ?_; first | assumption | omega) | (refine nt ?_; first | assumption | omega) | (simp [*]; done)) | (first | rfl | assumption | (refine decide_eq_false ?_; first | assumption | omega) | (refine nf ?_; first | assumption | omega) | (simp [*]; done))); (apply m_callo (slicesClone0_spec l (by omega))))); (· repeat (first | exact lends_nil | (refine lends_cons ?_ ?_; (· (first | exact lend_v | (refine lend_roM rfl; done) | (refine lend_mat rfl ?_; intro j hj; simp (disch := first | omega | assumption) only [hp_put, hp_mem_ne, hp_kill_ne]; first | exact stM_row rfl hj | (rw [stM_row rfl hj]; rfl)) | (refine lend_ints ?_; first | rfl | omega) | (refine lend_sli (by rfl) ?_; first | rfl | omega | (simp; done)) | (refine lend_pln rfl; done) | (refine lend_plns rfl rfl; done) | (refine lend_txr rfl; done) | (refine lend_txs rfl rfl; done) | exact lend_any | (refine lend_agg ?_; first | rfl | assumption | (simp [plainV]; done))))))); (· first | exact allv_ints _ | rfl | (simp; done))
  repeat (first | (refine step_ops ?_; (first | ((try (refine g_yes rfl ?_ ?_; (· first | rfl | assumption | (refine decide_eq_true ?_; first | assumption | omega) | (refine nt ?_; first | assumption | omega) | (simp [*]; done) | (refine decide_eq_false ?_; first | assumption | omega) | (refine nf ?_; first | assumption | omega)))); (first | (refine m_mov (by conv => lhs; whnf) ?_) | (refine m_lss rfl rfl ?_) | (refine m_eql rfl rfl ?_) | (refine m_eqk rfl rfl ?_) | (refine m_eqs rfl rfl ?_) | (refine m_add rfl rfl ?_ ?_ ?_; (· omega); (· omega)) | (refine m_adds rfl rfl ?_ ?_; (· first | omega | (simp; omega))) | (refine m_sub rfl rfl ?_ ?_ ?_; (· omega); (· omega)) | (refine m_len_ro rfl ?_) | (refine m_len_sl rfl ?_) | (refine m_len_nil rfl ?_) | (refine m_idx1_ro rfl rfl ?_ ?_; (· omega)) | (refine m_idx1_sl rfl rfl ?_ ?_; (· omega)) | (apply m_idx1_slj; (· rfl); (· rfl); (· assumption); (· omega)) | (apply m_idx1_roj; (· rfl); (· rfl); (· assumption); (· omega)) | (refine m_idx_ro rfl rfl ?_ ?_ ?_; (· omega); (· omega)) | (refine m_idx_sl rfl rfl ?_ ?_ ?_; (· omega); (· omega)) | (refine m_ld_rpi rfl ?_ ?_; (· omega)) | (refine m_ld_pti rfl (by rfl) ?_ ?_; (· first | omega | (simp; omega))) | (apply m_ld_ptb; (· rfl); (· rfl); (· assumption)) | (apply m_ld_rp; (· rfl); (· rfl)) | (apply m_ld_pt; (· rfl); (· rfl); (· rfl)) | (refine m_pick_t rfl ?_ (by conv => lhs; whnf) ?_; (· first | rfl | assumption | (refine decide_eq_true ?_; first | assumption | omega) | (refine nt ?_; first | assumption | omega) | (simp [*]; done))) | (refine m_pick_f rfl ?_ (by conv => lhs; whnf) ?_; (· first | rfl | assumption | (refine decide_eq_false ?_; first | assumption | omega) | (refine nf ?_; first | assumption | omega) | (simp [*]; done))) | (refine m_cut_hi rfl rfl ?_ ?_ ?_; (· first | rfl | omega | simp); (· first | omega | (simp; omega))) | (refine m_cut_lo rfl rfl ?_ ?_ ?_; (· first | rfl | omega | simp); (· first | omega | (simp; omega))) | (refine m_nils ?_) | (refine m_bsl1 rfl rfl ?_) | (refine m_app1i rfl (by decide) (by rfl) (by first | rfl | omega | (simp; done)) rfl rfl ?_ (by decide) ?_; (· first | omega | (simp; omega))) | (refine m_app1 rfl (by decide) rfl (by first | (simp; done) | (simp [*]; done) | (simp; omega)) rfl rfl rfl ?_ (by decide) ?_; (· first | omega | (simp; omega))) | (refine m_appro rfl (by decide) rfl (by first | rfl | (simp; done) | (simp [*]; done) | (simp; omega)) rfl (oks_ints _) ?_ (by decide) ?_; (· first | omega | (simp; omega))))) | (refine g_noT rfl ?_ ?_; (· first | rfl | assumption | (refine decide_eq_false ?_; first | assumption | omega) | (refine nf ?_; first | assumption | omega) | (simp [*]; done))))) | refine end_ops ?_ | refine seq_ops ?_ | refine AW_ops ?_ | (refine cond_t rfl ?_ ?_; (· first | rfl | assumption | (refine decide_eq_true ?_; first | assumption | omega) | (refine nt ?_; first | assumption | omega) | (simp [*]; done))) | (refine cond_f rfl ?_ ?_; (· first | rfl | assumption | (refine decide_eq_false ?_; first | assumption | omega) | (refine nf ?_; first | assumption | omega) | (simp [*]; done))) | refine skip_then ?_ | refine AW_seq ?_ | refine AW_ret ?_ | refine ret_done ?_ | refine norm_then ?_ | refine ret_then ?_ | refine exit_then ?_ | refine AW_block ?_ | refine norm_block ?_ | refine ret_block ?_ | refine ret_round ?_ | refine exit_round ?_ | refine AW_exit ?_ | refine exit_block ?_ | (refine exit_other ?_ ?_; (· decide)))
  refine AW_label ?_
  refine norm_then ?_
  repeat (first | (refine step_ops ?_; (first | ((try (refine g_yes rfl ?_ ?_; (· first | rfl | assumption | (refine decide_eq_true ?_; first | assumption | omega) | (refine nt ?_; first | assumption | omega) | (simp [*]; done) | (refine decide_eq_false ?_; first | assumption | omega) | (refine nf ?_; first | assumption | omega)))); (first | (refine m_mov (by conv => lhs; whnf) ?_) | (refine m_lss rfl rfl ?_) | (refine m_eql rfl rfl ?_) | (refine m_eqk rfl rfl ?_) | (refine m_eqs rfl rfl ?_) | (refine m_add rfl rfl ?_ ?_ ?_; (· omega); (· omega)) | (refine m_adds rfl rfl ?_ ?_; (· first | omega | (simp; omega))) | (refine m_sub rfl rfl ?_ ?_ ?_; (· omega); (· omega)) | (refine m_len_ro rfl ?_) | (refine m_len_sl rfl ?_) | (refine m_len_nil rfl ?_) | (refine m_idx1_ro rfl rfl ?_ ?_; (· omega)) | (refine m_idx1_sl rfl rfl ?_ ?_; (· omega)) | (apply m_idx1_slj; (· rfl); (· rfl); (· assumption); (· omega)) | (apply m_idx1_roj; (· rfl); (· rfl); (· assumption); (· omega)) | (refine m_idx_ro rfl rfl ?_ ?_ ?_; (· omega); (· omega)) | (refine m_idx_sl rfl rfl ?_ ?_ ?_; (· omega); (· omega)) | (refine m_ld_rpi rfl ?_ ?_; (· omega)) | (refine m_ld_pti rfl (by rfl) ?_ ?_; (· first | omega | (simp; omega))) | (apply m_ld_ptb; (· rfl); (· rfl); (· assumption)) | (apply m_ld_rp; (· rfl); (· rfl)) | (apply m_ld_pt; (· rfl); (· rfl); (· rfl)) | (refine m_pick_t rfl ?_ (by conv => lhs; whnf) ?_; (· first | rfl | assumption | (refine decide_eq_true ?_; first | assumption | omega) | (refine nt ?_; first | assumption | omega) | (simp [*]; done))) | (refine m_pick_f rfl ?_ (by conv => lhs; whnf) ?_; (· first | rfl | assumption | (refine decide_eq_false ?_; first | assumption | omega) | (refine nf ?_; first | assumption | omega) | (simp [*]; done))) | (refine m_cut_hi rfl rfl ?_ ?_ ?_; (· first | rfl | omega | simp); (· first | omega | (simp; omega))) | (refine m_cut_lo rfl rfl ?_ ?_ ?_; (· first | rfl | omega | simp); (· first | omega | (simp; omega))) | (refine m_nils ?_) | (refine m_bsl1 rfl rfl ?_) | (refine m_app1i rfl (by decide) (by rfl) (by first | rfl | omega | (simp; done)) rfl rfl ?_ (by decide) ?_; (· first | omega | (simp; omega))) | (refine m_app1 rfl (by decide) rfl (by first | (simp; done) | (simp [*]; done) | (simp; omega)) rfl rfl rfl ?_ (by decide) ?_; (· first | omega | (simp; omega))) | (refine m_appro rfl (by decide) rfl (by first | rfl | (simp; done) | (simp [*]; done) | (simp; omega)) rfl (oks_ints _) ?_ (by decide) ?_; (· first | omega | (simp; omega))))) | (refine g_noT rfl ?_ ?_; (· first | rfl | assumption | (refine decide_eq_false ?_; first | assumption | omega) | (refine nf ?_; first | assumption | omega) | (simp [*]; done))))) | refine end_ops ?_ | refine seq_ops ?_ | refine AW_ops ?_ | (refine cond_t rfl ?_ ?_; (· first | rfl | assumption | (refine decide_eq_true ?_; first | assumption | omega) | (refine nt ?_; first | assumption | omega) | (simp [*]; done))) | (refine cond_f rfl ?_ ?_; (· first | rfl | assumption | (refine decide_eq_false ?_; first | assumption | omega) | (refine nf ?_; first | assumption | omega) | (simp [*]; done))) | refine skip_then ?_ | refine AW_seq ?_ | refine AW_ret ?_ | refine ret_done ?_ | refine norm_then ?_ | refine ret_then ?_ | refine exit_then ?_ | refine AW_block ?_ | refine norm_block ?_ | refine ret_block ?_ | refine ret_round ?_ | refine exit_round ?_ | refine AW_exit ?_ | refine exit_block ?_ | (refine exit_other ?_ ?_; (· decide)))
  refine AW_loop (α := List Int × Nat) (fun a => a.1.length ≤ n ∧ (∀ x ∈ a.1, 0 ≤ x ∧ x < n) ∧ a.2 ≤ n ∧ (goAt fits n a.1 a.2).head? = (goAt fits n l g).head?)
    (fun a => st [(0, .i n), (3, .fn f fl kk), (10, .sl 10 1 0 a.1.length), (11, .i a.2)] [(10, (true, a.1.map AV.i))]) (fun a => goMeas n a.1 a.2) (l, g) ⟨by show l.length ≤ n; omega, hb, hg, rfl⟩
    (Weak.trans (weak_move (r := 14) (q := 10) rfl (by decide) (by decide)) (weak_st ?_ ?_ ?_ rfl)) ?_
  · (repeat' (first | exact trivial | refine And.intro ?_ ?_)) <;> (first | rfl | skip)
    all_goals (simp (disch := decide) [tm_put_ne', tm_mem, tm_kill, tm_mv, tm_en3, kill_fn A.nokill, mv_fn A.nokill])
  · exact ⟨rfl, trivial⟩
  · simp [refsT, refsV, A.norefs, Am.look]
  rintro ⟨M, y⟩ ⟨hM, hMb, hy, hres⟩
  dsimp only at hM hMb hy hres ⊢
  by_cases hfull : M.length = n
  · have hr1 : (goAt fits n l g).head? = some M := by rw [← hres]; exact goAt_full _ _ hfull
    repeat (first | (refine step_ops ?_; (first | ((try (refine g_yes rfl ?_ ?_; (· first | rfl | assumption | (refine decide_eq_true ?_; first | assumption | omega) | (refine nt ?_; first | assumption | omega) | (simp [*]; done) | (refine decide_eq_false ?_; first | assumption | omega) | (refine nf ?_; first | assumption | omega)))); (first | (refine m_mov (by conv => lhs; whnf) ?_) | (refine m_lss rfl rfl ?_) | (refine m_eql rfl rfl ?_) | (refine m_eqk rfl rfl ?_) | (refine m_eqs rfl rfl ?_) | (refine m_add rfl rfl ?_ ?_ ?_; (· omega); (· omega)) | (refine m_adds rfl rfl ?_ ?_; (· first | omega | (simp; omega))) | (refine m_sub rfl rfl ?_ ?_ ?_; (· omega); (· omega)) | (refine m_len_ro rfl ?_) | (refine m_len_sl rfl ?_) | (refine m_len_nil rfl ?_) | (refine m_idx1_ro rfl rfl ?_ ?_; (· omega)) | (refine m_idx1_sl rfl rfl ?_ ?_; (· omega)) | (apply m_idx1_slj; (· rfl); (· rfl); (· assumption); (· omega)) | (apply m_idx1_roj; (· rfl); (· rfl); (· assumption); (· omega)) | (refine m_idx_ro rfl rfl ?_ ?_ ?_; (· omega); (· omega)) | (refine m_idx_sl rfl rfl ?_ ?_ ?_; (· omega); (· omega)) | (refine m_ld_rpi rfl ?_ ?_; (· omega)) | (refine m_ld_pti rfl (by rfl) ?_ ?_; (· first | omega | (simp; omega))) | (apply m_ld_ptb; (· rfl); (· rfl); (· assumption)) | (apply m_ld_rp; (· rfl); (· rfl)) | (apply m_ld_pt; (· rfl); (· rfl); (· rfl)) | (refine m_pick_t rfl ?_ (by conv => lhs; whnf) ?_; (· first | rfl | assumption | (refine decide_eq_true ?_; first | assumption | omega) | (refine nt ?_; first | assumption | omega) | (simp [*]; done))) | (refine m_pick_f rfl ?_ (by conv => lhs; whnf) ?_; (· first | rfl | assumption | (refine decide_eq_false ?_; first | assumption | omega) | (refine nf ?_; first | assumption | omega) | (simp [*]; done))) | (refine m_cut_hi rfl rfl ?_ ?_ ?_; (· first | rfl | omega | simp); (· first | omega | (simp; omega))) | (refine m_cut_lo rfl rfl ?_ ?_ ?_; (· first | rfl | omega | simp); (· first | omega | (simp; omega))) | (refine m_nils ?_) | (refine m_bsl1 rfl rfl ?_) | (refine m_app1i rfl (by decide) (by rfl) (by first | rfl | omega | (simp; done)) rfl rfl ?_ (by decide) ?_; (· first | omega | (simp; omega))) | (refine m_app1 rfl (by decide) rfl (by first | (simp; done) | (simp [*]; done) | (simp; omega)) rfl rfl rfl ?_ (by decide) ?_; (· first | omega | (simp; omega))) | (refine m_appro rfl (by decide) rfl (by first | rfl | (simp; done) | (simp [*]; done) | (simp; omega)) rfl (oks_ints _) ?_ (by decide) ?_; (· first | omega | (simp; omega))))) | (refine g_noT rfl ?_ ?_; (· first | rfl | assumption | (refine decide_eq_false ?_; first | assumption | omega) | (refine nf ?_; first | assumption | omega) | (simp [*]; done))))) | refine end_ops ?_ | refine seq_ops ?_ | refine AW_ops ?_ | (refine cond_t rfl ?_ ?_; (· first | rfl | assumption | (refine decide_eq_true ?_; first | assumption | omega) | (refine nt ?_; first | assumption | omega) | (simp [*]; done))) | (refine cond_f rfl ?_ ?_; (· first | rfl | assumption | (refine decide_eq_false ?_; first | assumption | omega) | (refine nf ?_; first | assumption | omega) | (simp [*]; done))) | refine skip_then ?_ | refine AW_seq ?_ | refine AW_ret ?_ | refine ret_done ?_ | refine norm_then ?_ | refine ret_then ?_ | refine exit_then ?_ | refine AW_block ?_ | refine norm_block ?_ | refine ret_block ?_ | refine ret_round ?_ | refine exit_round ?_ | refine AW_exit ?_ | refine exit_block ?_ | (refine exit_other ?_ ?_; (· decide)))
    rw [hr1]
    exact outs_tup2 (outs_ints rfl rfl rfl) (outs_b rfl)
  · have hMl : M.length < n := by omega
    by_cases hy2 : y < n
    · by_cases hf : fits M y = true
      · repeat (first | (refine step_ops ?_; (first | ((try (refine g_yes rfl ?_ ?_; (· first | rfl | assumption | (refine decide_eq_true ?_; first | assumption | omega) | (refine nt ?_; first | assumption | omega) | (simp [*]; done) | (refine decide_eq_false ?_; first | assumption | omega) | (refine nf ?_; first | assumption | omega)))); (first | (refine m_mov (by conv => lhs; whnf) ?_) | (refine m_lss rfl rfl ?_) | (refine m_eql rfl rfl ?_) | (refine m_eqk rfl rfl ?_) | (refine m_eqs rfl rfl ?_) | (refine m_add rfl rfl ?_ ?_ ?_; (· omega); (· omega)) | (refine m_adds rfl rfl ?_ ?_; (· first | omega | (simp; omega))) | (refine m_sub rfl rfl ?_ ?_ ?_; (· omega); (· omega)) | (refine m_len_ro rfl ?_) | (refine m_len_sl rfl ?_) | (refine m_len_nil rfl ?_) | (refine m_idx1_ro rfl rfl ?_ ?_; (· omega)) | (refine m_idx1_sl rfl rfl ?_ ?_; (· omega)) | (apply m_idx1_slj; (· rfl); (· rfl); (· assumption); (· omega)) | (apply m_idx1_roj; (· rfl); (· rfl); (· assumption); (· omega)) | (refine m_idx_ro rfl rfl ?_ ?_ ?_; (· omega); (· omega)) | (refine m_idx_sl rfl rfl ?_ ?_ ?_; (· omega); (· omega)) | (refine m_ld_rpi rfl ?_ ?_; (· omega)) | (refine m_ld_pti rfl (by rfl) ?_ ?_; (· first | omega | (simp; omega))) | (apply m_ld_ptb; (· rfl); (· rfl); (· assumption)) | (apply m_ld_rp; (· rfl); (· rfl)) | (apply m_ld_pt; (· rfl); (· rfl); (· rfl)) | (refine m_pick_t rfl ?_ (by conv => lhs; whnf) ?_; (· first | rfl | assumption | (refine decide_eq_true ?_; first | assumption | omega) | (refine nt ?_; first | assumption | omega) | (simp [*]; done))) | (refine m_pick_f rfl ?_ (by conv => lhs; whnf) ?_; (· first | rfl | assumption | (refine decide_eq_false ?_; first | assumption | omega) | (refine nf ?_; first | assumption | omega) | (simp [*]; done))) | (refine m_cut_hi rfl rfl ?_ ?_ ?_; (· first | rfl | omega | simp); (· first | omega | (simp; omega))) | (refine m_cut_lo rfl rfl ?_ ?_ ?_; (· first | rfl | omega | simp); (· first | omega | (simp; omega))) | (refine m_nils ?_) | (refine m_bsl1 rfl rfl ?_) | (refine m_app1i rfl (by decide) (by rfl) (by first | rfl | omega | (simp; done)) rfl rfl ?_ (by decide) ?_; (· first | omega | (simp; omega))) | (refine m_app1 rfl (by decide) rfl (by first | (simp; done) | (simp [*]; done) | (simp; omega)) rfl rfl rfl ?_ (by decide) ?_; (· first | omega | (simp; omega))) | (refine m_appro rfl (by decide) rfl (by first | rfl | (simp; done) | (simp [*]; done) | (simp; omega)) rfl (oks_ints _) ?_ (by decide) ?_; (· first | omega | (simp; omega))))) | (refine g_noT rfl ?_ ?_; (· first | rfl | assumption | (refine decide_eq_false ?_; first | assumption | omega) | (refine nf ?_; first | assumption | omega) | (simp [*]; done))))) | refine end_ops ?_ | refine seq_ops ?_ | refine AW_ops ?_ | (refine cond_t rfl ?_ ?_; (· first | rfl | assumption | (refine decide_eq_true ?_; first | assumption | omega) | (refine nt ?_; first | assumption | omega) | (simp [*]; done))) | (refine cond_f rfl ?_ ?_; (· first | rfl | assumption | (refine decide_eq_false ?_; first | assumption | omega) | (refine nf ?_; first | assumption | omega) | (simp [*]; done))) | refine skip_then ?_ | refine AW_seq ?_ | refine AW_ret ?_ | refine ret_done ?_ | refine norm_then ?_ | refine ret_then ?_ | refine exit_then ?_ | refine AW_block ?_ | refine norm_block ?_ | refine ret_block ?_ | refine ret_round ?_ | refine exit_round ?_ | refine AW_exit ?_ | refine exit_block ?_ | (refine exit_other ?_ ?_; (· decide)))
        refine step_ops ?_
        refine g_yes rfl ?_ ?_
        · first | rfl | assumption | (refine decide_eq_true ?_; first | assumption | omega) | (refine nt ?_; first | assumption | omega) | (simp [*]; done)
        refine m_callf rfl A.call (A.spec M y (by omega) hMb hy2) ?_ ?_
        · exact asksK_lend A.bears rfl rfl (lends_cons (lend_sli (by rfl) rfl) (lends_cons lend_v lends_nil))
        repeat (first | (refine step_ops ?_; (first | ((try (refine g_yes rfl ?_ ?_; (· first | rfl | assumption | (refine decide_eq_true ?_; first | assumption | omega) | (refine nt ?_; first | assumption | omega) | (simp [*]; done) | (refine decide_eq_false ?_; first | assumption | omega) | (refine nf ?_; first | assumption | omega)))); (first | (refine m_mov (by conv => lhs; whnf) ?_) | (refine m_lss rfl rfl ?_) | (refine m_eql rfl rfl ?_) | (refine m_eqk rfl rfl ?_) | (refine m_eqs rfl rfl ?_) | (refine m_add rfl rfl ?_ ?_ ?_; (· omega); (· omega)) | (refine m_adds rfl rfl ?_ ?_; (· first | omega | (simp; omega))) | (refine m_sub rfl rfl ?_ ?_ ?_; (· omega); (· omega)) | (refine m_len_ro rfl ?_) | (refine m_len_sl rfl ?_) | (refine m_len_nil rfl ?_) | (refine m_idx1_ro rfl rfl ?_ ?_; (· omega)) | (refine m_idx1_sl rfl rfl ?_ ?_; (· omega)) | (apply m_idx1_slj; (· rfl); (· rfl); (· assumption); (· omega)) | (apply m_idx1_roj; (· rfl); (· rfl); (· assumption); (· omega)) | (refine m_idx_ro rfl rfl ?_ ?_ ?_; (· omega); (· omega)) | (refine m_idx_sl rfl rfl ?_ ?_ ?_; (· omega); (· omega)) | (refine m_ld_rpi rfl ?_ ?_; (· omega)) | (refine m_ld_pti rfl (by rfl) ?_ ?_; (· first | omega | (simp; omega))) | (apply m_ld_ptb; (· rfl); (· rfl); (· assumption)) | (apply m_ld_rp; (· rfl); (· rfl)) | (apply m_ld_pt; (· rfl); (· rfl); (· rfl)) | (refine m_pick_t rfl ?_ (by conv => lhs; whnf) ?_; (· first | rfl | assumption | (refine decide_eq_true ?_; first | assumption | omega) | (refine nt ?_; first | assumption | omega) | (simp [*]; done))) | (refine m_pick_f rfl ?_ (by conv => lhs; whnf) ?_; (· first | rfl | assumption | (refine decide_eq_false ?_; first | assumption | omega) | (refine nf ?_; first | assumption | omega) | (simp [*]; done))) | (refine m_cut_hi rfl rfl ?_ ?_ ?_; (· first | rfl | omega | simp); (· first | omega | (simp; omega))) | (refine m_cut_lo rfl rfl ?_ ?_ ?_; (· first | rfl | omega | simp); (· first | omega | (simp; omega))) | (refine m_nils ?_) | (refine m_bsl1 rfl rfl ?_) | (refine m_app1i rfl (by decide) (by rfl) (by first | rfl | omega | (simp; done)) rfl rfl ?_ (by decide) ?_; (· first | omega | (simp; omega))) | (refine m_app1 rfl (by decide) rfl (by first | (simp; done) | (simp [*]; done) | (simp; omega)) rfl rfl rfl ?_ (by decide) ?_; (· first | omega | (simp; omega))) | (refine m_appro rfl (by decide) rfl (by first | rfl | (simp; done) | (simp [*]; done) | (simp; omega)) rfl (oks_ints _) ?_ (by decide) ?_; (· first | omega | (simp; omega))))) | (refine g_noT rfl ?_ ?_; (· first | rfl | assumption | (refine decide_eq_false ?_; first | assumption | omega) | (refine nf ?_; first | assumption | omega) | (simp [*]; done))))) | refine end_ops ?_ | refine seq_ops ?_ | refine AW_ops ?_ | (refine cond_t rfl ?_ ?_; (· first | rfl | assumption | (refine decide_eq_true ?_; first | assumption | omega) | (refine nt ?_; first | assumption | omega) | (simp [*]; done))) | (refine cond_f rfl ?_ ?_; (· first | rfl | assumption | (refine decide_eq_false ?_; first | assumption | omega) | (refine nf ?_; first | assumption | omega) | (simp [*]; done))) | refine skip_then ?_ | refine AW_seq ?_ | refine AW_ret ?_ | refine ret_done ?_ | refine norm_then ?_ | refine ret_then ?_ | refine exit_then ?_ | refine AW_block ?_ | refine norm_block ?_ | refine ret_block ?_ | refine ret_round ?_ | refine exit_round ?_ | refine AW_exit ?_ | refine exit_block ?_ | (refine exit_other ?_ ?_; (· decide)))
        refine next_round (M ++ [(y : Int)], 0) ⟨by simp; omega, fun x hx => ?_, Nat.zero_le _, by rw [← hres]; exact congrArg _ (goAt_take _ _ hMl hy2 hf)⟩ (Weak.trans (weak_move (r := 45) (q := 10) rfl (by decide) (by decide)) (weak_st ?_ ?_ ?_ rfl)) ?_
        · rcases List.mem_append.1 hx with hx | hx
          · exact hMb x hx
          · rw [List.mem_singleton.1 hx]; omega
        · (repeat' (first | exact trivial | refine And.intro ?_ ?_)) <;> (first | rfl | skip)
          all_goals (simp (disch := decide) [tm_put_ne', tm_mem, tm_kill, tm_mv, tm_st, Am.look, kill_fn A.nokill, mv_fn A.nokill])
        · exact ⟨rfl, trivial⟩
        · simp [refsT, refsV, A.norefs, Am.look]
        · exact goMeas_take hMl hy2
      · have hf : fits M y = false := by simpa using hf
        repeat (first | (refine step_ops ?_; (first | ((try (refine g_yes rfl ?_ ?_; (· first | rfl | assumption | (refine decide_eq_true ?_; first | assumption | omega) | (refine nt ?_; first | assumption | omega) | (simp [*]; done) | (refine decide_eq_false ?_; first | assumption | omega) | (refine nf ?_; first | assumption | omega)))); (first | (refine m_mov (by conv => lhs; whnf) ?_) | (refine m_lss rfl rfl ?_) | (refine m_eql rfl rfl ?_) | (refine m_eqk rfl rfl ?_) | (refine m_eqs rfl rfl ?_) | (refine m_add rfl rfl ?_ ?_ ?_; (· omega); (· omega)) | (refine m_adds rfl rfl ?_ ?_; (· first | omega | (simp; omega))) | (refine m_sub rfl rfl ?_ ?_ ?_; (· omega); (· omega)) | (refine m_len_ro rfl ?_) | (refine m_len_sl rfl ?_) | (refine m_len_nil rfl ?_) | (refine m_idx1_ro rfl rfl ?_ ?_; (· omega)) | (refine m_idx1_sl rfl rfl ?_ ?_; (· omega)) | (apply m_idx1_slj; (· rfl); (· rfl); (· assumption); (· omega)) | (apply m_idx1_roj; (· rfl); (· rfl); (· assumption); (· omega)) | (refine m_idx_ro rfl rfl ?_ ?_ ?_; (· omega); (· omega)) | (refine m_idx_sl rfl rfl ?_ ?_ ?_; (· omega); (· omega)) | (refine m_ld_rpi rfl ?_ ?_; (· omega)) | (refine m_ld_pti rfl (by rfl) ?_ ?_; (· first | omega | (simp; omega))) | (apply m_ld_ptb; (· rfl); (· rfl); (· assumption)) | (apply m_ld_rp; (· rfl); (· rfl)) | (apply m_ld_pt; (· rfl); (· rfl); (· rfl)) | (refine m_pick_t rfl ?_ (by conv => lhs; whnf) ?_; (· first | rfl | assumption | (refine decide_eq_true ?_; first | assumption | omega) | (refine nt ?_; first | assumption | omega) | (simp [*]; done))) | (refine m_pick_f rfl ?_ (by conv => lhs; whnf) ?_; (· first | rfl | assumption | (refine decide_eq_false ?_; first | assumption | omega) | (refine nf ?_; first | assumption | omega) | (simp [*]; done))) | (refine m_cut_hi rfl rfl ?_ ?_ ?_; (· first | rfl | omega | simp); (· first | omega | (simp; omega))) | (refine m_cut_lo rfl rfl ?_ ?_ ?_; (· first | rfl | omega | simp); (· first | omega | (simp; omega))) | (refine m_nils ?_) | (refine m_bsl1 rfl rfl ?_) | (refine m_app1i rfl (by decide) (by rfl) (by first | rfl | omega | (simp; done)) rfl rfl ?_ (by decide) ?_; (· first | omega | (simp; omega))) | (refine m_app1 rfl (by decide) rfl (by first | (simp; done) | (simp [*]; done) | (simp; omega)) rfl rfl rfl ?_ (by decide) ?_; (· first | omega | (simp; omega))) | (refine m_appro rfl (by decide) rfl (by first | rfl | (simp; done) | (simp [*]; done) | (simp; omega)) rfl (oks_ints _) ?_ (by decide) ?_; (· first | omega | (simp; omega))))) | (refine g_noT rfl ?_ ?_; (· first | rfl | assumption | (refine decide_eq_false ?_; first | assumption | omega) | (refine nf ?_; first | assumption | omega) | (simp [*]; done))))) | refine end_ops ?_ | refine seq_ops ?_ | refine AW_ops ?_ | (refine cond_t rfl ?_ ?_; (· first | rfl | assumption | (refine decide_eq_true ?_; first | assumption | omega) | (refine nt ?_; first | assumption | omega) | (simp [*]; done))) | (refine cond_f rfl ?_ ?_; (· first | rfl | assumption | (refine decide_eq_false ?_; first | assumption | omega) | (refine nf ?_; first | assumption | omega) | (simp [*]; done))) | refine skip_then ?_ | refine AW_seq ?_ | refine AW_ret ?_ | refine ret_done ?_ | refine norm_then ?_ | refine ret_then ?_ | refine exit_then ?_ | refine AW_block ?_ | refine norm_block ?_ | refine ret_block ?_ | refine ret_round ?_ | refine exit_round ?_ | refine AW_exit ?_ | refine exit_block ?_ | (refine exit_other ?_ ?_; (· decide)))
        refine step_ops ?_
        refine g_yes rfl ?_ ?_
        · first | rfl | assumption | (refine decide_eq_true ?_; first | assumption | omega) | (refine nt ?_; first | assumption | omega) | (simp [*]; done)
        refine m_callf rfl A.call (A.spec M y (by omega) hMb hy2) ?_ ?_
        · exact asksK_lend A.bears rfl rfl (lends_cons (lend_sli (by rfl) rfl) (lends_cons lend_v lends_nil))
        repeat (first | (refine step_ops ?_; (first | ((try (refine g_yes rfl ?_ ?_; (· first | rfl | assumption | (refine decide_eq_true ?_; first | assumption | omega) | (refine nt ?_; first | assumption | omega) | (simp [*]; done) | (refine decide_eq_false ?_; first | assumption | omega) | (refine nf ?_; first | assumption | omega)))); (first | (refine m_mov (by conv => lhs; whnf) ?_) | (refine m_lss rfl rfl ?_) | (refine m_eql rfl rfl ?_) | (refine m_eqk rfl rfl ?_) | (refine m_eqs rfl rfl ?_) | (refine m_add rfl rfl ?_ ?_ ?_; (· omega); (· omega)) | (refine m_adds rfl rfl ?_ ?_; (· first | omega | (simp; omega))) | (refine m_sub rfl rfl ?_ ?_ ?_; (· omega); (· omega)) | (refine m_len_ro rfl ?_) | (refine m_len_sl rfl ?_) | (refine m_len_nil rfl ?_) | (refine m_idx1_ro rfl rfl ?_ ?_; (· omega)) | (refine m_idx1_sl rfl rfl ?_ ?_; (· omega)) | (apply m_idx1_slj; (· rfl); (· rfl); (· assumption); (· omega)) | (apply m_idx1_roj; (· rfl); (· rfl); (· assumption); (· omega)) | (refine m_idx_ro rfl rfl ?_ ?_ ?_; (· omega); (· omega)) | (refine m_idx_sl rfl rfl ?_ ?_ ?_; (· omega); (· omega)) | (refine m_ld_rpi rfl ?_ ?_; (· omega)) | (refine m_ld_pti rfl (by rfl) ?_ ?_; (· first | omega | (simp; omega))) | (apply m_ld_ptb; (· rfl); (· rfl); (· assumption)) | (apply m_ld_rp; (· rfl); (· rfl)) | (apply m_ld_pt; (· rfl); (· rfl); (· rfl)) | (refine m_pick_t rfl ?_ (by conv => lhs; whnf) ?_; (· first | rfl | assumption | (refine decide_eq_true ?_; first | assumption | omega) | (refine nt ?_; first | assumption | omega) | (simp [*]; done))) | (refine m_pick_f rfl ?_ (by conv => lhs; whnf) ?_; (· first | rfl | assumption | (refine decide_eq_false ?_; first | assumption | omega) | (refine nf ?_; first | assumption | omega) | (simp [*]; done))) | (refine m_cut_hi rfl rfl ?_ ?_ ?_; (· first | rfl | omega | simp); (· first | omega | (simp; omega))) | (refine m_cut_lo rfl rfl ?_ ?_ ?_; (· first | rfl | omega | simp); (· first | omega | (simp; omega))) | (refine m_nils ?_) | (refine m_bsl1 rfl rfl ?_) | (refine m_app1i rfl (by decide) (by rfl) (by first | rfl | omega | (simp; done)) rfl rfl ?_ (by decide) ?_; (· first | omega | (simp; omega))) | (refine m_app1 rfl (by decide) rfl (by first | (simp; done) | (simp [*]; done) | (simp; omega)) rfl rfl rfl ?_ (by decide) ?_; (· first | omega | (simp; omega))) | (refine m_appro rfl (by decide) rfl (by first | rfl | (simp; done) | (simp [*]; done) | (simp; omega)) rfl (oks_ints _) ?_ (by decide) ?_; (· first | omega | (simp; omega))))) | (refine g_noT rfl ?_ ?_; (· first | rfl | assumption | (refine decide_eq_false ?_; first | assumption | omega) | (refine nf ?_; first | assumption | omega) | (simp [*]; done))))) | refine end_ops ?_ | refine seq_ops ?_ | refine AW_ops ?_ | (refine cond_t rfl ?_ ?_; (· first | rfl | assumption | (refine decide_eq_true ?_; first | assumption | omega) | (refine nt ?_; first | assumption | omega) | (simp [*]; done))) | (refine cond_f rfl ?_ ?_; (· first | rfl | assumption | (refine decide_eq_false ?_; first | assumption | omega) | (refine nf ?_; first | assumption | omega) | (simp [*]; done))) | refine skip_then ?_ | refine AW_seq ?_ | refine AW_ret ?_ | refine ret_done ?_ | refine norm_then ?_ | refine ret_then ?_ | refine exit_then ?_ | refine AW_block ?_ | refine norm_block ?_ | refine ret_block ?_ | refine ret_round ?_ | refine exit_round ?_ | refine AW_exit ?_ | refine exit_block ?_ | (refine exit_other ?_ ?_; (· decide)))
        refine next_round (M, y + 1) ⟨hM, hMb, hy2, by rw [← hres]; exact congrArg _ (goAt_skip _ _ hMl hy2 hf)⟩ (weak_st ?_ ?_ ?_ rfl) ?_
        · (repeat' (first | exact trivial | refine And.intro ?_ ?_)) <;> (first | rfl | skip)
          all_goals (simp (disch := decide) [tm_put_ne', tm_put_none, tm_mem, tm_kill, tm_mv, tm_st, tm_en0, tm_en1, tm_en2, tm_en3, tm_en4, Am.look, kill_fn A.nokill, mv_fn A.nokill])
        · exact ⟨rfl, trivial⟩
        · simp [refsT, refsV, A.norefs, Am.look]
        · exact goMeas_skip hMl hy2
    · by_cases hM0 : M.length = 0
      · have hr1 : (goAt fits n l g).head? = none := by
          rw [← hres, List.length_eq_zero_iff.1 hM0, goAt_none _ _ (by omega) (by omega)]; rfl
        repeat (first | (refine step_ops ?_; (first | ((try (refine g_yes rfl ?_ ?_; (· first | rfl | assumption | (refine decide_eq_true ?_; first | assumption | omega) | (refine nt ?_; first | assumption | omega) | (simp [*]; done) | (refine decide_eq_false ?_; first | assumption | omega) | (refine nf ?_; first | assumption | omega)))); (first | (refine m_mov (by conv => lhs; whnf) ?_) | (refine m_lss rfl rfl ?_) | (refine m_eql rfl rfl ?_) | (refine m_eqk rfl rfl ?_) | (refine m_eqs rfl rfl ?_) | (refine m_add rfl rfl ?_ ?_ ?_; (· omega); (· omega)) | (refine m_adds rfl rfl ?_ ?_; (· first | omega | (simp; omega))) | (refine m_sub rfl rfl ?_ ?_ ?_; (· omega); (· omega)) | (refine m_len_ro rfl ?_) | (refine m_len_sl rfl ?_) | (refine m_len_nil rfl ?_) | (refine m_idx1_ro rfl rfl ?_ ?_; (· omega)) | (refine m_idx1_sl rfl rfl ?_ ?_; (· omega)) | (apply m_idx1_slj; (· rfl); (· rfl); (· assumption); (· omega)) | (apply m_idx1_roj; (· rfl); (· rfl); (· assumption); (· omega)) | (refine m_idx_ro rfl rfl ?_ ?_ ?_; (· omega); (· omega)) | (refine m_idx_sl rfl rfl ?_ ?_ ?_; (· omega); (· omega)) | (refine m_ld_rpi rfl ?_ ?_; (· omega)) | (refine m_ld_pti rfl (by rfl) ?_ ?_; (· first | omega | (simp; omega))) | (apply m_ld_ptb; (· rfl); (· rfl); (· assumption)) | (apply m_ld_rp; (· rfl); (· rfl)) | (apply m_ld_pt; (· rfl); (· rfl); (· rfl)) | (refine m_pick_t rfl ?_ (by conv => lhs; whnf) ?_; (· first | rfl | assumption | (refine decide_eq_true ?_; first | assumption | omega) | (refine nt ?_; first | assumption | omega) | (simp [*]; done))) | (refine m_pick_f rfl ?_ (by conv => lhs; whnf) ?_; (· first | rfl | assumption | (refine decide_eq_false ?_; first | assumption | omega) | (refine nf ?_; first | assumption | omega) | (simp [*]; done))) | (refine m_cut_hi rfl rfl ?_ ?_ ?_; (· first | rfl | omega | simp); (· first | omega | (simp; omega))) | (refine m_cut_lo rfl rfl ?_ ?_ ?_; (· first | rfl | omega | simp); (· first | omega | (simp; omega))) | (refine m_nils ?_) | (refine m_bsl1 rfl rfl ?_) | (refine m_app1i rfl (by decide) (by rfl) (by first | rfl | omega | (simp; done)) rfl rfl ?_ (by decide) ?_; (· first | omega | (simp; omega))) | (refine m_app1 rfl (by decide) rfl (by first | (simp; done) | (simp [*]; done) | (simp; omega)) rfl rfl rfl ?_ (by decide) ?_; (· first | omega | (simp; omega))) | (refine m_appro rfl (by decide) rfl (by first | rfl | (simp; done) | (simp [*]; done) | (simp; omega)) rfl (oks_ints _) ?_ (by decide) ?_; (· first | omega | (simp; omega))))) | (refine g_noT rfl ?_ ?_; (· first | rfl | assumption | (refine decide_eq_false ?_; first | assumption | omega) | (refine nf ?_; first | assumption | omega) | (simp [*]; done))))) | refine end_ops ?_ | refine seq_ops ?_ | refine AW_ops ?_ | (refine cond_t rfl ?_ ?_; (· first | rfl | assumption | (refine decide_eq_true ?_; first | assumption | omega) | (refine nt ?_; first | assumption | omega) | (simp [*]; done))) | (refine cond_f rfl ?_ ?_; (· first | rfl | assumption | (refine decide_eq_false ?_; first | assumption | omega) | (refine nf ?_; first | assumption | omega) | (simp [*]; done))) | refine skip_then ?_ | refine AW_seq ?_ | refine AW_ret ?_ | refine ret_done ?_ | refine norm_then ?_ | refine ret_then ?_ | refine exit_then ?_ | refine AW_block ?_ | refine norm_block ?_ | refine ret_block ?_ | refine ret_round ?_ | refine exit_round ?_ | refine AW_exit ?_ | refine exit_block ?_ | (refine exit_other ?_ ?_; (· decide)))
        rw [hr1]
        exact outs_tup2 (outs_ints rfl rfl rfl) (outs_b rfl)
      · obtain ⟨q, hq⟩ : ∃ q, M.length = q + 1 := ⟨M.length - 1, by omega⟩
        have hx := hMb _ (getD_mem (show q < M.length by omega))
        obtain ⟨k, hk⟩ := Int.eq_ofNat_of_zero_le hx.1
        have hlen : (M.take q).length = q := List.length_take_of_le (by omega)
        have hsp : M = M.take q ++ [(k : Int)] := by
          have h1 := take_snoc M q 0 (by omega)
          rw [List.take_of_length_le (by omega), hk] at h1
          exact h1
        have hgo : goAt fits n M y = goAt fits n (M.take q) (k + 1) := by
          conv => lhs; rw [hsp]
          rw [goAt_back _ _ (by omega) (by omega), Int.toNat_natCast]
        have hms : goMeas n (M.take q) (k + 1) < goMeas n M y := by
          have := goMeas_back (n := n) (l := M.take q) (x := (k : Int)) (g := y) (by omega)
          rw [← hsp, Int.toNat_natCast] at this
          exact this
        clear hsp
        repeat (first | (refine step_ops ?_; (first | ((try (refine g_yes rfl ?_ ?_; (· first | rfl | assumption | (refine decide_eq_true ?_; first | assumption | omega) | (refine nt ?_; first | assumption | omega) | (simp [*]; done) | (refine decide_eq_false ?_; first | assumption | omega) | (refine nf ?_; first | assumption | omega)))); (first | (refine m_mov (by conv => lhs; whnf) ?_) | (refine m_lss rfl rfl ?_) | (refine m_eql rfl rfl ?_) | (refine m_eqk rfl rfl ?_) | (refine m_eqs rfl rfl ?_) | (refine m_add rfl rfl ?_ ?_ ?_; (· omega); (· omega)) | (refine m_adds rfl rfl ?_ ?_; (· first | omega | (simp; omega))) | (refine m_sub rfl rfl ?_ ?_ ?_; (· omega); (· omega)) | (refine m_len_ro rfl ?_) | (refine m_len_sl rfl ?_) | (refine m_len_nil rfl ?_) | (refine m_idx1_ro rfl rfl ?_ ?_; (· omega)) | (refine m_idx1_sl rfl rfl ?_ ?_; (· omega)) | (apply m_idx1_slj; (· rfl); (· rfl); (· assumption); (· omega)) | (apply m_idx1_roj; (· rfl); (· rfl); (· assumption); (· omega)) | (refine m_idx_ro rfl rfl ?_ ?_ ?_; (· omega); (· omega)) | (refine m_idx_sl rfl rfl ?_ ?_ ?_; (· omega); (· omega)) | (refine m_ld_rpi rfl ?_ ?_; (· omega)) | (refine m_ld_pti rfl (by rfl) ?_ ?_; (· first | omega | (simp; omega))) | (apply m_ld_ptb; (· rfl); (· rfl); (· assumption)) | (apply m_ld_rp; (· rfl); (· rfl)) | (apply m_ld_pt; (· rfl); (· rfl); (· rfl)) | (refine m_pick_t rfl ?_ (by conv => lhs; whnf) ?_; (· first | rfl | assumption | (refine decide_eq_true ?_; first | assumption | omega) | (refine nt ?_; first | assumption | omega) | (simp [*]; done))) | (refine m_pick_f rfl ?_ (by conv => lhs; whnf) ?_; (· first | rfl | assumption | (refine decide_eq_false ?_; first | assumption | omega) | (refine nf ?_; first | assumption | omega) | (simp [*]; done))) | (refine m_cut_hi rfl rfl ?_ ?_ ?_; (· first | rfl | omega | simp); (· first | omega | (simp; omega))) | (refine m_cut_lo rfl rfl ?_ ?_ ?_; (· first | rfl | omega | simp); (· first | omega | (simp; omega))) | (refine m_nils ?_) | (refine m_bsl1 rfl rfl ?_) | (refine m_app1i rfl (by decide) (by rfl) (by first | rfl | omega | (simp; done)) rfl rfl ?_ (by decide) ?_; (· first | omega | (simp; omega))) | (refine m_app1 rfl (by decide) rfl (by first | (simp; done) | (simp [*]; done) | (simp; omega)) rfl rfl rfl ?_ (by decide) ?_; (· first | omega | (simp; omega))) | (refine m_appro rfl (by decide) rfl (by first | rfl | (simp; done) | (simp [*]; done) | (simp; omega)) rfl (oks_ints _) ?_ (by decide) ?_; (· first | omega | (simp; omega))))) | (refine g_noT rfl ?_ ?_; (· first | rfl | assumption | (refine decide_eq_false ?_; first | assumption | omega) | (refine nf ?_; first | assumption | omega) | (simp [*]; done))))) | refine end_ops ?_ | refine seq_ops ?_ | refine AW_ops ?_ | (refine cond_t rfl ?_ ?_; (· first | rfl | assumption | (refine decide_eq_true ?_; first | assumption | omega) | (refine nt ?_; first | assumption | omega) | (simp [*]; done))) | (refine cond_f rfl ?_ ?_; (· first | rfl | assumption | (refine decide_eq_false ?_; first | assumption | omega) | (refine nf ?_; first | assumption | omega) | (simp [*]; done))) | refine skip_then ?_ | refine AW_seq ?_ | refine AW_ret ?_ | refine ret_done ?_ | refine norm_then ?_ | refine ret_then ?_ | refine exit_then ?_ | refine AW_block ?_ | refine norm_block ?_ | refine ret_block ?_ | refine ret_round ?_ | refine exit_round ?_ | refine AW_exit ?_ | refine exit_block ?_ | (refine exit_other ?_ ?_; (· decide)))
        rw [show (M.length : Int) - 1 = (q : Int) by omega]
        repeat (first | (refine step_ops ?_; (first | ((try (refine g_yes rfl ?_ ?_; (· first | rfl | assumption | (refine decide_eq_true ?_; first | assumption | omega) | (refine nt ?_; first | assumption | omega) | (simp [*]; done) | (refine decide_eq_false ?_; first | assumption | omega) | (refine nf ?_; first | assumption | omega)))); (first | (refine m_mov (by conv => lhs; whnf) ?_) | (refine m_lss rfl rfl ?_) | (refine m_eql rfl rfl ?_) | (refine m_eqk rfl rfl ?_) | (refine m_eqs rfl rfl ?_) | (refine m_add rfl rfl ?_ ?_ ?_; (· omega); (· omega)) | (refine m_adds rfl rfl ?_ ?_; (· first | omega | (simp; omega))) | (refine m_sub rfl rfl ?_ ?_ ?_; (· omega); (· omega)) | (refine m_len_ro rfl ?_) | (refine m_len_sl rfl ?_) | (refine m_len_nil rfl ?_) | (refine m_idx1_ro rfl rfl ?_ ?_; (· omega)) | (refine m_idx1_sl rfl rfl ?_ ?_; (· omega)) | (apply m_idx1_slj; (· rfl); (· rfl); (· assumption); (· omega)) | (apply m_idx1_roj; (· rfl); (· rfl); (· assumption); (· omega)) | (refine m_idx_ro rfl rfl ?_ ?_ ?_; (· omega); (· omega)) | (refine m_idx_sl rfl rfl ?_ ?_ ?_; (· omega); (· omega)) | (refine m_ld_rpi rfl ?_ ?_; (· omega)) | (refine m_ld_pti rfl (by rfl) ?_ ?_; (· first | omega | (simp; omega))) | (apply m_ld_ptb; (· rfl); (· rfl); (· assumption)) | (apply m_ld_rp; (· rfl); (· rfl)) | (apply m_ld_pt; (· rfl); (· rfl); (· rfl)) | (refine m_pick_t rfl ?_ (by conv => lhs; whnf) ?_; (· first | rfl | assumption | (refine decide_eq_true ?_; first | assumption | omega) | (refine nt ?_; first | assumption | omega) | (simp [*]; done))) | (refine m_pick_f rfl ?_ (by conv => lhs; whnf) ?_; (· first | rfl | assumption | (refine decide_eq_false ?_; first | assumption | omega) | (refine nf ?_; first | assumption | omega) | (simp [*]; done))) | (refine m_cut_hi rfl rfl ?_ ?_ ?_; (· first | rfl | omega | simp); (· first | omega | (simp; omega))) | (refine m_cut_lo rfl rfl ?_ ?_ ?_; (· first | rfl | omega | simp); (· first | omega | (simp; omega))) | (refine m_nils ?_) | (refine m_bsl1 rfl rfl ?_) | (refine m_app1i rfl (by decide) (by rfl) (by first | rfl | omega | (simp; done)) rfl rfl ?_ (by decide) ?_; (· first | omega | (simp; omega))) | (refine m_app1 rfl (by decide) rfl (by first | (simp; done) | (simp [*]; done) | (simp; omega)) rfl rfl rfl ?_ (by decide) ?_; (· first | omega | (simp; omega))) | (refine m_appro rfl (by decide) rfl (by first | rfl | (simp; done) | (simp [*]; done) | (simp; omega)) rfl (oks_ints _) ?_ (by decide) ?_; (· first | omega | (simp; omega))))) | (refine g_noT rfl ?_ ?_; (· first | rfl | assumption | (refine decide_eq_false ?_; first | assumption | omega) | (refine nf ?_; first | assumption | omega) | (simp [*]; done))))) | refine end_ops ?_ | refine seq_ops ?_ | refine AW_ops ?_ | (refine cond_t rfl ?_ ?_; (· first | rfl | assumption | (refine decide_eq_true ?_; first | assumption | omega) | (refine nt ?_; first | assumption | omega) | (simp [*]; done))) | (refine cond_f rfl ?_ ?_; (· first | rfl | assumption | (refine decide_eq_false ?_; first | assumption | omega) | (refine nf ?_; first | assumption | omega) | (simp [*]; done))) | refine skip_then ?_ | refine AW_seq ?_ | refine AW_ret ?_ | refine ret_done ?_ | refine norm_then ?_ | refine ret_then ?_ | refine exit_then ?_ | refine AW_block ?_ | refine norm_block ?_ | refine ret_block ?_ | refine ret_round ?_ | refine exit_round ?_ | refine AW_exit ?_ | refine exit_block ?_ | (refine exit_other ?_ ?_; (· decide)))
        rw [show M.getD (0 + (q : Int).toNat * 1) 0 = (k : Int) by rw [Int.toNat_natCast, Nat.zero_add, Nat.mul_one]; exact hk]
        repeat (first | (refine step_ops ?_; (first | ((try (refine g_yes rfl ?_ ?_; (· first | rfl | assumption | (refine decide_eq_true ?_; first | assumption | omega) | (refine nt ?_; first | assumption | omega) | (simp [*]; done) | (refine decide_eq_false ?_; first | assumption | omega) | (refine nf ?_; first | assumption | omega)))); (first | (refine m_mov (by conv => lhs; whnf) ?_) | (refine m_lss rfl rfl ?_) | (refine m_eql rfl rfl ?_) | (refine m_eqk rfl rfl ?_) | (refine m_eqs rfl rfl ?_) | (refine m_add rfl rfl ?_ ?_ ?_; (· omega); (· omega)) | (refine m_adds rfl rfl ?_ ?_; (· first | omega | (simp; omega))) | (refine m_sub rfl rfl ?_ ?_ ?_; (· omega); (· omega)) | (refine m_len_ro rfl ?_) | (refine m_len_sl rfl ?_) | (refine m_len_nil rfl ?_) | (refine m_idx1_ro rfl rfl ?_ ?_; (· omega)) | (refine m_idx1_sl rfl rfl ?_ ?_; (· omega)) | (apply m_idx1_slj; (· rfl); (· rfl); (· assumption); (· omega)) | (apply m_idx1_roj; (· rfl); (· rfl); (· assumption); (· omega)) | (refine m_idx_ro rfl rfl ?_ ?_ ?_; (· omega); (· omega)) | (refine m_idx_sl rfl rfl ?_ ?_ ?_; (· omega); (· omega)) | (refine m_ld_rpi rfl ?_ ?_; (· omega)) | (refine m_ld_pti rfl (by rfl) ?_ ?_; (· first | omega | (simp; omega))) | (apply m_ld_ptb; (· rfl); (· rfl); (· assumption)) | (apply m_ld_rp; (· rfl); (· rfl)) | (apply m_ld_pt; (· rfl); (· rfl); (· rfl)) | (refine m_pick_t rfl ?_ (by conv => lhs; whnf) ?_; (· first | rfl | assumption | (refine decide_eq_true ?_; first | assumption | omega) | (refine nt ?_; first | assumption | omega) | (simp [*]; done))) | (refine m_pick_f rfl ?_ (by conv => lhs; whnf) ?_; (· first | rfl | assumption | (refine decide_eq_false ?_; first | assumption | omega) | (refine nf ?_; first | assumption | omega) | (simp [*]; done))) | (refine m_cut_hi rfl rfl ?_ ?_ ?_; (· first | rfl | omega | simp); (· first | omega | (simp; omega))) | (refine m_cut_lo rfl rfl ?_ ?_ ?_; (· first | rfl | omega | simp); (· first | omega | (simp; omega))) | (refine m_nils ?_) | (refine m_bsl1 rfl rfl ?_) | (refine m_app1i rfl (by decide) (by rfl) (by first | rfl | omega | (simp; done)) rfl rfl ?_ (by decide) ?_; (· first | omega | (simp; omega))) | (refine m_app1 rfl (by decide) rfl (by first | (simp; done) | (simp [*]; done) | (simp; omega)) rfl rfl rfl ?_ (by decide) ?_; (· first | omega | (simp; omega))) | (refine m_appro rfl (by decide) rfl (by first | rfl | (simp; done) | (simp [*]; done) | (simp; omega)) rfl (oks_ints _) ?_ (by decide) ?_; (· first | omega | (simp; omega))))) | (refine g_noT rfl ?_ ?_; (· first | rfl | assumption | (refine decide_eq_false ?_; first | assumption | omega) | (refine nf ?_; first | assumption | omega) | (simp [*]; done))))) | refine end_ops ?_ | refine seq_ops ?_ | refine AW_ops ?_ | (refine cond_t rfl ?_ ?_; (· first | rfl | assumption | (refine decide_eq_true ?_; first | assumption | omega) | (refine nt ?_; first | assumption | omega) | (simp [*]; done))) | (refine cond_f rfl ?_ ?_; (· first | rfl | assumption | (refine decide_eq_false ?_; first | assumption | omega) | (refine nf ?_; first | assumption | omega) | (simp [*]; done))) | refine skip_then ?_ | refine AW_seq ?_ | refine AW_ret ?_ | refine ret_done ?_ | refine norm_then ?_ | refine ret_then ?_ | refine exit_then ?_ | refine AW_block ?_ | refine norm_block ?_ | refine ret_block ?_ | refine ret_round ?_ | refine exit_round ?_ | refine AW_exit ?_ | refine exit_block ?_ | (refine exit_other ?_ ?_; (· decide)))
        refine step_ops ?_
        refine m_cut_sl (l := 0) (h := q) rfl rfl ⟨_, rfl⟩ (Nat.zero_le _) (by omega) ?_
        repeat (first | (refine step_ops ?_; (first | ((try (refine g_yes rfl ?_ ?_; (· first | rfl | assumption | (refine decide_eq_true ?_; first | assumption | omega) | (refine nt ?_; first | assumption | omega) | (simp [*]; done) | (refine decide_eq_false ?_; first | assumption | omega) | (refine nf ?_; first | assumption | omega)))); (first | (refine m_mov (by conv => lhs; whnf) ?_) | (refine m_lss rfl rfl ?_) | (refine m_eql rfl rfl ?_) | (refine m_eqk rfl rfl ?_) | (refine m_eqs rfl rfl ?_) | (refine m_add rfl rfl ?_ ?_ ?_; (· omega); (· omega)) | (refine m_adds rfl rfl ?_ ?_; (· first | omega | (simp; omega))) | (refine m_sub rfl rfl ?_ ?_ ?_; (· omega); (· omega)) | (refine m_len_ro rfl ?_) | (refine m_len_sl rfl ?_) | (refine m_len_nil rfl ?_) | (refine m_idx1_ro rfl rfl ?_ ?_; (· omega)) | (refine m_idx1_sl rfl rfl ?_ ?_; (· omega)) | (apply m_idx1_slj; (· rfl); (· rfl); (· assumption); (· omega)) | (apply m_idx1_roj; (· rfl); (· rfl); (· assumption); (· omega)) | (refine m_idx_ro rfl rfl ?_ ?_ ?_; (· omega); (· omega)) | (refine m_idx_sl rfl rfl ?_ ?_ ?_; (· omega); (· omega)) | (refine m_ld_rpi rfl ?_ ?_; (· omega)) | (refine m_ld_pti rfl (by rfl) ?_ ?_; (· first | omega | (simp; omega))) | (apply m_ld_ptb; (· rfl); (· rfl); (· assumption)) | (apply m_ld_rp; (· rfl); (· rfl)) | (apply m_ld_pt; (· rfl); (· rfl); (· rfl)) | (refine m_pick_t rfl ?_ (by conv => lhs; whnf) ?_; (· first | rfl | assumption | (refine decide_eq_true ?_; first | assumption | omega) | (refine nt ?_; first | assumption | omega) | (simp [*]; done))) | (refine m_pick_f rfl ?_ (by conv => lhs; whnf) ?_; (· first | rfl | assumption | (refine decide_eq_false ?_; first | assumption | omega) | (refine nf ?_; first | assumption | omega) | (simp [*]; done))) | (refine m_cut_hi rfl rfl ?_ ?_ ?_; (· first | rfl | omega | simp); (· first | omega | (simp; omega))) | (refine m_cut_lo rfl rfl ?_ ?_ ?_; (· first | rfl | omega | simp); (· first | omega | (simp; omega))) | (refine m_nils ?_) | (refine m_bsl1 rfl rfl ?_) | (refine m_app1i rfl (by decide) (by rfl) (by first | rfl | omega | (simp; done)) rfl rfl ?_ (by decide) ?_; (· first | omega | (simp; omega))) | (refine m_app1 rfl (by decide) rfl (by first | (simp; done) | (simp [*]; done) | (simp; omega)) rfl rfl rfl ?_ (by decide) ?_; (· first | omega | (simp; omega))) | (refine m_appro rfl (by decide) rfl (by first | rfl | (simp; done) | (simp [*]; done) | (simp; omega)) rfl (oks_ints _) ?_ (by decide) ?_; (· first | omega | (simp; omega))))) | (refine g_noT rfl ?_ ?_; (· first | rfl | assumption | (refine decide_eq_false ?_; first | assumption | omega) | (refine nf ?_; first | assumption | omega) | (simp [*]; done))))) | refine end_ops ?_ | refine seq_ops ?_ | refine AW_ops ?_ | (refine cond_t rfl ?_ ?_; (· first | rfl | assumption | (refine decide_eq_true ?_; first | assumption | omega) | (refine nt ?_; first | assumption | omega) | (simp [*]; done))) | (refine cond_f rfl ?_ ?_; (· first | rfl | assumption | (refine decide_eq_false ?_; first | assumption | omega) | (refine nf ?_; first | assumption | omega) | (simp [*]; done))) | refine skip_then ?_ | refine AW_seq ?_ | refine AW_ret ?_ | refine ret_done ?_ | refine norm_then ?_ | refine ret_then ?_ | refine exit_then ?_ | refine AW_block ?_ | refine norm_block ?_ | refine ret_block ?_ | refine ret_round ?_ | refine exit_round ?_ | refine AW_exit ?_ | refine exit_block ?_ | (refine exit_other ?_ ?_; (· decide)))
        refine next_round (M.take q, k + 1) ⟨by show (M.take q).length ≤ _; omega, fun x hx => hMb x (List.mem_of_mem_take hx), by show k + 1 ≤ n; omega, by rw [← hres]; exact congrArg _ hgo.symm⟩ (Weak.trans (weak_shrink 10 q rfl (allv_ints _)) (weak_st ?_ ?_ ?_ rfl)) hms
        · rw [hlen]
          (repeat' (first | exact trivial | refine And.intro ?_ ?_)) <;> (first | rfl | skip)
          all_goals (simp (disch := decide) [tm_put_ne', tm_put_none, tm_mem, tm_kill, tm_mv, tm_st, tm_en0, tm_en1, tm_en2, tm_en3, tm_en4, Am.look, kill_fn A.nokill, mv_fn A.nokill])
        · rw [List.map_take]
          exact ⟨rfl, trivial⟩
        · simp [refsT, refsV, A.norefs, Am.look]
theorem firstFitting_spec {f : FuncId} {fl : List AV} {kk : Nat} {n : Nat} {fits : List Int → Nat → Bool} (A : AsksK Try.prog f fl kk n fits) (hn : n ≤ 1000) (h1 : 1 ≤ n) :
    Sp Try.prog 50 [.i n, .fn f fl kk] (srchR (goOn fits n n []).head?) := by
  have hs := fittingFrom_spec A [] 0 hn h1 (fun x hx => by simp at hx) (Nat.zero_le _)
  rw [goAt_start _ _ h1] at hs
  unfold srchR at hs ⊢
  generalize hsr : (goOn fits n n []).head? = sr at hs ⊢
  refine spec_of Try.func50 rfl cc50 rfl ?_
  unfold ac50
  repeat (first | (refine step_ops ?_; (first | (refine m_mov (by conv => lhs; whnf) ?_) | (refine m_nils ?_) | (refine m_ext rfl rfl ?_))) | refine end_ops ?_ | refine seq_ops ?_ | refine AW_ops ?_ | refine AW_seq ?_ | refine AW_ret ?_ | refine ret_done ?_ | refine norm_then ?_ | refine ret_then ?_ | refine exit_then ?_)
  refine step_ops ?_
  refine m_callt hs ?_ (allv_ints _) rfl ?_
  · refine lends_cons lend_v (lends_cons lend_nil (lends_cons lend_v (lends_cons ?_ lends_nil)))
    rw [show AS.ev _ (.t 7) = AV.fn f fl kk by (show killV 4 (AV.fn f fl kk) = _; exact kill_fn A.nokill)]
    exact lend_bears A.bears
  repeat (first | (refine step_ops ?_; (first | (refine m_mov (by conv => lhs; whnf) ?_) | (refine m_nils ?_) | (refine m_ext rfl rfl ?_))) | refine end_ops ?_ | refine seq_ops ?_ | refine AW_ops ?_ | refine AW_seq ?_ | refine AW_ret ?_ | refine ret_done ?_ | refine norm_then ?_ | refine ret_then ?_ | refine exit_then ?_)
  exact outs_tup2 (outs_ints rfl rfl rfl) (outs_b rfl)
theorem nextFitting_spec {f : FuncId} {fl : List AV} {kk : Nat} {n : Nat} {fits : List Int → Nat → Bool} (A : AsksK Try.prog f fl kk n fits) (hn : n ≤ 1000) (h1 : 1 ≤ n) (L : List Int) (hL : L.length = n) (hb : ∀ x ∈ L, 0 ≤ x ∧ x < n) :
    Sp Try.prog 51 [ints L, .fn f fl kk] (srchR ((goOn fits n n []).find? (fun m => comesB L m))) := by
  have hbb : ∀ i < n, ∃ g : Nat, L.getD i 0 = g ∧ g < n := fun i hi => by
    have hr := hb _ (getD_mem (show i < L.length by omega))
    obtain ⟨q, hq⟩ := Int.eq_ofNat_of_zero_le hr.1
    exact ⟨q, hq, by omega⟩
  unfold srchR
  refine spec_of Try.func51 rfl cc51 rfl ?_
  unfold ac51
  repeat (first | ((first | refine step_ops ?_ | refine step_tree ?_); (first | ((try (refine g_yes rfl ?_ ?_; (· first | rfl | assumption | (refine decide_eq_true ?_; first | assumption | omega) | (refine nt ?_; first | assumption | omega) | (simp [*]; done) | (refine decide_eq_false ?_; first | assumption | omega) | (refine nf ?_; first | assumption | omega)))); (first | (refine m_mov (by conv => lhs; whnf) ?_) | (refine m_lss rfl rfl ?_) | (refine m_add rfl rfl ?_ ?_ ?_; (· omega); (· omega)) | (refine m_adds rfl rfl ?_ ?_; (· first | omega | (simp; omega))) | (refine m_sub rfl rfl ?_ ?_ ?_; (· omega); (· omega)) | (refine m_len_ro rfl ?_) | (refine m_len_sl rfl ?_) | (refine m_len_nil rfl ?_) | (refine m_idx1_ro rfl rfl ?_ ?_; (· omega)) | (refine m_idx1_sl rfl rfl ?_ ?_; (· omega)) | (apply m_idx1_slj; (· rfl); (· rfl); (· assumption); (· omega)) | (apply m_idx1_roj; (· rfl); (· rfl); (· assumption); (· omega)) | (refine m_idx_ro rfl rfl ?_ ?_ ?_; (· omega); (· omega)) | (refine m_idx_sl rfl rfl ?_ ?_ ?_; (· omega); (· omega)) | (refine m_ld_rpi rfl ?_ ?_; (· omega)) | (refine m_ld_pti rfl (by rfl) ?_ ?_; (· first | omega | (simp; omega))) | (apply m_ld_ptb; (· rfl); (· rfl); (· assumption)) | (apply m_ld_rp; (· rfl); (· rfl)) | (apply m_ld_pt; (· rfl); (· rfl); (· rfl)) | (refine m_pick_t rfl ?_ (by conv => lhs; whnf) ?_; (· first | rfl | assumption | (refine decide_eq_true ?_; first | assumption | omega) | (refine nt ?_; first | assumption | omega) | (simp [*]; done))) | (refine m_pick_f rfl ?_ (by conv => lhs; whnf) ?_; (· first | rfl | assumption | (refine decide_eq_false ?_; first | assumption | omega) | (refine nf ?_; first | assumption | omega) | (simp [*]; done))) | (refine m_cut_hi rfl rfl ?_ ?_ ?_; (· first | rfl | omega | simp); (· first | omega | (simp; omega))) | (refine m_cut_lo rfl rfl ?_ ?_ ?_; (· first | rfl | omega | simp); (· first | omega | (simp; omega))) | (refine m_nils ?_) | (refine m_ext rfl rfl ?_))) | (refine g_noT rfl ?_ ?_; (· first | rfl | assumption | (refine decide_eq_false ?_; first | assumption | omega) | (refine nf ?_; first | assumption | omega) | (simp [*]; done))))) | refine end_ops ?_ | refine seq_ops ?_ | refine AW_ops ?_ | refine end_tree ?_ | refine seq_tree ?_ | refine AW_tree ?_ | (refine cond_t rfl ?_ ?_; (· first | rfl | assumption | (refine decide_eq_true ?_; first | assumption | omega) | (refine nt ?_; first | assumption | omega) | (simp [*]; done))) | (refine cond_f rfl ?_ ?_; (· first | rfl | assumption | (refine decide_eq_false ?_; first | assumption | omega) | (refine nf ?_; first | assumption | omega) | (simp [*]; done))) | refine skip_then ?_ | refine AW_seq ?_ | refine AW_ret ?_ | refine ret_done ?_ | refine norm_then ?_ | refine ret_then ?_ | refine exit_then ?_ | refine AW_block ?_ | refine norm_block ?_ | refine ret_block ?_ | refine ret_round ?_ | refine exit_round ?_ | refine AW_exit ?_ | refine exit_block ?_ | (refine exit_other ?_ ?_; (· decide)) | refine AW_skip ?_)
  refine AW_loop (α := Nat) (fun k => k < n ∧ ∀ i < k, fits (L.take i) (L.getD i 0).toNat = true) (fun k => st [(0, ints L), (1, .fn f fl kk), (6, .i k)] []) (fun k => n - k) 0 ⟨by omega, fun i hi => by omega⟩ (weak_st ?_ ?_ ?_ rfl) ?_
  · (repeat' (first | exact trivial | refine And.intro ?_ ?_)) <;> (first | rfl | skip)
    all_goals (simp (disch := decide) [tm_put_ne', tm_mem, tm_kill, tm_en1, kill_fn A.nokill])
  · exact trivial
  · simp [refsT, refsV, A.norefs, Am.look]
  rintro k ⟨hk, ha⟩
  obtain ⟨j, hj, hjn⟩ := hbb k hk
  have hlt : (L.take k).length = k := List.length_take_of_le (by omega)
  have hend : fits (L.take k) (L.getD k 0).toNat = false ∨ k + 1 = n → Sp Try.prog 54 [.i n, ints (L.take k), .i (j + 1), .fn f fl kk] (srchR ((goOn fits n n []).find? (fun m => comesB L m))) := by
    intro he
    rw [find_behind fits n hL hbb hk ha he, hj, Int.toNat_natCast]
    exact fittingFrom_spec A (L.take k) (j + 1) hn (by omega) (fun x hx => hb x (List.mem_of_mem_take hx)) (by omega)
  unfold srchR at hend
  generalize hsr : (goOn fits n n []).find? (fun m => comesB L m) = sr at hend ⊢
  by_cases hc : (k : Int) < L.length - 1
  · have hsp := A.spec (L.take k) j (by omega) (fun x hx => hb x (List.mem_of_mem_take hx)) hjn
    by_cases hf : fits (L.take k) j = true
    · repeat (first | ((first | refine step_ops ?_ | refine step_tree ?_); (first | ((try (refine g_yes rfl ?_ ?_; (· first | rfl | assumption | (refine decide_eq_true ?_; first | assumption | omega) | (refine nt ?_; first | assumption | omega) | (simp [*]; done) | (refine decide_eq_false ?_; first | assumption | omega) | (refine nf ?_; first | assumption | omega)))); (first | (refine m_mov (by conv => lhs; whnf) ?_) | (refine m_lss rfl rfl ?_) | (refine m_add rfl rfl ?_ ?_ ?_; (· omega); (· omega)) | (refine m_adds rfl rfl ?_ ?_; (· first | omega | (simp; omega))) | (refine m_sub rfl rfl ?_ ?_ ?_; (· omega); (· omega)) | (refine m_len_ro rfl ?_) | (refine m_len_sl rfl ?_) | (refine m_len_nil rfl ?_) | (refine m_idx1_ro rfl rfl ?_ ?_; (· omega)) | (refine m_idx1_sl rfl rfl ?_ ?_; (· omega)) | (apply m_idx1_slj; (· rfl); (· rfl); (· assumption); (· omega)) | (apply m_idx1_roj; (· rfl); (· rfl); (· assumption); (· omega)) | (refine m_idx_ro rfl rfl ?_ ?_ ?_; (· omega); (· omega)) | (refine m_idx_sl rfl rfl ?_ ?_ ?_; (· omega); (· omega)) | (refine m_ld_rpi rfl ?_ ?_; (· omega)) | (refine m_ld_pti rfl (by rfl) ?_ ?_; (· first | omega | (simp; omega))) | (apply m_ld_ptb; (· rfl); (· rfl); (· assumption)) | (apply m_ld_rp; (· rfl); (· rfl)) | (apply m_ld_pt; (· rfl); (· rfl); (· rfl)) | (refine m_pick_t rfl ?_ (by conv => lhs; whnf) ?_; (· first | rfl | assumption | (refine decide_eq_true ?_; first | assumption | omega) | (refine nt ?_; first | assumption | omega) | (simp [*]; done))) | (refine m_pick_f rfl ?_ (by conv => lhs; whnf) ?_; (· first | rfl | assumption | (refine decide_eq_false ?_; first | assumption | omega) | (refine nf ?_; first | assumption | omega) | (simp [*]; done))) | (refine m_cut_hi rfl rfl ?_ ?_ ?_; (· first | rfl | omega | simp); (· first | omega | (simp; omega))) | (refine m_cut_lo rfl rfl ?_ ?_ ?_; (· first | rfl | omega | simp); (· first | omega | (simp; omega))) | (refine m_nils ?_) | (refine m_ext rfl rfl ?_))) | (refine g_noT rfl ?_ ?_; (· first | rfl | assumption | (refine decide_eq_false ?_; first | assumption | omega) | (refine nf ?_; first | assumption | omega) | (simp [*]; done))))) | refine end_ops ?_ | refine seq_ops ?_ | refine AW_ops ?_ | refine end_tree ?_ | refine seq_tree ?_ | refine AW_tree ?_ | (refine cond_t rfl ?_ ?_; (· first | rfl | assumption | (refine decide_eq_true ?_; first | assumption | omega) | (refine nt ?_; first | assumption | omega) | (simp [*]; done))) | (refine cond_f rfl ?_ ?_; (· first | rfl | assumption | (refine decide_eq_false ?_; first | assumption | omega) | (refine nf ?_; first | assumption | omega) | (simp [*]; done))) | refine skip_then ?_ | refine AW_seq ?_ | refine AW_ret ?_ | refine ret_done ?_ | refine norm_then ?_ | refine ret_then ?_ | refine exit_then ?_ | refine AW_block ?_ | refine norm_block ?_ | refine ret_block ?_ | refine ret_round ?_ | refine exit_round ?_ | refine AW_exit ?_ | refine exit_block ?_ | (refine exit_other ?_ ?_; (· decide)) | refine AW_skip ?_)
      rw [hj]
      repeat (first | ((first | refine step_ops ?_ | refine step_tree ?_); (first | ((try (refine g_yes rfl ?_ ?_; (· first | rfl | assumption | (refine decide_eq_true ?_; first | assumption | omega) | (refine nt ?_; first | assumption | omega) | (simp [*]; done) | (refine decide_eq_false ?_; first | assumption | omega) | (refine nf ?_; first | assumption | omega)))); (first | (refine m_mov (by conv => lhs; whnf) ?_) | (refine m_lss rfl rfl ?_) | (refine m_add rfl rfl ?_ ?_ ?_; (· omega); (· omega)) | (refine m_adds rfl rfl ?_ ?_; (· first | omega | (simp; omega))) | (refine m_sub rfl rfl ?_ ?_ ?_; (· omega); (· omega)) | (refine m_len_ro rfl ?_) | (refine m_len_sl rfl ?_) | (refine m_len_nil rfl ?_) | (refine m_idx1_ro rfl rfl ?_ ?_; (· omega)) | (refine m_idx1_sl rfl rfl ?_ ?_; (· omega)) | (apply m_idx1_slj; (· rfl); (· rfl); (· assumption); (· omega)) | (apply m_idx1_roj; (· rfl); (· rfl); (· assumption); (· omega)) | (refine m_idx_ro rfl rfl ?_ ?_ ?_; (· omega); (· omega)) | (refine m_idx_sl rfl rfl ?_ ?_ ?_; (· omega); (· omega)) | (refine m_ld_rpi rfl ?_ ?_; (· omega)) | (refine m_ld_pti rfl (by rfl) ?_ ?_; (· first | omega | (simp; omega))) | (apply m_ld_ptb; (· rfl); (· rfl); (· assumption)) | (apply m_ld_rp; (· rfl); (· rfl)) | (apply m_ld_pt; (· rfl); (· rfl); (· rfl)) | (refine m_pick_t rfl ?_ (by conv => lhs; whnf) ?_; (· first | rfl | assumption | (refine decide_eq_true ?_; first | assumption | omega) | (refine nt ?_; first | assumption | omega) | (simp [*]; done))) | (refine m_pick_f rfl ?_ (by conv => lhs; whnf) ?_; (· first | rfl | assumption | (refine decide_eq_false ?_; first | assumption | omega) | (refine nf ?_; first | assumption | omega) | (simp [*]; done))) | (refine m_cut_hi rfl rfl ?_ ?_ ?_; (· first | rfl | omega | simp); (· first | omega | (simp; omega))) | (refine m_cut_lo rfl rfl ?_ ?_ ?_; (· first | rfl | omega | simp); (· first | omega | (simp; omega))) | (refine m_nils ?_) | (refine m_ext rfl rfl ?_))) | (refine g_noT rfl ?_ ?_; (· first | rfl | assumption | (refine decide_eq_false ?_; first | assumption | omega) | (refine nf ?_; first | assumption | omega) | (simp [*]; done))))) | refine end_ops ?_ | refine seq_ops ?_ | refine AW_ops ?_ | refine end_tree ?_ | refine seq_tree ?_ | refine AW_tree ?_ | (refine cond_t rfl ?_ ?_; (· first | rfl | assumption | (refine decide_eq_true ?_; first | assumption | omega) | (refine nt ?_; first | assumption | omega) | (simp [*]; done))) | (refine cond_f rfl ?_ ?_; (· first | rfl | assumption | (refine decide_eq_false ?_; first | assumption | omega) | (refine nf ?_; first | assumption | omega) | (simp [*]; done))) | refine skip_then ?_ | refine AW_seq ?_ | refine AW_ret ?_ | refine ret_done ?_ | refine norm_then ?_ | refine ret_then ?_ | refine exit_then ?_ | refine AW_block ?_ | refine norm_block ?_ | refine ret_block ?_ | refine ret_round ?_ | refine exit_round ?_ | refine AW_exit ?_ | refine exit_block ?_ | (refine exit_other ?_ ?_; (· decide)) | refine AW_skip ?_)
      refine step_tree ?_
      refine g_yes rfl ?_ ?_
      · first | rfl | assumption | (refine decide_eq_true ?_; first | assumption | omega) | (refine nt ?_; first | assumption | omega) | (simp [*]; done)
      refine m_callf rfl A.call hsp ?_ ?_
      · exact asksK_lend A.bears rfl rfl (lends_cons (lend_ints rfl) (lends_cons lend_v lends_nil))
      repeat (first | ((first | refine step_ops ?_ | refine step_tree ?_); (first | ((try (refine g_yes rfl ?_ ?_; (· first | rfl | assumption | (refine decide_eq_true ?_; first | assumption | omega) | (refine nt ?_; first | assumption | omega) | (simp [*]; done) | (refine decide_eq_false ?_; first | assumption | omega) | (refine nf ?_; first | assumption | omega)))); (first | (refine m_mov (by conv => lhs; whnf) ?_) | (refine m_lss rfl rfl ?_) | (refine m_add rfl rfl ?_ ?_ ?_; (· omega); (· omega)) | (refine m_adds rfl rfl ?_ ?_; (· first | omega | (simp; omega))) | (refine m_sub rfl rfl ?_ ?_ ?_; (· omega); (· omega)) | (refine m_len_ro rfl ?_) | (refine m_len_sl rfl ?_) | (refine m_len_nil rfl ?_) | (refine m_idx1_ro rfl rfl ?_ ?_; (· omega)) | (refine m_idx1_sl rfl rfl ?_ ?_; (· omega)) | (apply m_idx1_slj; (· rfl); (· rfl); (· assumption); (· omega)) | (apply m_idx1_roj; (· rfl); (· rfl); (· assumption); (· omega)) | (refine m_idx_ro rfl rfl ?_ ?_ ?_; (· omega); (· omega)) | (refine m_idx_sl rfl rfl ?_ ?_ ?_; (· omega); (· omega)) | (refine m_ld_rpi rfl ?_ ?_; (· omega)) | (refine m_ld_pti rfl (by rfl) ?_ ?_; (· first | omega | (simp; omega))) | (apply m_ld_ptb; (· rfl); (· rfl); (· assumption)) | (apply m_ld_rp; (· rfl); (· rfl)) | (apply m_ld_pt; (· rfl); (· rfl); (· rfl)) | (refine m_pick_t rfl ?_ (by conv => lhs; whnf) ?_; (· first | rfl | assumption | (refine decide_eq_true ?_; first | assumption | omega) | (refine nt ?_; first | assumption | omega) | (simp [*]; done))) | (refine m_pick_f rfl ?_ (by conv => lhs; whnf) ?_; (· first | rfl | assumption | (refine decide_eq_false ?_; first | assumption | omega) | (refine nf ?_; first | assumption | omega) | (simp [*]; done))) | (refine m_cut_hi rfl rfl ?_ ?_ ?_; (· first | rfl | omega | simp); (· first | omega | (simp; omega))) | (refine m_cut_lo rfl rfl ?_ ?_ ?_; (· first | rfl | omega | simp); (· first | omega | (simp; omega))) | (refine m_nils ?_) | (refine m_ext rfl rfl ?_))) | (refine g_noT rfl ?_ ?_; (· first | rfl | assumption | (refine decide_eq_false ?_; first | assumption | omega) | (refine nf ?_; first | assumption | omega) | (simp [*]; done))))) | refine end_ops ?_ | refine seq_ops ?_ | refine AW_ops ?_ | refine end_tree ?_ | refine seq_tree ?_ | refine AW_tree ?_ | (refine cond_t rfl ?_ ?_; (· first | rfl | assumption | (refine decide_eq_true ?_; first | assumption | omega) | (refine nt ?_; first | assumption | omega) | (simp [*]; done))) | (refine cond_f rfl ?_ ?_; (· first | rfl | assumption | (refine decide_eq_false ?_; first | assumption | omega) | (refine nf ?_; first | assumption | omega) | (simp [*]; done))) | refine skip_then ?_ | refine AW_seq ?_ | refine AW_ret ?_ | refine ret_done ?_ | refine norm_then ?_ | refine ret_then ?_ | refine exit_then ?_ | refine AW_block ?_ | refine norm_block ?_ | refine ret_block ?_ | refine ret_round ?_ | refine exit_round ?_ | refine AW_exit ?_ | refine exit_block ?_ | (refine exit_other ?_ ?_; (· decide)) | refine AW_skip ?_)
      refine next_round (k + 1) ⟨by omega, fun i hi => ?_⟩ (weak_st ?_ ?_ ?_ rfl) ?_
      · by_cases hik : i = k
        · subst hik; rw [hj, Int.toNat_natCast]; exact hf
        · exact ha i (by omega)
      · (repeat' (first | exact trivial | refine And.intro ?_ ?_)) <;> (first | rfl | skip)
        all_goals (simp (disch := decide) [tm_put_ne', tm_put_none, tm_mem, tm_kill, tm_mv, tm_st, tm_en0, tm_en1, tm_en2, tm_en3, tm_en4, Am.look, kill_fn A.nokill, mv_fn A.nokill])
      · exact trivial
      · simp [refsT, refsV, A.norefs, Am.look]
      · omega
    · have hf : fits (L.take k) j = false := by simpa using hf
      have hs := hend (.inl (by rw [hj, Int.toNat_natCast]; exact hf))
      repeat (first | ((first | refine step_ops ?_ | refine step_tree ?_); (first | ((try (refine g_yes rfl ?_ ?_; (· first | rfl | assumption | (refine decide_eq_true ?_; first | assumption | omega) | (refine nt ?_; first | assumption | omega) | (simp [*]; done) | (refine decide_eq_false ?_; first | assumption | omega) | (refine nf ?_; first | assumption | omega)))); (first | (refine m_mov (by conv => lhs; whnf) ?_) | (refine m_lss rfl rfl ?_) | (refine m_add rfl rfl ?_ ?_ ?_; (· omega); (· omega)) | (refine m_adds rfl rfl ?_ ?_; (· first | omega | (simp; omega))) | (refine m_sub rfl rfl ?_ ?_ ?_; (· omega); (· omega)) | (refine m_len_ro rfl ?_) | (refine m_len_sl rfl ?_) | (refine m_len_nil rfl ?_) | (refine m_idx1_ro rfl rfl ?_ ?_; (· omega)) | (refine m_idx1_sl rfl rfl ?_ ?_; (· omega)) | (apply m_idx1_slj; (· rfl); (· rfl); (· assumption); (· omega)) | (apply m_idx1_roj; (· rfl); (· rfl); (· assumption); (· omega)) | (refine m_idx_ro rfl rfl ?_ ?_ ?_; (· omega); (· omega)) | (refine m_idx_sl rfl rfl ?_ ?_ ?_; (· omega); (· omega)) | (refine m_ld_rpi rfl ?_ ?_; (· omega)) | (refine m_ld_pti rfl (by rfl) ?_ ?_; (· first | omega | (simp; omega))) | (apply m_ld_ptb; (· rfl); (· rfl); (· assumption)) | (apply m_ld_rp; (· rfl); (· rfl)) | (apply m_ld_pt; (· rfl); (· rfl); (· rfl)) | (refine m_pick_t rfl ?_ (by conv => lhs; whnf) ?_; (· first | rfl | assumption | (refine decide_eq_true ?_; first | assumption | omega) | (refine nt ?_; first | assumption | omega) | (simp [*]; done))) | (refine m_pick_f rfl ?_ (by conv => lhs; whnf) ?_; (· first | rfl | assumption | (refine decide_eq_false ?_; first | assumption | omega) | (refine nf ?_; first | assumption | omega) | (simp [*]; done))) | (refine m_cut_hi rfl rfl ?_ ?_ ?_; (· first | rfl | omega | simp); (· first | omega | (simp; omega))) | (refine m_cut_lo rfl rfl ?_ ?_ ?_; (· first | rfl | omega | simp); (· first | omega | (simp; omega))) | (refine m_nils ?_) | (refine m_ext rfl rfl ?_))) | (refine g_noT rfl ?_ ?_; (· first | rfl | assumption | (refine decide_eq_false ?_; first | assumption | omega) | (refine nf ?_; first | assumption | omega) | (simp [*]; done))))) | refine end_ops ?_ | refine seq_ops ?_ | refine AW_ops ?_ | refine end_tree ?_ | refine seq_tree ?_ | refine AW_tree ?_ | (refine cond_t rfl ?_ ?_; (· first | rfl | assumption | (refine decide_eq_true ?_; first | assumption | omega) | (refine nt ?_; first | assumption | omega) | (simp [*]; done))) | (refine cond_f rfl ?_ ?_; (· first | rfl | assumption | (refine decide_eq_false ?_; first | assumption | omega) | (refine nf ?_; first | assumption | omega) | (simp [*]; done))) | refine skip_then ?_ | refine AW_seq ?_ | refine AW_ret ?_ | refine ret_done ?_ | refine norm_then ?_ | refine ret_then ?_ | refine exit_then ?_ | refine AW_block ?_ | refine norm_block ?_ | refine ret_block ?_ | refine ret_round ?_ | refine exit_round ?_ | refine AW_exit ?_ | refine exit_block ?_ | (refine exit_other ?_ ?_; (· decide)) | refine AW_skip ?_)
      rw [hj]
      repeat (first | ((first | refine step_ops ?_ | refine step_tree ?_); (first | ((try (refine g_yes rfl ?_ ?_; (· first | rfl | assumption | (refine decide_eq_true ?_; first | assumption | omega) | (refine nt ?_; first | assumption | omega) | (simp [*]; done) | (refine decide_eq_false ?_; first | assumption | omega) | (refine nf ?_; first | assumption | omega)))); (first | (refine m_mov (by conv => lhs; whnf) ?_) | (refine m_lss rfl rfl ?_) | (refine m_add rfl rfl ?_ ?_ ?_; (· omega); (· omega)) | (refine m_adds rfl rfl ?_ ?_; (· first | omega | (simp; omega))) | (refine m_sub rfl rfl ?_ ?_ ?_; (· omega); (· omega)) | (refine m_len_ro rfl ?_) | (refine m_len_sl rfl ?_) | (refine m_len_nil rfl ?_) | (refine m_idx1_ro rfl rfl ?_ ?_; (· omega)) | (refine m_idx1_sl rfl rfl ?_ ?_; (· omega)) | (apply m_idx1_slj; (· rfl); (· rfl); (· assumption); (· omega)) | (apply m_idx1_roj; (· rfl); (· rfl); (· assumption); (· omega)) | (refine m_idx_ro rfl rfl ?_ ?_ ?_; (· omega); (· omega)) | (refine m_idx_sl rfl rfl ?_ ?_ ?_; (· omega); (· omega)) | (refine m_ld_rpi rfl ?_ ?_; (· omega)) | (refine m_ld_pti rfl (by rfl) ?_ ?_; (· first | omega | (simp; omega))) | (apply m_ld_ptb; (· rfl); (· rfl); (· assumption)) | (apply m_ld_rp; (· rfl); (· rfl)) | (apply m_ld_pt; (· rfl); (· rfl); (· rfl)) | (refine m_pick_t rfl ?_ (by conv => lhs; whnf) ?_; (· first | rfl | assumption | (refine decide_eq_true ?_; first | assumption | omega) | (refine nt ?_; first | assumption | omega) | (simp [*]; done))) | (refine m_pick_f rfl ?_ (by conv => lhs; whnf) ?_; (· first | rfl | assumption | (refine decide_eq_false ?_; first | assumption | omega) | (refine nf ?_; first | assumption | omega) | (simp [*]; done))) | (refine m_cut_hi rfl rfl ?_ ?_ ?_; (· first | rfl | omega | simp); (· first | omega | (simp; omega))) | (refine m_cut_lo rfl rfl ?_ ?_ ?_; (· first | rfl | omega | simp); (· first | omega | (simp; omega))) | (refine m_nils ?_) | (refine m_ext rfl rfl ?_))) | (refine g_noT rfl ?_ ?_; (· first | rfl | assumption | (refine decide_eq_false ?_; first | assumption | omega) | (refine nf ?_; first | assumption | omega) | (simp [*]; done))))) | refine end_ops ?_ | refine seq_ops ?_ | refine AW_ops ?_ | refine end_tree ?_ | refine seq_tree ?_ | refine AW_tree ?_ | (refine cond_t rfl ?_ ?_; (· first | rfl | assumption | (refine decide_eq_true ?_; first | assumption | omega) | (refine nt ?_; first | assumption | omega) | (simp [*]; done))) | (refine cond_f rfl ?_ ?_; (· first | rfl | assumption | (refine decide_eq_false ?_; first | assumption | omega) | (refine nf ?_; first | assumption | omega) | (simp [*]; done))) | refine skip_then ?_ | refine AW_seq ?_ | refine AW_ret ?_ | refine ret_done ?_ | refine norm_then ?_ | refine ret_then ?_ | refine exit_then ?_ | refine AW_block ?_ | refine norm_block ?_ | refine ret_block ?_ | refine ret_round ?_ | refine exit_round ?_ | refine AW_exit ?_ | refine exit_block ?_ | (refine exit_other ?_ ?_; (· decide)) | refine AW_skip ?_)
      refine step_tree ?_
      refine g_yes rfl ?_ ?_
      · first | rfl | assumption | (refine decide_eq_true ?_; first | assumption | omega) | (refine nt ?_; first | assumption | omega) | (simp [*]; done)
      refine m_callf rfl A.call hsp ?_ ?_
      · exact asksK_lend A.bears rfl rfl (lends_cons (lend_ints rfl) (lends_cons lend_v lends_nil))
      repeat (first | ((first | refine step_ops ?_ | refine step_tree ?_); (first | ((try (refine g_yes rfl ?_ ?_; (· first | rfl | assumption | (refine decide_eq_true ?_; first | assumption | omega) | (refine nt ?_; first | assumption | omega) | (simp [*]; done) | (refine decide_eq_false ?_; first | assumption | omega) | (refine nf ?_; first | assumption | omega)))); (first | (refine m_mov (by conv => lhs; whnf) ?_) | (refine m_lss rfl rfl ?_) | (refine m_add rfl rfl ?_ ?_ ?_; (· omega); (· omega)) | (refine m_adds rfl rfl ?_ ?_; (· first | omega | (simp; omega))) | (refine m_sub rfl rfl ?_ ?_ ?_; (· omega); (· omega)) | (refine m_len_ro rfl ?_) | (refine m_len_sl rfl ?_) | (refine m_len_nil rfl ?_) | (refine m_idx1_ro rfl rfl ?_ ?_; (· omega)) | (refine m_idx1_sl rfl rfl ?_ ?_; (· omega)) | (apply m_idx1_slj; (· rfl); (· rfl); (· assumption); (· omega)) | (apply m_idx1_roj; (· rfl); (· rfl); (· assumption); (· omega)) | (refine m_idx_ro rfl rfl ?_ ?_ ?_; (· omega); (· omega)) | (refine m_idx_sl rfl rfl ?_ ?_ ?_; (· omega); (· omega)) | (refine m_ld_rpi rfl ?_ ?_; (· omega)) | (refine m_ld_pti rfl (by rfl) ?_ ?_; (· first | omega | (simp; omega))) | (apply m_ld_ptb; (· rfl); (· rfl); (· assumption)) | (apply m_ld_rp; (· rfl); (· rfl)) | (apply m_ld_pt; (· rfl); (· rfl); (· rfl)) | (refine m_pick_t rfl ?_ (by conv => lhs; whnf) ?_; (· first | rfl | assumption | (refine decide_eq_true ?_; first | assumption | omega) | (refine nt ?_; first | assumption | omega) | (simp [*]; done))) | (refine m_pick_f rfl ?_ (by conv => lhs; whnf) ?_; (· first | rfl | assumption | (refine decide_eq_false ?_; first | assumption | omega) | (refine nf ?_; first | assumption | omega) | (simp [*]; done))) | (refine m_cut_hi rfl rfl ?_ ?_ ?_; (· first | rfl | omega | simp); (· first | omega | (simp; omega))) | (refine m_cut_lo rfl rfl ?_ ?_ ?_; (· first | rfl | omega | simp); (· first | omega | (simp; omega))) | (refine m_nils ?_) | (refine m_ext rfl rfl ?_))) | (refine g_noT rfl ?_ ?_; (· first | rfl | assumption | (refine decide_eq_false ?_; first | assumption | omega) | (refine nf ?_; first | assumption | omega) | (simp [*]; done))))) | refine end_ops ?_ | refine seq_ops ?_ | refine AW_ops ?_ | refine end_tree ?_ | refine seq_tree ?_ | refine AW_tree ?_ | (refine cond_t rfl ?_ ?_; (· first | rfl | assumption | (refine decide_eq_true ?_; first | assumption | omega) | (refine nt ?_; first | assumption | omega) | (simp [*]; done))) | (refine cond_f rfl ?_ ?_; (· first | rfl | assumption | (refine decide_eq_false ?_; first | assumption | omega) | (refine nf ?_; first | assumption | omega) | (simp [*]; done))) | refine skip_then ?_ | refine AW_seq ?_ | refine AW_ret ?_ | refine ret_done ?_ | refine norm_then ?_ | refine ret_then ?_ | refine exit_then ?_ | refine AW_block ?_ | refine norm_block ?_ | refine ret_block ?_ | refine ret_round ?_ | refine exit_round ?_ | refine AW_exit ?_ | refine exit_block ?_ | (refine exit_other ?_ ?_; (· decide)) | refine AW_skip ?_)
      rw [hj]
      repeat (first | ((first | refine step_ops ?_ | refine step_tree ?_); (first | ((try (refine g_yes rfl ?_ ?_; (· first | rfl | assumption | (refine decide_eq_true ?_; first | assumption | omega) | (refine nt ?_; first | assumption | omega) | (simp [*]; done) | (refine decide_eq_false ?_; first | assumption | omega) | (refine nf ?_; first | assumption | omega)))); (first | (refine m_mov (by conv => lhs; whnf) ?_) | (refine m_lss rfl rfl ?_) | (refine m_add rfl rfl ?_ ?_ ?_; (· omega); (· omega)) | (refine m_adds rfl rfl ?_ ?_; (· first | omega | (simp; omega))) | (refine m_sub rfl rfl ?_ ?_ ?_; (· omega); (· omega)) | (refine m_len_ro rfl ?_) | (refine m_len_sl rfl ?_) | (refine m_len_nil rfl ?_) | (refine m_idx1_ro rfl rfl ?_ ?_; (· omega)) | (refine m_idx1_sl rfl rfl ?_ ?_; (· omega)) | (apply m_idx1_slj; (· rfl); (· rfl); (· assumption); (· omega)) | (apply m_idx1_roj; (· rfl); (· rfl); (· assumption); (· omega)) | (refine m_idx_ro rfl rfl ?_ ?_ ?_; (· omega); (· omega)) | (refine m_idx_sl rfl rfl ?_ ?_ ?_; (· omega); (· omega)) | (refine m_ld_rpi rfl ?_ ?_; (· omega)) | (refine m_ld_pti rfl (by rfl) ?_ ?_; (· first | omega | (simp; omega))) | (apply m_ld_ptb; (· rfl); (· rfl); (· assumption)) | (apply m_ld_rp; (· rfl); (· rfl)) | (apply m_ld_pt; (· rfl); (· rfl); (· rfl)) | (refine m_pick_t rfl ?_ (by conv => lhs; whnf) ?_; (· first | rfl | assumption | (refine decide_eq_true ?_; first | assumption | omega) | (refine nt ?_; first | assumption | omega) | (simp [*]; done))) | (refine m_pick_f rfl ?_ (by conv => lhs; whnf) ?_; (· first | rfl | assumption | (refine decide_eq_false ?_; first | assumption | omega) | (refine nf ?_; first | assumption | omega) | (simp [*]; done))) | (refine m_cut_hi rfl rfl ?_ ?_ ?_; (· first | rfl | omega | simp); (· first | omega | (simp; omega))) | (refine m_cut_lo rfl rfl ?_ ?_ ?_; (· first | rfl | omega | simp); (· first | omega | (simp; omega))) | (refine m_nils ?_) | (refine m_ext rfl rfl ?_))) | (refine g_noT rfl ?_ ?_; (· first | rfl | assumption | (refine decide_eq_false ?_; first | assumption | omega) | (refine nf ?_; first | assumption | omega) | (simp [*]; done))))) | refine end_ops ?_ | refine seq_ops ?_ | refine AW_ops ?_ | refine end_tree ?_ | refine seq_tree ?_ | refine AW_tree ?_ | (refine cond_t rfl ?_ ?_; (· first | rfl | assumption | (refine decide_eq_true ?_; first | assumption | omega) | (refine nt ?_; first | assumption | omega) | (simp [*]; done))) | (refine cond_f rfl ?_ ?_; (· first | rfl | assumption | (refine decide_eq_false ?_; first | assumption | omega) | (refine nf ?_; first | assumption | omega) | (simp [*]; done))) | refine skip_then ?_ | refine AW_seq ?_ | refine AW_ret ?_ | refine ret_done ?_ | refine norm_then ?_ | refine ret_then ?_ | refine exit_then ?_ | refine AW_block ?_ | refine norm_block ?_ | refine ret_block ?_ | refine ret_round ?_ | refine exit_round ?_ | refine AW_exit ?_ | refine exit_block ?_ | (refine exit_other ?_ ?_; (· decide)) | refine AW_skip ?_)
      refine step_tree ?_
      refine m_call hs ?_ ?_
      · rw [← hL]
        exact lends_cons lend_v (lends_cons (lend_ints rfl) (lends_cons lend_v (lends_cons (lend_bears A.bears) lends_nil)))
      repeat (first | ((first | refine step_ops ?_ | refine step_tree ?_); (first | ((try (refine g_yes rfl ?_ ?_; (· first | rfl | assumption | (refine decide_eq_true ?_; first | assumption | omega) | (refine nt ?_; first | assumption | omega) | (simp [*]; done) | (refine decide_eq_false ?_; first | assumption | omega) | (refine nf ?_; first | assumption | omega)))); (first | (refine m_mov (by conv => lhs; whnf) ?_) | (refine m_lss rfl rfl ?_) | (refine m_add rfl rfl ?_ ?_ ?_; (· omega); (· omega)) | (refine m_adds rfl rfl ?_ ?_; (· first | omega | (simp; omega))) | (refine m_sub rfl rfl ?_ ?_ ?_; (· omega); (· omega)) | (refine m_len_ro rfl ?_) | (refine m_len_sl rfl ?_) | (refine m_len_nil rfl ?_) | (refine m_idx1_ro rfl rfl ?_ ?_; (· omega)) | (refine m_idx1_sl rfl rfl ?_ ?_; (· omega)) | (apply m_idx1_slj; (· rfl); (· rfl); (· assumption); (· omega)) | (apply m_idx1_roj; (· rfl); (· rfl); (· assumption); (· omega)) | (refine m_idx_ro rfl rfl ?_ ?_ ?_; (· omega); (· omega)) | (refine m_idx_sl rfl rfl ?_ ?_ ?_; (· omega); (· omega)) | (refine m_ld_rpi rfl ?_ ?_; (· omega)) | (refine m_ld_pti rfl (by rfl) ?_ ?_; (· first | omega | (simp; omega))) | (apply m_ld_ptb; (· rfl); (· rfl); (· assumption)) | (apply m_ld_rp; (· rfl); (· rfl)) | (apply m_ld_pt; (· rfl); (· rfl); (· rfl)) | (refine m_pick_t rfl ?_ (by conv => lhs; whnf) ?_; (· first | rfl | assumption | (refine decide_eq_true ?_; first | assumption | omega) | (refine nt ?_; first | assumption | omega) | (simp [*]; done))) | (refine m_pick_f rfl ?_ (by conv => lhs; whnf) ?_; (· first | rfl | assumption | (refine decide_eq_false ?_; first | assumption | omega) | (refine nf ?_; first | assumption | omega) | (simp [*]; done))) | (refine m_cut_hi rfl rfl ?_ ?_ ?_; (· first | rfl | omega | simp); (· first | omega | (simp; omega))) | (refine m_cut_lo rfl rfl ?_ ?_ ?_; (· first | rfl | omega | simp); (· first | omega | (simp; omega))) | (refine m_nils ?_) | (refine m_ext rfl rfl ?_))) | (refine g_noT rfl ?_ ?_; (· first | rfl | assumption | (refine decide_eq_false ?_; first | assumption | omega) | (refine nf ?_; first | assumption | omega) | (simp [*]; done))))) | refine end_ops ?_ | refine seq_ops ?_ | refine AW_ops ?_ | refine end_tree ?_ | refine seq_tree ?_ | refine AW_tree ?_ | (refine cond_t rfl ?_ ?_; (· first | rfl | assumption | (refine decide_eq_true ?_; first | assumption | omega) | (refine nt ?_; first | assumption | omega) | (simp [*]; done))) | (refine cond_f rfl ?_ ?_; (· first | rfl | assumption | (refine decide_eq_false ?_; first | assumption | omega) | (refine nf ?_; first | assumption | omega) | (simp [*]; done))) | refine skip_then ?_ | refine AW_seq ?_ | refine AW_ret ?_ | refine ret_done ?_ | refine norm_then ?_ | refine ret_then ?_ | refine exit_then ?_ | refine AW_block ?_ | refine norm_block ?_ | refine ret_block ?_ | refine ret_round ?_ | refine exit_round ?_ | refine AW_exit ?_ | refine exit_block ?_ | (refine exit_other ?_ ?_; (· decide)) | refine AW_skip ?_)
      exact outs_tup2 (outs_ro (allv_ints _)) (outs_b rfl)
  · have hs := hend (.inr (by omega))
    repeat (first | ((first | refine step_ops ?_ | refine step_tree ?_); (first | ((try (refine g_yes rfl ?_ ?_; (· first | rfl | assumption | (refine decide_eq_true ?_; first | assumption | omega) | (refine nt ?_; first | assumption | omega) | (simp [*]; done) | (refine decide_eq_false ?_; first | assumption | omega) | (refine nf ?_; first | assumption | omega)))); (first | (refine m_mov (by conv => lhs; whnf) ?_) | (refine m_lss rfl rfl ?_) | (refine m_add rfl rfl ?_ ?_ ?_; (· omega); (· omega)) | (refine m_adds rfl rfl ?_ ?_; (· first | omega | (simp; omega))) | (refine m_sub rfl rfl ?_ ?_ ?_; (· omega); (· omega)) | (refine m_len_ro rfl ?_) | (refine m_len_sl rfl ?_) | (refine m_len_nil rfl ?_) | (refine m_idx1_ro rfl rfl ?_ ?_; (· omega)) | (refine m_idx1_sl rfl rfl ?_ ?_; (· omega)) | (apply m_idx1_slj; (· rfl); (· rfl); (· assumption); (· omega)) | (apply m_idx1_roj; (· rfl); (· rfl); (· assumption); (· omega)) | (refine m_idx_ro rfl rfl ?_ ?_ ?_; (· omega); (· omega)) | (refine m_idx_sl rfl rfl ?_ ?_ ?_; (· omega); (· omega)) | (refine m_ld_rpi rfl ?_ ?_; (· omega)) | (refine m_ld_pti rfl (by rfl) ?_ ?_; (· first | omega | (simp; omega))) | (apply m_ld_ptb; (· rfl); (· rfl); (· assumption)) | (apply m_ld_rp; (· rfl); (· rfl)) | (apply m_ld_pt; (· rfl); (· rfl); (· rfl)) | (refine m_pick_t rfl ?_ (by conv => lhs; whnf) ?_; (· first | rfl | assumption | (refine decide_eq_true ?_; first | assumption | omega) | (refine nt ?_; first | assumption | omega) | (simp [*]; done))) | (refine m_pick_f rfl ?_ (by conv => lhs; whnf) ?_; (· first | rfl | assumption | (refine decide_eq_false ?_; first | assumption | omega) | (refine nf ?_; first | assumption | omega) | (simp [*]; done))) | (refine m_cut_hi rfl rfl ?_ ?_ ?_; (· first | rfl | omega | simp); (· first | omega | (simp; omega))) | (refine m_cut_lo rfl rfl ?_ ?_ ?_; (· first | rfl | omega | simp); (· first | omega | (simp; omega))) | (refine m_nils ?_) | (refine m_ext rfl rfl ?_))) | (refine g_noT rfl ?_ ?_; (· first | rfl | assumption | (refine decide_eq_false ?_; first | assumption | omega) | (refine nf ?_; first | assumption | omega) | (simp [*]; done))))) | refine end_ops ?_ | refine seq_ops ?_ | refine AW_ops ?_ | refine end_tree ?_ | refine seq_tree ?_ | refine AW_tree ?_ | (refine cond_t rfl ?_ ?_; (· first | rfl | assumption | (refine decide_eq_true ?_; first | assumption | omega) | (refine nt ?_; first | assumption | omega) | (simp [*]; done))) | (refine cond_f rfl ?_ ?_; (· first | rfl | assumption | (refine decide_eq_false ?_; first | assumption | omega) | (refine nf ?_; first | assumption | omega) | (simp [*]; done))) | refine skip_then ?_ | refine AW_seq ?_ | refine AW_ret ?_ | refine ret_done ?_ | refine norm_then ?_ | refine ret_then ?_ | refine exit_then ?_ | refine AW_block ?_ | refine norm_block ?_ | refine ret_block ?_ | refine ret_round ?_ | refine exit_round ?_ | refine AW_exit ?_ | refine exit_block ?_ | (refine exit_other ?_ ?_; (· decide)) | refine AW_skip ?_)
    rw [hj]
    repeat (first | ((first | refine step_ops ?_ | refine step_tree ?_); (first | ((try (refine g_yes rfl ?_ ?_; (· first | rfl | assumption | (refine decide_eq_true ?_; first | assumption | omega) | (refine nt ?_; first | assumption | omega) | (simp [*]; done) | (refine decide_eq_false ?_; first | assumption | omega) | (refine nf ?_; first | assumption | omega)))); (first | (refine m_mov (by conv => lhs; whnf) ?_) | (refine m_lss rfl rfl ?_) | (refine m_add rfl rfl ?_ ?_ ?_; (· omega); (· omega)) | (refine m_adds rfl rfl ?_ ?_; (· first | omega | (simp; omega))) | (refine m_sub rfl rfl ?_ ?_ ?_; (· omega); (· omega)) | (refine m_len_ro rfl ?_) | (refine m_len_sl rfl ?_) | (refine m_len_nil rfl ?_) | (refine m_idx1_ro rfl rfl ?_ ?_; (· omega)) | (refine m_idx1_sl rfl rfl ?_ ?_; (· omega)) | (apply m_idx1_slj; (· rfl); (· rfl); (· assumption); (· omega)) | (apply m_idx1_roj; (· rfl); (· rfl); (· assumption); (· omega)) | (refine m_idx_ro rfl rfl ?_ ?_ ?_; (· omega); (· omega)) | (refine m_idx_sl rfl rfl ?_ ?_ ?_; (· omega); (· omega)) | (refine m_ld_rpi rfl ?_ ?_; (· omega)) | (refine m_ld_pti rfl (by rfl) ?_ ?_; (· first | omega | (simp; omega))) | (apply m_ld_ptb; (· rfl); (· rfl); (· assumption)) | (apply m_ld_rp; (· rfl); (· rfl)) | (apply m_ld_pt; (· rfl); (· rfl); (· rfl)) | (refine m_pick_t rfl ?_ (by conv => lhs; whnf) ?_; (· first | rfl | assumption | (refine decide_eq_true ?_; first | assumption | omega) | (refine nt ?_; first | assumption | omega) | (simp [*]; done))) | (refine m_pick_f rfl ?_ (by conv => lhs; whnf) ?_; (· first | rfl | assumption | (refine decide_eq_false ?_; first | assumption | omega) | (refine nf ?_; first | assumption | omega) | (simp [*]; done))) | (refine m_cut_hi rfl rfl ?_ ?_ ?_; (· first | rfl | omega | simp); (· first | omega | (simp; omega))) | (refine m_cut_lo rfl rfl ?_ ?_ ?_; (· first | rfl | omega | simp); (· first | omega | (simp; omega))) | (refine m_nils ?_) | (refine m_ext rfl rfl ?_))) | (refine g_noT rfl ?_ ?_; (· first | rfl | assumption | (refine decide_eq_false ?_; first | assumption | omega) | (refine nf ?_; first | assumption | omega) | (simp [*]; done))))) | refine end_ops ?_ | refine seq_ops ?_ | refine AW_ops ?_ | refine end_tree ?_ | refine seq_tree ?_ | refine AW_tree ?_ | (refine cond_t rfl ?_ ?_; (· first | rfl | assumption | (refine decide_eq_true ?_; first | assumption | omega) | (refine nt ?_; first | assumption | omega) | (simp [*]; done))) | (refine cond_f rfl ?_ ?_; (· first | rfl | assumption | (refine decide_eq_false ?_; first | assumption | omega) | (refine nf ?_; first | assumption | omega) | (simp [*]; done))) | refine skip_then ?_ | refine AW_seq ?_ | refine AW_ret ?_ | refine ret_done ?_ | refine norm_then ?_ | refine ret_then ?_ | refine exit_then ?_ | refine AW_block ?_ | refine norm_block ?_ | refine ret_block ?_ | refine ret_round ?_ | refine exit_round ?_ | refine AW_exit ?_ | refine exit_block ?_ | (refine exit_other ?_ ?_; (· decide)) | refine AW_skip ?_)
    refine step_tree ?_
    refine m_call hs ?_ ?_
    · rw [← hL]
      exact lends_cons lend_v (lends_cons (lend_ints rfl) (lends_cons lend_v (lends_cons (lend_bears A.bears) lends_nil)))
    repeat (first | ((first | refine step_ops ?_ | refine step_tree ?_); (first | ((try (refine g_yes rfl ?_ ?_; (· first | rfl | assumption | (refine decide_eq_true ?_; first | assumption | omega) | (refine nt ?_; first | assumption | omega) | (simp [*]; done) | (refine decide_eq_false ?_; first | assumption | omega) | (refine nf ?_; first | assumption | omega)))); (first | (refine m_mov (by conv => lhs; whnf) ?_) | (refine m_lss rfl rfl ?_) | (refine m_add rfl rfl ?_ ?_ ?_; (· omega); (· omega)) | (refine m_adds rfl rfl ?_ ?_; (· first | omega | (simp; omega))) | (refine m_sub rfl rfl ?_ ?_ ?_; (· omega); (· omega)) | (refine m_len_ro rfl ?_) | (refine m_len_sl rfl ?_) | (refine m_len_nil rfl ?_) | (refine m_idx1_ro rfl rfl ?_ ?_; (· omega)) | (refine m_idx1_sl rfl rfl ?_ ?_; (· omega)) | (apply m_idx1_slj; (· rfl); (· rfl); (· assumption); (· omega)) | (apply m_idx1_roj; (· rfl); (· rfl); (· assumption); (· omega)) | (refine m_idx_ro rfl rfl ?_ ?_ ?_; (· omega); (· omega)) | (refine m_idx_sl rfl rfl ?_ ?_ ?_; (· omega); (· omega)) | (refine m_ld_rpi rfl ?_ ?_; (· omega)) | (refine m_ld_pti rfl (by rfl) ?_ ?_; (· first | omega | (simp; omega))) | (apply m_ld_ptb; (· rfl); (· rfl); (· assumption)) | (apply m_ld_rp; (· rfl); (· rfl)) | (apply m_ld_pt; (· rfl); (· rfl); (· rfl)) | (refine m_pick_t rfl ?_ (by conv => lhs; whnf) ?_; (· first | rfl | assumption | (refine decide_eq_true ?_; first | assumption | omega) | (refine nt ?_; first | assumption | omega) | (simp [*]; done))) | (refine m_pick_f rfl ?_ (by conv => lhs; whnf) ?_; (· first | rfl | assumption | (refine decide_eq_false ?_; first | assumption | omega) | (refine nf ?_; first | assumption | omega) | (simp [*]; done))) | (refine m_cut_hi rfl rfl ?_ ?_ ?_; (· first | rfl | omega | simp); (· first | omega | (simp; omega))) | (refine m_cut_lo rfl rfl ?_ ?_ ?_; (· first | rfl | omega | simp); (· first | omega | (simp; omega))) | (refine m_nils ?_) | (refine m_ext rfl rfl ?_))) | (refine g_noT rfl ?_ ?_; (· first | rfl | assumption | (refine decide_eq_false ?_; first | assumption | omega) | (refine nf ?_; first | assumption | omega) | (simp [*]; done))))) | refine end_ops ?_ | refine seq_ops ?_ | refine AW_ops ?_ | refine end_tree ?_ | refine seq_tree ?_ | refine AW_tree ?_ | (refine cond_t rfl ?_ ?_; (· first | rfl | assumption | (refine decide_eq_true ?_; first | assumption | omega) | (refine nt ?_; first | assumption | omega) | (simp [*]; done))) | (refine cond_f rfl ?_ ?_; (· first | rfl | assumption | (refine decide_eq_false ?_; first | assumption | omega) | (refine nf ?_; first | assumption | omega) | (simp [*]; done))) | refine skip_then ?_ | refine AW_seq ?_ | refine AW_ret ?_ | refine ret_done ?_ | refine norm_then ?_ | refine ret_then ?_ | refine exit_then ?_ | refine AW_block ?_ | refine norm_block ?_ | refine ret_block ?_ | refine ret_round ?_ | refine exit_round ?_ | refine AW_exit ?_ | refine exit_block ?_ | (refine exit_other ?_ ?_; (· decide)) | refine AW_skip ?_)
    exact outs_tup2 (outs_ro (allv_ints _)) (outs_b rfl)
end Go.Proofs.Ytkciccbpjdaekaa
namespace Go.Am
theorem g_un0 {P : Program} {own : Bool} {s : AS} {K : AS → Prop} {d : Option Nat} {op : AOp} {t : Nat} {w : Bool} (h : s.tm t = .v undef) (k : K (s.put d (.v undef))) : aop1 P own ⟨d, op, some (t, w)⟩ s K := .inr ⟨h, k⟩
/-- Does the guest behind those of a list choose a seat? -/
def chsE (l : Int) (M : List Int) : Bool := decide ((M.length : Int) < l) || decide ((M.length : Int) ∈ M)
/-- May that guest get a seat? -/
def fitsS (l : Int) (M : List Int) (y : Int) : Bool := !decide (y ∈ M) && (decide (y = (M.length : Int)) || chsE l M)
/-- The product of the numbers of free seats for the first k guests who choose. -/
def prodS (l : Int) (L : List Int) : Nat → Nat
  | 0 => 1
  | k + 1 => if chsE l (L.take k) then prodS l L k * (L.length - k) else prodS l L k
theorem prodS_le (l : Int) (L : List Int) (hL : L.length ≤ 12) : ∀ k, k ≤ L.length → 1 ≤ prodS l L k ∧ prodS l L k ≤ 12 ^ k
  | 0, _ => by simp [prodS]
  | k + 1, h => by
    obtain ⟨h1, h2⟩ := prodS_le l L hL k (by omega)
    have e : (12 : Nat) ^ (k + 1) = 12 ^ k * 12 := rfl
    simp only [prodS]
    split
    · have m1 : prodS l L k * (L.length - k) ≤ 12 ^ k * 12 := Nat.mul_le_mul h2 (by omega)
      have m2 : 1 * 1 ≤ prodS l L k * (L.length - k) := Nat.mul_le_mul h1 (by omega)
      omega
    · omega
theorem prodS_bound (l : Int) (L : List Int) (hL : L.length ≤ 12) (k : Nat) (h : k ≤ L.length) : 1 ≤ prodS l L k ∧ prodS l L k ≤ 10000000000000 := by
  obtain ⟨h1, h2⟩ := prodS_le l L hL k h
  have : (12 : Nat) ^ k ≤ 12 ^ 12 := Nat.pow_le_pow_right (by decide) (by omega)
  have : (12 : Nat) ^ 12 ≤ 10000000000000 := by decide
  omega
/-- Can the first k guests of a seating come so? -/
def comeK (l : Int) (L : List Int) (k : Nat) : Prop := ∀ j < k, chsE l (L.take j) = true ∨ L.getD j 0 = (j : Int)
instance (l : Int) (L : List Int) (k : Nat) : Decidable (comeK l L k) := inferInstanceAs (Decidable (∀ j < k, _))
theorem comeK_succ {l : Int} {L : List Int} {k : Nat} (h : comeK l L k) (h1 : chsE l (L.take k) = true ∨ L.getD k 0 = (k : Int)) : comeK l L (k + 1) := by
  intro j hj
  rcases Nat.lt_or_ge j k with h2 | h2
  · exact h j h2
  · obtain rfl : j = k := by omega
    exact h1
/-- The displaced ones of the first k guests. -/
def disp (L : List Int) (k : Nat) : List Int := ((List.range k).filter fun (i : Nat) => decide (L.getD i 0 ≠ i)).map fun (i : Nat) => (i : Int)
theorem disp_yes {L : List Int} {k : Nat} (h : L.getD k 0 ≠ k) : disp L (k + 1) = disp L k ++ [(k : Int)] := by
  unfold disp; rw [List.range_succ, List.filter_append, List.map_append, List.filter_cons_of_pos (p := fun (i : Nat) => decide (L.getD i 0 ≠ (i : Int))) (a := k) (decide_eq_true h)]; rfl
theorem disp_no {L : List Int} {k : Nat} (h : L.getD k 0 = k) : disp L (k + 1) = disp L k := by
  unfold disp; rw [List.range_succ, List.filter_append, List.map_append, List.filter_cons_of_neg (p := fun (i : Nat) => decide (L.getD i 0 ≠ (i : Int))) (a := k) (fun e => (of_decide_eq_true e) h)]; simp
theorem disp_le (L : List Int) (k : Nat) : (disp L k).length ≤ k := by
  unfold disp; rw [List.length_map]; exact Nat.le_trans (List.length_filter_le ..) (by simp)
end Go.Am
namespace Go.Proofs.Ytkciccbpjdaekaa
open Go.Am
attribute [local irreducible] AW Outs Weak Lends Lend Sp aops atree aop1 Then Round InBlock Done
theorem seContains_spec (L : List Int) (c : Int) (hL : L.length ≤ 1048576) : Sp Try.prog 53 [ints L, .i c] (.b (decide (c ∈ L))) := by
  refine spec_of Try.func53 rfl cc53 rfl ?_
  unfold ac53
  repeat (first | (refine step_ops ?_; (first | (refine m_mov (by conv => lhs; whnf) ?_) | (refine m_geq rfl rfl ?_))) | refine end_ops ?_ | refine seq_ops ?_ | refine AW_ops ?_ | refine AW_seq ?_ | refine AW_ret ?_ | refine ret_done ?_ | refine norm_then ?_ | refine ret_then ?_ | refine exit_then ?_)
  (refine step_ops ?_); (apply m_call (slicesIndex_spec _ _ hL)); (· repeat (first | exact lends_nil | (refine lends_cons ?_ ?_; (· (first | exact lend_v | (refine lend_roM rfl; done) | (refine lend_mat rfl ?_; intro j hj; simp (disch := first | omega | assumption) only [hp_put, hp_mem_ne, hp_kill_ne]; first | exact stM_row rfl hj | (rw [stM_row rfl hj]; rfl)) | (refine lend_ints ?_; first | rfl | omega) | (refine lend_sli (by rfl) ?_; first | rfl | omega | (simp; done)) | (refine lend_pln rfl; done) | (refine lend_plns rfl rfl; done) | (refine lend_txr rfl; done) | (refine lend_txs rfl rfl; done) | exact lend_any | (refine lend_agg ?_; first | rfl | assumption | (simp [plainV]; done)))))))
  repeat (first | (refine step_ops ?_; (first | (refine m_mov (by conv => lhs; whnf) ?_) | (refine m_geq rfl rfl ?_))) | refine end_ops ?_ | refine seq_ops ?_ | refine AW_ops ?_ | refine AW_seq ?_ | refine AW_ret ?_ | refine ret_done ?_ | refine norm_then ?_ | refine ret_then ?_ | refine exit_then ?_)
  refine outs_b ?_
  refine decide_eq_decide.2 ?_
  unfold whoIs
  by_cases h : c ∈ L
  · simp [h]
  · simp [h]
theorem seChooses_spec (l : Int) (M : List Int) (hM : M.length ≤ 1048576) : Sp Try.prog 39 [ints M, .i l] (.b (chsE l M)) := by
  unfold chsE
  refine spec_of Try.func39 rfl cc39 rfl ?_
  unfold ac39
  by_cases h : (M.length : Int) < l
  · repeat (first | (refine step_ops ?_; (first | ((try (refine g_yes rfl ?_ ?_; (· first | rfl | assumption | (refine decide_eq_true ?_; first | assumption | omega) | (refine nt ?_; first | assumption | omega) | (simp [*]; done) | (refine decide_eq_false ?_; first | assumption | omega) | (refine nf ?_; first | assumption | omega)))); (first | (refine m_mov (by conv => lhs; whnf) ?_) | (refine m_lss rfl rfl ?_) | (refine m_len_ro rfl ?_) | (refine m_len_sl rfl ?_) | (refine m_len_nil rfl ?_) | (refine m_pick_t rfl ?_ (by conv => lhs; whnf) ?_; (· first | rfl | assumption | (refine decide_eq_true ?_; first | assumption | omega) | (refine nt ?_; first | assumption | omega) | (simp [*]; done))) | (refine m_pick_f rfl ?_ (by conv => lhs; whnf) ?_; (· first | rfl | assumption | (refine decide_eq_false ?_; first | assumption | omega) | (refine nf ?_; first | assumption | omega) | (simp [*]; done))))) | (refine g_noF rfl ?_ ?_; (· first | rfl | assumption | (refine decide_eq_true ?_; first | assumption | omega) | (refine nt ?_; first | assumption | omega) | (simp [*]; done))))) | refine end_ops ?_ | refine seq_ops ?_ | refine AW_ops ?_ | refine AW_seq ?_ | refine AW_ret ?_ | refine ret_done ?_ | refine norm_then ?_ | refine ret_then ?_ | refine exit_then ?_)
    exact outs_b (by simp [h])
  · repeat (first | (refine step_ops ?_; (first | ((try (refine g_yes rfl ?_ ?_; (· first | rfl | assumption | (refine decide_eq_true ?_; first | assumption | omega) | (refine nt ?_; first | assumption | omega) | (simp [*]; done) | (refine decide_eq_false ?_; first | assumption | omega) | (refine nf ?_; first | assumption | omega)))); (first | (refine m_mov (by conv => lhs; whnf) ?_) | (refine m_lss rfl rfl ?_) | (refine m_len_ro rfl ?_) | (refine m_len_sl rfl ?_) | (refine m_len_nil rfl ?_) | (refine m_pick_t rfl ?_ (by conv => lhs; whnf) ?_; (· first | rfl | assumption | (refine decide_eq_true ?_; first | assumption | omega) | (refine nt ?_; first | assumption | omega) | (simp [*]; done))) | (refine m_pick_f rfl ?_ (by conv => lhs; whnf) ?_; (· first | rfl | assumption | (refine decide_eq_false ?_; first | assumption | omega) | (refine nf ?_; first | assumption | omega) | (simp [*]; done))))) | (refine g_noF rfl ?_ ?_; (· first | rfl | assumption | (refine decide_eq_true ?_; first | assumption | omega) | (refine nt ?_; first | assumption | omega) | (simp [*]; done))))) | refine end_ops ?_ | refine seq_ops ?_ | refine AW_ops ?_ | refine AW_seq ?_ | refine AW_ret ?_ | refine ret_done ?_ | refine norm_then ?_ | refine ret_then ?_ | refine exit_then ?_)
    (refine step_ops ?_); (first | (apply m_call (l1Has_spec M _ hM)) | (refine g_yes rfl ?_ ?_; (· first | (first | rfl | assumption | (refine decide_eq_true ?_; first | assumption | omega) | (refine nt ?_; first | assumption | omega) | (simp [*]; done)) | (first | rfl | assumption | (refine decide_eq_false ?_; first | assumption | omega) | (refine nf ?_; first | assumption | omega) | (simp [*]; done))); (apply m_call (l1Has_spec M _ hM)))); (· repeat (first | exact lends_nil | (refine lends_cons ?_ ?_; (· (first | exact lend_v | (refine lend_roM rfl; done) | (refine lend_mat rfl ?_; intro j hj; simp (disch := first | omega | assumption) only [hp_put, hp_mem_ne, hp_kill_ne]; first | exact stM_row rfl hj | (rw [stM_row rfl hj]; rfl)) | (refine lend_ints ?_; first | rfl | omega) | (refine lend_sli (by rfl) ?_; first | rfl | omega | (simp; done)) | (refine lend_pln rfl; done) | (refine lend_plns rfl rfl; done) | (refine lend_txr rfl; done) | (refine lend_txs rfl rfl; done) | exact lend_any | (refine lend_agg ?_; first | rfl | assumption | (simp [plainV]; done)))))))
    repeat (first | (refine step_ops ?_; (first | ((try (refine g_yes rfl ?_ ?_; (· first | rfl | assumption | (refine decide_eq_true ?_; first | assumption | omega) | (refine nt ?_; first | assumption | omega) | (simp [*]; done) | (refine decide_eq_false ?_; first | assumption | omega) | (refine nf ?_; first | assumption | omega)))); (first | (refine m_mov (by conv => lhs; whnf) ?_) | (refine m_lss rfl rfl ?_) | (refine m_len_ro rfl ?_) | (refine m_len_sl rfl ?_) | (refine m_len_nil rfl ?_) | (refine m_pick_t rfl ?_ (by conv => lhs; whnf) ?_; (· first | rfl | assumption | (refine decide_eq_true ?_; first | assumption | omega) | (refine nt ?_; first | assumption | omega) | (simp [*]; done))) | (refine m_pick_f rfl ?_ (by conv => lhs; whnf) ?_; (· first | rfl | assumption | (refine decide_eq_false ?_; first | assumption | omega) | (refine nf ?_; first | assumption | omega) | (simp [*]; done))))) | (refine g_noF rfl ?_ ?_; (· first | rfl | assumption | (refine decide_eq_true ?_; first | assumption | omega) | (refine nt ?_; first | assumption | omega) | (simp [*]; done))))) | refine end_ops ?_ | refine seq_ops ?_ | refine AW_ops ?_ | refine AW_seq ?_ | refine AW_ret ?_ | refine ret_done ?_ | refine norm_then ?_ | refine ret_then ?_ | refine exit_then ?_)
    exact outs_b (by simp [h])
theorem hasToChoose_spec (l : Int) (M : List Int) (hM : M.length ≤ 1048576) : Sp Try.prog 44 [.i l, ints M] (.b (chsE l M)) := by
  unfold chsE
  refine spec_of Try.func44 rfl cc44 rfl ?_
  unfold ac44
  by_cases h : (M.length : Int) < l
  · repeat (first | (refine step_ops ?_; (first | ((try (refine g_yes rfl ?_ ?_; (· first | rfl | assumption | (refine decide_eq_true ?_; first | assumption | omega) | (refine nt ?_; first | assumption | omega) | (simp [*]; done) | (refine decide_eq_false ?_; first | assumption | omega) | (refine nf ?_; first | assumption | omega)))); (first | (refine m_mov (by conv => lhs; whnf) ?_) | (refine m_lss rfl rfl ?_) | (refine m_len_ro rfl ?_) | (refine m_len_sl rfl ?_) | (refine m_len_nil rfl ?_) | (refine m_pick_t rfl ?_ (by conv => lhs; whnf) ?_; (· first | rfl | assumption | (refine decide_eq_true ?_; first | assumption | omega) | (refine nt ?_; first | assumption | omega) | (simp [*]; done))) | (refine m_pick_f rfl ?_ (by conv => lhs; whnf) ?_; (· first | rfl | assumption | (refine decide_eq_false ?_; first | assumption | omega) | (refine nf ?_; first | assumption | omega) | (simp [*]; done))))) | (refine g_noF rfl ?_ ?_; (· first | rfl | assumption | (refine decide_eq_true ?_; first | assumption | omega) | (refine nt ?_; first | assumption | omega) | (simp [*]; done))))) | refine end_ops ?_ | refine seq_ops ?_ | refine AW_ops ?_ | refine AW_seq ?_ | refine AW_ret ?_ | refine ret_done ?_ | refine norm_then ?_ | refine ret_then ?_ | refine exit_then ?_)
    exact outs_b (by simp [h])
  · repeat (first | (refine step_ops ?_; (first | ((try (refine g_yes rfl ?_ ?_; (· first | rfl | assumption | (refine decide_eq_true ?_; first | assumption | omega) | (refine nt ?_; first | assumption | omega) | (simp [*]; done) | (refine decide_eq_false ?_; first | assumption | omega) | (refine nf ?_; first | assumption | omega)))); (first | (refine m_mov (by conv => lhs; whnf) ?_) | (refine m_lss rfl rfl ?_) | (refine m_len_ro rfl ?_) | (refine m_len_sl rfl ?_) | (refine m_len_nil rfl ?_) | (refine m_pick_t rfl ?_ (by conv => lhs; whnf) ?_; (· first | rfl | assumption | (refine decide_eq_true ?_; first | assumption | omega) | (refine nt ?_; first | assumption | omega) | (simp [*]; done))) | (refine m_pick_f rfl ?_ (by conv => lhs; whnf) ?_; (· first | rfl | assumption | (refine decide_eq_false ?_; first | assumption | omega) | (refine nf ?_; first | assumption | omega) | (simp [*]; done))))) | (refine g_noF rfl ?_ ?_; (· first | rfl | assumption | (refine decide_eq_true ?_; first | assumption | omega) | (refine nt ?_; first | assumption | omega) | (simp [*]; done))))) | refine end_ops ?_ | refine seq_ops ?_ | refine AW_ops ?_ | refine AW_seq ?_ | refine AW_ret ?_ | refine ret_done ?_ | refine norm_then ?_ | refine ret_then ?_ | refine exit_then ?_)
    (refine step_ops ?_); (first | (apply m_call (seContains_spec M _ hM)) | (refine g_yes rfl ?_ ?_; (· first | (first | rfl | assumption | (refine decide_eq_true ?_; first | assumption | omega) | (refine nt ?_; first | assumption | omega) | (simp [*]; done)) | (first | rfl | assumption | (refine decide_eq_false ?_; first | assumption | omega) | (refine nf ?_; first | assumption | omega) | (simp [*]; done))); (apply m_call (seContains_spec M _ hM)))); (· repeat (first | exact lends_nil | (refine lends_cons ?_ ?_; (· (first | exact lend_v | (refine lend_roM rfl; done) | (refine lend_mat rfl ?_; intro j hj; simp (disch := first | omega | assumption) only [hp_put, hp_mem_ne, hp_kill_ne]; first | exact stM_row rfl hj | (rw [stM_row rfl hj]; rfl)) | (refine lend_ints ?_; first | rfl | omega) | (refine lend_sli (by rfl) ?_; first | rfl | omega | (simp; done)) | (refine lend_pln rfl; done) | (refine lend_plns rfl rfl; done) | (refine lend_txr rfl; done) | (refine lend_txs rfl rfl; done) | exact lend_any | (refine lend_agg ?_; first | rfl | assumption | (simp [plainV]; done)))))))
    repeat (first | (refine step_ops ?_; (first | ((try (refine g_yes rfl ?_ ?_; (· first | rfl | assumption | (refine decide_eq_true ?_; first | assumption | omega) | (refine nt ?_; first | assumption | omega) | (simp [*]; done) | (refine decide_eq_false ?_; first | assumption | omega) | (refine nf ?_; first | assumption | omega)))); (first | (refine m_mov (by conv => lhs; whnf) ?_) | (refine m_lss rfl rfl ?_) | (refine m_len_ro rfl ?_) | (refine m_len_sl rfl ?_) | (refine m_len_nil rfl ?_) | (refine m_pick_t rfl ?_ (by conv => lhs; whnf) ?_; (· first | rfl | assumption | (refine decide_eq_true ?_; first | assumption | omega) | (refine nt ?_; first | assumption | omega) | (simp [*]; done))) | (refine m_pick_f rfl ?_ (by conv => lhs; whnf) ?_; (· first | rfl | assumption | (refine decide_eq_false ?_; first | assumption | omega) | (refine nf ?_; first | assumption | omega) | (simp [*]; done))))) | (refine g_noF rfl ?_ ?_; (· first | rfl | assumption | (refine decide_eq_true ?_; first | assumption | omega) | (refine nt ?_; first | assumption | omega) | (simp [*]; done))))) | refine end_ops ?_ | refine seq_ops ?_ | refine AW_ops ?_ | refine AW_seq ?_ | refine AW_ret ?_ | refine ret_done ?_ | refine norm_then ?_ | refine ret_then ?_ | refine exit_then ?_)
    exact outs_b (by simp [h])
theorem canSit_spec (l : Int) : Sp Try.prog 43 [.i l] (.fn 52 [.rp [.i l]] 0) := by
  refine spec_of Try.func43 rfl cc43 rfl ?_
  unfold ac43
  repeat (first | (refine step_ops ?_; (first | (refine m_mov (by conv => lhs; whnf) ?_) | (refine m_mkf ?_) | (refine m_box rfl ?_ ?_; (· first | rfl | (simp [cellOk, Value.oneCell']; done))) | (refine m_box1 rfl rfl ?_))) | refine end_ops ?_ | refine seq_ops ?_ | refine AW_ops ?_ | refine AW_seq ?_ | refine AW_ret ?_ | refine ret_done ?_ | refine norm_then ?_ | refine ret_then ?_ | refine exit_then ?_)
  exact outs_fnp rfl rfl
theorem canSitAsk_spec (l : Int) (M : List Int) (y : Int) (hM : M.length ≤ 1048576) : Sp Try.prog 52 [ints M, .i y, .rp [.i l]] (.b (fitsS l M y)) := by
  unfold fitsS
  refine spec_of Try.func52 rfl cc52 rfl ?_
  unfold ac52
  by_cases hm : y ∈ M
  · repeat (first | (refine step_ops ?_; (first | ((try (refine g_yes rfl ?_ ?_; (· first | rfl | assumption | (refine decide_eq_true ?_; first | assumption | omega) | (refine nt ?_; first | assumption | omega) | (simp [*]; done) | (refine decide_eq_false ?_; first | assumption | omega) | (refine nf ?_; first | assumption | omega)))); (first | (refine m_mov (by conv => lhs; whnf) ?_) | (refine m_eql rfl rfl ?_) | (refine m_eqk rfl rfl ?_) | (refine m_eqs rfl rfl ?_) | (refine m_not rfl ?_) | (refine m_len_ro rfl ?_) | (refine m_len_sl rfl ?_) | (refine m_len_nil rfl ?_) | (refine m_ld_rpi rfl ?_ ?_; (· omega)) | (refine m_ld_pti rfl (by rfl) ?_ ?_; (· first | omega | (simp; omega))) | (apply m_ld_ptb; (· rfl); (· rfl); (· assumption)) | (apply m_ld_rp; (· rfl); (· rfl)) | (apply m_ld_pt; (· rfl); (· rfl); (· rfl)) | (refine m_pick_t rfl ?_ (by conv => lhs; whnf) ?_; (· first | rfl | assumption | (refine decide_eq_true ?_; first | assumption | omega) | (refine nt ?_; first | assumption | omega) | (simp [*]; done))) | (refine m_pick_f rfl ?_ (by conv => lhs; whnf) ?_; (· first | rfl | assumption | (refine decide_eq_false ?_; first | assumption | omega) | (refine nf ?_; first | assumption | omega) | (simp [*]; done))))) | (refine g_noF rfl ?_ ?_; (· first | rfl | assumption | (refine decide_eq_true ?_; first | assumption | omega) | (refine nt ?_; first | assumption | omega) | (simp [*]; done))) | (refine g_noT rfl ?_ ?_; (· first | rfl | assumption | (refine decide_eq_false ?_; first | assumption | omega) | (refine nf ?_; first | assumption | omega) | (simp [*]; done))))) | refine end_ops ?_ | refine seq_ops ?_ | refine AW_ops ?_ | refine AW_seq ?_ | refine AW_ret ?_ | refine ret_done ?_ | refine norm_then ?_ | refine ret_then ?_ | refine exit_then ?_)
    (refine step_ops ?_); (first | (apply m_call (seContains_spec M y hM)) | (refine g_yes rfl ?_ ?_; (· first | (first | rfl | assumption | (refine decide_eq_true ?_; first | assumption | omega) | (refine nt ?_; first | assumption | omega) | (simp [*]; done)) | (first | rfl | assumption | (refine decide_eq_false ?_; first | assumption | omega) | (refine nf ?_; first | assumption | omega) | (simp [*]; done))); (apply m_call (seContains_spec M y hM)))); (· repeat (first | exact lends_nil | (refine lends_cons ?_ ?_; (· (first | exact lend_v | (refine lend_roM rfl; done) | (refine lend_mat rfl ?_; intro j hj; simp (disch := first | omega | assumption) only [hp_put, hp_mem_ne, hp_kill_ne]; first | exact stM_row rfl hj | (rw [stM_row rfl hj]; rfl)) | (refine lend_ints ?_; first | rfl | omega) | (refine lend_sli (by rfl) ?_; first | rfl | omega | (simp; done)) | (refine lend_pln rfl; done) | (refine lend_plns rfl rfl; done) | (refine lend_txr rfl; done) | (refine lend_txs rfl rfl; done) | exact lend_any | (refine lend_agg ?_; first | rfl | assumption | (simp [plainV]; done)))))))
    repeat (first | ((first | (refine step_ops ?_; (first | ((try (refine g_yes rfl ?_ ?_; (· first | rfl | assumption | (refine decide_eq_true ?_; first | assumption | omega) | (refine nt ?_; first | assumption | omega) | (simp [*]; done) | (refine decide_eq_false ?_; first | assumption | omega) | (refine nf ?_; first | assumption | omega)))); (first | (refine m_mov (by conv => lhs; whnf) ?_) | (refine m_eql rfl rfl ?_) | (refine m_eqk rfl rfl ?_) | (refine m_eqs rfl rfl ?_) | (refine m_not rfl ?_) | (refine m_len_ro rfl ?_) | (refine m_len_sl rfl ?_) | (refine m_len_nil rfl ?_) | (refine m_ld_rpi rfl ?_ ?_; (· omega)) | (refine m_ld_pti rfl (by rfl) ?_ ?_; (· first | omega | (simp; omega))) | (apply m_ld_ptb; (· rfl); (· rfl); (· assumption)) | (apply m_ld_rp; (· rfl); (· rfl)) | (apply m_ld_pt; (· rfl); (· rfl); (· rfl)) | (refine m_pick_t rfl ?_ (by conv => lhs; whnf) ?_; (· first | rfl | assumption | (refine decide_eq_true ?_; first | assumption | omega) | (refine nt ?_; first | assumption | omega) | (simp [*]; done))) | (refine m_pick_f rfl ?_ (by conv => lhs; whnf) ?_; (· first | rfl | assumption | (refine decide_eq_false ?_; first | assumption | omega) | (refine nf ?_; first | assumption | omega) | (simp [*]; done))))) | (refine g_noF rfl ?_ ?_; (· first | rfl | assumption | (refine decide_eq_true ?_; first | assumption | omega) | (refine nt ?_; first | assumption | omega) | (simp [*]; done))) | (refine g_noT rfl ?_ ?_; (· first | rfl | assumption | (refine decide_eq_false ?_; first | assumption | omega) | (refine nf ?_; first | assumption | omega) | (simp [*]; done))))) | refine end_ops ?_ | refine seq_ops ?_ | refine AW_ops ?_ | refine AW_seq ?_ | refine AW_ret ?_ | refine ret_done ?_ | refine norm_then ?_ | refine ret_then ?_ | refine exit_then ?_)) | (refine step_ops ?_; refine g_un0 rfl ?_))
    refine outs_b ?_
    simp [hm]
  by_cases he : y = (M.length : Int)
  · have hm' : ¬ (M.length : Int) ∈ M := by rw [← he]; exact hm
    repeat (first | (refine step_ops ?_; (first | ((try (refine g_yes rfl ?_ ?_; (· first | rfl | assumption | (refine decide_eq_true ?_; first | assumption | omega) | (refine nt ?_; first | assumption | omega) | (simp [*]; done) | (refine decide_eq_false ?_; first | assumption | omega) | (refine nf ?_; first | assumption | omega)))); (first | (refine m_mov (by conv => lhs; whnf) ?_) | (refine m_eql rfl rfl ?_) | (refine m_eqk rfl rfl ?_) | (refine m_eqs rfl rfl ?_) | (refine m_not rfl ?_) | (refine m_len_ro rfl ?_) | (refine m_len_sl rfl ?_) | (refine m_len_nil rfl ?_) | (refine m_ld_rpi rfl ?_ ?_; (· omega)) | (refine m_ld_pti rfl (by rfl) ?_ ?_; (· first | omega | (simp; omega))) | (apply m_ld_ptb; (· rfl); (· rfl); (· assumption)) | (apply m_ld_rp; (· rfl); (· rfl)) | (apply m_ld_pt; (· rfl); (· rfl); (· rfl)) | (refine m_pick_t rfl ?_ (by conv => lhs; whnf) ?_; (· first | rfl | assumption | (refine decide_eq_true ?_; first | assumption | omega) | (refine nt ?_; first | assumption | omega) | (simp [*]; done))) | (refine m_pick_f rfl ?_ (by conv => lhs; whnf) ?_; (· first | rfl | assumption | (refine decide_eq_false ?_; first | assumption | omega) | (refine nf ?_; first | assumption | omega) | (simp [*]; done))))) | (refine g_noF rfl ?_ ?_; (· first | rfl | assumption | (refine decide_eq_true ?_; first | assumption | omega) | (refine nt ?_; first | assumption | omega) | (simp [*]; done))) | (refine g_noT rfl ?_ ?_; (· first | rfl | assumption | (refine decide_eq_false ?_; first | assumption | omega) | (refine nf ?_; first | assumption | omega) | (simp [*]; done))))) | refine end_ops ?_ | refine seq_ops ?_ | refine AW_ops ?_ | refine AW_seq ?_ | refine AW_ret ?_ | refine ret_done ?_ | refine norm_then ?_ | refine ret_then ?_ | refine exit_then ?_)
    (refine step_ops ?_); (first | (apply m_call (seContains_spec M y hM)) | (refine g_yes rfl ?_ ?_; (· first | (first | rfl | assumption | (refine decide_eq_true ?_; first | assumption | omega) | (refine nt ?_; first | assumption | omega) | (simp [*]; done)) | (first | rfl | assumption | (refine decide_eq_false ?_; first | assumption | omega) | (refine nf ?_; first | assumption | omega) | (simp [*]; done))); (apply m_call (seContains_spec M y hM)))); (· repeat (first | exact lends_nil | (refine lends_cons ?_ ?_; (· (first | exact lend_v | (refine lend_roM rfl; done) | (refine lend_mat rfl ?_; intro j hj; simp (disch := first | omega | assumption) only [hp_put, hp_mem_ne, hp_kill_ne]; first | exact stM_row rfl hj | (rw [stM_row rfl hj]; rfl)) | (refine lend_ints ?_; first | rfl | omega) | (refine lend_sli (by rfl) ?_; first | rfl | omega | (simp; done)) | (refine lend_pln rfl; done) | (refine lend_plns rfl rfl; done) | (refine lend_txr rfl; done) | (refine lend_txs rfl rfl; done) | exact lend_any | (refine lend_agg ?_; first | rfl | assumption | (simp [plainV]; done)))))))
    repeat (first | (refine step_ops ?_; (first | ((try (refine g_yes rfl ?_ ?_; (· first | rfl | assumption | (refine decide_eq_true ?_; first | assumption | omega) | (refine nt ?_; first | assumption | omega) | (simp [*]; done) | (refine decide_eq_false ?_; first | assumption | omega) | (refine nf ?_; first | assumption | omega)))); (first | (refine m_mov (by conv => lhs; whnf) ?_) | (refine m_eql rfl rfl ?_) | (refine m_eqk rfl rfl ?_) | (refine m_eqs rfl rfl ?_) | (refine m_not rfl ?_) | (refine m_len_ro rfl ?_) | (refine m_len_sl rfl ?_) | (refine m_len_nil rfl ?_) | (refine m_ld_rpi rfl ?_ ?_; (· omega)) | (refine m_ld_pti rfl (by rfl) ?_ ?_; (· first | omega | (simp; omega))) | (apply m_ld_ptb; (· rfl); (· rfl); (· assumption)) | (apply m_ld_rp; (· rfl); (· rfl)) | (apply m_ld_pt; (· rfl); (· rfl); (· rfl)) | (refine m_pick_t rfl ?_ (by conv => lhs; whnf) ?_; (· first | rfl | assumption | (refine decide_eq_true ?_; first | assumption | omega) | (refine nt ?_; first | assumption | omega) | (simp [*]; done))) | (refine m_pick_f rfl ?_ (by conv => lhs; whnf) ?_; (· first | rfl | assumption | (refine decide_eq_false ?_; first | assumption | omega) | (refine nf ?_; first | assumption | omega) | (simp [*]; done))))) | (refine g_noF rfl ?_ ?_; (· first | rfl | assumption | (refine decide_eq_true ?_; first | assumption | omega) | (refine nt ?_; first | assumption | omega) | (simp [*]; done))) | (refine g_noT rfl ?_ ?_; (· first | rfl | assumption | (refine decide_eq_false ?_; first | assumption | omega) | (refine nf ?_; first | assumption | omega) | (simp [*]; done))))) | refine end_ops ?_ | refine seq_ops ?_ | refine AW_ops ?_ | refine AW_seq ?_ | refine AW_ret ?_ | refine ret_done ?_ | refine norm_then ?_ | refine ret_then ?_ | refine exit_then ?_)
    refine outs_b ?_
    simp [hm', he]
  · repeat (first | (refine step_ops ?_; (first | ((try (refine g_yes rfl ?_ ?_; (· first | rfl | assumption | (refine decide_eq_true ?_; first | assumption | omega) | (refine nt ?_; first | assumption | omega) | (simp [*]; done) | (refine decide_eq_false ?_; first | assumption | omega) | (refine nf ?_; first | assumption | omega)))); (first | (refine m_mov (by conv => lhs; whnf) ?_) | (refine m_eql rfl rfl ?_) | (refine m_eqk rfl rfl ?_) | (refine m_eqs rfl rfl ?_) | (refine m_not rfl ?_) | (refine m_len_ro rfl ?_) | (refine m_len_sl rfl ?_) | (refine m_len_nil rfl ?_) | (refine m_ld_rpi rfl ?_ ?_; (· omega)) | (refine m_ld_pti rfl (by rfl) ?_ ?_; (· first | omega | (simp; omega))) | (apply m_ld_ptb; (· rfl); (· rfl); (· assumption)) | (apply m_ld_rp; (· rfl); (· rfl)) | (apply m_ld_pt; (· rfl); (· rfl); (· rfl)) | (refine m_pick_t rfl ?_ (by conv => lhs; whnf) ?_; (· first | rfl | assumption | (refine decide_eq_true ?_; first | assumption | omega) | (refine nt ?_; first | assumption | omega) | (simp [*]; done))) | (refine m_pick_f rfl ?_ (by conv => lhs; whnf) ?_; (· first | rfl | assumption | (refine decide_eq_false ?_; first | assumption | omega) | (refine nf ?_; first | assumption | omega) | (simp [*]; done))))) | (refine g_noF rfl ?_ ?_; (· first | rfl | assumption | (refine decide_eq_true ?_; first | assumption | omega) | (refine nt ?_; first | assumption | omega) | (simp [*]; done))) | (refine g_noT rfl ?_ ?_; (· first | rfl | assumption | (refine decide_eq_false ?_; first | assumption | omega) | (refine nf ?_; first | assumption | omega) | (simp [*]; done))))) | refine end_ops ?_ | refine seq_ops ?_ | refine AW_ops ?_ | refine AW_seq ?_ | refine AW_ret ?_ | refine ret_done ?_ | refine norm_then ?_ | refine ret_then ?_ | refine exit_then ?_)
    (refine step_ops ?_); (first | (apply m_call (seContains_spec M y hM)) | (refine g_yes rfl ?_ ?_; (· first | (first | rfl | assumption | (refine decide_eq_true ?_; first | assumption | omega) | (refine nt ?_; first | assumption | omega) | (simp [*]; done)) | (first | rfl | assumption | (refine decide_eq_false ?_; first | assumption | omega) | (refine nf ?_; first | assumption | omega) | (simp [*]; done))); (apply m_call (seContains_spec M y hM)))); (· repeat (first | exact lends_nil | (refine lends_cons ?_ ?_; (· (first | exact lend_v | (refine lend_roM rfl; done) | (refine lend_mat rfl ?_; intro j hj; simp (disch := first | omega | assumption) only [hp_put, hp_mem_ne, hp_kill_ne]; first | exact stM_row rfl hj | (rw [stM_row rfl hj]; rfl)) | (refine lend_ints ?_; first | rfl | omega) | (refine lend_sli (by rfl) ?_; first | rfl | omega | (simp; done)) | (refine lend_pln rfl; done) | (refine lend_plns rfl rfl; done) | (refine lend_txr rfl; done) | (refine lend_txs rfl rfl; done) | exact lend_any | (refine lend_agg ?_; first | rfl | assumption | (simp [plainV]; done)))))))
    repeat (first | (refine step_ops ?_; (first | ((try (refine g_yes rfl ?_ ?_; (· first | rfl | assumption | (refine decide_eq_true ?_; first | assumption | omega) | (refine nt ?_; first | assumption | omega) | (simp [*]; done) | (refine decide_eq_false ?_; first | assumption | omega) | (refine nf ?_; first | assumption | omega)))); (first | (refine m_mov (by conv => lhs; whnf) ?_) | (refine m_eql rfl rfl ?_) | (refine m_eqk rfl rfl ?_) | (refine m_eqs rfl rfl ?_) | (refine m_not rfl ?_) | (refine m_len_ro rfl ?_) | (refine m_len_sl rfl ?_) | (refine m_len_nil rfl ?_) | (refine m_ld_rpi rfl ?_ ?_; (· omega)) | (refine m_ld_pti rfl (by rfl) ?_ ?_; (· first | omega | (simp; omega))) | (apply m_ld_ptb; (· rfl); (· rfl); (· assumption)) | (apply m_ld_rp; (· rfl); (· rfl)) | (apply m_ld_pt; (· rfl); (· rfl); (· rfl)) | (refine m_pick_t rfl ?_ (by conv => lhs; whnf) ?_; (· first | rfl | assumption | (refine decide_eq_true ?_; first | assumption | omega) | (refine nt ?_; first | assumption | omega) | (simp [*]; done))) | (refine m_pick_f rfl ?_ (by conv => lhs; whnf) ?_; (· first | rfl | assumption | (refine decide_eq_false ?_; first | assumption | omega) | (refine nf ?_; first | assumption | omega) | (simp [*]; done))))) | (refine g_noF rfl ?_ ?_; (· first | rfl | assumption | (refine decide_eq_true ?_; first | assumption | omega) | (refine nt ?_; first | assumption | omega) | (simp [*]; done))) | (refine g_noT rfl ?_ ?_; (· first | rfl | assumption | (refine decide_eq_false ?_; first | assumption | omega) | (refine nf ?_; first | assumption | omega) | (simp [*]; done))))) | refine end_ops ?_ | refine seq_ops ?_ | refine AW_ops ?_ | refine AW_seq ?_ | refine AW_ret ?_ | refine ret_done ?_ | refine norm_then ?_ | refine ret_then ?_ | refine exit_then ?_)
    (refine step_ops ?_); (first | (apply m_call (hasToChoose_spec l M hM)) | (refine g_yes rfl ?_ ?_; (· first | (first | rfl | assumption | (refine decide_eq_true ?_; first | assumption | omega) | (refine nt ?_; first | assumption | omega) | (simp [*]; done)) | (first | rfl | assumption | (refine decide_eq_false ?_; first | assumption | omega) | (refine nf ?_; first | assumption | omega) | (simp [*]; done))); (apply m_call (hasToChoose_spec l M hM)))); (· repeat (first | exact lends_nil | (refine lends_cons ?_ ?_; (· (first | exact lend_v | (refine lend_roM rfl; done) | (refine lend_mat rfl ?_; intro j hj; simp (disch := first | omega | assumption) only [hp_put, hp_mem_ne, hp_kill_ne]; first | exact stM_row rfl hj | (rw [stM_row rfl hj]; rfl)) | (refine lend_ints ?_; first | rfl | omega) | (refine lend_sli (by rfl) ?_; first | rfl | omega | (simp; done)) | (refine lend_pln rfl; done) | (refine lend_plns rfl rfl; done) | (refine lend_txr rfl; done) | (refine lend_txs rfl rfl; done) | exact lend_any | (refine lend_agg ?_; first | rfl | assumption | (simp [plainV]; done)))))))
    repeat (first | (refine step_ops ?_; (first | ((try (refine g_yes rfl ?_ ?_; (· first | rfl | assumption | (refine decide_eq_true ?_; first | assumption | omega) | (refine nt ?_; first | assumption | omega) | (simp [*]; done) | (refine decide_eq_false ?_; first | assumption | omega) | (refine nf ?_; first | assumption | omega)))); (first | (refine m_mov (by conv => lhs; whnf) ?_) | (refine m_eql rfl rfl ?_) | (refine m_eqk rfl rfl ?_) | (refine m_eqs rfl rfl ?_) | (refine m_not rfl ?_) | (refine m_len_ro rfl ?_) | (refine m_len_sl rfl ?_) | (refine m_len_nil rfl ?_) | (refine m_ld_rpi rfl ?_ ?_; (· omega)) | (refine m_ld_pti rfl (by rfl) ?_ ?_; (· first | omega | (simp; omega))) | (apply m_ld_ptb; (· rfl); (· rfl); (· assumption)) | (apply m_ld_rp; (· rfl); (· rfl)) | (apply m_ld_pt; (· rfl); (· rfl); (· rfl)) | (refine m_pick_t rfl ?_ (by conv => lhs; whnf) ?_; (· first | rfl | assumption | (refine decide_eq_true ?_; first | assumption | omega) | (refine nt ?_; first | assumption | omega) | (simp [*]; done))) | (refine m_pick_f rfl ?_ (by conv => lhs; whnf) ?_; (· first | rfl | assumption | (refine decide_eq_false ?_; first | assumption | omega) | (refine nf ?_; first | assumption | omega) | (simp [*]; done))))) | (refine g_noF rfl ?_ ?_; (· first | rfl | assumption | (refine decide_eq_true ?_; first | assumption | omega) | (refine nt ?_; first | assumption | omega) | (simp [*]; done))) | (refine g_noT rfl ?_ ?_; (· first | rfl | assumption | (refine decide_eq_false ?_; first | assumption | omega) | (refine nf ?_; first | assumption | omega) | (simp [*]; done))))) | refine end_ops ?_ | refine seq_ops ?_ | refine AW_ops ?_ | refine AW_seq ?_ | refine AW_ret ?_ | refine ret_done ?_ | refine norm_then ?_ | refine ret_then ?_ | refine exit_then ?_)
    refine outs_b ?_
    simp [hm, he]
theorem seCan_spec (l : Int) (L : List Int) (hL : L.length ≤ 12) : Sp Try.prog 26 [.i l, ints L] (.tup [.b (decide (comeK l L L.length)), .i (if comeK l L L.length then prodS l L L.length else 0 : Nat)]) := by
  refine spec_of Try.func26 rfl cc26 rfl ?_
  unfold ac26
  repeat (first | (refine step_ops ?_; (first | (refine m_mov (by conv => lhs; whnf) ?_) | (refine m_lss rfl rfl ?_) | (refine m_neq rfl rfl ?_) | (refine m_neqk rfl rfl ?_) | (refine m_neqs_self rfl rfl ?_) | (refine m_neqs rfl rfl ?_) | (refine m_add rfl rfl ?_ ?_ ?_; (· omega); (· omega)) | (refine m_adds rfl rfl ?_ ?_; (· first | omega | (simp; omega))) | (refine m_sub rfl rfl ?_ ?_ ?_; (· omega); (· omega)) | (refine m_mul rfl rfl ?_ ?_ ?_; (· first | omega | (simp; done)); (· first | omega | (simp; done))) | (refine m_len_ro rfl ?_) | (refine m_len_sl rfl ?_) | (refine m_len_nil rfl ?_) | (refine m_idx1_ro rfl rfl ?_ ?_; (· omega)) | (refine m_idx1_sl rfl rfl ?_ ?_; (· omega)) | (apply m_idx1_slj; (· rfl); (· rfl); (· assumption); (· omega)) | (apply m_idx1_roj; (· rfl); (· rfl); (· assumption); (· omega)) | (refine m_idx_ro rfl rfl ?_ ?_ ?_; (· omega); (· omega)) | (refine m_idx_sl rfl rfl ?_ ?_ ?_; (· omega); (· omega)) | (refine m_ld_rpi rfl ?_ ?_; (· omega)) | (refine m_ld_pti rfl (by rfl) ?_ ?_; (· first | omega | (simp; omega))) | (apply m_ld_ptb; (· rfl); (· rfl); (· assumption)) | (apply m_ld_rp; (· rfl); (· rfl)) | (apply m_ld_pt; (· rfl); (· rfl); (· rfl)) | (refine m_cut_hi rfl rfl ?_ ?_ ?_; (· first | rfl | omega | simp); (· first | omega | (simp; omega))) | (refine m_cut_lo rfl rfl ?_ ?_ ?_; (· first | rfl | omega | simp); (· first | omega | (simp; omega))))) | refine end_ops ?_ | refine seq_ops ?_ | refine AW_ops ?_ | (refine cond_t rfl ?_ ?_; (· first | rfl | assumption | (refine decide_eq_true ?_; first | assumption | omega) | (refine nt ?_; first | assumption | omega) | (simp [*]; done))) | (refine cond_f rfl ?_ ?_; (· first | rfl | assumption | (refine decide_eq_false ?_; first | assumption | omega) | (refine nf ?_; first | assumption | omega) | (simp [*]; done))) | refine skip_then ?_ | refine AW_seq ?_ | refine AW_ret ?_ | refine ret_done ?_ | refine norm_then ?_ | refine ret_then ?_ | refine exit_then ?_ | refine AW_block ?_ | refine norm_block ?_ | refine ret_block ?_ | refine ret_round ?_ | refine exit_round ?_ | refine AW_exit ?_ | refine exit_block ?_ | (refine exit_other ?_ ?_; (· decide)) | refine AW_skip ?_)
  refine AW_loop (α := Nat) (fun k => k ≤ L.length ∧ comeK l L k) (fun k => st [(0, .i l), (1, ints L), (6, .i (prodS l L k)), (10, ints L), (11, .i L.length), (12, .i k)] []) (fun k => L.length - k) 0 ⟨by omega, fun j hj => by omega⟩ (weak_st ?_ ?_ rfl rfl) ?_
  · (repeat' (first | exact trivial | refine And.intro ?_ ?_)) <;> (first | rfl | skip)
  · trivial
  rintro k ⟨hk, hcm⟩
  by_cases h : k < L.length
  · have hlt : (L.take k).length ≤ 1048576 := by simp; omega
    have hb := prodS_bound l L hL (k + 1) (by omega)
    have hb0 := prodS_bound l L hL k (by omega)
    by_cases hc : chsE l (L.take k) = true
    · have e : prodS l L (k + 1) = prodS l L k * (L.length - k) := if_pos hc
      rw [e] at hb
      have c1 : ((prodS l L k : Nat) : Int) * ((L.length : Int) - (k : Int)) = ((prodS l L k * (L.length - k) : Nat) : Int) := by
        rw [show (L.length : Int) - (k : Int) = ((L.length - k : Nat) : Int) by omega]; simp
      repeat (first | (refine step_ops ?_; (first | (refine m_mov (by conv => lhs; whnf) ?_) | (refine m_lss rfl rfl ?_) | (refine m_neq rfl rfl ?_) | (refine m_neqk rfl rfl ?_) | (refine m_neqs_self rfl rfl ?_) | (refine m_neqs rfl rfl ?_) | (refine m_add rfl rfl ?_ ?_ ?_; (· omega); (· omega)) | (refine m_adds rfl rfl ?_ ?_; (· first | omega | (simp; omega))) | (refine m_sub rfl rfl ?_ ?_ ?_; (· omega); (· omega)) | (refine m_mul rfl rfl ?_ ?_ ?_; (· first | omega | (simp; done)); (· first | omega | (simp; done))) | (refine m_len_ro rfl ?_) | (refine m_len_sl rfl ?_) | (refine m_len_nil rfl ?_) | (refine m_idx1_ro rfl rfl ?_ ?_; (· omega)) | (refine m_idx1_sl rfl rfl ?_ ?_; (· omega)) | (apply m_idx1_slj; (· rfl); (· rfl); (· assumption); (· omega)) | (apply m_idx1_roj; (· rfl); (· rfl); (· assumption); (· omega)) | (refine m_idx_ro rfl rfl ?_ ?_ ?_; (· omega); (· omega)) | (refine m_idx_sl rfl rfl ?_ ?_ ?_; (· omega); (· omega)) | (refine m_ld_rpi rfl ?_ ?_; (· omega)) | (refine m_ld_pti rfl (by rfl) ?_ ?_; (· first | omega | (simp; omega))) | (apply m_ld_ptb; (· rfl); (· rfl); (· assumption)) | (apply m_ld_rp; (· rfl); (· rfl)) | (apply m_ld_pt; (· rfl); (· rfl); (· rfl)) | (refine m_cut_hi rfl rfl ?_ ?_ ?_; (· first | rfl | omega | simp); (· first | omega | (simp; omega))) | (refine m_cut_lo rfl rfl ?_ ?_ ?_; (· first | rfl | omega | simp); (· first | omega | (simp; omega))))) | refine end_ops ?_ | refine seq_ops ?_ | refine AW_ops ?_ | (refine cond_t rfl ?_ ?_; (· first | rfl | assumption | (refine decide_eq_true ?_; first | assumption | omega) | (refine nt ?_; first | assumption | omega) | (simp [*]; done))) | (refine cond_f rfl ?_ ?_; (· first | rfl | assumption | (refine decide_eq_false ?_; first | assumption | omega) | (refine nf ?_; first | assumption | omega) | (simp [*]; done))) | refine skip_then ?_ | refine AW_seq ?_ | refine AW_ret ?_ | refine ret_done ?_ | refine norm_then ?_ | refine ret_then ?_ | refine exit_then ?_ | refine AW_block ?_ | refine norm_block ?_ | refine ret_block ?_ | refine ret_round ?_ | refine exit_round ?_ | refine AW_exit ?_ | refine exit_block ?_ | (refine exit_other ?_ ?_; (· decide)) | refine AW_skip ?_)
      (refine step_ops ?_); (apply m_call (seChooses_spec l (L.take k) hlt)); (· repeat (first | exact lends_nil | (refine lends_cons ?_ ?_; (· (first | exact lend_v | (refine lend_roM rfl; done) | (refine lend_mat rfl ?_; intro j hj; simp (disch := first | omega | assumption) only [hp_put, hp_mem_ne, hp_kill_ne]; first | exact stM_row rfl hj | (rw [stM_row rfl hj]; rfl)) | (refine lend_ints ?_; first | rfl | omega) | (refine lend_sli (by rfl) ?_; first | rfl | omega | (simp; done)) | (refine lend_pln rfl; done) | (refine lend_plns rfl rfl; done) | (refine lend_txr rfl; done) | (refine lend_txs rfl rfl; done) | exact lend_any | (refine lend_agg ?_; first | rfl | assumption | (simp [plainV]; done)))))))
      repeat (first | (refine step_ops ?_; (first | (refine m_mov (by conv => lhs; whnf) ?_) | (refine m_lss rfl rfl ?_) | (refine m_neq rfl rfl ?_) | (refine m_neqk rfl rfl ?_) | (refine m_neqs_self rfl rfl ?_) | (refine m_neqs rfl rfl ?_) | (refine m_add rfl rfl ?_ ?_ ?_; (· omega); (· omega)) | (refine m_adds rfl rfl ?_ ?_; (· first | omega | (simp; omega))) | (refine m_sub rfl rfl ?_ ?_ ?_; (· omega); (· omega)) | (refine m_mul rfl rfl ?_ ?_ ?_; (· first | omega | (simp; done)); (· first | omega | (simp; done))) | (refine m_len_ro rfl ?_) | (refine m_len_sl rfl ?_) | (refine m_len_nil rfl ?_) | (refine m_idx1_ro rfl rfl ?_ ?_; (· omega)) | (refine m_idx1_sl rfl rfl ?_ ?_; (· omega)) | (apply m_idx1_slj; (· rfl); (· rfl); (· assumption); (· omega)) | (apply m_idx1_roj; (· rfl); (· rfl); (· assumption); (· omega)) | (refine m_idx_ro rfl rfl ?_ ?_ ?_; (· omega); (· omega)) | (refine m_idx_sl rfl rfl ?_ ?_ ?_; (· omega); (· omega)) | (refine m_ld_rpi rfl ?_ ?_; (· omega)) | (refine m_ld_pti rfl (by rfl) ?_ ?_; (· first | omega | (simp; omega))) | (apply m_ld_ptb; (· rfl); (· rfl); (· assumption)) | (apply m_ld_rp; (· rfl); (· rfl)) | (apply m_ld_pt; (· rfl); (· rfl); (· rfl)) | (refine m_cut_hi rfl rfl ?_ ?_ ?_; (· first | rfl | omega | simp); (· first | omega | (simp; omega))) | (refine m_cut_lo rfl rfl ?_ ?_ ?_; (· first | rfl | omega | simp); (· first | omega | (simp; omega))))) | refine end_ops ?_ | refine seq_ops ?_ | refine AW_ops ?_ | (refine cond_t rfl ?_ ?_; (· first | rfl | assumption | (refine decide_eq_true ?_; first | assumption | omega) | (refine nt ?_; first | assumption | omega) | (simp [*]; done))) | (refine cond_f rfl ?_ ?_; (· first | rfl | assumption | (refine decide_eq_false ?_; first | assumption | omega) | (refine nf ?_; first | assumption | omega) | (simp [*]; done))) | refine skip_then ?_ | refine AW_seq ?_ | refine AW_ret ?_ | refine ret_done ?_ | refine norm_then ?_ | refine ret_then ?_ | refine exit_then ?_ | refine AW_block ?_ | refine norm_block ?_ | refine ret_block ?_ | refine ret_round ?_ | refine exit_round ?_ | refine AW_exit ?_ | refine exit_block ?_ | (refine exit_other ?_ ?_; (· decide)) | refine AW_skip ?_)
      refine next_round (k + 1) ⟨by omega, comeK_succ hcm (.inl hc)⟩ (weak_st ?_ ?_ rfl rfl) ?_
      · rw [e, ← c1]
        (repeat' (first | exact trivial | refine And.intro ?_ ?_)) <;> (first | rfl | skip)
      · trivial
      · omega
    · have e : prodS l L (k + 1) = prodS l L k := if_neg hc
      have hcf : chsE l (L.take k) = false := by simpa using hc
      by_cases hx : L.getD k 0 = (k : Int)
      · repeat (first | (refine step_ops ?_; (first | (refine m_mov (by conv => lhs; whnf) ?_) | (refine m_lss rfl rfl ?_) | (refine m_neq rfl rfl ?_) | (refine m_neqk rfl rfl ?_) | (refine m_neqs_self rfl rfl ?_) | (refine m_neqs rfl rfl ?_) | (refine m_add rfl rfl ?_ ?_ ?_; (· omega); (· omega)) | (refine m_adds rfl rfl ?_ ?_; (· first | omega | (simp; omega))) | (refine m_sub rfl rfl ?_ ?_ ?_; (· omega); (· omega)) | (refine m_mul rfl rfl ?_ ?_ ?_; (· first | omega | (simp; done)); (· first | omega | (simp; done))) | (refine m_len_ro rfl ?_) | (refine m_len_sl rfl ?_) | (refine m_len_nil rfl ?_) | (refine m_idx1_ro rfl rfl ?_ ?_; (· omega)) | (refine m_idx1_sl rfl rfl ?_ ?_; (· omega)) | (apply m_idx1_slj; (· rfl); (· rfl); (· assumption); (· omega)) | (apply m_idx1_roj; (· rfl); (· rfl); (· assumption); (· omega)) | (refine m_idx_ro rfl rfl ?_ ?_ ?_; (· omega); (· omega)) | (refine m_idx_sl rfl rfl ?_ ?_ ?_; (· omega); (· omega)) | (refine m_ld_rpi rfl ?_ ?_; (· omega)) | (refine m_ld_pti rfl (by rfl) ?_ ?_; (· first | omega | (simp; omega))) | (apply m_ld_ptb; (· rfl); (· rfl); (· assumption)) | (apply m_ld_rp; (· rfl); (· rfl)) | (apply m_ld_pt; (· rfl); (· rfl); (· rfl)) | (refine m_cut_hi rfl rfl ?_ ?_ ?_; (· first | rfl | omega | simp); (· first | omega | (simp; omega))) | (refine m_cut_lo rfl rfl ?_ ?_ ?_; (· first | rfl | omega | simp); (· first | omega | (simp; omega))))) | refine end_ops ?_ | refine seq_ops ?_ | refine AW_ops ?_ | (refine cond_t rfl ?_ ?_; (· first | rfl | assumption | (refine decide_eq_true ?_; first | assumption | omega) | (refine nt ?_; first | assumption | omega) | (simp [*]; done))) | (refine cond_f rfl ?_ ?_; (· first | rfl | assumption | (refine decide_eq_false ?_; first | assumption | omega) | (refine nf ?_; first | assumption | omega) | (simp [*]; done))) | refine skip_then ?_ | refine AW_seq ?_ | refine AW_ret ?_ | refine ret_done ?_ | refine norm_then ?_ | refine ret_then ?_ | refine exit_then ?_ | refine AW_block ?_ | refine norm_block ?_ | refine ret_block ?_ | refine ret_round ?_ | refine exit_round ?_ | refine AW_exit ?_ | refine exit_block ?_ | (refine exit_other ?_ ?_; (· decide)) | refine AW_skip ?_)
        (refine step_ops ?_); (apply m_call (seChooses_spec l (L.take k) hlt)); (· repeat (first | exact lends_nil | (refine lends_cons ?_ ?_; (· (first | exact lend_v | (refine lend_roM rfl; done) | (refine lend_mat rfl ?_; intro j hj; simp (disch := first | omega | assumption) only [hp_put, hp_mem_ne, hp_kill_ne]; first | exact stM_row rfl hj | (rw [stM_row rfl hj]; rfl)) | (refine lend_ints ?_; first | rfl | omega) | (refine lend_sli (by rfl) ?_; first | rfl | omega | (simp; done)) | (refine lend_pln rfl; done) | (refine lend_plns rfl rfl; done) | (refine lend_txr rfl; done) | (refine lend_txs rfl rfl; done) | exact lend_any | (refine lend_agg ?_; first | rfl | assumption | (simp [plainV]; done)))))))
        repeat (first | (refine step_ops ?_; (first | (refine m_mov (by conv => lhs; whnf) ?_) | (refine m_lss rfl rfl ?_) | (refine m_neq rfl rfl ?_) | (refine m_neqk rfl rfl ?_) | (refine m_neqs_self rfl rfl ?_) | (refine m_neqs rfl rfl ?_) | (refine m_add rfl rfl ?_ ?_ ?_; (· omega); (· omega)) | (refine m_adds rfl rfl ?_ ?_; (· first | omega | (simp; omega))) | (refine m_sub rfl rfl ?_ ?_ ?_; (· omega); (· omega)) | (refine m_mul rfl rfl ?_ ?_ ?_; (· first | omega | (simp; done)); (· first | omega | (simp; done))) | (refine m_len_ro rfl ?_) | (refine m_len_sl rfl ?_) | (refine m_len_nil rfl ?_) | (refine m_idx1_ro rfl rfl ?_ ?_; (· omega)) | (refine m_idx1_sl rfl rfl ?_ ?_; (· omega)) | (apply m_idx1_slj; (· rfl); (· rfl); (· assumption); (· omega)) | (apply m_idx1_roj; (· rfl); (· rfl); (· assumption); (· omega)) | (refine m_idx_ro rfl rfl ?_ ?_ ?_; (· omega); (· omega)) | (refine m_idx_sl rfl rfl ?_ ?_ ?_; (· omega); (· omega)) | (refine m_ld_rpi rfl ?_ ?_; (· omega)) | (refine m_ld_pti rfl (by rfl) ?_ ?_; (· first | omega | (simp; omega))) | (apply m_ld_ptb; (· rfl); (· rfl); (· assumption)) | (apply m_ld_rp; (· rfl); (· rfl)) | (apply m_ld_pt; (· rfl); (· rfl); (· rfl)) | (refine m_cut_hi rfl rfl ?_ ?_ ?_; (· first | rfl | omega | simp); (· first | omega | (simp; omega))) | (refine m_cut_lo rfl rfl ?_ ?_ ?_; (· first | rfl | omega | simp); (· first | omega | (simp; omega))))) | refine end_ops ?_ | refine seq_ops ?_ | refine AW_ops ?_ | (refine cond_t rfl ?_ ?_; (· first | rfl | assumption | (refine decide_eq_true ?_; first | assumption | omega) | (refine nt ?_; first | assumption | omega) | (simp [*]; done))) | (refine cond_f rfl ?_ ?_; (· first | rfl | assumption | (refine decide_eq_false ?_; first | assumption | omega) | (refine nf ?_; first | assumption | omega) | (simp [*]; done))) | refine skip_then ?_ | refine AW_seq ?_ | refine AW_ret ?_ | refine ret_done ?_ | refine norm_then ?_ | refine ret_then ?_ | refine exit_then ?_ | refine AW_block ?_ | refine norm_block ?_ | refine ret_block ?_ | refine ret_round ?_ | refine exit_round ?_ | refine AW_exit ?_ | refine exit_block ?_ | (refine exit_other ?_ ?_; (· decide)) | refine AW_skip ?_)
        refine next_round (k + 1) ⟨by omega, comeK_succ hcm (.inr hx)⟩ (weak_st ?_ ?_ rfl rfl) ?_
        · rw [e]
          (repeat' (first | exact trivial | refine And.intro ?_ ?_)) <;> (first | rfl | skip)
        · trivial
        · omega
      · repeat (first | (refine step_ops ?_; (first | (refine m_mov (by conv => lhs; whnf) ?_) | (refine m_lss rfl rfl ?_) | (refine m_neq rfl rfl ?_) | (refine m_neqk rfl rfl ?_) | (refine m_neqs_self rfl rfl ?_) | (refine m_neqs rfl rfl ?_) | (refine m_add rfl rfl ?_ ?_ ?_; (· omega); (· omega)) | (refine m_adds rfl rfl ?_ ?_; (· first | omega | (simp; omega))) | (refine m_sub rfl rfl ?_ ?_ ?_; (· omega); (· omega)) | (refine m_mul rfl rfl ?_ ?_ ?_; (· first | omega | (simp; done)); (· first | omega | (simp; done))) | (refine m_len_ro rfl ?_) | (refine m_len_sl rfl ?_) | (refine m_len_nil rfl ?_) | (refine m_idx1_ro rfl rfl ?_ ?_; (· omega)) | (refine m_idx1_sl rfl rfl ?_ ?_; (· omega)) | (apply m_idx1_slj; (· rfl); (· rfl); (· assumption); (· omega)) | (apply m_idx1_roj; (· rfl); (· rfl); (· assumption); (· omega)) | (refine m_idx_ro rfl rfl ?_ ?_ ?_; (· omega); (· omega)) | (refine m_idx_sl rfl rfl ?_ ?_ ?_; (· omega); (· omega)) | (refine m_ld_rpi rfl ?_ ?_; (· omega)) | (refine m_ld_pti rfl (by rfl) ?_ ?_; (· first | omega | (simp; omega))) | (apply m_ld_ptb; (· rfl); (· rfl); (· assumption)) | (apply m_ld_rp; (· rfl); (· rfl)) | (apply m_ld_pt; (· rfl); (· rfl); (· rfl)) | (refine m_cut_hi rfl rfl ?_ ?_ ?_; (· first | rfl | omega | simp); (· first | omega | (simp; omega))) | (refine m_cut_lo rfl rfl ?_ ?_ ?_; (· first | rfl | omega | simp); (· first | omega | (simp; omega))))) | refine end_ops ?_ | refine seq_ops ?_ | refine AW_ops ?_ | (refine cond_t rfl ?_ ?_; (· first | rfl | assumption | (refine decide_eq_true ?_; first | assumption | omega) | (refine nt ?_; first | assumption | omega) | (simp [*]; done))) | (refine cond_f rfl ?_ ?_; (· first | rfl | assumption | (refine decide_eq_false ?_; first | assumption | omega) | (refine nf ?_; first | assumption | omega) | (simp [*]; done))) | refine skip_then ?_ | refine AW_seq ?_ | refine AW_ret ?_ | refine ret_done ?_ | refine norm_then ?_ | refine ret_then ?_ | refine exit_then ?_ | refine AW_block ?_ | refine norm_block ?_ | refine ret_block ?_ | refine ret_round ?_ | refine exit_round ?_ | refine AW_exit ?_ | refine exit_block ?_ | (refine exit_other ?_ ?_; (· decide)) | refine AW_skip ?_)
        (refine step_ops ?_); (apply m_call (seChooses_spec l (L.take k) hlt)); (· repeat (first | exact lends_nil | (refine lends_cons ?_ ?_; (· (first | exact lend_v | (refine lend_roM rfl; done) | (refine lend_mat rfl ?_; intro j hj; simp (disch := first | omega | assumption) only [hp_put, hp_mem_ne, hp_kill_ne]; first | exact stM_row rfl hj | (rw [stM_row rfl hj]; rfl)) | (refine lend_ints ?_; first | rfl | omega) | (refine lend_sli (by rfl) ?_; first | rfl | omega | (simp; done)) | (refine lend_pln rfl; done) | (refine lend_plns rfl rfl; done) | (refine lend_txr rfl; done) | (refine lend_txs rfl rfl; done) | exact lend_any | (refine lend_agg ?_; first | rfl | assumption | (simp [plainV]; done)))))))
        repeat (first | (refine step_ops ?_; (first | (refine m_mov (by conv => lhs; whnf) ?_) | (refine m_lss rfl rfl ?_) | (refine m_neq rfl rfl ?_) | (refine m_neqk rfl rfl ?_) | (refine m_neqs_self rfl rfl ?_) | (refine m_neqs rfl rfl ?_) | (refine m_add rfl rfl ?_ ?_ ?_; (· omega); (· omega)) | (refine m_adds rfl rfl ?_ ?_; (· first | omega | (simp; omega))) | (refine m_sub rfl rfl ?_ ?_ ?_; (· omega); (· omega)) | (refine m_mul rfl rfl ?_ ?_ ?_; (· first | omega | (simp; done)); (· first | omega | (simp; done))) | (refine m_len_ro rfl ?_) | (refine m_len_sl rfl ?_) | (refine m_len_nil rfl ?_) | (refine m_idx1_ro rfl rfl ?_ ?_; (· omega)) | (refine m_idx1_sl rfl rfl ?_ ?_; (· omega)) | (apply m_idx1_slj; (· rfl); (· rfl); (· assumption); (· omega)) | (apply m_idx1_roj; (· rfl); (· rfl); (· assumption); (· omega)) | (refine m_idx_ro rfl rfl ?_ ?_ ?_; (· omega); (· omega)) | (refine m_idx_sl rfl rfl ?_ ?_ ?_; (· omega); (· omega)) | (refine m_ld_rpi rfl ?_ ?_; (· omega)) | (refine m_ld_pti rfl (by rfl) ?_ ?_; (· first | omega | (simp; omega))) | (apply m_ld_ptb; (· rfl); (· rfl); (· assumption)) | (apply m_ld_rp; (· rfl); (· rfl)) | (apply m_ld_pt; (· rfl); (· rfl); (· rfl)) | (refine m_cut_hi rfl rfl ?_ ?_ ?_; (· first | rfl | omega | simp); (· first | omega | (simp; omega))) | (refine m_cut_lo rfl rfl ?_ ?_ ?_; (· first | rfl | omega | simp); (· first | omega | (simp; omega))))) | refine end_ops ?_ | refine seq_ops ?_ | refine AW_ops ?_ | (refine cond_t rfl ?_ ?_; (· first | rfl | assumption | (refine decide_eq_true ?_; first | assumption | omega) | (refine nt ?_; first | assumption | omega) | (simp [*]; done))) | (refine cond_f rfl ?_ ?_; (· first | rfl | assumption | (refine decide_eq_false ?_; first | assumption | omega) | (refine nf ?_; first | assumption | omega) | (simp [*]; done))) | refine skip_then ?_ | refine AW_seq ?_ | refine AW_ret ?_ | refine ret_done ?_ | refine norm_then ?_ | refine ret_then ?_ | refine exit_then ?_ | refine AW_block ?_ | refine norm_block ?_ | refine ret_block ?_ | refine ret_round ?_ | refine exit_round ?_ | refine AW_exit ?_ | refine exit_block ?_ | (refine exit_other ?_ ?_; (· decide)) | refine AW_skip ?_)
        have hno : ¬ comeK l L L.length := fun hh => by
          rcases hh k h with h1 | h1
          · exact hc h1
          · exact hx h1
        refine outs_tup2 (outs_b (decide_eq_false hno).symm) (outs_i ?_)
        rw [if_neg hno]; rfl
  · obtain rfl : k = L.length := by omega
    repeat (first | (refine step_ops ?_; (first | (refine m_mov (by conv => lhs; whnf) ?_) | (refine m_lss rfl rfl ?_) | (refine m_neq rfl rfl ?_) | (refine m_neqk rfl rfl ?_) | (refine m_neqs_self rfl rfl ?_) | (refine m_neqs rfl rfl ?_) | (refine m_add rfl rfl ?_ ?_ ?_; (· omega); (· omega)) | (refine m_adds rfl rfl ?_ ?_; (· first | omega | (simp; omega))) | (refine m_sub rfl rfl ?_ ?_ ?_; (· omega); (· omega)) | (refine m_mul rfl rfl ?_ ?_ ?_; (· first | omega | (simp; done)); (· first | omega | (simp; done))) | (refine m_len_ro rfl ?_) | (refine m_len_sl rfl ?_) | (refine m_len_nil rfl ?_) | (refine m_idx1_ro rfl rfl ?_ ?_; (· omega)) | (refine m_idx1_sl rfl rfl ?_ ?_; (· omega)) | (apply m_idx1_slj; (· rfl); (· rfl); (· assumption); (· omega)) | (apply m_idx1_roj; (· rfl); (· rfl); (· assumption); (· omega)) | (refine m_idx_ro rfl rfl ?_ ?_ ?_; (· omega); (· omega)) | (refine m_idx_sl rfl rfl ?_ ?_ ?_; (· omega); (· omega)) | (refine m_ld_rpi rfl ?_ ?_; (· omega)) | (refine m_ld_pti rfl (by rfl) ?_ ?_; (· first | omega | (simp; omega))) | (apply m_ld_ptb; (· rfl); (· rfl); (· assumption)) | (apply m_ld_rp; (· rfl); (· rfl)) | (apply m_ld_pt; (· rfl); (· rfl); (· rfl)) | (refine m_cut_hi rfl rfl ?_ ?_ ?_; (· first | rfl | omega | simp); (· first | omega | (simp; omega))) | (refine m_cut_lo rfl rfl ?_ ?_ ?_; (· first | rfl | omega | simp); (· first | omega | (simp; omega))))) | refine end_ops ?_ | refine seq_ops ?_ | refine AW_ops ?_ | (refine cond_t rfl ?_ ?_; (· first | rfl | assumption | (refine decide_eq_true ?_; first | assumption | omega) | (refine nt ?_; first | assumption | omega) | (simp [*]; done))) | (refine cond_f rfl ?_ ?_; (· first | rfl | assumption | (refine decide_eq_false ?_; first | assumption | omega) | (refine nf ?_; first | assumption | omega) | (simp [*]; done))) | refine skip_then ?_ | refine AW_seq ?_ | refine AW_ret ?_ | refine ret_done ?_ | refine norm_then ?_ | refine ret_then ?_ | refine exit_then ?_ | refine AW_block ?_ | refine norm_block ?_ | refine ret_block ?_ | refine ret_round ?_ | refine exit_round ?_ | refine AW_exit ?_ | refine exit_block ?_ | (refine exit_other ?_ ?_; (· decide)) | refine AW_skip ?_)
    refine outs_tup2 (outs_b (decide_eq_true hcm).symm) (outs_i ?_)
    rw [if_pos hcm]
theorem countChosen_spec (l : Int) (L : List Int) (hL : L.length ≤ 12) : Sp Try.prog 29 [.i l, ints L] (.i (prodS l L L.length)) := by
  refine spec_of Try.func29 rfl cc29 rfl ?_
  unfold ac29
  repeat (first | (refine step_ops ?_; (first | (refine m_mov (by conv => lhs; whnf) ?_) | (refine m_lss rfl rfl ?_) | (refine m_add rfl rfl ?_ ?_ ?_; (· omega); (· omega)) | (refine m_adds rfl rfl ?_ ?_; (· first | omega | (simp; omega))) | (refine m_sub rfl rfl ?_ ?_ ?_; (· omega); (· omega)) | (refine m_mul rfl rfl ?_ ?_ ?_; (· first | omega | (simp; done)); (· first | omega | (simp; done))) | (refine m_len_ro rfl ?_) | (refine m_len_sl rfl ?_) | (refine m_len_nil rfl ?_) | (refine m_cut_hi rfl rfl ?_ ?_ ?_; (· first | rfl | omega | simp); (· first | omega | (simp; omega))) | (refine m_cut_lo rfl rfl ?_ ?_ ?_; (· first | rfl | omega | simp); (· first | omega | (simp; omega))))) | refine end_ops ?_ | refine seq_ops ?_ | refine AW_ops ?_ | (refine cond_t rfl ?_ ?_; (· first | rfl | assumption | (refine decide_eq_true ?_; first | assumption | omega) | (refine nt ?_; first | assumption | omega) | (simp [*]; done))) | (refine cond_f rfl ?_ ?_; (· first | rfl | assumption | (refine decide_eq_false ?_; first | assumption | omega) | (refine nf ?_; first | assumption | omega) | (simp [*]; done))) | refine skip_then ?_ | refine AW_seq ?_ | refine AW_ret ?_ | refine ret_done ?_ | refine norm_then ?_ | refine ret_then ?_ | refine exit_then ?_ | refine AW_block ?_ | refine norm_block ?_ | refine ret_block ?_ | refine ret_round ?_ | refine exit_round ?_ | refine AW_exit ?_ | refine exit_block ?_ | (refine exit_other ?_ ?_; (· decide)) | refine AW_skip ?_)
  refine AW_loop (α := Nat) (fun k => k ≤ L.length) (fun k => st [(0, .i l), (1, ints L), (5, .i (prodS l L k)), (8, .i L.length), (9, .i k)] []) (fun k => L.length - k) 0 (by omega) (weak_st ?_ ?_ rfl rfl) ?_
  · (repeat' (first | exact trivial | refine And.intro ?_ ?_)) <;> (first | rfl | skip)
  · trivial
  intro k hk
  by_cases h : k < L.length
  · have hlt : (L.take k).length ≤ 1048576 := by simp; omega
    have hb := prodS_bound l L hL (k + 1) (by omega)
    have hb0 := prodS_bound l L hL k (by omega)
    by_cases hc : chsE l (L.take k) = true
    · have e : prodS l L (k + 1) = prodS l L k * (L.length - k) := if_pos hc
      rw [e] at hb
      have c1 : ((prodS l L k : Nat) : Int) * ((L.length : Int) - (k : Int)) = ((prodS l L k * (L.length - k) : Nat) : Int) := by
        rw [show (L.length : Int) - (k : Int) = ((L.length - k : Nat) : Int) by omega]; simp
      repeat (first | (refine step_ops ?_; (first | (refine m_mov (by conv => lhs; whnf) ?_) | (refine m_lss rfl rfl ?_) | (refine m_add rfl rfl ?_ ?_ ?_; (· omega); (· omega)) | (refine m_adds rfl rfl ?_ ?_; (· first | omega | (simp; omega))) | (refine m_sub rfl rfl ?_ ?_ ?_; (· omega); (· omega)) | (refine m_mul rfl rfl ?_ ?_ ?_; (· first | omega | (simp; done)); (· first | omega | (simp; done))) | (refine m_len_ro rfl ?_) | (refine m_len_sl rfl ?_) | (refine m_len_nil rfl ?_) | (refine m_cut_hi rfl rfl ?_ ?_ ?_; (· first | rfl | omega | simp); (· first | omega | (simp; omega))) | (refine m_cut_lo rfl rfl ?_ ?_ ?_; (· first | rfl | omega | simp); (· first | omega | (simp; omega))))) | refine end_ops ?_ | refine seq_ops ?_ | refine AW_ops ?_ | (refine cond_t rfl ?_ ?_; (· first | rfl | assumption | (refine decide_eq_true ?_; first | assumption | omega) | (refine nt ?_; first | assumption | omega) | (simp [*]; done))) | (refine cond_f rfl ?_ ?_; (· first | rfl | assumption | (refine decide_eq_false ?_; first | assumption | omega) | (refine nf ?_; first | assumption | omega) | (simp [*]; done))) | refine skip_then ?_ | refine AW_seq ?_ | refine AW_ret ?_ | refine ret_done ?_ | refine norm_then ?_ | refine ret_then ?_ | refine exit_then ?_ | refine AW_block ?_ | refine norm_block ?_ | refine ret_block ?_ | refine ret_round ?_ | refine exit_round ?_ | refine AW_exit ?_ | refine exit_block ?_ | (refine exit_other ?_ ?_; (· decide)) | refine AW_skip ?_)
      (refine step_ops ?_); (apply m_call (hasToChoose_spec l (L.take k) hlt)); (· repeat (first | exact lends_nil | (refine lends_cons ?_ ?_; (· (first | exact lend_v | (refine lend_roM rfl; done) | (refine lend_mat rfl ?_; intro j hj; simp (disch := first | omega | assumption) only [hp_put, hp_mem_ne, hp_kill_ne]; first | exact stM_row rfl hj | (rw [stM_row rfl hj]; rfl)) | (refine lend_ints ?_; first | rfl | omega) | (refine lend_sli (by rfl) ?_; first | rfl | omega | (simp; done)) | (refine lend_pln rfl; done) | (refine lend_plns rfl rfl; done) | (refine lend_txr rfl; done) | (refine lend_txs rfl rfl; done) | exact lend_any | (refine lend_agg ?_; first | rfl | assumption | (simp [plainV]; done)))))))
      repeat (first | (refine step_ops ?_; (first | (refine m_mov (by conv => lhs; whnf) ?_) | (refine m_lss rfl rfl ?_) | (refine m_add rfl rfl ?_ ?_ ?_; (· omega); (· omega)) | (refine m_adds rfl rfl ?_ ?_; (· first | omega | (simp; omega))) | (refine m_sub rfl rfl ?_ ?_ ?_; (· omega); (· omega)) | (refine m_mul rfl rfl ?_ ?_ ?_; (· first | omega | (simp; done)); (· first | omega | (simp; done))) | (refine m_len_ro rfl ?_) | (refine m_len_sl rfl ?_) | (refine m_len_nil rfl ?_) | (refine m_cut_hi rfl rfl ?_ ?_ ?_; (· first | rfl | omega | simp); (· first | omega | (simp; omega))) | (refine m_cut_lo rfl rfl ?_ ?_ ?_; (· first | rfl | omega | simp); (· first | omega | (simp; omega))))) | refine end_ops ?_ | refine seq_ops ?_ | refine AW_ops ?_ | (refine cond_t rfl ?_ ?_; (· first | rfl | assumption | (refine decide_eq_true ?_; first | assumption | omega) | (refine nt ?_; first | assumption | omega) | (simp [*]; done))) | (refine cond_f rfl ?_ ?_; (· first | rfl | assumption | (refine decide_eq_false ?_; first | assumption | omega) | (refine nf ?_; first | assumption | omega) | (simp [*]; done))) | refine skip_then ?_ | refine AW_seq ?_ | refine AW_ret ?_ | refine ret_done ?_ | refine norm_then ?_ | refine ret_then ?_ | refine exit_then ?_ | refine AW_block ?_ | refine norm_block ?_ | refine ret_block ?_ | refine ret_round ?_ | refine exit_round ?_ | refine AW_exit ?_ | refine exit_block ?_ | (refine exit_other ?_ ?_; (· decide)) | refine AW_skip ?_)
      refine next_round (k + 1) (by omega) (weak_st ?_ ?_ rfl rfl) ?_
      · rw [e, ← c1]
        (repeat' (first | exact trivial | refine And.intro ?_ ?_)) <;> (first | rfl | skip)
      · trivial
      · omega
    · have e : prodS l L (k + 1) = prodS l L k := if_neg hc
      have hcf : chsE l (L.take k) = false := by simpa using hc
      repeat (first | (refine step_ops ?_; (first | (refine m_mov (by conv => lhs; whnf) ?_) | (refine m_lss rfl rfl ?_) | (refine m_add rfl rfl ?_ ?_ ?_; (· omega); (· omega)) | (refine m_adds rfl rfl ?_ ?_; (· first | omega | (simp; omega))) | (refine m_sub rfl rfl ?_ ?_ ?_; (· omega); (· omega)) | (refine m_mul rfl rfl ?_ ?_ ?_; (· first | omega | (simp; done)); (· first | omega | (simp; done))) | (refine m_len_ro rfl ?_) | (refine m_len_sl rfl ?_) | (refine m_len_nil rfl ?_) | (refine m_cut_hi rfl rfl ?_ ?_ ?_; (· first | rfl | omega | simp); (· first | omega | (simp; omega))) | (refine m_cut_lo rfl rfl ?_ ?_ ?_; (· first | rfl | omega | simp); (· first | omega | (simp; omega))))) | refine end_ops ?_ | refine seq_ops ?_ | refine AW_ops ?_ | (refine cond_t rfl ?_ ?_; (· first | rfl | assumption | (refine decide_eq_true ?_; first | assumption | omega) | (refine nt ?_; first | assumption | omega) | (simp [*]; done))) | (refine cond_f rfl ?_ ?_; (· first | rfl | assumption | (refine decide_eq_false ?_; first | assumption | omega) | (refine nf ?_; first | assumption | omega) | (simp [*]; done))) | refine skip_then ?_ | refine AW_seq ?_ | refine AW_ret ?_ | refine ret_done ?_ | refine norm_then ?_ | refine ret_then ?_ | refine exit_then ?_ | refine AW_block ?_ | refine norm_block ?_ | refine ret_block ?_ | refine ret_round ?_ | refine exit_round ?_ | refine AW_exit ?_ | refine exit_block ?_ | (refine exit_other ?_ ?_; (· decide)) | refine AW_skip ?_)
      (refine step_ops ?_); (apply m_call (hasToChoose_spec l (L.take k) hlt)); (· repeat (first | exact lends_nil | (refine lends_cons ?_ ?_; (· (first | exact lend_v | (refine lend_roM rfl; done) | (refine lend_mat rfl ?_; intro j hj; simp (disch := first | omega | assumption) only [hp_put, hp_mem_ne, hp_kill_ne]; first | exact stM_row rfl hj | (rw [stM_row rfl hj]; rfl)) | (refine lend_ints ?_; first | rfl | omega) | (refine lend_sli (by rfl) ?_; first | rfl | omega | (simp; done)) | (refine lend_pln rfl; done) | (refine lend_plns rfl rfl; done) | (refine lend_txr rfl; done) | (refine lend_txs rfl rfl; done) | exact lend_any | (refine lend_agg ?_; first | rfl | assumption | (simp [plainV]; done)))))))
      repeat (first | (refine step_ops ?_; (first | (refine m_mov (by conv => lhs; whnf) ?_) | (refine m_lss rfl rfl ?_) | (refine m_add rfl rfl ?_ ?_ ?_; (· omega); (· omega)) | (refine m_adds rfl rfl ?_ ?_; (· first | omega | (simp; omega))) | (refine m_sub rfl rfl ?_ ?_ ?_; (· omega); (· omega)) | (refine m_mul rfl rfl ?_ ?_ ?_; (· first | omega | (simp; done)); (· first | omega | (simp; done))) | (refine m_len_ro rfl ?_) | (refine m_len_sl rfl ?_) | (refine m_len_nil rfl ?_) | (refine m_cut_hi rfl rfl ?_ ?_ ?_; (· first | rfl | omega | simp); (· first | omega | (simp; omega))) | (refine m_cut_lo rfl rfl ?_ ?_ ?_; (· first | rfl | omega | simp); (· first | omega | (simp; omega))))) | refine end_ops ?_ | refine seq_ops ?_ | refine AW_ops ?_ | (refine cond_t rfl ?_ ?_; (· first | rfl | assumption | (refine decide_eq_true ?_; first | assumption | omega) | (refine nt ?_; first | assumption | omega) | (simp [*]; done))) | (refine cond_f rfl ?_ ?_; (· first | rfl | assumption | (refine decide_eq_false ?_; first | assumption | omega) | (refine nf ?_; first | assumption | omega) | (simp [*]; done))) | refine skip_then ?_ | refine AW_seq ?_ | refine AW_ret ?_ | refine ret_done ?_ | refine norm_then ?_ | refine ret_then ?_ | refine exit_then ?_ | refine AW_block ?_ | refine norm_block ?_ | refine ret_block ?_ | refine ret_round ?_ | refine exit_round ?_ | refine AW_exit ?_ | refine exit_block ?_ | (refine exit_other ?_ ?_; (· decide)) | refine AW_skip ?_)
      refine next_round (k + 1) (by omega) (weak_st ?_ ?_ rfl rfl) ?_
      · rw [e]
        (repeat' (first | exact trivial | refine And.intro ?_ ?_)) <;> (first | rfl | skip)
      · trivial
      · omega
  · obtain rfl : k = L.length := by omega
    repeat (first | (refine step_ops ?_; (first | (refine m_mov (by conv => lhs; whnf) ?_) | (refine m_lss rfl rfl ?_) | (refine m_add rfl rfl ?_ ?_ ?_; (· omega); (· omega)) | (refine m_adds rfl rfl ?_ ?_; (· first | omega | (simp; omega))) | (refine m_sub rfl rfl ?_ ?_ ?_; (· omega); (· omega)) | (refine m_mul rfl rfl ?_ ?_ ?_; (· first | omega | (simp; done)); (· first | omega | (simp; done))) | (refine m_len_ro rfl ?_) | (refine m_len_sl rfl ?_) | (refine m_len_nil rfl ?_) | (refine m_cut_hi rfl rfl ?_ ?_ ?_; (· first | rfl | omega | simp); (· first | omega | (simp; omega))) | (refine m_cut_lo rfl rfl ?_ ?_ ?_; (· first | rfl | omega | simp); (· first | omega | (simp; omega))))) | refine end_ops ?_ | refine seq_ops ?_ | refine AW_ops ?_ | (refine cond_t rfl ?_ ?_; (· first | rfl | assumption | (refine decide_eq_true ?_; first | assumption | omega) | (refine nt ?_; first | assumption | omega) | (simp [*]; done))) | (refine cond_f rfl ?_ ?_; (· first | rfl | assumption | (refine decide_eq_false ?_; first | assumption | omega) | (refine nf ?_; first | assumption | omega) | (simp [*]; done))) | refine skip_then ?_ | refine AW_seq ?_ | refine AW_ret ?_ | refine ret_done ?_ | refine norm_then ?_ | refine ret_then ?_ | refine exit_then ?_ | refine AW_block ?_ | refine norm_block ?_ | refine ret_block ?_ | refine ret_round ?_ | refine exit_round ?_ | refine AW_exit ?_ | refine exit_block ?_ | (refine exit_other ?_ ?_; (· decide)) | refine AW_skip ?_)
    exact outs_i rfl
theorem displacedIn_spec (L : List Int) (hL : L.length ≤ 1048576) : Sp Try.prog 47 [ints L] (newInts (disp L L.length)) := by
  refine spec_of Try.func47 rfl cc47 rfl ?_
  unfold ac47
  repeat (first | (refine step_ops ?_; (first | (refine m_mov (by conv => lhs; whnf) ?_) | (refine m_lss rfl rfl ?_) | (refine m_neq rfl rfl ?_) | (refine m_neqk rfl rfl ?_) | (refine m_neqs_self rfl rfl ?_) | (refine m_neqs rfl rfl ?_) | (refine m_add rfl rfl ?_ ?_ ?_; (· omega); (· omega)) | (refine m_adds rfl rfl ?_ ?_; (· first | omega | (simp; omega))) | (refine m_len_ro rfl ?_) | (refine m_len_sl rfl ?_) | (refine m_len_nil rfl ?_) | (refine m_idx1_ro rfl rfl ?_ ?_; (· omega)) | (refine m_idx1_sl rfl rfl ?_ ?_; (· omega)) | (apply m_idx1_slj; (· rfl); (· rfl); (· assumption); (· omega)) | (apply m_idx1_roj; (· rfl); (· rfl); (· assumption); (· omega)) | (refine m_idx_ro rfl rfl ?_ ?_ ?_; (· omega); (· omega)) | (refine m_idx_sl rfl rfl ?_ ?_ ?_; (· omega); (· omega)) | (refine m_ld_rpi rfl ?_ ?_; (· omega)) | (refine m_ld_pti rfl (by rfl) ?_ ?_; (· first | omega | (simp; omega))) | (apply m_ld_ptb; (· rfl); (· rfl); (· assumption)) | (apply m_ld_rp; (· rfl); (· rfl)) | (apply m_ld_pt; (· rfl); (· rfl); (· rfl)) | (refine m_nils ?_) | (refine m_bsl1 rfl rfl ?_) | (refine m_app1i rfl (by decide) (by rfl) (by first | rfl | omega | (simp; done)) rfl rfl ?_ (by decide) ?_; (· first | omega | (simp; omega))) | (refine m_app1 rfl (by decide) rfl (by first | (simp; done) | (simp [*]; done) | (simp; omega)) rfl rfl rfl ?_ (by decide) ?_; (· first | omega | (simp; omega))) | (refine m_appro rfl (by decide) rfl (by first | rfl | (simp; done) | (simp [*]; done) | (simp; omega)) rfl (oks_ints _) ?_ (by decide) ?_; (· first | omega | (simp; omega))))) | refine end_ops ?_ | refine seq_ops ?_ | refine AW_ops ?_ | (refine cond_t rfl ?_ ?_; (· first | rfl | assumption | (refine decide_eq_true ?_; first | assumption | omega) | (refine nt ?_; first | assumption | omega) | (simp [*]; done))) | (refine cond_f rfl ?_ ?_; (· first | rfl | assumption | (refine decide_eq_false ?_; first | assumption | omega) | (refine nf ?_; first | assumption | omega) | (simp [*]; done))) | refine skip_then ?_ | refine AW_seq ?_ | refine AW_ret ?_ | refine ret_done ?_ | refine norm_then ?_ | refine ret_then ?_ | refine exit_then ?_ | refine AW_block ?_ | refine norm_block ?_ | refine ret_block ?_ | refine ret_round ?_ | refine exit_round ?_ | refine AW_exit ?_ | refine exit_block ?_ | (refine exit_other ?_ ?_; (· decide)) | refine AW_skip ?_)
  refine AW_loop (α := Nat × Nat) (fun a => a.1 ≤ L.length ∧ (a.2 = 3 ∨ a.2 = 19)) (fun a => st [(6, ints L), (7, .i L.length), (8, .i a.1), (3, .sl a.2 1 0 (disp L a.1).length)] [(a.2, (true, (disp L a.1).map AV.i))]) (fun a => L.length - a.1) (0, 3) (by simp) (weak_st ?_ ?_ rfl rfl) ?_
  · (repeat' (first | exact trivial | refine And.intro ?_ ?_)) <;> (first | rfl | skip)
  · exact ⟨rfl, trivial⟩
  rintro ⟨k, r⟩ ⟨hk, hr⟩
  have hn := disp_le L k
  simp only at hk hr
  rcases hr with rfl | rfl
  all_goals
    dsimp only
    by_cases h : k < L.length
    · by_cases hx : L.getD k 0 = k
      · repeat (first | (refine step_ops ?_; (first | (refine m_mov (by conv => lhs; whnf) ?_) | (refine m_lss rfl rfl ?_) | (refine m_neq rfl rfl ?_) | (refine m_neqk rfl rfl ?_) | (refine m_neqs_self rfl rfl ?_) | (refine m_neqs rfl rfl ?_) | (refine m_add rfl rfl ?_ ?_ ?_; (· omega); (· omega)) | (refine m_adds rfl rfl ?_ ?_; (· first | omega | (simp; omega))) | (refine m_len_ro rfl ?_) | (refine m_len_sl rfl ?_) | (refine m_len_nil rfl ?_) | (refine m_idx1_ro rfl rfl ?_ ?_; (· omega)) | (refine m_idx1_sl rfl rfl ?_ ?_; (· omega)) | (apply m_idx1_slj; (· rfl); (· rfl); (· assumption); (· omega)) | (apply m_idx1_roj; (· rfl); (· rfl); (· assumption); (· omega)) | (refine m_idx_ro rfl rfl ?_ ?_ ?_; (· omega); (· omega)) | (refine m_idx_sl rfl rfl ?_ ?_ ?_; (· omega); (· omega)) | (refine m_ld_rpi rfl ?_ ?_; (· omega)) | (refine m_ld_pti rfl (by rfl) ?_ ?_; (· first | omega | (simp; omega))) | (apply m_ld_ptb; (· rfl); (· rfl); (· assumption)) | (apply m_ld_rp; (· rfl); (· rfl)) | (apply m_ld_pt; (· rfl); (· rfl); (· rfl)) | (refine m_nils ?_) | (refine m_bsl1 rfl rfl ?_) | (refine m_app1i rfl (by decide) (by rfl) (by first | rfl | omega | (simp; done)) rfl rfl ?_ (by decide) ?_; (· first | omega | (simp; omega))) | (refine m_app1 rfl (by decide) rfl (by first | (simp; done) | (simp [*]; done) | (simp; omega)) rfl rfl rfl ?_ (by decide) ?_; (· first | omega | (simp; omega))) | (refine m_appro rfl (by decide) rfl (by first | rfl | (simp; done) | (simp [*]; done) | (simp; omega)) rfl (oks_ints _) ?_ (by decide) ?_; (· first | omega | (simp; omega))))) | refine end_ops ?_ | refine seq_ops ?_ | refine AW_ops ?_ | (refine cond_t rfl ?_ ?_; (· first | rfl | assumption | (refine decide_eq_true ?_; first | assumption | omega) | (refine nt ?_; first | assumption | omega) | (simp [*]; done))) | (refine cond_f rfl ?_ ?_; (· first | rfl | assumption | (refine decide_eq_false ?_; first | assumption | omega) | (refine nf ?_; first | assumption | omega) | (simp [*]; done))) | refine skip_then ?_ | refine AW_seq ?_ | refine AW_ret ?_ | refine ret_done ?_ | refine norm_then ?_ | refine ret_then ?_ | refine exit_then ?_ | refine AW_block ?_ | refine norm_block ?_ | refine ret_block ?_ | refine ret_round ?_ | refine exit_round ?_ | refine AW_exit ?_ | refine exit_block ?_ | (refine exit_other ?_ ?_; (· decide)) | refine AW_skip ?_)
        first
        | (refine next_round (k + 1, 3) ⟨by omega, .inl rfl⟩ (weak_st ?_ ?_ rfl rfl) ?_
           · exact ⟨rfl, rfl, rfl, by show _ = AV.sl 3 1 0 (disp L (k + 1)).length; rw [disp_no hx]; rfl, trivial⟩
           · exact ⟨by show _ = some (true, (disp L (k + 1)).map AV.i); rw [disp_no hx]; rfl, trivial⟩
           · omega)
        | (refine next_round (k + 1, 19) ⟨by omega, .inr rfl⟩ (weak_st ?_ ?_ rfl rfl) ?_
           · exact ⟨rfl, rfl, rfl, by show _ = AV.sl 19 1 0 (disp L (k + 1)).length; rw [disp_no hx]; rfl, trivial⟩
           · exact ⟨by show _ = some (true, (disp L (k + 1)).map AV.i); rw [disp_no hx]; rfl, trivial⟩
           · omega)
      · repeat (first | (refine step_ops ?_; (first | (refine m_mov (by conv => lhs; whnf) ?_) | (refine m_lss rfl rfl ?_) | (refine m_neq rfl rfl ?_) | (refine m_neqk rfl rfl ?_) | (refine m_neqs_self rfl rfl ?_) | (refine m_neqs rfl rfl ?_) | (refine m_add rfl rfl ?_ ?_ ?_; (· omega); (· omega)) | (refine m_adds rfl rfl ?_ ?_; (· first | omega | (simp; omega))) | (refine m_len_ro rfl ?_) | (refine m_len_sl rfl ?_) | (refine m_len_nil rfl ?_) | (refine m_idx1_ro rfl rfl ?_ ?_; (· omega)) | (refine m_idx1_sl rfl rfl ?_ ?_; (· omega)) | (apply m_idx1_slj; (· rfl); (· rfl); (· assumption); (· omega)) | (apply m_idx1_roj; (· rfl); (· rfl); (· assumption); (· omega)) | (refine m_idx_ro rfl rfl ?_ ?_ ?_; (· omega); (· omega)) | (refine m_idx_sl rfl rfl ?_ ?_ ?_; (· omega); (· omega)) | (refine m_ld_rpi rfl ?_ ?_; (· omega)) | (refine m_ld_pti rfl (by rfl) ?_ ?_; (· first | omega | (simp; omega))) | (apply m_ld_ptb; (· rfl); (· rfl); (· assumption)) | (apply m_ld_rp; (· rfl); (· rfl)) | (apply m_ld_pt; (· rfl); (· rfl); (· rfl)) | (refine m_nils ?_) | (refine m_bsl1 rfl rfl ?_) | (refine m_app1i rfl (by decide) (by rfl) (by first | rfl | omega | (simp; done)) rfl rfl ?_ (by decide) ?_; (· first | omega | (simp; omega))) | (refine m_app1 rfl (by decide) rfl (by first | (simp; done) | (simp [*]; done) | (simp; omega)) rfl rfl rfl ?_ (by decide) ?_; (· first | omega | (simp; omega))) | (refine m_appro rfl (by decide) rfl (by first | rfl | (simp; done) | (simp [*]; done) | (simp; omega)) rfl (oks_ints _) ?_ (by decide) ?_; (· first | omega | (simp; omega))))) | refine end_ops ?_ | refine seq_ops ?_ | refine AW_ops ?_ | (refine cond_t rfl ?_ ?_; (· first | rfl | assumption | (refine decide_eq_true ?_; first | assumption | omega) | (refine nt ?_; first | assumption | omega) | (simp [*]; done))) | (refine cond_f rfl ?_ ?_; (· first | rfl | assumption | (refine decide_eq_false ?_; first | assumption | omega) | (refine nf ?_; first | assumption | omega) | (simp [*]; done))) | refine skip_then ?_ | refine AW_seq ?_ | refine AW_ret ?_ | refine ret_done ?_ | refine norm_then ?_ | refine ret_then ?_ | refine exit_then ?_ | refine AW_block ?_ | refine norm_block ?_ | refine ret_block ?_ | refine ret_round ?_ | refine exit_round ?_ | refine AW_exit ?_ | refine exit_block ?_ | (refine exit_other ?_ ?_; (· decide)) | refine AW_skip ?_)
        refine next_round (k + 1, 19) ⟨by omega, .inr rfl⟩ (weak_st ?_ ?_ rfl rfl) ?_
        · refine ⟨rfl, rfl, rfl, ?_, trivial⟩
          show AV.sl 19 1 0 (disp L k ++ [(k : Int)]).length = AV.sl 19 1 0 (disp L (k + 1)).length
          rw [disp_yes hx]
        · refine ⟨?_, trivial⟩
          show some (true, (disp L k ++ [(k : Int)]).map AV.i) = some (true, (disp L (k + 1)).map AV.i)
          rw [disp_yes hx]
        · omega
    · repeat (first | (refine step_ops ?_; (first | (refine m_mov (by conv => lhs; whnf) ?_) | (refine m_lss rfl rfl ?_) | (refine m_neq rfl rfl ?_) | (refine m_neqk rfl rfl ?_) | (refine m_neqs_self rfl rfl ?_) | (refine m_neqs rfl rfl ?_) | (refine m_add rfl rfl ?_ ?_ ?_; (· omega); (· omega)) | (refine m_adds rfl rfl ?_ ?_; (· first | omega | (simp; omega))) | (refine m_len_ro rfl ?_) | (refine m_len_sl rfl ?_) | (refine m_len_nil rfl ?_) | (refine m_idx1_ro rfl rfl ?_ ?_; (· omega)) | (refine m_idx1_sl rfl rfl ?_ ?_; (· omega)) | (apply m_idx1_slj; (· rfl); (· rfl); (· assumption); (· omega)) | (apply m_idx1_roj; (· rfl); (· rfl); (· assumption); (· omega)) | (refine m_idx_ro rfl rfl ?_ ?_ ?_; (· omega); (· omega)) | (refine m_idx_sl rfl rfl ?_ ?_ ?_; (· omega); (· omega)) | (refine m_ld_rpi rfl ?_ ?_; (· omega)) | (refine m_ld_pti rfl (by rfl) ?_ ?_; (· first | omega | (simp; omega))) | (apply m_ld_ptb; (· rfl); (· rfl); (· assumption)) | (apply m_ld_rp; (· rfl); (· rfl)) | (apply m_ld_pt; (· rfl); (· rfl); (· rfl)) | (refine m_nils ?_) | (refine m_bsl1 rfl rfl ?_) | (refine m_app1i rfl (by decide) (by rfl) (by first | rfl | omega | (simp; done)) rfl rfl ?_ (by decide) ?_; (· first | omega | (simp; omega))) | (refine m_app1 rfl (by decide) rfl (by first | (simp; done) | (simp [*]; done) | (simp; omega)) rfl rfl rfl ?_ (by decide) ?_; (· first | omega | (simp; omega))) | (refine m_appro rfl (by decide) rfl (by first | rfl | (simp; done) | (simp [*]; done) | (simp; omega)) rfl (oks_ints _) ?_ (by decide) ?_; (· first | omega | (simp; omega))))) | refine end_ops ?_ | refine seq_ops ?_ | refine AW_ops ?_ | (refine cond_t rfl ?_ ?_; (· first | rfl | assumption | (refine decide_eq_true ?_; first | assumption | omega) | (refine nt ?_; first | assumption | omega) | (simp [*]; done))) | (refine cond_f rfl ?_ ?_; (· first | rfl | assumption | (refine decide_eq_false ?_; first | assumption | omega) | (refine nf ?_; first | assumption | omega) | (simp [*]; done))) | refine skip_then ?_ | refine AW_seq ?_ | refine AW_ret ?_ | refine ret_done ?_ | refine norm_then ?_ | refine ret_then ?_ | refine exit_then ?_ | refine AW_block ?_ | refine norm_block ?_ | refine ret_block ?_ | refine ret_round ?_ | refine exit_round ?_ | refine AW_exit ?_ | refine exit_block ?_ | (refine exit_other ?_ ?_; (· decide)) | refine AW_skip ?_)
      obtain rfl : k = L.length := by omega
      exact outs_ints rfl rfl rfl
end Go.Proofs.Ytkciccbpjdaekaa
namespace Go.Am
/-- May the guest behind those of a list get a seat? -/
def fitsN (l : Int) (M : List Int) (y : Nat) : Bool := fitsS l M (y : Int)
/-- The seats that are free. -/
def freeN (n : Nat) (M : List Int) : List Nat := (List.range n).filter fun (x : Nat) => !decide ((x : Int) ∈ M)
theorem range_one (n g : Nat) (h : g < n) (p : Nat → Bool) (hp : ∀ x, p x = decide (x = g)) : (List.range n).filter p = [g] := by
  induction n with
  | zero => omega
  | succ n ih =>
    rw [List.range_succ, List.filter_append]
    by_cases hg : g < n
    · rw [ih hg, List.filter_cons_of_neg (by rw [hp]; simp; omega)]; rfl
    · obtain rfl : g = n := by omega
      rw [List.filter_eq_nil_iff.2 fun x hx => by have := List.mem_range.1 hx; rw [hp]; simp; omega, List.filter_cons_of_pos (by rw [hp]; simp)]; rfl
theorem goOn_forced {l : Int} {n k : Nat} {M : List Int} (hM : M.length < n) (hc : chsE l M = false) : goOn (fitsN l) n (k + 1) M = goOn (fitsN l) n k (M ++ [(M.length : Int)]) := by
  have hc2 := hc
  unfold chsE at hc2
  simp only [Bool.or_eq_false_iff, decide_eq_false_iff_not] at hc2
  rw [goOn, range_one n M.length hM]
  · simp
  · intro x
    unfold fitsN fitsS
    rw [hc, Bool.or_false]
    by_cases hx : x = M.length
    · subst hx; simp [hc2.2]
    · have : ¬ (x : Int) = (M.length : Int) := by omega
      simp [this, hx]
theorem goOn_free {l : Int} {n k : Nat} {M : List Int} (hc : chsE l M = true) : goOn (fitsN l) n (k + 1) M = (freeN n M).flatMap fun (x : Nat) => goOn (fitsN l) n k (M ++ [(x : Int)]) := by
  rw [goOn]
  congr 1
  unfold freeN
  refine List.filter_congr fun x _ => ?_
  unfold fitsN fitsS
  rw [hc, Bool.or_true, Bool.and_true]
/-- A beginning of a seating: all on other seats. -/
def IsBeg (n : Nat) (M : List Int) : Prop := M.Nodup ∧ ∀ x ∈ M, 0 ≤ x ∧ x < (n : Int)
theorem beg_nil (n : Nat) : IsBeg n [] := ⟨List.nodup_nil, fun x hx => by simp at hx⟩
theorem beg_snoc {n : Nat} {M : List Int} {x : Nat} (h : IsBeg n M) (hx : x < n) (hn : (x : Int) ∉ M) : IsBeg n (M ++ [(x : Int)]) := by
  refine ⟨?_, fun y hy => ?_⟩
  · rw [List.nodup_append]
    exact ⟨h.1, by simp, fun a ha b hb e => hn (by rw [List.mem_singleton] at hb; rw [← hb, ← e]; exact ha)⟩
  · rcases List.mem_append.1 hy with hy | hy
    · exact h.2 y hy
    · rw [List.mem_singleton] at hy; subst hy; omega
theorem cnt_ne (a : Nat) (p : Nat → Bool) (hp : p a = true) : ∀ R : List Nat, R.Nodup → a ∈ R → (R.filter fun x => p x && decide (x ≠ a)).length + 1 = (R.filter p).length
  | [], _, h => by simp at h
  | b :: R, hn, h => by
    rw [List.nodup_cons] at hn
    by_cases hb : b = a
    · subst hb
      have e : R.filter (fun x => p x && decide (x ≠ b)) = R.filter p := List.filter_congr fun x hx => by
        have : x ≠ b := fun e => hn.1 (e ▸ hx)
        simp [this]
      rw [List.filter_cons_of_neg (by simp), List.filter_cons_of_pos hp, e]; rfl
    · have hm : a ∈ R := by
        rcases List.mem_cons.1 h with h | h
        · exact absurd h.symm hb
        · exact h
      have ih := cnt_ne a p hp R hn.2 hm
      by_cases hq : p b = true
      · rw [List.filter_cons_of_pos (by simp [hq, hb]), List.filter_cons_of_pos hq]
        simp only [List.length_cons]; omega
      · rw [List.filter_cons_of_neg (by simp [hq]), List.filter_cons_of_neg hq]
        exact ih
theorem free_len (n : Nat) : ∀ M : List Int, IsBeg n M → (freeN n M).length + M.length = n
  | [], _ => by
    have : freeN n [] = List.range n := List.filter_eq_self.2 fun x _ => by simp
    rw [this]; simp
  | a :: M, h => by
    obtain ⟨h1, h2⟩ := h
    rw [List.nodup_cons] at h1
    have ih := free_len n M ⟨h1.2, fun x hx => h2 x (List.mem_cons_of_mem _ hx)⟩
    have ha := h2 a (List.mem_cons_self ..)
    obtain ⟨b, rfl⟩ := Int.eq_ofNat_of_zero_le ha.1
    have hb : b < n := by omega
    have hc := cnt_ne b (fun x : Nat => !decide ((x : Int) ∈ M)) (by simp [h1.1]) (List.range n) List.nodup_range (List.mem_range.2 hb)
    have e : freeN n ((b : Int) :: M) = (List.range n).filter fun (x : Nat) => (!decide ((x : Int) ∈ M)) && decide (x ≠ b) := by
      unfold freeN
      refine List.filter_congr fun x _ => ?_
      by_cases hx : x = b
      · subst hx; simp
      · have : ¬ (x : Int) = (b : Int) := by omega
        simp [this, hx]
    have e2 : freeN n M = (List.range n).filter fun (x : Nat) => !decide ((x : Int) ∈ M) := rfl
    rw [e2] at ih
    rw [e, List.length_cons]
    omega
def fct : Nat → Nat
  | 0 => 1
  | k + 1 => (k + 1) * fct k
theorem fct_pos : ∀ k, 1 ≤ fct k
  | 0 => Nat.le_refl _
  | k + 1 => Nat.mul_le_mul (show 1 ≤ k + 1 by omega) (fct_pos k)
theorem flatMap_le {α : Type} (f : α → List (List Int)) (m : Nat) : ∀ l : List α, (∀ x ∈ l, (f x).length ≤ m) → (l.flatMap f).length ≤ l.length * m
  | [], _ => by simp
  | a :: l, h => by
    have h1 := h a (List.mem_cons_self ..)
    have h2 := flatMap_le f m l fun x hx => h x (List.mem_cons_of_mem _ hx)
    rw [List.flatMap_cons, List.length_append, List.length_cons, Nat.add_mul, Nat.one_mul]
    omega
theorem goOn_count (l : Int) (n : Nat) : ∀ (k : Nat) (M : List Int), IsBeg n M → M.length + k = n → (goOn (fitsN l) n k M).length ≤ fct k
  | 0, M, _, _ => by simp [goOn, fct]
  | k + 1, M, h, hl => by
    by_cases hc : chsE l M = true
    · rw [goOn_free hc]
      have hf := free_len n M h
      have h1 := flatMap_le (fun (x : Nat) => goOn (fitsN l) n k (M ++ [(x : Int)])) (fct k) (freeN n M) fun x hx => by
        unfold freeN at hx
        obtain ⟨hx1, hx2⟩ := List.mem_filter.1 hx
        refine goOn_count l n k _ (beg_snoc h (List.mem_range.1 hx1) (by simpa using hx2)) (by simp; omega)
      have e : (freeN n M).length = k + 1 := by omega
      rw [e] at h1
      exact h1
    · have hc' : chsE l M = false := by simpa using hc
      have hnm : (M.length : Int) ∉ M := by
        unfold chsE at hc'
        simp only [Bool.or_eq_false_iff, decide_eq_false_iff_not] at hc'
        exact hc'.2
      rw [goOn_forced (by omega) hc']
      have h1 := goOn_count l n k _ (beg_snoc h (by omega) hnm) (by simp; omega)
      refine Nat.le_trans h1 ?_
      show fct k ≤ (k + 1) * fct k
      exact Nat.le_mul_of_pos_left _ (by omega)
theorem fct_le : ∀ k < 8, fct k ≤ 5040 := by decide +kernel
/-- All that are listed are beginnings, of full length. -/
theorem goOn_beg (l : Int) (n : Nat) : ∀ (k : Nat) (M : List Int), IsBeg n M → ∀ x ∈ goOn (fitsN l) n k M, IsBeg n x ∧ x.length = M.length + k
  | 0, M, h, x, hx => by
    simp [goOn] at hx
    subst hx
    exact ⟨h, by simp⟩
  | k + 1, M, h, x, hx => by
    simp only [goOn, List.mem_flatMap] at hx
    obtain ⟨y, hy, hx⟩ := hx
    obtain ⟨hy1, hy2⟩ := List.mem_filter.1 hy
    have hnm : (y : Int) ∉ M := by
      unfold fitsN fitsS at hy2
      simp only [Bool.and_eq_true, Bool.not_eq_true', decide_eq_false_iff_not] at hy2
      exact hy2.1
    obtain ⟨h1, h2⟩ := goOn_beg l n k _ (beg_snoc h (List.mem_range.1 hy1) hnm) x hx
    exact ⟨h1, by rw [h2]; simp; omega⟩
theorem comesB_asymm : ∀ a b : List Int, comesB a b = true → comesB b a = false
  | [], _, h => by simp [comesB] at h
  | _ :: _, [], h => by simp [comesB] at h
  | a :: l, b :: m, h => by
    simp only [comesB] at h ⊢
    by_cases e : a = b
    · subst e
      simp only [if_true] at h ⊢
      exact comesB_asymm l m h
    · rw [if_neg e] at h
      rw [if_neg fun hh => e hh.symm]
      have := of_decide_eq_true h
      exact decide_eq_false (by omega)
theorem goOn_sorted (fits : List Int → Nat → Bool) (n : Nat) : ∀ (k : Nat) (l : List Int), (goOn fits n k l).Pairwise fun a b => comesB a b = true
  | 0, l => by simp [goOn]
  | k + 1, l => by
    rw [goOn, List.pairwise_flatMap]
    refine ⟨fun x _ => goOn_sorted fits n k _, ?_⟩
    refine List.Pairwise.filter _ (List.Pairwise.imp ?_ List.pairwise_lt_range)
    intro a b hab x hx y hy
    obtain ⟨r, rfl, _⟩ := goOn_shape fits n _ _ _ hx
    obtain ⟨t, rfl, _⟩ := goOn_shape fits n _ _ _ hy
    rw [List.append_assoc, List.append_assoc, comesB_append]
    have h1 : ¬ (a : Int) = (b : Int) := by omega
    simp only [List.singleton_append, comesB, if_neg h1]
    exact decide_eq_true (by omega)
/-- In a sorted list the first behind the one at j is the next one. -/
theorem find_sorted {A : List (List Int)} (h : A.Pairwise fun a b => comesB a b = true) {j : Nat} (hj : j < A.length) : A.find? (fun m => comesB (A.getD j []) m) = A[j + 1]? := by
  have hs : A = A.take (j + 1) ++ A.drop (j + 1) := (List.take_append_drop _ _).symm
  have hg : A.getD j [] = A[j] := by simp [hj]
  have hpw := List.pairwise_iff_getElem.1 h
  have h1 : (A.take (j + 1)).find? (fun m => comesB (A.getD j []) m) = none := by
    rw [List.find?_eq_none]
    intro m hm
    obtain ⟨i, hi, rfl⟩ := List.mem_iff_getElem.1 hm
    rw [List.length_take] at hi
    rw [List.getElem_take, hg]
    by_cases e : i = j
    · subst e; rw [comesB_self]; simp
    · rw [comesB_asymm _ _ (hpw i j (by omega) hj (by omega))]; simp
  have h2 : (A.drop (j + 1)).find? (fun m => comesB (A.getD j []) m) = A[j + 1]? := by
    by_cases e : j + 1 < A.length
    · rw [List.drop_eq_getElem_cons e, List.find?_cons_of_pos (by rw [hg]; exact hpw j (j + 1) hj e (by omega))]
      simp [e]
    · rw [List.drop_eq_nil_of_le (by omega), List.getElem?_eq_none (by omega)]; rfl
  generalize A.getD j [] = B at h1 h2 ⊢
  have h3 : (A.take (j + 1) ++ A.drop (j + 1)).find? (fun m => comesB B m) = A[j + 1]? := by rw [List.find?_append, h1, Option.none_or, h2]
  rw [← hs] at h3
  exact h3
end Go.Am
namespace Go.Am
def lowN (a b : Nat) : Nat × Nat := (a / Nat.gcd a b, b / Nat.gcd a b)
/-- The product of the numbers of all seats that were free for the first k. -/
def downTo (n : Nat) : Nat → Nat
  | 0 => 1
  | k + 1 => downTo n k * (n - k)
theorem downTo_fct (n : Nat) : ∀ k, k ≤ n → downTo n k * fct (n - k) = fct n
  | 0, _ => by simp [downTo]
  | k + 1, h => by
    have ih := downTo_fct n k (by omega)
    obtain ⟨m, hm⟩ : ∃ m, n - k = m + 1 := ⟨n - k - 1, by omega⟩
    have e : n - (k + 1) = m := by omega
    rw [← ih, downTo, e, hm]
    show downTo n k * (m + 1) * fct m = downTo n k * ((m + 1) * fct m)
    rw [Nat.mul_assoc]
theorem prodS_dvd (l : Int) (L : List Int) : ∀ k, prodS l L k ∣ downTo L.length k
  | 0 => Nat.dvd_refl _
  | k + 1 => by
    have ih := prodS_dvd l L k
    simp only [prodS, downTo]
    split
    · exact Nat.mul_dvd_mul_right ih _
    · exact Nat.dvd_trans ih (Nat.dvd_mul_right _ _)
theorem prodS_fct (l : Int) (L : List Int) : prodS l L L.length ∣ fct L.length := by
  have h := downTo_fct L.length L.length (Nat.le_refl _)
  rw [Nat.sub_self] at h
  have := prodS_dvd l L L.length
  rw [← h]
  exact Nat.dvd_trans this (Nat.dvd_mul_right _ _)
/-- The sum with one more chance. -/
def addC (p : Nat × Nat) (c : Nat) : Nat × Nat := lowN (p.1 * c + 1 * p.2) (p.2 * c)
/-- What is kept of a sum of j chances whose denominators divide D. -/
def SumOk (D j : Nat) (p : Nat × Nat) : Prop := 1 ≤ p.2 ∧ p.2 ∣ D ∧ p.1 ≤ j * p.2
theorem addC_ok {D j : Nat} {p : Nat × Nat} {c : Nat} (hp : SumOk D j p) (hc : c ∣ D) (h1 : 1 ≤ c) : SumOk D (j + 1) (addC p c) := by
  obtain ⟨a, b⟩ := p
  obtain ⟨hb, hbD, ha⟩ := hp
  simp only at hb hbD ha
  unfold addC lowN SumOk
  simp only [Nat.one_mul]
  have hbc : 0 < b * c := Nat.mul_pos hb h1
  have hg : 0 < Nat.gcd (a * c + b) (b * c) := Nat.gcd_pos_of_pos_right _ hbc
  obtain ⟨u, hu⟩ := Nat.gcd_dvd_left (a * c + b) (b * c)
  obtain ⟨v, hv⟩ := Nat.gcd_dvd_right (a * c + b) (b * c)
  have hcop : Nat.gcd ((a * c + b) / Nat.gcd (a * c + b) (b * c)) ((b * c) / Nat.gcd (a * c + b) (b * c)) = 1 := Nat.gcd_div_gcd_div_gcd_of_pos_right hbc
  generalize hG : Nat.gcd (a * c + b) (b * c) = g at *
  have e1 : (a * c + b) / g = u := by rw [hu]; exact Nat.mul_div_cancel_left _ hg
  have e2 : (b * c) / g = v := by rw [hv]; exact Nat.mul_div_cancel_left _ hg
  rw [e1, e2] at hcop ⊢
  obtain ⟨x, hx⟩ := hbD
  obtain ⟨y, hy⟩ := hc
  refine ⟨?_, ?_, ?_⟩
  · rcases Nat.eq_zero_or_pos v with h | h
    · rw [h] at hv; omega
    · exact h
  · have k1 : (a * c + b) * D = (a * x + y) * (b * c) := by
      have h1 : a * c * D = a * x * (b * c) := by
        rw [hx]; ac_rfl
      have h2 : b * D = y * (b * c) := by
        rw [hy]; ac_rfl
      rw [Nat.add_mul, Nat.add_mul, h1, h2]
    rw [hu, hv] at k1
    have k2 : u * D = (a * x + y) * v := by
      have : g * (u * D) = g * ((a * x + y) * v) := by
        rw [← Nat.mul_assoc, k1]; ac_rfl
      exact Nat.eq_of_mul_eq_mul_left hg this
    have k3 : v ∣ u * D := by rw [k2]; exact Nat.dvd_mul_left _ _
    exact (Nat.Coprime.symm hcop).dvd_of_dvd_mul_left k3
  · have k1 : a * c + b ≤ (j + 1) * (b * c) := by
      have h2 : a * c ≤ j * b * c := Nat.mul_le_mul_right c ha
      have h3 : b * 1 ≤ b * c := Nat.mul_le_mul_left b h1
      rw [Nat.add_mul, Nat.one_mul]
      have : j * b * c = j * (b * c) := Nat.mul_assoc ..
      omega
    rw [hu, hv] at k1
    have : g * u ≤ g * ((j + 1) * v) := by
      refine Nat.le_trans k1 ?_
      refine Nat.le_of_eq ?_
      ac_rfl
    exact Nat.le_of_mul_le_mul_left this hg
/-- The sum of the chances of some seatings. -/
def sumC (l : Int) (R : List (List Int)) : Nat × Nat := R.foldl (fun p M => addC p (prodS l M M.length)) (0, 1)
theorem sumC_snoc (l : Int) (R : List (List Int)) (M : List Int) : sumC l (R ++ [M]) = addC (sumC l R) (prodS l M M.length) := by
  unfold sumC; rw [List.foldl_append]; rfl
theorem foldl_ok (l : Int) (n : Nat) : ∀ (R : List (List Int)) (j : Nat) (p : Nat × Nat), (∀ M ∈ R, M.length = n ∧ n ≤ 12) → SumOk (fct n) j p → SumOk (fct n) (j + R.length) (R.foldl (fun p M => addC p (prodS l M M.length)) p)
  | [], j, p, _, h => h
  | M :: R, j, p, hR, h => by
    obtain ⟨h1, h2⟩ := hR M (List.mem_cons_self ..)
    have hd := prodS_fct l M
    rw [List.foldl_cons, List.length_cons, show j + (R.length + 1) = j + 1 + R.length by omega]
    have hpb := (prodS_bound l M (by omega) M.length (Nat.le_refl _)).1
    refine foldl_ok l n R (j + 1) _ (fun M hM => hR M (List.mem_cons_of_mem _ hM)) (addC_ok h ?_ hpb)
    rw [← h1]; exact hd
theorem sumC_ok (l : Int) (n : Nat) (hn : n ≤ 7) (R : List (List Int)) (hR : ∀ M ∈ R, M.length = n) (hl : R.length ≤ 5040) : (sumC l R).1 ≤ 1000000000 ∧ (sumC l R).2 ≤ 1000000000 ∧ 1 ≤ (sumC l R).2 := by
  obtain ⟨h1, h2, h3⟩ := foldl_ok l n R 0 (0, 1) (fun M hM => ⟨hR M hM, by omega⟩) ⟨Nat.le_refl _, Nat.one_dvd _, by simp⟩
  rw [Nat.zero_add] at h3
  have h4 := Nat.le_of_dvd (fct_pos n) h2
  have h5 := fct_le n (by omega)
  have h6 : (sumC l R).2 ≤ 5040 := Nat.le_trans h4 h5
  refine ⟨?_, by omega, h1⟩
  have h7 : R.length * (sumC l R).2 ≤ 5040 * 5040 := Nat.mul_le_mul hl h6
  have h8 : (sumC l R).1 ≤ R.length * (sumC l R).2 := h3
  omega
theorem prodS_small (l : Int) (M : List Int) (h : M.length ≤ 7) : 1 ≤ prodS l M M.length ∧ prodS l M M.length ≤ 5040 :=
  ⟨(prodS_bound l M (by omega) M.length (Nat.le_refl _)).1, Nat.le_trans (Nat.le_of_dvd (fct_pos _) (prodS_fct l M)) (fct_le _ (by omega))⟩
/-- All that are listed can come. -/
theorem come_snoc {l : Int} {M : List Int} {y : Nat} (h : comeK l M M.length) (hf : fitsN l M y = true) : comeK l (M ++ [(y : Int)]) (M ++ [(y : Int)]).length := by
  intro j hj
  rw [List.length_append] at hj
  simp only [List.length_cons, List.length_nil] at hj
  by_cases e : j < M.length
  · rcases h j e with h1 | h1
    · left; rw [List.take_append_of_le_length (by omega)]; exact h1
    · right
      rw [List.getD_eq_getElem?_getD, List.getElem?_append_left e, ← List.getD_eq_getElem?_getD]; exact h1
  · obtain rfl : j = M.length := by omega
    unfold fitsN fitsS at hf
    simp only [Bool.and_eq_true, Bool.or_eq_true, decide_eq_true_eq] at hf
    rcases hf.2 with h1 | h1
    · right
      rw [List.getD_eq_getElem?_getD, List.getElem?_append_right (Nat.le_refl _)]; simpa using h1
    · left
      rw [List.take_append_of_le_length (Nat.le_refl _), List.take_length]; exact h1
theorem goOn_come (l : Int) (n : Nat) : ∀ (k : Nat) (M : List Int), comeK l M M.length → ∀ x ∈ goOn (fitsN l) n k M, comeK l x x.length
  | 0, M, h, x, hx => by
    simp [goOn] at hx
    subst hx
    exact h
  | k + 1, M, h, x, hx => by
    simp only [goOn, List.mem_flatMap] at hx
    obtain ⟨y, hy, hx⟩ := hx
    exact goOn_come l n k _ (come_snoc h (List.mem_filter.1 hy).2) x hx
end Go.Am
namespace Go.Am
theorem chs_lost {l : Int} {L : List Int} {k : Nat} (h : (k : Int) < l) (hk : k ≤ L.length) : chsE l (L.take k) = true := by
  unfold chsE
  rw [List.length_take_of_le hk]
  simp [h]
theorem prodS_lost (l : Nat) (L : List Int) : ∀ k, k ≤ l → k ≤ L.length → prodS (l : Int) L k = downTo L.length k
  | 0, _, _ => rfl
  | k + 1, h, hk => by
    simp only [prodS, downTo]
    rw [chs_lost (by omega) (by omega), if_pos rfl, prodS_lost l L k (by omega) (by omega)]
theorem prodS_mono (l : Int) (L : List Int) (k : Nat) : ∀ j, k + j ≤ L.length → prodS l L k ≤ prodS l L (k + j)
  | 0, _ => Nat.le_refl _
  | j + 1, h => by
    have ih := prodS_mono l L k j (by omega)
    show _ ≤ prodS l L (k + j + 1)
    simp only [prodS]
    split
    · have : prodS l L (k + j) * 1 ≤ prodS l L (k + j) * (L.length - (k + j)) := Nat.mul_le_mul_left _ (by omega)
      omega
    · exact ih
/-- No seating is likelier. -/
theorem prodS_least (l : Nat) (L : List Int) (h : l ≤ L.length) : downTo L.length l ≤ prodS (l : Int) L L.length := by
  rw [← prodS_lost l L l (Nat.le_refl _) h]
  have := prodS_mono (l : Int) L l (L.length - l) (by omega)
  rwa [show l + (L.length - l) = L.length by omega] at this
/-- The first one is that in which all sit on their own seats; it is likeliest. -/
def iotaI (n : Nat) : List Int := (List.range n).map fun (x : Nat) => (x : Int)
theorem first_iota : ∀ n < 8, ∀ (l : Nat), l < n + 1 → (goOn (fitsN (l : Int)) n n []).head? = some (iotaI n) := by decide +kernel
theorem prod_iota : ∀ n < 8, ∀ (l : Nat), l < n + 1 → prodS (l : Int) (iotaI n) n = downTo n l := by decide +kernel
def likeB (l : Int) (c : Nat) (M : List Int) : Bool := decide (prodS l M M.length = c)
theorem outs_slro {s : AS} {r n : Nat} {rows : List (List Int)} (hr : s.hp r = some (true, rows.map newInts)) (hl : n = rows.length) :
    Outs s (.sl r 1 0 n) (.ro true 1 (rows.map newInts) n) := by
  subst hl
  intro w0 N tm w phi ro y hS hy
  simp only [SimV] at hy ⊢
  rcases hy.2.2 with ⟨h1, _, h3, rfl⟩ | ⟨b, o, cap, cur, e, h1, rfl, h3, h4, h5, h6, h7⟩
  · left
    have : rows = [] := List.eq_nil_of_length_eq_zero h3
    subst this
    exact ⟨rfl, rfl, none, 0, rfl, fun _ => ⟨rfl, rfl⟩⟩
  · right
    have ho : o = 0 := by
      rcases h4 with h4 | h4
      · exact h4
      · exact absurd h4.2 (Nat.lt_irrefl _)
    subst ho
    rcases hS.liv r _ hr with ⟨h8, _⟩ | ⟨b', cur', e', h8, h9, h10, h11, h12⟩ | ⟨b', o', _, h8, h9, h10, _⟩
    · have : phi r = some b := h1
      rw [h8] at this; cases this
    case inr.inr => exact ob_not_cells h8 h9 h10 h1 h3
    · have h1' : phi r = some b := h1
      rw [h8] at h1'
      cases h1'
      have h3' : w.heap[b]? = some (.cells cur e (0, 0)) := h3
      rw [h9] at h3'
      cases h3'
      have hb : w0.heap.size ≤ b := (h11.resolve_right fun h => by cases h.2).2.resolve_right fun h => by obtain ⟨_, _, h⟩ := h; cases h
      refine ⟨b, 0, cap, cur, e, (0, 0), rfl, h9, ⟨hb, lt_of_get h9⟩, by simp, h5, fun _ => ⟨hb, rfl, rfl, h6, by omega⟩, ?_⟩
      simp only [SimR, if_true] at h12
      rw [List.drop_zero]
      refine SimL.of_get fun i a hi => ?_
      obtain ⟨y, hy1, hy2⟩ := h12.get hi
      refine ⟨y, hy1, ?_⟩
      rw [List.getElem?_map, Option.map_eq_some_iff] at hi
      obtain ⟨L, _, rfl⟩ := hi
      simp only [SimV] at hy2 ⊢
      rcases hy2 with hy2 | ⟨b, o, cap, cur, e, fz, g1, g2, g3, g4, g5, g6, g7⟩
      · exact .inl hy2
      · obtain ⟨k1, k2⟩ := g6 trivial
        exact .inr ⟨b, o, cap, cur, e, fz, g1, g2, ⟨k1, lt_of_get g2⟩, g4, g5, fun _ => ⟨k1, k2⟩, simL_allv (allv_ints L) g7⟩
def CutQ0 (R : AS) (Q : Exit → AS → Prop) : Exit → AS → Prop
  | .normal, s => Weak s R
  | e, s => Q e s
theorem AW_cutseq0 {P : Program} {N : Nat} {s : AS} {x y : ACode} {Q : Exit → AS → Prop} (R : AS) (k : AW P N y R Q) (h : AW P N x s (CutQ0 R Q)) : AW P N (.seq x y) s Q := by
  refine AW_seq (AW_mono h fun e s' he => ?_)
  cases e <;> first | exact AW_weak he k | exact he
end Go.Am
namespace Go.Am
/-- May a function value be asked of a whole seating? -/
structure Keeps (P : Program) (f : FuncId) (fl : List AV) (k : Nat) (n : Nat) (keep : List Int → Bool) : Prop where
  call : Callable P f
  bears : Bears fl
  norefs : ∀ keep, refsL keep fl = true
  nokill : ∀ r, killL r fl = fl
  spec : ∀ (M : List Int), M.length = n → Sp P f (fl.take k ++ [ints M] ++ fl.drop k) (.b (keep M))
mutual
theorem renV_none (f : Nat → Nat) : ∀ x : AV, refsV (fun _ => false) x = true → renV f x = x
  | .any, _ => rfl
  | .v _, _ => rfl
  | .ro _ _ _ _, _ => rfl
  | .rp _, _ => rfl
  | .sl _ _ _ _, h => by simp [refsV] at h
  | .pt _ _, h => by simp [refsV] at h
  | .mp _, h => by simp [refsV] at h
  | .itr _, h => by simp [refsV] at h
  | .ob _, _ => rfl
  | .fn _ l _, h => by simp only [refsV] at h; simp only [renV, renL_none f l h]
  | .rmp _ _ _, _ => rfl
  | .fu _ _ _, _ => rfl
  | .agg l, h => by simp only [refsV] at h; simp only [renV, renL_none f l h]
  | .tup l, h => by simp only [refsV] at h; simp only [renV, renL_none f l h]
theorem renL_none (f : Nat → Nat) : ∀ l : List AV, refsL (fun _ => false) l = true → renL f l = l
  | [], _ => rfl
  | a :: l, h => by
    simp only [refsL, Bool.and_eq_true] at h
    simp only [renL, renV_none f a h.1, renL_none f l h.2]
end
theorem ren_fn {f : Nat → Nat} {g : FuncId} {fl : List AV} {k : Nat} (h : ∀ keep, refsL keep fl = true) : renV f (.fn g fl k) = .fn g fl k := by simp only [renV, renL_none f fl (h _)]
theorem tm_stM {l : List (Nat × AV)} {h : List (Nat × (Bool × List AV))} {r0 b t : Nat} {rows : List (List Int)} : (stM l h r0 b rows).tm t = (look l t).getD .any := rfl
theorem tm_eh2 {a b c : AV} {l : List AV} {hp : Hp} : (enterH (a :: b :: c :: l) hp).tm 2 = c := rfl
theorem srchA (A : List (List Int)) (j : Nat) : (AV.tup [newInts ((A[j]?).getD []), .b (A[j]?).isSome]) = .tup [newInts (A.getD j []), .b (decide (j < A.length))] := by
  have e : (A[j]?).isSome = decide (j < A.length) := by
    by_cases h : j < A.length
    · simp [h]
    · simp [h]
  rw [e, List.getD_eq_getElem?_getD]
end Go.Am
namespace Go.Proofs.Ytkciccbpjdaekaa
open Go.Am
attribute [local irreducible] AW Outs Weak Lends Lend Sp aops atree aop1 Then Round InBlock Done
attribute [local irreducible] SpH DoneH
theorem canSitAsks (l : Int) (n : Nat) (hn : n ≤ 1000) : AsksK Try.prog 52 [.rp [.i l]] 0 n (fitsN l) where
  call := ⟨_, Try.func52, by rfl, by rfl⟩
  bears := bears_rp rfl
  norefs := fun _ => rfl
  nokill := fun _ => rfl
  spec := fun M y h1 _ _ => canSitAsk_spec l M (y : Int) (by omega)
/-- All seatings of n guests. -/
def allS (l : Int) (n : Nat) : List (List Int) := goOn (fitsN l) n n []
theorem allS_len (l : Int) (n : Nat) (hn : n ≤ 7) : (allS l n).length ≤ 5040 :=
  Nat.le_trans (goOn_count l n n [] (beg_nil n) (by simp)) (fct_le n (by omega))
theorem allS_mem {l : Int} {n : Nat} {x : List Int} (h : x ∈ allS l n) : IsBeg n x ∧ x.length = n := by
  have := goOn_beg l n n [] (beg_nil n) x h
  simpa using this
end Go.Proofs.Ytkciccbpjdaekaa
namespace Go.Am
mutual
/-- Exact values, and slices and pointers that are read, all through. -/
def readV : AV → Bool
  | .v _ => true
  | .ro fr _ cs _ => !fr && readL cs
  | .rp cs => readL cs
  | .any => false
  | .sl _ _ _ _ => false
  | .pt _ _ => false
  | .agg _ => false
  | .tup _ => false
  | .mp _ => false
  | .itr _ => false
  | .ob _ => false
  | .fn _ _ _ => false
  | .rmp _ _ _ => false
  | .fu _ _ _ => false
def readL : List AV → Bool
  | [] => true
  | a :: l => readV a && readL l
end
mutual
theorem SimV.read : ∀ (x : AV) (C D : Ctx) (y : Value), readV x = true → D.heap = C.heap → (∀ b, C.ro b → D.ro b) → SimV x C y → SimV x D y
  | .v _, _, _, _, _, _, _, h => by simpa only [SimV] using h
  | .ro fr z cs n, C, D, y, hr, hh, hro, h => by
    simp only [readV, Bool.and_eq_true, Bool.not_eq_true'] at hr
    simp only [SimV] at h ⊢
    rcases h with h | ⟨b, o, cap, cur, e, fz, h1, h2, h3, h4, h5, h6, h7⟩
    · exact .inl h
    · exact .inr ⟨b, o, cap, cur, e, fz, h1, by rw [hh]; exact h2, hro b h3, h4, h5, (fun e => by rw [hr.1] at e; cases e), SimL.read cs C.out D.out _ hr.2 hh hro h7⟩
  | .rp cs, C, D, y, hr, hh, hro, h => by
    simp only [readV] at hr
    simp only [SimV] at h ⊢
    obtain ⟨b, o, cur, e, fz, h1, h2, h3, h4⟩ := h
    exact ⟨b, o, cur, e, fz, h1, by rw [hh]; exact h2, hro b h3, SimL.read cs C.out D.out _ hr hh hro h4⟩
  | .any, _, _, _, hr, _, _, _ => by simp [readV] at hr
  | .sl _ _ _ _, _, _, _, hr, _, _, _ => by simp [readV] at hr
  | .pt _ _, _, _, _, hr, _, _, _ => by simp [readV] at hr
  | .agg _, _, _, _, hr, _, _, _ => by simp [readV] at hr
  | .tup _, _, _, _, hr, _, _, _ => by simp [readV] at hr
  | .mp _, _, _, _, hr, _, _, _ => by simp [readV] at hr
  | .itr _, _, _, _, hr, _, _, _ => by simp [readV] at hr
  | .ob _, _, _, _, hr, _, _, _ => by simp [readV] at hr
  | .fn _ _ _, _, _, _, hr, _, _, _ => by simp [readV] at hr
  | .rmp _ _ _, _, _, _, hr, _, _, _ => by simp [readV] at hr
  | .fu _ _ _, _, _, _, hr, _, _, _ => by simp [readV] at hr
theorem SimL.read : ∀ (l : List AV) (C D : Ctx) (ys : List Value), readL l = true → D.heap = C.heap → (∀ b, C.ro b → D.ro b) → SimL l C ys → SimL l D ys
  | [], _, _, _, _, _, _, _ => by simp [SimL]
  | _ :: _, _, _, [], _, _, _, h => by simp [SimL] at h
  | a :: l, C, D, y :: ys, hr, hh, hro, h => by
    simp only [readL, Bool.and_eq_true] at hr
    simp only [SimL] at h ⊢
    exact ⟨SimV.read a C D y hr.1 hh hro h.1, SimL.read l C D ys hr.2 hh hro h.2⟩
end
end Go.Am
namespace Go.Am
/-- May a function value be asked of each of some lists? -/
structure KeepsX (P : Program) (f : FuncId) (fl : List AV) (k : Nat) (A : List (List Int)) (keep : List Int → Bool) : Prop where
  call : Callable P f
  bears : Bears fl
  norefs : ∀ keep, refsL keep fl = true
  nokill : ∀ r, killL r fl = fl
  spec : ∀ M ∈ A, Sp P f (fl.take k ++ [ints M] ++ fl.drop k) (.b (keep M))
theorem tm_eh1 {a b : AV} {l : List AV} {hp : Hp} : (enterH (a :: b :: l) hp).tm 1 = b := rfl
theorem tm_eh0 {a : AV} {l : List AV} {hp : Hp} : (enterH (a :: l) hp).tm 0 = a := rfl
end Go.Am
namespace Go.Proofs.Ytkciccbpjdaekaa
open Go.Am
attribute [local irreducible] AW Outs Weak Lends Lend Sp aops atree aop1 Then Round InBlock Done
attribute [local irreducible] SpH DoneH
theorem fittingWhere_spec {f g : FuncId} {fl gl : List AV} {kk gk n : Nat} {fits : List Int → Nat → Bool} {keep : List Int → Bool} (hAs : AsksK Try.prog f fl kk n fits) (A : List (List Int)) (hA : goOn fits n n [] = A) (F : KeepsX Try.prog g gl gk A keep) (hn : n ≤ 12) (h1 : 1 ≤ n) (hal : A.length ≤ 5040) (hmem : ∀ x ∈ A, x.length = n ∧ ∀ y ∈ x, 0 ≤ y ∧ y < n) :
    SpH Try.prog 42 [.i n, .fn f fl kk, .fn g gl gk] (fun _ => none) (.sl nbase 1 0 (A.filter keep).length) (matO (A.filter keep)) := by
  have hpb : pbase = 4000000 := rfl
  have hf := firstFitting_spec hAs (by omega) h1
  have hsort : A.Pairwise fun a b => comesB a b = true := hA ▸ goOn_sorted _ _ _ _
  have hnx : ∀ j, j < A.length → Sp Try.prog 51 [ints (A.getD j []), .fn f fl kk] (.tup [newInts (A.getD (j + 1) []), .b (decide (j + 1 < A.length))]) := by
    intro j hj
    have hm := hmem _ (show A.getD j [] ∈ A by simp [hj])
    have := nextFitting_spec hAs (by omega) h1 _ hm.1 hm.2
    rw [hA, find_sorted hsort hj] at this
    unfold srchR at this
    rw [srchA] at this
    exact this
  rw [hA, List.head?_eq_getElem?] at hf
  unfold srchR at hf
  rw [srchA] at hf
  have hstat : Static (fun _ => none) (.sl nbase 1 0 (A.filter keep).length) (matO (A.filter keep)) := static_mat1 _
  clear hsort hA
  refine specH_of Try.func42 rfl cc42 rfl (by first | exact static_mat1 _ | exact static_mat2 _ _ | assumption) ?_
  unfold ac42
  repeat (first | (refine step_ops ?_; (first | (refine m_mov (by conv => lhs; whnf) ?_) | (refine m_nils ?_))) | refine end_ops ?_ | refine seq_ops ?_ | refine AW_seq ?_)
  refine step_ops ?_
  refine m_callt hf ?_ (allv_ints _) rfl ?_
  · refine lends_cons lend_v (lends_cons (lend_fn ?_) lends_nil)
    rw [hAs.nokill, hAs.nokill]
    exact lends_self hAs.bears _
  repeat (first | (refine step_ops ?_; (first | (refine m_mov (by conv => lhs; whnf) ?_) | (refine m_ext rfl rfl ?_))) | refine end_ops ?_ | refine AW_block ?_)
  refine AW_loop (α := Nat) (fun j => j ≤ A.length) (fun j => stM [(0, .i n), (1, .fn f fl kk), (2, .fn g gl gk), (7, .sl 7 1 0 ((A.take j).filter keep).length), (8, .sl 13 1 0 (A.getD j []).length), (9, .b (decide (j < A.length)))] [(13, (true, (A.getD j []).map AV.i))] 7 1000 ((A.take j).filter keep)) (fun j => A.length - j) 0 (by omega)
    (weak_keep id ?_ ?_ rfl rfl rfl (.inl (by simp [pbase])) ?_ rfl rfl (.inr ⟨rfl, rfl⟩) (fun j hj => by simp at hj)) ?_
  · (repeat' (first | exact trivial | refine And.intro ?_ ?_)) <;> (first | rfl | skip)
    all_goals simp (disch := decide) [tm_put_ne', tm_mem, tm_kill, tm_eh1, tm_eh2, kill_fn F.nokill, ren_fn F.norefs, kill_fn hAs.nokill, ren_fn hAs.norefs]
  · (repeat' (first | exact trivial | refine And.intro ?_ ?_)) <;> (first | rfl | skip)
  · simp [refsT, refsV, F.norefs, hAs.norefs]
  intro j hj
  have hrl := rowsC_len 1000 ((A.take j).filter keep)
  have hle : ((A.take j).filter keep).length ≤ j := Nat.le_trans (List.length_filter_le ..) (List.length_take_le _ _)
  by_cases hc : j < A.length
  · have hin : A.getD j [] ∈ A := by simp [hc]
    have hm := hmem _ hin
    have hnj := hnx j hc
    have hks := F.spec (A.getD j []) hin
    have hml : (A.getD j []).length ≤ 1048576 := by omega
    by_cases hk : keep (A.getD j []) = true
    · have es : (A.take (j + 1)).filter keep = (A.take j).filter keep ++ [A.getD j []] := by
        rw [take_snoc A j [] hc, List.filter_append, List.filter_cons_of_pos hk]; rfl
      rw [hk] at hks
      repeat (first | (refine step_ops ?_; (refine m_mov (by conv => lhs; whnf) ?_)) | refine end_ops ?_ | refine seq_ops ?_ | (refine cond_t rfl ?_ ?_; (· first | rfl | assumption | (refine decide_eq_true ?_; first | assumption | omega) | (refine nt ?_; first | assumption | omega) | (simp [*]; done))) | refine skip_then ?_ | refine AW_seq ?_ | refine AW_block ?_)
      refine step_ops ?_
      refine m_callf rfl F.call hks ?_ ?_
      · exact asksK_lend F.bears rfl rfl (lends_cons (lend_sli (by rfl) rfl) lends_nil)
      repeat (first | (refine step_ops ?_; (refine m_mov (by conv => lhs; whnf) ?_)) | refine end_ops ?_ | refine AW_ops ?_ | (refine cond_t rfl ?_ ?_; (· first | rfl | assumption | (refine decide_eq_true ?_; first | assumption | omega) | (refine nt ?_; first | assumption | omega) | (simp [*]; done))))
      refine step_ops ?_
      refine m_bsl1d rfl rfl ?_
      refine step_ops ?_
      refine m_app1d rfl (by decide) rfl ?_ rfl rfl rfl ?_ (by decide) ?_
      · simp [rowsC_kill, rowsC_len]
      · omega
      repeat (first | (refine step_ops ?_; (refine m_mov (by conv => lhs; whnf) ?_)) | refine end_ops ?_ | refine AW_ops ?_ | refine norm_then ?_ | refine norm_block ?_)
      refine step_ops ?_
      refine m_callt hnj ?_ (allv_ints _) rfl ?_
      · refine lends_cons (lend_sli (by rfl) rfl) (lends_cons (lend_fn ?_) lends_nil)
        simp only [hAs.nokill]
        exact lends_self hAs.bears _
      repeat (first | (refine step_ops ?_; (first | (refine m_mov (by conv => lhs; whnf) ?_) | (refine m_ext rfl rfl ?_))) | refine end_ops ?_)
      refine next_round (j + 1) (by omega) ?_ ?_
      · rw [es, List.length_append]
        refine weak_push (row := A.getD j []) (fun r => if r = 7 then 29 else if r = 13 then 20 else r) 13 ?_ ?_ rfl rfl rfl (by omega) ?_ rfl (by decide) rfl rfl ?_ ?_ ?_
        · (repeat' (first | exact trivial | refine And.intro ?_ ?_)) <;> (first | rfl | skip)
          all_goals simp (disch := decide) [tm_put_ne', tm_mem, tm_kill, tm_stM, Am.look, kill_fn F.nokill, ren_fn F.norefs, kill_fn hAs.nokill, ren_fn hAs.norefs]
        · (repeat' (first | exact trivial | refine And.intro ?_ ?_)) <;> (first | rfl | skip)
        · simp [refsT, refsV, F.norefs, hAs.norefs]
        · simp [rowsC_kill, killL_append, killL]
          rfl
        · rfl
        · (intro j hj; simp (disch := first | omega | assumption) only [hp_put, hp_mem_ne, hp_kill_ne]; first | exact stM_row rfl hj | (rw [stM_row rfl hj]; rfl))
      · omega
    · have hkf : keep (A.getD j []) = false := by simpa using hk
      have es : (A.take (j + 1)).filter keep = (A.take j).filter keep := by
        rw [take_snoc A j [] hc, List.filter_append, List.filter_cons_of_neg hk]; simp
      rw [hkf] at hks
      repeat (first | (refine step_ops ?_; (refine m_mov (by conv => lhs; whnf) ?_)) | refine end_ops ?_ | refine seq_ops ?_ | (refine cond_t rfl ?_ ?_; (· first | rfl | assumption | (refine decide_eq_true ?_; first | assumption | omega) | (refine nt ?_; first | assumption | omega) | (simp [*]; done))) | refine skip_then ?_ | refine AW_seq ?_ | refine AW_block ?_)
      refine step_ops ?_
      refine m_callf rfl F.call hks ?_ ?_
      · exact asksK_lend F.bears rfl rfl (lends_cons (lend_sli (by rfl) rfl) lends_nil)
      repeat (first | (refine step_ops ?_; (refine m_mov (by conv => lhs; whnf) ?_)) | refine end_ops ?_ | refine AW_ops ?_ | (refine cond_f rfl ?_ ?_; (· first | rfl | assumption | (refine decide_eq_false ?_; first | assumption | omega) | (refine nf ?_; first | assumption | omega) | (simp [*]; done))) | refine norm_then ?_ | refine norm_block ?_ | refine AW_skip ?_)
      refine step_ops ?_
      refine m_callt hnj ?_ (allv_ints _) rfl ?_
      · refine lends_cons (lend_sli (by rfl) rfl) (lends_cons ?_ lends_nil)
        exact lend_bears hAs.bears
      repeat (first | (refine step_ops ?_; (first | (refine m_mov (by conv => lhs; whnf) ?_) | (refine m_ext rfl rfl ?_))) | refine end_ops ?_)
      refine next_round (j + 1) (by omega) ?_ ?_
      · rw [es]
        refine weak_keep (fun r => if r = 13 then 20 else r) ?_ ?_ rfl rfl rfl (.inl (by omega)) ?_ rfl rfl ?_ ?_
        · (repeat' (first | exact trivial | refine And.intro ?_ ?_)) <;> (first | rfl | skip)
          all_goals simp (disch := decide) [tm_put_ne', tm_mem, tm_kill, tm_stM, Am.look, kill_fn F.nokill, ren_fn F.norefs, kill_fn hAs.nokill, ren_fn hAs.norefs]
        · (repeat' (first | exact trivial | refine And.intro ?_ ?_)) <;> (first | rfl | skip)
        · simp [refsT, refsV, F.norefs, hAs.norefs]
        · refine .inl ⟨rfl, ?_⟩
          simp [rowsC_kill]
        · (intro j hj; simp (disch := first | omega | assumption) only [hp_put, hp_mem_ne, hp_kill_ne]; first | exact stM_row rfl hj | (rw [stM_row rfl hj]; rfl))
      · omega
  · obtain rfl : j = A.length := by omega
    rw [List.take_length]
    rw [List.take_length] at hle hrl
    repeat (first | (refine step_ops ?_; (refine m_mov (by conv => lhs; whnf) ?_)) | refine end_ops ?_ | refine seq_ops ?_ | (refine cond_f rfl ?_ ?_; (· first | rfl | assumption | (refine decide_eq_false ?_; first | assumption | omega) | (refine nf ?_; first | assumption | omega) | (simp [*]; done))) | refine AW_seq ?_ | refine AW_ret ?_ | refine norm_then ?_ | refine exit_then ?_ | refine exit_round ?_ | refine AW_exit ?_ | refine exit_block ?_)
    refine ret_mat (r0 := 7) (b := 1000) (by omega) (by omega) (by omega) rfl rfl ?_
    (intro j hj; simp (disch := first | omega | assumption) only [hp_put]; first | exact stM_row rfl hj | (rw [stM_row rfl hj]; rfl))
end Go.Proofs.Ytkciccbpjdaekaa
namespace Go.Proofs.Ytkciccbpjdaekaa
open Go.Am
attribute [local irreducible] AW Outs Weak Lends Lend Sp aops atree aop1 Then Round InBlock Done
attribute [local irreducible] SpH DoneH
theorem keepsX_of {f : FuncId} {fl : List AV} {k n : Nat} {keep : List Int → Bool} (F : Keeps Try.prog f fl k n keep) {A : List (List Int)} (h : ∀ x ∈ A, x.length = n) : KeepsX Try.prog f fl k A keep where
  call := F.call
  bears := F.bears
  norefs := F.norefs
  nokill := F.nokill
  spec := fun M hM => F.spec M (h M hM)
theorem seatingsWhere_spec {f : FuncId} {fl : List AV} {kk n : Nat} {keep : List Int → Bool} (l : Int) (F : Keeps Try.prog f fl kk n keep) (hn : n ≤ 7) (h1 : 1 ≤ n) :
    SpH Try.prog 21 [.i n, .i l, .fn f fl kk] (fun _ => none) (.sl nbase 1 0 ((allS l n).filter keep).length) (matO ((allS l n).filter keep)) := by
  have hpb : pbase = 4000000 := rfl
  have hAs := canSitAsks l n (by omega)
  have hal := allS_len l n hn
  have hfw := fittingWhere_spec hAs (allS l n) rfl (keepsX_of F fun x hx => (allS_mem hx).2) (by omega) h1 hal fun x hx => ⟨(allS_mem hx).2, (allS_mem hx).1.2⟩
  have hle : ((allS l n).filter keep).length ≤ (allS l n).length := List.length_filter_le ..
  have hstat : Static (fun _ => none) (.sl nbase 1 0 ((allS l n).filter keep).length) (matO ((allS l n).filter keep)) := static_mat1 _
  have hnk : ∀ r, killV r (.fn f fl kk) = .fn f fl kk := fun r => kill_fn F.nokill
  generalize (allS l n).filter keep = R at *
  refine specH_of Try.func21 rfl cc21 rfl (by first | exact static_mat1 _ | exact static_mat2 _ _ | assumption) ?_
  unfold ac21
  repeat (first | (refine step_ops ?_; (first | (refine m_mov (by conv => lhs; whnf) ?_) | (refine m_nils ?_))) | refine end_ops ?_ | refine seq_ops ?_)
  (refine step_ops ?_); (apply m_call (canSit_spec l)); (· repeat (first | exact lends_nil | (refine lends_cons ?_ ?_; (· exact lend_v))))
  repeat (refine step_ops ?_; (refine m_mov (by conv => lhs; whnf) ?_))
  refine step_ops ?_
  refine m_callM 11 1000 hfw ?_ rfl (by omega) (by omega) (by omega) rfl ?_ ?_
  · refine lends_cons lend_v (lends_cons (lend_bears (bears_rp rfl)) (lends_cons (lend_fn ?_) lends_nil))
    rw [F.nokill]
    exact lends_self F.bears _
  · intro j hj
    simp (disch := omega) only [hp_put, hp_mem_ne, hp_kill_ne]
    rfl
  repeat (first | (refine step_ops ?_; (refine m_mov (by conv => lhs; whnf) ?_)) | refine end_ops ?_ | refine AW_ret ?_)
  refine ret_mat (r0 := 11) (b := 1000) (by omega) (by omega) (by omega) rfl rfl ?_
  intro j hj
  simp only [hp_put]
  refine addM_row (by omega) ?_ hj
  simp (disch := omega) only [hp_put, hp_mem_ne, hp_kill_ne]
  rfl
end Go.Proofs.Ytkciccbpjdaekaa
namespace Go.Proofs.Ytkciccbpjdaekaa
open Go.Am
attribute [local irreducible] AW Outs Weak Lends Lend Sp aops atree aop1 Then Round InBlock Done
attribute [local irreducible] SpH DoneH
def freeI (n : Nat) (M : List Int) (k : Nat) : List Int := ((List.range k).filter fun (x : Nat) => !decide ((x : Int) ∈ M)).map fun (x : Nat) => (x : Int)
theorem freeI_yes {n k : Nat} {M : List Int} (h : ¬ (k : Int) ∈ M) : freeI n M (k + 1) = freeI n M k ++ [(k : Int)] := by
  unfold freeI; rw [List.range_succ, List.filter_append, List.map_append, List.filter_cons_of_pos (by simp [h])]; rfl
theorem freeI_no {n k : Nat} {M : List Int} (h : (k : Int) ∈ M) : freeI n M (k + 1) = freeI n M k := by
  unfold freeI; rw [List.range_succ, List.filter_append, List.map_append, List.filter_cons_of_neg (by simp [h])]; simp
theorem freeI_le (n : Nat) (M : List Int) (k : Nat) : (freeI n M k).length ≤ k := by
  unfold freeI; rw [List.length_map]; exact Nat.le_trans (List.length_filter_le ..) (by simp)
theorem freeI_all (n : Nat) (M : List Int) : freeI n M n = (freeN n M).map fun (x : Nat) => (x : Int) := rfl
theorem seFree_spec (M : List Int) (n : Nat) (hM : M.length ≤ 1048576) (hn : n ≤ 1000) : Sp Try.prog 40 [ints M, .i n] (newInts (freeI n M n)) := by
  refine spec_of Try.func40 rfl cc40 rfl ?_
  unfold ac40
  repeat (first | (refine step_ops ?_; (first | (refine m_mov (by conv => lhs; whnf) ?_) | (refine m_nils ?_))) | refine end_ops ?_ | refine seq_ops ?_ | refine AW_seq ?_ | refine AW_block ?_)
  refine AW_loop (α := Nat × Nat) (fun a => a.1 ≤ n ∧ (a.2 = 5 ∨ a.2 = 19)) (fun a => st [(0, ints M), (1, .i n), (6, .i a.1), (5, .sl a.2 1 0 (freeI n M a.1).length)] [(a.2, (true, (freeI n M a.1).map AV.i))]) (fun a => n - a.1) (0, 5) (by simp) (weak_st ?_ ?_ rfl rfl) ?_
  · (repeat' (first | exact trivial | refine And.intro ?_ ?_)) <;> (first | rfl | skip)
  · exact ⟨rfl, trivial⟩
  rintro ⟨k, r⟩ ⟨hk, hr⟩
  have hl := freeI_le n M k
  simp only at hk hr
  rcases hr with rfl | rfl
  all_goals
    dsimp only
    by_cases h : k < n
    · by_cases hx : (k : Int) ∈ M
      · repeat (first | (refine step_ops ?_; (first | (refine m_mov (by conv => lhs; whnf) ?_) | (refine m_lss rfl rfl ?_))) | refine end_ops ?_ | refine seq_ops ?_ | (refine cond_t rfl ?_ ?_; (· first | rfl | assumption | (refine decide_eq_true ?_; first | assumption | omega) | (refine nt ?_; first | assumption | omega) | (simp [*]; done))) | refine skip_then ?_ | refine AW_seq ?_ | refine AW_block ?_)
        (refine step_ops ?_); (apply m_call (l1Has_spec M k hM)); (· repeat (first | exact lends_nil | (refine lends_cons ?_ ?_; (· (first | exact lend_v | (refine lend_ints ?_; first | rfl | omega))))))
        repeat (first | (refine step_ops ?_; (first | (refine m_mov (by conv => lhs; whnf) ?_) | (refine m_add rfl rfl ?_ ?_ ?_; (· omega); (· omega)) | (refine m_not rfl ?_))) | refine end_ops ?_ | refine AW_ops ?_ | (refine cond_f rfl ?_ ?_; (· first | rfl | assumption | (refine decide_eq_false ?_; first | assumption | omega) | (refine nf ?_; first | assumption | omega) | (simp [*]; done))) | refine norm_then ?_ | refine norm_block ?_ | refine AW_skip ?_)
        first
        | (refine next_round (k + 1, 5) ⟨by omega, .inl rfl⟩ (weak_st ?_ ?_ rfl rfl) ?_
           · exact ⟨rfl, rfl, rfl, by show _ = AV.sl 5 1 0 (freeI n M (k + 1)).length; rw [freeI_no hx]; rfl, trivial⟩
           · exact ⟨by show _ = some (true, (freeI n M (k + 1)).map AV.i); rw [freeI_no hx]; rfl, trivial⟩
           · omega)
        | (refine next_round (k + 1, 19) ⟨by omega, .inr rfl⟩ (weak_st ?_ ?_ rfl rfl) ?_
           · exact ⟨rfl, rfl, rfl, by show _ = AV.sl 19 1 0 (freeI n M (k + 1)).length; rw [freeI_no hx]; rfl, trivial⟩
           · exact ⟨by show _ = some (true, (freeI n M (k + 1)).map AV.i); rw [freeI_no hx]; rfl, trivial⟩
           · omega)
      · repeat (first | (refine step_ops ?_; (first | (refine m_mov (by conv => lhs; whnf) ?_) | (refine m_lss rfl rfl ?_))) | refine end_ops ?_ | refine seq_ops ?_ | (refine cond_t rfl ?_ ?_; (· first | rfl | assumption | (refine decide_eq_true ?_; first | assumption | omega) | (refine nt ?_; first | assumption | omega) | (simp [*]; done))) | refine skip_then ?_ | refine AW_seq ?_ | refine AW_block ?_)
        (refine step_ops ?_); (apply m_call (l1Has_spec M k hM)); (· repeat (first | exact lends_nil | (refine lends_cons ?_ ?_; (· (first | exact lend_v | (refine lend_ints ?_; first | rfl | omega))))))
        repeat (first | (refine step_ops ?_; (first | (refine m_mov (by conv => lhs; whnf) ?_) | (refine m_add rfl rfl ?_ ?_ ?_; (· omega); (· omega)) | (refine m_not rfl ?_) | (refine m_bsl1 rfl rfl ?_) | (refine m_app1i rfl (by decide) (by rfl) (by first | rfl | omega | (simp; done)) rfl rfl ?_ (by decide) ?_; (· first | omega | (simp; omega))))) | refine end_ops ?_ | refine AW_ops ?_ | (refine cond_t rfl ?_ ?_; (· first | rfl | assumption | (refine decide_eq_true ?_; first | assumption | omega) | (refine nt ?_; first | assumption | omega) | (simp [*]; done))) | refine norm_then ?_ | refine norm_block ?_)
        refine next_round (k + 1, 19) ⟨by omega, .inr rfl⟩ (weak_st ?_ ?_ rfl rfl) ?_
        · refine ⟨rfl, rfl, rfl, ?_, trivial⟩
          show AV.sl 19 1 0 (freeI n M k ++ [(k : Int)]).length = AV.sl 19 1 0 (freeI n M (k + 1)).length
          rw [freeI_yes hx]
        · refine ⟨?_, trivial⟩
          show some (true, (freeI n M k ++ [(k : Int)]).map AV.i) = some (true, (freeI n M (k + 1)).map AV.i)
          rw [freeI_yes hx]
        · omega
    · repeat (first | (refine step_ops ?_; (first | (refine m_mov (by conv => lhs; whnf) ?_) | (refine m_lss rfl rfl ?_))) | refine end_ops ?_ | refine seq_ops ?_ | (refine cond_f rfl ?_ ?_; (· first | rfl | assumption | (refine decide_eq_false ?_; first | assumption | omega) | (refine nf ?_; first | assumption | omega) | (simp [*]; done))) | refine AW_seq ?_ | refine AW_ret ?_ | refine ret_done ?_ | refine norm_then ?_ | refine exit_then ?_ | refine exit_round ?_ | refine AW_exit ?_ | refine exit_block ?_)
      obtain rfl : k = n := by omega
      exact outs_ints rfl rfl rfl
theorem seAll_leaf (l : Int) (n : Nat) (hn : n ≤ 7) (M : List Int) (hl : M.length = n) :
    SpH Try.prog 19 [.i n, .i l, ints M] (fun _ => none) (.sl nbase 1 0 1) (matO [M]) := by
  have hpb : pbase = 4000000 := rfl
  have hstat : Static (fun _ => none) (.sl nbase 1 0 1) (matO [M]) := static_mat1 [M]
  refine specH_of Try.func19 rfl cc19 rfl (by first | exact static_mat1 _ | exact static_mat2 _ _ | assumption) ?_
  unfold ac19
  repeat (first | (refine step_ops ?_; (first | (refine m_mov (by conv => lhs; whnf) ?_) | (refine m_eql rfl rfl ?_) | (refine m_len_ro rfl ?_) | (refine m_nils ?_))) | refine end_ops ?_ | refine seq_ops ?_ | (refine cond_t rfl ?_ ?_; (· first | rfl | assumption | (refine decide_eq_true ?_; first | assumption | omega) | (refine nt ?_; first | assumption | omega) | (simp [*]; done))) | refine AW_seq ?_)
  (refine step_ops ?_); (apply m_callo (l1Own_spec M (by omega))); (· repeat (first | exact lends_nil | (refine lends_cons ?_ ?_; (· (refine lend_ints ?_; first | rfl | omega))))); (· first | exact allv_ints _ | rfl | (simp; done))
  refine step_ops ?_
  refine m_bsl1d rfl rfl ?_
  refine step_ops ?_; (refine m_mov (by conv => lhs; whnf) ?_)
  refine end_ops ?_
  refine AW_weak (weak_push (rows := []) (row := M) (r0 := 16) (b := 1000) (l := [(6, .sl 16 1 0 1)]) (h := []) id 15 ?_ ?_ rfl rfl rfl (by simp [hpb]) rfl rfl (by decide) rfl rfl ?_ ?_ ?_) ?_
  · (repeat' (first | exact trivial | refine And.intro ?_ ?_)) <;> (first | rfl | skip)
  · trivial
  · simp [rowsC, killL]
    rfl
  · rfl
  · intro j hj; simp at hj
  refine AW_ret ?_
  refine ret_then ?_
  refine ret_mat (r0 := 16) (b := 1000) (by omega) (by omega) (by simp [hpb]) rfl rfl ?_
  intro j hj
  exact stM_row rfl hj
def gjoin (b m b2 : Nat) : Nat → Nat := fun j => if j < m then b + j else b2 + (j - m)
theorem rowsC_app (b : Nat) (rows rows2 : List (List Int)) : rowsC b (rows ++ rows2) = rowsC b rows ++ rowsC (b + rows.length) rows2 := by
  induction rows generalizing b with
  | nil => rfl
  | cons r rs ih =>
    simp only [List.cons_append, rowsC, ih, List.length_cons]
    rw [show b + 1 + rs.length = b + (rs.length + 1) by omega]
/-- Forgetting, the rows of another matrix having been appended. -/
theorem weak_join {s : AS} {l : List (Nat × AV)} {h : List (Nat × (Bool × List AV))} {r0 b b2 : Nat} {rows rows2 : List (List Int)} (f0 : Nat → Nat)
    (hl : HasF s (nmF b f0 (gjoin b rows.length b2)) l) (hh : HasRF s (nmF b f0 (gjoin b rows.length b2)) h) (hflat : (h.all fun p => p.2.1) = true) (hk : (r0 :: h.map (·.1)).all (fun r => decide (r < b ∧ f0 r < b)) = true)
    (hpk : (r0 :: h.map (·.1)).all (fun r => decide ((r < pbase ∧ f0 r < pbase) ∨ (pbase ≤ r ∧ f0 r = r))) = true) (hb : b + rows.length + rows2.length ≤ b2) (hb2 : b2 + rows2.length ≤ pbase) (hr : refsT (fun r => (r0 :: h.map (·.1)).contains r) l = true) (hndB : nodupB ((r0 :: h.map (·.1)).map f0) = true)
    {cs : List AV} (h0 : s.hp (f0 r0) = some (false, cs)) (hcs : cs = rowsC b rows ++ rowsC b2 rows2)
    (hrow : ∀ j, j < rows.length → s.hp (b + j) = some (true, (rows.getD j []).map AV.i)) (hrow2 : ∀ j, j < rows2.length → s.hp (b2 + j) = some (true, (rows2.getD j []).map AV.i)) : Weak s (stM l h r0 b (rows ++ rows2)) := by
  have hlen : (rows ++ rows2).length = rows.length + rows2.length := by simp
  refine weak_mat f0 (gjoin b rows.length b2) hl hh hflat hk hpk (fun j hj => .inl ⟨by omega, by unfold gjoin; split <;> omega⟩) hr ⟨false, cs, h0, .inl ⟨rfl, ?_⟩⟩ (fun j hj => ?_) hndB (fun j hj r hr => ?_) (fun j j' h1 h2 e => ?_)
  · rw [hcs, rowsC_app, renL_append, rowsC_ren _ b b, rowsC_ren _ (b + rows.length) b2]
    · intro j hj
      unfold nmF gjoin
      rw [if_neg (by omega), if_neg (by omega)]; omega
    · intro j hj
      unfold nmF gjoin
      rw [if_neg (by omega), Nat.add_sub_cancel_left, if_pos hj]
  · unfold gjoin
    by_cases hj' : j < rows.length
    · rw [if_pos hj', hrow j hj']
      simp [List.getElem?_append, hj']
    · rw [if_neg hj', hrow2 (j - rows.length) (by omega)]
      simp [List.getElem?_append, hj']
  · have := of_decide_eq_true (List.all_eq_true.1 hk r hr)
    unfold gjoin
    split <;> omega
  · unfold gjoin at e
    split at e <;> split at e <;> omega
end Go.Proofs.Ytkciccbpjdaekaa
namespace Go.Proofs.Ytkciccbpjdaekaa
open Go.Am
attribute [local irreducible] AW Outs Weak Lends Lend Sp aops atree aop1 Then Round InBlock Done
attribute [local irreducible] SpH DoneH
theorem seAll_forced (l : Int) (n : Nat) (hn : n ≤ 7) (M : List Int) (hl : M.length < n) (hc : chsE l M = false) (rows : List (List Int)) (hr : rows.length ≤ 5040)
    (ih : SpH Try.prog 19 [.i n, .i l, ints (M ++ [(M.length : Int)])] (fun _ => none) (.sl nbase 1 0 rows.length) (matO rows)) :
    SpH Try.prog 19 [.i n, .i l, ints M] (fun _ => none) (.sl nbase 1 0 rows.length) (matO rows) := by
  have hpb : pbase = 4000000 := rfl
  have hstat : Static (fun _ => none) (.sl nbase 1 0 rows.length) (matO rows) := static_mat1 rows
  have hM : M.length ≤ 1048576 := by omega
  refine specH_of Try.func19 rfl cc19 rfl (by first | exact static_mat1 _ | exact static_mat2 _ _ | assumption) ?_
  unfold ac19
  repeat (first | (refine step_ops ?_; (first | (refine m_mov (by conv => lhs; whnf) ?_) | (refine m_eql rfl rfl ?_) | (refine m_len_ro rfl ?_) | (refine m_nils ?_))) | refine end_ops ?_ | refine seq_ops ?_ | (refine cond_f rfl ?_ ?_; (· first | rfl | assumption | (refine decide_eq_false ?_; first | assumption | omega) | (refine nf ?_; first | assumption | omega) | (simp [*]; done))) | refine skip_then ?_ | refine AW_seq ?_)
  (refine step_ops ?_); (apply m_call (seChooses_spec l M hM)); (· repeat (first | exact lends_nil | (refine lends_cons ?_ ?_; (· (first | exact lend_v | (refine lend_ints ?_; first | rfl | omega))))))
  repeat (first | (refine step_ops ?_; (first | (refine m_mov (by conv => lhs; whnf) ?_) | (refine m_not rfl ?_))) | refine end_ops ?_ | refine seq_ops ?_ | (refine cond_t rfl ?_ ?_; (· first | rfl | assumption | (refine decide_eq_true ?_; first | assumption | omega) | (refine nt ?_; first | assumption | omega) | (simp [*]; done))))
  (refine step_ops ?_); (apply m_callo (l1Own_spec M hM)); (· repeat (first | exact lends_nil | (refine lends_cons ?_ ?_; (· (refine lend_ints ?_; first | rfl | omega))))); (· first | exact allv_ints _ | rfl | (simp; done))
  repeat (refine step_ops ?_; (first | (refine m_mov (by conv => lhs; whnf) ?_) | (refine m_len_ro rfl ?_) | (refine m_bsl1 rfl rfl ?_) | (refine m_app1i rfl (by decide) (by rfl) (by first | rfl | omega | (simp; done)) rfl rfl ?_ (by decide) ?_; (· first | omega | (simp; omega)))))
  refine step_ops ?_
  refine m_callM 29 1000 ih ?_ rfl (by omega) (by omega) (by omega) rfl ?_ ?_
  · exact lends_cons lend_v (lends_cons lend_v (lends_cons (lend_sli (by rfl) rfl) lends_nil))
  · intro j hj
    simp (disch := omega) only [hp_put, hp_mem_ne, hp_kill_ne]
    rfl
  repeat (first | (refine step_ops ?_; (refine m_mov (by conv => lhs; whnf) ?_)) | refine end_ops ?_ | refine AW_ret ?_ | refine ret_then ?_)
  refine ret_mat (r0 := 29) (b := 1000) (by omega) (by omega) (by omega) rfl rfl ?_
  intro j hj
  simp only [hp_put]
  refine addM_row (by omega) ?_ hj
  simp (disch := omega) only [hp_put, hp_mem_ne, hp_kill_ne]
  rfl
theorem addM_ne {s : AS} {q b r : Nat} {rows : List (List Int)} (h1 : r ≠ q) (h2 : r < b) : (s.addM q b rows).hp r = s.hp r := by
  unfold AS.addM famH
  simp only [h1, if_false]
  cases s.hp r with
  | some c => rfl
  | none => simp only; rw [if_neg (by omega)]
theorem stM_none {l : List (Nat × AV)} {h : List (Nat × (Bool × List AV))} {r0 b r : Nat} {rows : List (List Int)} (hk : ((r0, (false, rowsC b rows)) :: h).all (fun p => decide (p.1 < b)) = true) (hr : b + rows.length ≤ r) : (stM l h r0 b rows).hp r = none := by
  show famH _ b rows r = none
  unfold famH
  rw [look_none fun p hp => by have := List.all_eq_true.1 hk p hp; have := of_decide_eq_true this; omega]
  simp only
  rw [if_neg (by omega)]
theorem seAll_free (l : Int) (n : Nat) (hn : n ≤ 7) (M : List Int) (hl : M.length < n) (hc : chsE l M = true) (G : Nat → List (List Int)) (m : Nat) (hG : ∀ x ∈ freeN n M, (G x).length ≤ m) (hm : (freeN n M).length * m ≤ 5040)
    (ih : ∀ x ∈ freeN n M, SpH Try.prog 19 [.i n, .i l, ints (M ++ [(x : Int)])] (fun _ => none) (.sl nbase 1 0 (G x).length) (matO (G x))) :
    SpH Try.prog 19 [.i n, .i l, ints M] (fun _ => none) (.sl nbase 1 0 ((freeN n M).flatMap G).length) (matO ((freeN n M).flatMap G)) := by
  have hpb : pbase = 4000000 := rfl
  have hstat : Static (fun _ => none) (.sl nbase 1 0 ((freeN n M).flatMap G).length) (matO ((freeN n M).flatMap G)) := static_mat1 _
  have hM : M.length ≤ 1048576 := by omega
  have hfl : (freeI n M n).length = (freeN n M).length := by rw [freeI_all, List.length_map]
  have hfn := freeI_le n M n
  have hfg : ∀ j, j < (freeN n M).length → (freeI n M n).getD j 0 = ((freeN n M).getD j 0 : Nat) := fun j hj => by rw [freeI_all]; simp [hj]
  have hbd : ∀ j, j ≤ (freeN n M).length → (((freeN n M).take j).flatMap G).length ≤ 5040 := fun j hj => by
    have h1 := flatMap_le G m ((freeN n M).take j) fun x hx => hG x (List.mem_of_mem_take hx)
    have h2 : ((freeN n M).take j).length ≤ (freeN n M).length := by rw [List.length_take]; omega
    have h3 := Nat.mul_le_mul_right m h2
    omega
  have hsf := seFree_spec M n hM (by omega)
  generalize hF : freeN n M = F at *
  generalize freeI n M n = FI at *
  refine specH_of Try.func19 rfl cc19 rfl (by first | exact static_mat1 _ | exact static_mat2 _ _ | assumption) ?_
  unfold ac19
  repeat (first | (refine step_ops ?_; (first | (refine m_mov (by conv => lhs; whnf) ?_) | (refine m_eql rfl rfl ?_) | (refine m_len_ro rfl ?_) | (refine m_nils ?_))) | refine end_ops ?_ | refine seq_ops ?_ | (refine cond_f rfl ?_ ?_; (· first | rfl | assumption | (refine decide_eq_false ?_; first | assumption | omega) | (refine nf ?_; first | assumption | omega) | (simp [*]; done))) | refine skip_then ?_ | refine AW_seq ?_)
  (refine step_ops ?_); (apply m_call (seChooses_spec l M hM)); (· repeat (first | exact lends_nil | (refine lends_cons ?_ ?_; (· (first | exact lend_v | (refine lend_ints ?_; first | rfl | omega))))))
  repeat (first | (refine step_ops ?_; (first | (refine m_mov (by conv => lhs; whnf) ?_) | (refine m_not rfl ?_) | (refine m_nils ?_))) | refine end_ops ?_ | refine seq_ops ?_ | (refine cond_f rfl ?_ ?_; (· first | rfl | assumption | (refine decide_eq_false ?_; first | assumption | omega) | (refine nf ?_; first | assumption | omega) | (simp [*]; done))) | refine skip_then ?_ | refine AW_seq ?_)
  (refine step_ops ?_); (apply m_call (hsf)); (· repeat (first | exact lends_nil | (refine lends_cons ?_ ?_; (· (first | exact lend_v | (refine lend_ints ?_; first | rfl | omega))))))
  repeat (first | (refine step_ops ?_; (first | (refine m_mov (by conv => lhs; whnf) ?_) | (refine m_len_ro rfl ?_))) | refine end_ops ?_ | refine AW_block ?_)
  refine AW_loop (α := Nat) (fun j => j ≤ F.length) (fun j => stM [(0, .i n), (1, .i l), (2, ints M), (7, .sl 7 1 0 ((F.take j).flatMap G).length), (32, newInts FI), (33, .i F.length), (34, .i j)] [] 7 1000 ((F.take j).flatMap G)) (fun j => F.length - j) 0 (by omega)
    (weak_keep id ?_ ?_ rfl rfl rfl (.inl (by simp [pbase])) rfl rfl rfl (.inr ⟨rfl, rfl⟩) (fun j hj => by simp at hj)) ?_
  · rw [← hfl]
    (repeat' (first | exact trivial | refine And.intro ?_ ?_)) <;> (first | rfl | skip)
  · trivial
  intro j hj
  have hrl := rowsC_len 1000 ((F.take j).flatMap G)
  have hb0 := hbd j hj
  by_cases hcj : j < F.length
  · have hxm : F.getD j 0 ∈ F := by simp [hcj]
    have hih := ih _ hxm
    have hgl := hG _ hxm
    have hb1 := hbd (j + 1) (by omega)
    have es : (F.take (j + 1)).flatMap G = (F.take j).flatMap G ++ G (F.getD j 0) := by
      rw [take_snoc F j 0 hcj, List.flatMap_append]; simp
    have hfj := hfg j hcj
    have hg5 : (G (F.getD j 0)).length ≤ 5040 := by
      have : 1 * m ≤ F.length * m := Nat.mul_le_mul_right m (by omega)
      omega
    generalize G (F.getD j 0) = R at *
    have hr2 := rowsC_len 20000 R
    have hr3 : ((rowsC 20000 R).drop 0).take (R.length * 1) = rowsC 20000 R := by rw [List.drop_zero, Nat.mul_one, List.take_of_length_le (by omega)]
    repeat (first | (refine step_ops ?_; (first | (refine m_mov (by conv => lhs; whnf) ?_) | (refine m_lss rfl rfl ?_) | (refine m_idx1_ro rfl rfl ?_ ?_; (· omega)) | (refine m_ld_rpi rfl ?_ ?_; (· omega)))) | refine end_ops ?_ | refine seq_ops ?_ | refine AW_ops ?_ | (refine cond_t rfl ?_ ?_; (· first | rfl | assumption | (refine decide_eq_true ?_; first | assumption | omega) | (refine nt ?_; first | assumption | omega) | (simp [*]; done))) | refine skip_then ?_ | refine AW_seq ?_ | refine AW_block ?_)
    (refine step_ops ?_); (apply m_callo (l1Own_spec M hM)); (· repeat (first | exact lends_nil | (refine lends_cons ?_ ?_; (· (refine lend_ints ?_; first | rfl | omega))))); (· first | exact allv_ints _ | rfl | (simp; done))
    rw [hfj]
    repeat (refine step_ops ?_; (first | (refine m_mov (by conv => lhs; whnf) ?_) | (refine m_bsl1 rfl rfl ?_) | (refine m_app1i rfl (by decide) (by rfl) (by first | rfl | omega | (simp; done)) rfl rfl ?_ (by decide) ?_; (· first | omega | (simp; omega)))))
    refine step_ops ?_
    refine m_callM 46 20000 hih ?_ rfl (by omega) (by omega) (by omega) rfl ?_ ?_
    · exact lends_cons lend_v (lends_cons lend_v (lends_cons (lend_sli (by rfl) rfl) lends_nil))
    · intro i hi
      simp (disch := omega) only [hp_put, hp_mem_ne, hp_kill_ne]
      rw [stM_none rfl (by omega)]
      rfl
    skip
    refine step_ops ?_
    refine m_app (fl := false) (m := (R).length) rfl (by decide) rfl ?_ (Elems.sl 46 0 _ false (rowsC 20000 (R)) rfl (by omega)) ?_ ?_ ?_ ?_
    · simp [rowsC_kill, rowsC_len]
    · rw [hr3, List.all_eq_true]
      intro a ha
      obtain ⟨i, hi, rfl⟩ := List.mem_iff_getElem.1 ha
      have := rowsC_get 20000 (R) i (by omega)
      rw [List.getElem?_eq_getElem hi] at this
      rw [Option.some.inj this]
      rfl
    · show _ ≤ 9223372036854775807; omega
    · omega
    repeat (first | (refine step_ops ?_; (first | (refine m_mov (by conv => lhs; whnf) ?_) | (refine m_add rfl rfl ?_ ?_ ?_; (· omega); (· omega)))) | refine end_ops ?_ | refine AW_ops ?_ | refine norm_then ?_ | refine norm_block ?_)
    refine next_round (j + 1) (by omega) ?_ ?_
    · rw [es, show ((F.take j).flatMap G ++ R).length = ((F.take j).flatMap G).length + R.length from List.length_append]
      refine weak_join (b2 := 20000) (rows2 := R) (fun r => if r = 7 then 47 else r) ?_ ?_ rfl rfl rfl (by omega) (by omega) rfl rfl rfl ?_ ?_ ?_
      · (repeat' (first | exact trivial | refine And.intro ?_ ?_)) <;> (first | rfl | skip)
      · trivial
      · rw [hr3]
        simp [rowsC_kill, killL_append]
      · intro i hi
        simp (disch := omega) only [hp_put, hp_mem_ne, hp_kill_ne, addM_ne]
        rw [stM_row rfl hi]
        rfl
      · intro i hi
        simp (disch := omega) only [hp_put, hp_mem_ne, hp_kill_ne]
        rw [addM_row (by omega) ?_ hi]
        · rfl
        · simp (disch := omega) only [hp_put, hp_mem_ne, hp_kill_ne]
          rw [stM_none rfl (by omega)]
          rfl
    · omega
  · obtain rfl : j = F.length := by omega
    rw [List.take_length]
    rw [List.take_length] at hb0 hrl
    repeat (first | (refine step_ops ?_; (first | (refine m_mov (by conv => lhs; whnf) ?_) | (refine m_lss rfl rfl ?_))) | refine end_ops ?_ | refine seq_ops ?_ | (refine cond_f rfl ?_ ?_; (· first | rfl | assumption | (refine decide_eq_false ?_; first | assumption | omega) | (refine nf ?_; first | assumption | omega) | (simp [*]; done))) | refine AW_seq ?_ | refine AW_ret ?_ | refine norm_then ?_ | refine exit_then ?_ | refine exit_round ?_ | refine AW_exit ?_ | refine exit_block ?_)
    refine ret_mat (r0 := 7) (b := 1000) (by omega) (by omega) (by omega) rfl rfl ?_
    (intro j hj; simp (disch := first | omega | assumption) only [hp_put]; first | exact stM_row rfl hj | (rw [stM_row rfl hj]; rfl))
theorem seAll_spec (l : Int) (n : Nat) (hn : n ≤ 7) : ∀ (k : Nat) (M : List Int), IsBeg n M → M.length + k = n →
    SpH Try.prog 19 [.i n, .i l, ints M] (fun _ => none) (.sl nbase 1 0 (goOn (fitsN l) n k M).length) (matO (goOn (fitsN l) n k M))
  | 0, M, _, hl => seAll_leaf l n hn M (by omega)
  | k + 1, M, hb, hl => by
    by_cases hc : chsE l M = true
    · rw [goOn_free hc]
      have hmem : ∀ x ∈ freeN n M, x < n ∧ (x : Int) ∉ M := fun x hx => by
        unfold freeN at hx
        obtain ⟨h1, h2⟩ := List.mem_filter.1 hx
        exact ⟨List.mem_range.1 h1, by simpa using h2⟩
      have hf := fct_le (k + 1) (by omega)
      have hcnt : ∀ x ∈ freeN n M, (goOn (fitsN l) n k (M ++ [(x : Int)])).length ≤ fct k := fun x hx => goOn_count l n k _ (beg_snoc hb (hmem x hx).1 (hmem x hx).2) (by simp; omega)
      have hbd : (freeN n M).length = k + 1 := by have := free_len n M hb; omega
      exact seAll_free l n hn M (by omega) hc (fun (x : Nat) => goOn (fitsN l) n k (M ++ [(x : Int)])) (fct k) hcnt (by rw [hbd]; exact hf) fun x hx => seAll_spec l n hn k _ (beg_snoc hb (hmem x hx).1 (hmem x hx).2) (by simp; omega)
    · have hc' : chsE l M = false := by simpa using hc
      have hnm : (M.length : Int) ∉ M := by
        unfold chsE at hc'
        simp only [Bool.or_eq_false_iff, decide_eq_false_iff_not] at hc'
        exact hc'.2
      rw [goOn_forced (by omega) hc']
      have hb2 := beg_snoc hb (show M.length < n by omega) hnm
      have hle := goOn_count l n k _ hb2 (by simp; omega)
      have hf := fct_le k (by omega)
      exact seAll_forced l n hn M (by omega) hc' _ (by omega) (seAll_spec l n hn k _ hb2 (by simp; omega))
end Go.Proofs.Ytkciccbpjdaekaa
namespace Go.Proofs.Ytkciccbpjdaekaa
open Go.Am
attribute [local irreducible] AW Outs Weak Lends Lend Sp aops atree aop1 Then Round InBlock Done
attribute [local irreducible] SpM DoneM SpH DoneH
def tot : List (List Int) → Nat
  | [] => 0
  | r :: rs => r.length + tot rs
theorem tot_snoc (rs : List (List Int)) (r : List Int) : tot (rs ++ [r]) = tot rs + r.length := by
  induction rs with
  | nil => simp [tot]
  | cons x rs ih => simp only [List.cons_append, tot, ih]; omega
theorem tot_take_le (rs : List (List Int)) (j : Nat) : tot (rs.take j) ≤ tot rs := by
  induction rs generalizing j with
  | nil => simp [tot]
  | cons x rs ih =>
    cases j with
    | zero => simp [tot]
    | succ j => simp only [List.take_succ_cons, tot]; have := ih j; omega
theorem len_tot {rs : List (List Int)} {j : Nat} (h : j < rs.length) : tot (rs.take j) + (rs.getD j []).length ≤ tot rs := by
  have := tot_take_le rs (j + 1)
  rw [take_snoc rs j [] h, tot_snoc] at this
  exact this
theorem tot_le {rs : List (List Int)} {n m : Nat} (h : rs.length ≤ n) (hr : ∀ r ∈ rs, r.length ≤ m) : tot rs ≤ n * m := by
  induction rs generalizing n with
  | nil => simp [tot]
  | cons r rs ih =>
    cases n with
    | zero => simp at h
    | succ n =>
      have h1 := ih (n := n) (by simpa using h) fun x hx => hr x (List.mem_cons_of_mem _ hx)
      have h2 := hr r (List.mem_cons_self ..)
      simp only [tot]
      rw [Nat.succ_mul]; omega
/-- Each row marked on. -/
def mkM (k : Int) : List (List Int) → List (List Int)
  | [] => []
  | r :: rs => marks k r.length :: mkM (k + r.length) rs
theorem mkM_len (k : Int) (rs : List (List Int)) : (mkM k rs).length = rs.length := by
  induction rs generalizing k with
  | nil => rfl
  | cons r rs ih => simp [mkM, ih]
theorem mkM_snoc (k : Int) (rs : List (List Int)) (r : List Int) : mkM k (rs ++ [r]) = mkM k rs ++ [marks (k + tot rs) r.length] := by
  induction rs generalizing k with
  | nil => simp [mkM, tot]
  | cons x rs ih => simp only [List.cons_append, mkM, ih, tot]; congr 4; simp; omega
theorem mkM_rowlen (k : Int) (rs : List (List Int)) (j : Nat) : ((mkM k rs).getD j []).length = (rs.getD j []).length := by
  induction rs generalizing k j with
  | nil => rfl
  | cons r rs ih =>
    cases j with
    | zero => simp [mkM, marks_len]
    | succ j => simpa [mkM] using ih (k + r.length) j
/-- The first j rows marked. -/
def partM (k : Int) (rs : List (List Int)) (j : Nat) : List (List Int) := mkM k (rs.take j) ++ rs.drop j
theorem partM_len (k : Int) (rs : List (List Int)) (j : Nat) (h : j ≤ rs.length) : (partM k rs j).length = rs.length := by simp [partM, mkM_len]; omega
theorem partM_succ (k : Int) (rs : List (List Int)) (j : Nat) (h : j < rs.length) : partM k rs (j + 1) = (partM k rs j).set j (marks (k + tot (rs.take j)) (rs.getD j []).length) := by
  unfold partM
  rw [take_snoc rs j [] h, mkM_snoc, List.set_append_right _ _ (by rw [mkM_len]; simp; omega), mkM_len, List.length_take_of_le (by omega), Nat.sub_self, List.drop_eq_getElem_cons h, List.set_cons_zero]
  simp
theorem partM_at (k : Int) (rs : List (List Int)) (j : Nat) (h : j < rs.length) : (partM k rs j).getD j [] = rs.getD j [] := by
  unfold partM
  rw [List.getD_eq_getElem?_getD, List.getElem?_append_right (by rw [mkM_len]; simp; omega), mkM_len, List.length_take_of_le (by omega), Nat.sub_self, List.drop_eq_getElem_cons h]
  simp [h]
theorem eqIntSS_spec (A B : List (List Int)) (hA : A.length ≤ 1048576) (hr : ∀ r ∈ A, r.length ≤ 1048576) : Sp Try.prog 9 [roM A, roM B] (.b (decide (A = B))) := by
  refine spec_of Try.func9 rfl cc9 rfl ?_
  unfold ac9
  by_cases hlen : A.length = B.length
  · have hlen' : (decide ((A.length : Int) ≠ B.length)) = false := by simp [hlen]
    repeat (first | (refine step_ops ?_; (first | (refine m_mov (by conv => lhs; whnf) ?_) | (refine m_neq rfl rfl ?_) | (refine m_len_ro rfl ?_))) | refine end_ops ?_ | refine seq_ops ?_ | (refine cond_f rfl ?_ ?_; (· first | rfl | assumption | (refine decide_eq_false ?_; first | assumption | omega) | (refine nf ?_; first | assumption | omega) | (simp [*]; done))) | refine skip_then ?_ | refine AW_seq ?_ | refine AW_block ?_)
    refine AW_loop (α := Nat) (fun k => k ≤ A.length ∧ A.take k = B.take k) (fun k => st [(0, roM A), (1, roM B), (5, .i k)] []) (fun k => A.length - k) 0 (by simp) (weak_st ?_ ?_ rfl rfl) ?_
    · (repeat' (first | exact trivial | refine And.intro ?_ ?_)) <;> (first | rfl | skip)
    · trivial
    rintro k ⟨hk, he⟩
    by_cases h : k < A.length
    · have h' : k < B.length := by omega
      have hm : (A.getD k []).length ≤ 1048576 := hr _ (by simp [h])
      by_cases hx : A.getD k [] = B.getD k []
      · repeat (first | ((first | refine step_ops ?_ | refine step_tree ?_); (first | (refine m_mov (by conv => lhs; whnf) ?_) | (refine m_lss rfl rfl ?_) | (refine m_len_ro rfl ?_) | (refine m_idx1_ro rfl rfl ?_ ?_; (· omega)))) | refine end_ops ?_ | refine seq_ops ?_ | refine seq_tree ?_ | (refine cond_t rfl ?_ ?_; (· first | rfl | assumption | (refine decide_eq_true ?_; first | assumption | omega) | (refine nt ?_; first | assumption | omega) | (simp [*]; done))) | refine skip_then ?_ | refine AW_seq ?_ | refine AW_block ?_)
        refine step_tree ?_
        refine m_ld_rp rfl (roM_at h) ?_
        repeat (refine step_tree ?_; (first | (refine m_mov (by conv => lhs; whnf) ?_) | (refine m_idx1_ro rfl rfl ?_ ?_; (· omega))))
        refine step_tree ?_
        refine m_ld_rp rfl (roM_at h') ?_
        skip
        refine step_tree ?_; (apply m_call (eqIntS_spec (A.getD k []) (B.getD k []) hm)); (· repeat (first | exact lends_nil | (refine lends_cons ?_ ?_; (· (refine lend_ints ?_; first | rfl | omega)))))
        repeat (first | ((first | refine step_ops ?_ | refine step_tree ?_); (first | (refine m_mov (by conv => lhs; whnf) ?_) | (refine m_add rfl rfl ?_ ?_ ?_; (· omega); (· omega)) | (refine m_not rfl ?_))) | refine end_ops ?_ | refine AW_ops ?_ | refine end_tree ?_ | (refine cond_f rfl ?_ ?_; (· first | rfl | assumption | (refine decide_eq_false ?_; first | assumption | omega) | (refine nf ?_; first | assumption | omega) | (simp [*]; done))) | refine norm_then ?_ | refine norm_block ?_ | refine AW_skip ?_)
        refine next_round (k + 1) ⟨by omega, ?_⟩ (weak_st ?_ ?_ rfl rfl) ?_
        · rw [take_snoc A k [] h, take_snoc B k [] h', he, hx]
        · (repeat' (first | exact trivial | refine And.intro ?_ ?_)) <;> (first | rfl | skip)
        · trivial
        · omega
      · repeat (first | ((first | refine step_ops ?_ | refine step_tree ?_); (first | (refine m_mov (by conv => lhs; whnf) ?_) | (refine m_lss rfl rfl ?_) | (refine m_len_ro rfl ?_) | (refine m_idx1_ro rfl rfl ?_ ?_; (· omega)))) | refine end_ops ?_ | refine seq_ops ?_ | refine seq_tree ?_ | (refine cond_t rfl ?_ ?_; (· first | rfl | assumption | (refine decide_eq_true ?_; first | assumption | omega) | (refine nt ?_; first | assumption | omega) | (simp [*]; done))) | refine skip_then ?_ | refine AW_seq ?_ | refine AW_block ?_)
        refine step_tree ?_
        refine m_ld_rp rfl (roM_at h) ?_
        repeat (refine step_tree ?_; (first | (refine m_mov (by conv => lhs; whnf) ?_) | (refine m_idx1_ro rfl rfl ?_ ?_; (· omega))))
        refine step_tree ?_
        refine m_ld_rp rfl (roM_at h') ?_
        skip
        refine step_tree ?_; (apply m_call (eqIntS_spec (A.getD k []) (B.getD k []) hm)); (· repeat (first | exact lends_nil | (refine lends_cons ?_ ?_; (· (refine lend_ints ?_; first | rfl | omega)))))
        repeat (first | ((first | refine step_ops ?_ | refine step_tree ?_); (first | (refine m_mov (by conv => lhs; whnf) ?_) | (refine m_not rfl ?_))) | refine end_ops ?_ | refine seq_ops ?_ | refine end_tree ?_ | (refine cond_t rfl ?_ ?_; (· first | rfl | assumption | (refine decide_eq_true ?_; first | assumption | omega) | (refine nt ?_; first | assumption | omega) | (simp [*]; done))) | refine AW_ret ?_ | refine ret_done ?_ | refine ret_then ?_ | refine ret_block ?_ | refine ret_round ?_)
        refine outs_b ?_
        symm
        refine decide_eq_false fun e => hx (by rw [e])
    · repeat (first | (refine step_ops ?_; (first | (refine m_mov (by conv => lhs; whnf) ?_) | (refine m_lss rfl rfl ?_) | (refine m_len_ro rfl ?_))) | refine end_ops ?_ | refine seq_ops ?_ | (refine cond_f rfl ?_ ?_; (· first | rfl | assumption | (refine decide_eq_false ?_; first | assumption | omega) | (refine nf ?_; first | assumption | omega) | (simp [*]; done))) | refine AW_seq ?_ | refine AW_ret ?_ | refine ret_done ?_ | refine norm_then ?_ | refine exit_then ?_ | refine exit_round ?_ | refine AW_exit ?_ | refine exit_block ?_)
      refine outs_b ?_
      symm
      refine decide_eq_true ?_
      rw [List.take_of_length_le (by omega), List.take_of_length_le (by omega)] at he
      exact he
  · have hlen' : (decide ((A.length : Int) ≠ B.length)) = true := by simp; omega
    repeat (first | (refine step_ops ?_; (first | (refine m_mov (by conv => lhs; whnf) ?_) | (refine m_neq rfl rfl ?_) | (refine m_len_ro rfl ?_))) | refine end_ops ?_ | refine seq_ops ?_ | (refine cond_t rfl ?_ ?_; (· first | rfl | assumption | (refine decide_eq_true ?_; first | assumption | omega) | (refine nt ?_; first | assumption | omega) | (simp [*]; done))) | refine AW_seq ?_ | refine AW_ret ?_ | refine ret_done ?_ | refine ret_then ?_)
    refine outs_b ?_
    symm
    refine decide_eq_false fun e => hlen (by rw [e])
theorem heldIntSS_spec (rs : List (List Int)) (k : Int) (hL : rs.length ≤ 1048576) (hr : ∀ r ∈ rs, r.length ≤ 1048576) (ht : tot rs ≤ 1000000000) (h0 : 0 ≤ k) (h1 : k ≤ 1000) :
    Sp Try.prog 11 [roM (mkM k rs), .i k] (.i (k + tot rs)) := by
  have hml := mkM_len k rs
  refine spec_of Try.func11 rfl cc11 rfl ?_
  unfold ac11
  repeat (first | (refine step_ops ?_; (refine m_mov (by conv => lhs; whnf) ?_)) | refine end_ops ?_ | refine seq_ops ?_ | refine AW_seq ?_ | refine AW_block ?_)
  refine AW_loop (α := Nat) (fun j => j ≤ rs.length) (fun j => st [(0, roM (mkM k rs)), (1, .i (k + (tot (rs.take j) : Nat))), (5, .i j)] []) (fun j => rs.length - j) 0 (by simp) (weak_st ?_ ?_ rfl rfl) ?_
  · refine ⟨rfl, ?_, rfl, trivial⟩
    show AV.i k = AV.i (k + (tot (rs.take 0) : Nat))
    simp [tot]
  · trivial
  intro j hj
  by_cases h : j < rs.length
  · have hm : (rs.getD j []).length ≤ 1048576 := hr _ (by simp [h])
    have htl := len_tot h
    have hat : (mkM k rs).getD j [] = marks (k + tot (rs.take j)) (rs.getD j []).length := by
      have e1 : mkM k rs = mkM k (rs.take (j + 1)) ++ (mkM k rs).drop (j + 1) := by
        have : ∀ (rs : List (List Int)) (k : Int) (j : Nat), mkM k (rs.take j) = (mkM k rs).take j := by
          intro rs
          induction rs with
          | nil => intro k j; simp [mkM]
          | cons r rs ih => intro k j; cases j <;> simp [mkM, ih]
        rw [this, List.take_append_drop]
      rw [e1, take_snoc rs j [] h, mkM_snoc, List.getD_eq_getElem?_getD, List.getElem?_append_left (by simp [mkM_len]; omega), List.getElem?_append_right (by simp [mkM_len]; omega)]
      simp [mkM_len, Nat.min_eq_left (Nat.le_of_lt h)]
    repeat (first | (refine step_ops ?_; (first | (refine m_mov (by conv => lhs; whnf) ?_) | (refine m_lss rfl rfl ?_) | (refine m_len_ro rfl ?_) | (refine m_idx1_ro rfl rfl ?_ ?_; (· omega)))) | refine end_ops ?_ | refine seq_ops ?_ | (refine cond_t rfl ?_ ?_; (· first | rfl | assumption | (refine decide_eq_true ?_; first | assumption | omega) | (refine nt ?_; first | assumption | omega) | (simp [*]; done))) | refine skip_then ?_ | refine AW_seq ?_ | refine AW_block ?_)
    refine step_ops ?_
    refine m_ld_rp rfl (roM_at (by omega)) ?_
    rw [hat]
    repeat (refine step_ops ?_; (refine m_mov (by conv => lhs; whnf) ?_))
    (refine step_ops ?_); (apply m_call (heldMarks_spec (k + tot (rs.take j)) (rs.getD j []).length hm (by omega) (by omega))); (· repeat (first | exact lends_nil | (refine lends_cons ?_ ?_; (· (first | exact lend_v | (refine lend_ints ?_; first | rfl | omega))))))
    repeat (first | (refine step_ops ?_; (first | (refine m_mov (by conv => lhs; whnf) ?_) | (refine m_lss rfl rfl ?_) | (refine m_add rfl rfl ?_ ?_ ?_; (· omega); (· omega)))) | refine end_ops ?_ | refine seq_ops ?_ | refine AW_ops ?_ | (refine cond_f rfl ?_ ?_; (· first | rfl | assumption | (refine decide_eq_false ?_; first | assumption | omega) | (refine nf ?_; first | assumption | omega) | (simp [*]; done))) | refine norm_then ?_ | refine norm_block ?_ | refine AW_skip ?_)
    refine next_round (j + 1) (by omega) (weak_st ?_ ?_ rfl rfl) ?_
    · refine ⟨rfl, ?_, rfl, trivial⟩
      show AV.i (k + (tot (rs.take j) : Nat) + ((rs.getD j []).length : Nat)) = AV.i (k + (tot (rs.take (j + 1)) : Nat))
      rw [take_snoc rs j [] h, tot_snoc, Int.natCast_add, Int.add_assoc]
    · trivial
    · omega
  · repeat (first | (refine step_ops ?_; (first | (refine m_mov (by conv => lhs; whnf) ?_) | (refine m_lss rfl rfl ?_) | (refine m_len_ro rfl ?_))) | refine end_ops ?_ | refine seq_ops ?_ | (refine cond_f rfl ?_ ?_; (· first | rfl | assumption | (refine decide_eq_false ?_; first | assumption | omega) | (refine nf ?_; first | assumption | omega) | (simp [*]; done))) | refine AW_seq ?_ | refine AW_ret ?_ | refine ret_done ?_ | refine norm_then ?_ | refine exit_then ?_ | refine exit_round ?_ | refine AW_exit ?_ | refine exit_block ?_)
    obtain rfl : j = rs.length := by omega
    refine outs_i ?_
    rw [List.take_length]
theorem markIntSS_spec (rs : List (List Int)) (k : Int) (hL : rs.length ≤ 1048576) (hr : ∀ r ∈ rs, r.length ≤ 1048576) (ht : tot rs ≤ 1000000000) (h0 : 0 ≤ k) (h1 : k ≤ 1000) :
    SpH Try.prog 10 [.sl pbase 1 0 rs.length, .i k] (matL rs) (.v (.int .i64 (k + tot rs))) (matL (mkM k rs)) := by
  refine specH_of Try.func10 rfl cc10 rfl (static_matL _ _ _) ?_
  unfold ac10
  repeat (first | (refine step_ops ?_; (refine m_mov (by conv => lhs; whnf) ?_)) | refine end_ops ?_ | refine seq_ops ?_ | refine AW_seq ?_ | refine AW_block ?_)
  refine AW_loop (α := Nat) (fun j => j ≤ rs.length) (fun j => stM [(0, .sl pbase 1 0 rs.length), (1, .i (k + (tot (rs.take j) : Nat))), (5, .i j)] [] pbase (pbase + 1) (partM k rs j)) (fun j => rs.length - j) 0 (by simp)
    (weak_keep id ?_ ?_ rfl rfl rfl (.inr (by omega)) rfl rfl (fl := false) (cs := rowsC (pbase + 1) rs) (by simp only [hp_put]; exact matH_outer pbase (pbase + 1) rs) (.inl ⟨rfl, rfl⟩) fun j hj => by simp only [hp_put]; exact matH_row (r0 := pbase) (b := pbase + 1) (rows := rs) (by omega) hj) ?_
  · refine ⟨rfl, ?_, rfl, trivial⟩
    show AV.i k = AV.i (k + (tot (rs.take 0) : Nat))
    simp [tot]
  · trivial
  intro j hj
  have hpl := partM_len k rs j hj
  by_cases h : j < rs.length
  · have hm : (rs.getD j []).length ≤ 1048576 := hr _ (by simp [h])
    have htl := len_tot h
    have hat := partM_at k rs j h
    have hcell := rowsC_get (pbase + 1) (partM k rs j) j (by omega)
    rw [hat] at hcell
    have hrow := stM_row (l := [(0, .sl pbase 1 0 rs.length), (1, .i (k + (tot (rs.take j) : Nat))), (5, .i j)]) (h := []) (r0 := pbase) (b := pbase + 1) (rows := partM k rs j) rfl (j := j) (by omega)
    rw [hat] at hrow
    repeat (first | (refine step_ops ?_; (first | (refine m_mov (by conv => lhs; whnf) ?_) | (refine m_lss rfl rfl ?_) | (refine m_len_sl rfl ?_) | (refine m_idx1_sl rfl rfl ?_ ?_; (· omega)))) | refine end_ops ?_ | refine seq_ops ?_ | refine AW_ops ?_ | (refine cond_t rfl ?_ ?_; (· first | rfl | assumption | (refine decide_eq_true ?_; first | assumption | omega) | (refine nt ?_; first | assumption | omega) | (simp [*]; done))) | refine skip_then ?_ | refine AW_seq ?_ | refine AW_block ?_)
    refine step_ops ?_
    refine m_ld_pt rfl rfl hcell ?_
    repeat (refine step_ops ?_; (refine m_mov (by conv => lhs; whnf) ?_))
    refine step_ops ?_
    refine m_callm (r := pbase + 1 + j) (markIntS_spec (rs.getD j []) (k + (tot (rs.take j) : Nat)) hm (by omega) (by omega)) rfl rfl hrow (allv_ints _) (allv_ints _) rfl ?_
    repeat (first | (refine step_ops ?_; (first | (refine m_mov (by conv => lhs; whnf) ?_) | (refine m_add rfl rfl ?_ ?_ ?_; (· omega); (· omega)))) | refine end_ops ?_ | refine AW_ops ?_ | refine norm_then ?_ | refine norm_block ?_)
    have hsl : (partM k rs (j + 1)).length = (partM k rs j).length := by rw [partM_len _ _ _ h, hpl]
    refine next_round (j + 1) (by omega) (weak_keep id ?_ ?_ rfl rfl rfl (.inr (by omega)) rfl rfl (fl := false) (cs := rowsC (pbase + 1) (partM k rs j)) ?_ (.inl ⟨rfl, ?_⟩) ?_) ?_
    · refine ⟨rfl, ?_, rfl, trivial⟩
      show AV.i (k + (tot (rs.take j) : Nat) + ((rs.getD j []).length : Nat)) = AV.i (k + (tot (rs.take (j + 1)) : Nat))
      rw [take_snoc rs j [] h, tot_snoc, Int.natCast_add, Int.add_assoc]
    · trivial
    · simp only [hp_put, id]
      rw [hp_mem_ne (by omega)]
      rfl
    · refine rowsC_same _ _ _ hsl.symm fun i hi => ?_
      rw [partM_succ k rs j h]
      by_cases e : i = j
      · subst e
        rw [hat]
        simp [marks_len, hpl, h]
      · simp [Ne.symm e]
    · intro i hi
      rw [partM_succ k rs j h] at hi ⊢
      by_cases e : i = j
      · subst e
        simp only [hp_put]
        show (if pbase + 1 + i = pbase + 1 + i then _ else _) = _
        rw [if_pos rfl]
        simp [hpl, h]
      · have e2 : pbase + 1 + i ≠ pbase + 1 + j := by omega
        simp only [hp_put]
        rw [hp_mem_ne e2]
        simp only [hp_put]
        rw [stM_row rfl (by simpa using hi)]
        simp [Ne.symm e]
    · omega
  · repeat (first | (refine step_ops ?_; (first | (refine m_mov (by conv => lhs; whnf) ?_) | (refine m_lss rfl rfl ?_) | (refine m_len_sl rfl ?_))) | refine end_ops ?_ | refine seq_ops ?_ | (refine cond_f rfl ?_ ?_; (· first | rfl | assumption | (refine decide_eq_false ?_; first | assumption | omega) | (refine nf ?_; first | assumption | omega) | (simp [*]; done))) | refine AW_seq ?_ | refine AW_ret ?_ | refine norm_then ?_ | refine exit_then ?_ | refine exit_round ?_ | refine AW_exit ?_ | refine exit_block ?_)
    obtain rfl : j = rs.length := by omega
    have e : partM k rs rs.length = mkM k rs := by simp [partM]
    rw [List.take_length, e]
    refine ret_matL (by rw [mkM_len]) rfl rfl fun i hi => ?_
    simp only [hp_put]
    exact stM_row rfl hi
end Go.Proofs.Ytkciccbpjdaekaa
