/- Contracts: the sizes of families; whether there is a giving. -/
import Derived.Test.YtojbhdkjmaekjaaSpFa
import Derived.Test.YtojbhdkjmaekjaaSpE
namespace Go.Proofs.Ytojbhdkjmaekjaa
open Go.Am
attribute [local irreducible] AW Outs Weak Lends Lend Sp aops atree aop1 Then Round InBlock Done

theorem slicesMax_spec (L : List Int) (hL : L.length ≤ 1048576) (hne : 1 ≤ L.length) : Sp Try.prog 58 [ints L] (.i (maxI L)) := by
  have hne' : L ≠ [] := fun e => by rw [e] at hne; simp at hne
  have h0 : (L.take 1) = [L.getD 0 0] := by rw [take_snoc L 0 0 (by omega)]; rfl
  refine spec_of Try.func58 rfl cc58 rfl ?_
  unfold ac58
  repeat (first | (refine step_ops ?_; (first | (refine m_mov (by conv => lhs; whnf) ?_) | (refine m_lss rfl rfl ?_) | (refine m_add rfl rfl ?_ ?_ ?_; (· omega); (· omega)) | (refine m_adds rfl rfl ?_ ?_; (· first | omega | (simp; omega))) | (refine m_len_ro rfl ?_) | (refine m_len_sl rfl ?_) | (refine m_len_nil rfl ?_) | (refine m_idx1_ro rfl rfl ?_ ?_; (· omega)) | (refine m_idx1_sl rfl rfl ?_ ?_; (· omega)) | (apply m_idx1_slj; (· rfl); (· rfl); (· assumption); (· omega)) | (apply m_idx1_roj; (· rfl); (· rfl); (· assumption); (· omega)) | (refine m_idx_ro rfl rfl ?_ ?_ ?_; (· omega); (· omega)) | (refine m_idx_sl rfl rfl ?_ ?_ ?_; (· omega); (· omega)) | (refine m_ld_rpi rfl ?_ ?_; (· omega)) | (refine m_ld_pti rfl (by rfl) ?_ ?_; (· first | omega | (simp; omega))) | (apply m_ld_ptb; (· rfl); (· rfl); (· assumption)) | (apply m_ld_rp; (· rfl); (· rfl)) | (apply m_ld_pt; (· rfl); (· rfl); (· rfl)) | (refine m_max rfl rfl ?_))) | refine end_ops ?_ | refine seq_ops ?_ | refine AW_ops ?_ | (refine cond_t rfl ?_ ?_; (· first | rfl | assumption | (refine decide_eq_true ?_; first | assumption | omega) | (refine nt ?_; first | assumption | omega) | (simp [*]; done))) | (refine cond_f rfl ?_ ?_; (· first | rfl | assumption | (refine decide_eq_false ?_; first | assumption | omega) | (refine nf ?_; first | assumption | omega) | (simp [*]; done))) | refine skip_then ?_ | refine AW_seq ?_ | refine AW_ret ?_ | refine ret_done ?_ | refine norm_then ?_ | refine ret_then ?_ | refine exit_then ?_ | refine AW_block ?_ | refine norm_block ?_ | refine ret_block ?_ | refine ret_round ?_ | refine exit_round ?_ | refine AW_exit ?_ | refine exit_block ?_ | (refine exit_other ?_ ?_; (· decide)) | refine AW_skip ?_)
  refine AW_loop (α := Nat) (fun k => 1 ≤ k ∧ k ≤ L.length) (fun k => st [(0, ints L), (3, .i (maxI (L.take k))), (4, .i k)] []) (fun k => L.length - k) 1 (by omega) (weak_st ?_ ?_ rfl rfl) ?_
  · refine ⟨rfl, ?_, rfl, trivial⟩
    show AV.i (L.getD 0 0) = AV.i (maxI (L.take 1))
    rw [h0]; rfl
  · trivial
  rintro k ⟨hk1, hk⟩
  by_cases h : k < L.length
  · have ht : L.take k ≠ [] := fun e => by have e2 := congrArg List.length e; rw [List.length_take_of_le hk] at e2; simp at e2; omega
    repeat (first | (refine step_ops ?_; (first | (refine m_mov (by conv => lhs; whnf) ?_) | (refine m_lss rfl rfl ?_) | (refine m_add rfl rfl ?_ ?_ ?_; (· omega); (· omega)) | (refine m_adds rfl rfl ?_ ?_; (· first | omega | (simp; omega))) | (refine m_len_ro rfl ?_) | (refine m_len_sl rfl ?_) | (refine m_len_nil rfl ?_) | (refine m_idx1_ro rfl rfl ?_ ?_; (· omega)) | (refine m_idx1_sl rfl rfl ?_ ?_; (· omega)) | (apply m_idx1_slj; (· rfl); (· rfl); (· assumption); (· omega)) | (apply m_idx1_roj; (· rfl); (· rfl); (· assumption); (· omega)) | (refine m_idx_ro rfl rfl ?_ ?_ ?_; (· omega); (· omega)) | (refine m_idx_sl rfl rfl ?_ ?_ ?_; (· omega); (· omega)) | (refine m_ld_rpi rfl ?_ ?_; (· omega)) | (refine m_ld_pti rfl (by rfl) ?_ ?_; (· first | omega | (simp; omega))) | (apply m_ld_ptb; (· rfl); (· rfl); (· assumption)) | (apply m_ld_rp; (· rfl); (· rfl)) | (apply m_ld_pt; (· rfl); (· rfl); (· rfl)) | (refine m_max rfl rfl ?_))) | refine end_ops ?_ | refine seq_ops ?_ | refine AW_ops ?_ | (refine cond_t rfl ?_ ?_; (· first | rfl | assumption | (refine decide_eq_true ?_; first | assumption | omega) | (refine nt ?_; first | assumption | omega) | (simp [*]; done))) | (refine cond_f rfl ?_ ?_; (· first | rfl | assumption | (refine decide_eq_false ?_; first | assumption | omega) | (refine nf ?_; first | assumption | omega) | (simp [*]; done))) | refine skip_then ?_ | refine AW_seq ?_ | refine AW_ret ?_ | refine ret_done ?_ | refine norm_then ?_ | refine ret_then ?_ | refine exit_then ?_ | refine AW_block ?_ | refine norm_block ?_ | refine ret_block ?_ | refine ret_round ?_ | refine exit_round ?_ | refine AW_exit ?_ | refine exit_block ?_ | (refine exit_other ?_ ?_; (· decide)) | refine AW_skip ?_)
    refine next_round (k + 1) ⟨by omega, by omega⟩ (weak_st ?_ ?_ rfl rfl) ?_
    · refine ⟨rfl, ?_, rfl, trivial⟩
      show AV.i _ = AV.i (maxI (L.take (k + 1)))
      rw [take_snoc L k 0 h, maxI_snoc _ _ ht]
    · trivial
    · omega
  · repeat (first | (refine step_ops ?_; (first | (refine m_mov (by conv => lhs; whnf) ?_) | (refine m_lss rfl rfl ?_) | (refine m_add rfl rfl ?_ ?_ ?_; (· omega); (· omega)) | (refine m_adds rfl rfl ?_ ?_; (· first | omega | (simp; omega))) | (refine m_len_ro rfl ?_) | (refine m_len_sl rfl ?_) | (refine m_len_nil rfl ?_) | (refine m_idx1_ro rfl rfl ?_ ?_; (· omega)) | (refine m_idx1_sl rfl rfl ?_ ?_; (· omega)) | (apply m_idx1_slj; (· rfl); (· rfl); (· assumption); (· omega)) | (apply m_idx1_roj; (· rfl); (· rfl); (· assumption); (· omega)) | (refine m_idx_ro rfl rfl ?_ ?_ ?_; (· omega); (· omega)) | (refine m_idx_sl rfl rfl ?_ ?_ ?_; (· omega); (· omega)) | (refine m_ld_rpi rfl ?_ ?_; (· omega)) | (refine m_ld_pti rfl (by rfl) ?_ ?_; (· first | omega | (simp; omega))) | (apply m_ld_ptb; (· rfl); (· rfl); (· assumption)) | (apply m_ld_rp; (· rfl); (· rfl)) | (apply m_ld_pt; (· rfl); (· rfl); (· rfl)) | (refine m_max rfl rfl ?_))) | refine end_ops ?_ | refine seq_ops ?_ | refine AW_ops ?_ | (refine cond_t rfl ?_ ?_; (· first | rfl | assumption | (refine decide_eq_true ?_; first | assumption | omega) | (refine nt ?_; first | assumption | omega) | (simp [*]; done))) | (refine cond_f rfl ?_ ?_; (· first | rfl | assumption | (refine decide_eq_false ?_; first | assumption | omega) | (refine nf ?_; first | assumption | omega) | (simp [*]; done))) | refine skip_then ?_ | refine AW_seq ?_ | refine AW_ret ?_ | refine ret_done ?_ | refine norm_then ?_ | refine ret_then ?_ | refine exit_then ?_ | refine AW_block ?_ | refine norm_block ?_ | refine ret_block ?_ | refine ret_round ?_ | refine exit_round ?_ | refine AW_exit ?_ | refine exit_block ?_ | (refine exit_other ?_ ?_; (· decide)) | refine AW_skip ?_)
    refine outs_i ?_
    rw [List.take_of_length_le (by omega)]

theorem countFam_spec (L : List Int) (h : IsFam L) : Sp Try.prog 37 [ints L] (.i (famN L)) := by
  have h1 := h.1
  have h2 := h.2.1
  have hn := famN_le h
  have hm := fam_max h
  refine spec_of Try.func37 rfl cc37 rfl ?_
  unfold ac37
  repeat (first | (refine step_ops ?_; (first | (refine m_mov (by conv => lhs; whnf) ?_) | (refine m_add rfl rfl ?_ ?_ ?_; (· omega); (· omega)) | (refine m_adds rfl rfl ?_ ?_; (· first | omega | (simp; omega))))) | refine end_ops ?_ | refine seq_ops ?_ | refine AW_ops ?_ | refine AW_seq ?_ | refine AW_ret ?_ | refine ret_done ?_ | refine norm_then ?_ | refine ret_then ?_ | refine exit_then ?_)
  (refine step_ops ?_); (apply m_call (slicesMax_spec _ (by omega) h1)); (· repeat (first | exact lends_nil | (refine lends_cons ?_ ?_; (· first | exact lend_v | (refine lend_roM rfl; done) | (refine lend_mat rfl ?_; intro j hj; simp (disch := first | omega | assumption) only [hp_put, hp_mem_ne, hp_kill_ne]; first | exact stM_row rfl hj | (rw [stM_row rfl hj]; rfl)) | (refine lend_ints ?_; first | rfl | omega) | (refine lend_sli (by rfl) ?_; first | rfl | omega | (simp; done)) | exact lend_any | (refine lend_agg ?_; first | rfl | assumption | (simp [plainV]; done))))))
  repeat (first | (refine step_ops ?_; (first | (refine m_mov (by conv => lhs; whnf) ?_) | (refine m_add rfl rfl ?_ ?_ ?_; (· omega); (· omega)) | (refine m_adds rfl rfl ?_ ?_; (· first | omega | (simp; omega))))) | refine end_ops ?_ | refine seq_ops ?_ | refine AW_ops ?_ | refine AW_seq ?_ | refine AW_ret ?_ | refine ret_done ?_ | refine norm_then ?_ | refine ret_then ?_ | refine exit_then ?_)
  refine outs_i ?_
  omega

theorem giSizes_spec (L : List Int) (hf : IsFam L) : Sp Try.prog 36 [ints L] (newInts (sizesOf L (famN L).toNat)) := by
  have h9 := hf.2.1
  refine spec_of Try.func36 rfl cc36 rfl ?_
  unfold ac36
  repeat (first | (refine step_ops ?_; (first | (refine m_mov (by conv => lhs; whnf) ?_) | (refine m_lss rfl rfl ?_) | (refine m_eql rfl rfl ?_) | (refine m_eqk rfl rfl ?_) | (refine m_eqs rfl rfl ?_) | (refine m_add rfl rfl ?_ ?_ ?_; (· omega); (· omega)) | (refine m_adds rfl rfl ?_ ?_; (· first | omega | (simp; omega))) | (refine m_len_ro rfl ?_) | (refine m_len_sl rfl ?_) | (refine m_len_nil rfl ?_) | (refine m_idx1_ro rfl rfl ?_ ?_; (· omega)) | (refine m_idx1_sl rfl rfl ?_ ?_; (· omega)) | (apply m_idx1_slj; (· rfl); (· rfl); (· assumption); (· omega)) | (apply m_idx1_roj; (· rfl); (· rfl); (· assumption); (· omega)) | (refine m_idx_ro rfl rfl ?_ ?_ ?_; (· omega); (· omega)) | (refine m_idx_sl rfl rfl ?_ ?_ ?_; (· omega); (· omega)) | (refine m_ld_rpi rfl ?_ ?_; (· omega)) | (refine m_ld_pti rfl (by rfl) ?_ ?_; (· first | omega | (simp; omega))) | (apply m_ld_ptb; (· rfl); (· rfl); (· assumption)) | (apply m_ld_rp; (· rfl); (· rfl)) | (apply m_ld_pt; (· rfl); (· rfl); (· rfl)) | (apply m_st; (· rfl); (· rfl); (· rfl); (· first | omega | (simp; done) | (simp; omega)); (· rfl)) | (refine m_nils ?_) | (refine m_bsl1 rfl rfl ?_) | (refine m_app1i rfl (by decide) (by rfl) (by first | rfl | omega | (simp; done)) rfl rfl ?_ (by decide) ?_; (· first | omega | (simp; omega))) | (refine m_app1 rfl (by decide) rfl (by first | (simp; done) | (simp [*]; done) | (simp; omega)) rfl rfl rfl ?_ (by decide) ?_; (· first | omega | (simp; omega))) | (refine m_appro rfl (by decide) rfl (by first | rfl | (simp; done) | (simp [*]; done) | (simp; omega)) rfl (oks_ints _) ?_ (by decide) ?_; (· first | omega | (simp; omega))) | (refine m_stall rfl rfl rfl ?_ ?_ ?_ ?_; (· first | rfl | (simp [*]; done)); (· first | rfl | (simp [*]; done)); (· first | rfl | (simp [cellOk, Value.oneCell']; done))))) | refine end_ops ?_ | refine seq_ops ?_ | refine AW_ops ?_ | (refine cond_t rfl ?_ ?_; (· first | rfl | assumption | (refine decide_eq_true ?_; first | assumption | omega) | (refine nt ?_; first | assumption | omega) | (simp [*]; done))) | (refine cond_f rfl ?_ ?_; (· first | rfl | assumption | (refine decide_eq_false ?_; first | assumption | omega) | (refine nf ?_; first | assumption | omega) | (simp [*]; done))) | refine skip_then ?_ | refine AW_seq ?_ | refine AW_ret ?_ | refine ret_done ?_ | refine norm_then ?_ | refine ret_then ?_ | refine exit_then ?_ | refine AW_block ?_ | refine norm_block ?_ | refine ret_block ?_ | refine ret_round ?_ | refine exit_round ?_ | refine AW_exit ?_ | refine exit_block ?_ | (refine exit_other ?_ ?_; (· decide)) | refine AW_skip ?_)
  refine AW_loop (α := Nat × Nat) (fun a => a.1 ≤ L.length ∧ famFold (L.take a.1) 0 = some (a.2 : Int)) (fun a => st [(6, ints L), (7, .i L.length), (8, .i a.1), (3, .sl 3 1 0 a.2)] [(3, (true, (sizesOf (L.take a.1) a.2).map AV.i))]) (fun a => L.length - a.1) (0, 0) (by simp [famFold]) (weak_st ?_ ?_ rfl rfl) ?_
  · (repeat' (first | exact trivial | refine And.intro ?_ ?_)) <;> (first | rfl | skip)
  · exact ⟨rfl, trivial⟩
  rintro ⟨k, n⟩ ⟨hk, hn⟩
  have hle := famFold_le _ _ _ hn
  have hkl : (L.take k).length = k := List.length_take_of_le hk
  have hlen := sizesOf_len (L.take k) n
  have hmem := famFold_mem _ _ _ hn
  dsimp only at hk hn hle hlen hmem ⊢
  by_cases h : k < L.length
  · obtain ⟨m, hm⟩ := famFold_take (fam_fold hf) (k + 1)
    have hr : 0 ≤ L.getD k 0 ∧ L.getD k 0 ≤ n := by
      rw [take_snoc L k 0 h, famFold_snoc, hn, Option.bind_some] at hm
      split at hm
      · assumption
      · cases hm
    by_cases h3 : L.getD k 0 = n
    · repeat (first | (refine step_ops ?_; (first | (refine m_mov (by conv => lhs; whnf) ?_) | (refine m_lss rfl rfl ?_) | (refine m_eql rfl rfl ?_) | (refine m_eqk rfl rfl ?_) | (refine m_eqs rfl rfl ?_) | (refine m_add rfl rfl ?_ ?_ ?_; (· omega); (· omega)) | (refine m_adds rfl rfl ?_ ?_; (· first | omega | (simp; omega))) | (refine m_len_ro rfl ?_) | (refine m_len_sl rfl ?_) | (refine m_len_nil rfl ?_) | (refine m_idx1_ro rfl rfl ?_ ?_; (· omega)) | (refine m_idx1_sl rfl rfl ?_ ?_; (· omega)) | (apply m_idx1_slj; (· rfl); (· rfl); (· assumption); (· omega)) | (apply m_idx1_roj; (· rfl); (· rfl); (· assumption); (· omega)) | (refine m_idx_ro rfl rfl ?_ ?_ ?_; (· omega); (· omega)) | (refine m_idx_sl rfl rfl ?_ ?_ ?_; (· omega); (· omega)) | (refine m_ld_rpi rfl ?_ ?_; (· omega)) | (refine m_ld_pti rfl (by rfl) ?_ ?_; (· first | omega | (simp; omega))) | (apply m_ld_ptb; (· rfl); (· rfl); (· assumption)) | (apply m_ld_rp; (· rfl); (· rfl)) | (apply m_ld_pt; (· rfl); (· rfl); (· rfl)) | (apply m_st; (· rfl); (· rfl); (· rfl); (· first | omega | (simp; done) | (simp; omega)); (· rfl)) | (refine m_nils ?_) | (refine m_bsl1 rfl rfl ?_) | (refine m_app1i rfl (by decide) (by rfl) (by first | rfl | omega | (simp; done)) rfl rfl ?_ (by decide) ?_; (· first | omega | (simp; omega))) | (refine m_app1 rfl (by decide) rfl (by first | (simp; done) | (simp [*]; done) | (simp; omega)) rfl rfl rfl ?_ (by decide) ?_; (· first | omega | (simp; omega))) | (refine m_appro rfl (by decide) rfl (by first | rfl | (simp; done) | (simp [*]; done) | (simp; omega)) rfl (oks_ints _) ?_ (by decide) ?_; (· first | omega | (simp; omega))) | (refine m_stall rfl rfl rfl ?_ ?_ ?_ ?_; (· first | rfl | (simp [*]; done)); (· first | rfl | (simp [*]; done)); (· first | rfl | (simp [cellOk, Value.oneCell']; done))))) | refine end_ops ?_ | refine seq_ops ?_ | refine AW_ops ?_ | (refine cond_t rfl ?_ ?_; (· first | rfl | assumption | (refine decide_eq_true ?_; first | assumption | omega) | (refine nt ?_; first | assumption | omega) | (simp [*]; done))) | (refine cond_f rfl ?_ ?_; (· first | rfl | assumption | (refine decide_eq_false ?_; first | assumption | omega) | (refine nf ?_; first | assumption | omega) | (simp [*]; done))) | refine skip_then ?_ | refine AW_seq ?_ | refine AW_ret ?_ | refine ret_done ?_ | refine norm_then ?_ | refine ret_then ?_ | refine exit_then ?_ | refine AW_block ?_ | refine norm_block ?_ | refine ret_block ?_ | refine ret_round ?_ | refine exit_round ?_ | refine AW_exit ?_ | refine exit_block ?_ | (refine exit_other ?_ ?_; (· decide)) | refine AW_skip ?_)
      refine next_round (k + 1, n + 1) ⟨by omega, ?_⟩ (Weak.trans (weak_move (r := 18) (q := 3) rfl (by decide) (by decide)) (weak_st ?_ ?_ rfl rfl)) ?_
      · rw [take_snoc L k 0 h, famFold_snoc, hn, Option.bind_some, if_pos hr, if_pos h3]; rfl
      · refine ⟨rfl, rfl, rfl, ?_, trivial⟩
        show AV.sl 3 1 0 (sizesOf (L.take k) n ++ [1]).length = AV.sl 3 1 0 (n + 1)
        rw [List.length_append, sizesOf_len]; rfl
      · refine ⟨?_, trivial⟩
        show some (true, (sizesOf (L.take k) n ++ [1]).map AV.i) = some (true, (sizesOf (L.take (k + 1)) (n + 1)).map AV.i)
        rw [take_snoc L k 0 h, h3, ← sizesOf_new _ _ (fun f hf => (hmem.1 f hf).2)]
      · omega
    · obtain ⟨f, hfk⟩ := Int.eq_ofNat_of_zero_le hr.1
      have hfn : f < n := by omega
      have hc := cntI_le (L.take k) f
      have hg := sizesOf_get (L.take k) n hfn
      rw [← hg] at hc
      repeat (first | (refine step_ops ?_; (first | (refine m_mov (by conv => lhs; whnf) ?_) | (refine m_lss rfl rfl ?_) | (refine m_eql rfl rfl ?_) | (refine m_eqk rfl rfl ?_) | (refine m_eqs rfl rfl ?_) | (refine m_add rfl rfl ?_ ?_ ?_; (· omega); (· omega)) | (refine m_adds rfl rfl ?_ ?_; (· first | omega | (simp; omega))) | (refine m_len_ro rfl ?_) | (refine m_len_sl rfl ?_) | (refine m_len_nil rfl ?_) | (refine m_idx1_ro rfl rfl ?_ ?_; (· omega)) | (refine m_idx1_sl rfl rfl ?_ ?_; (· omega)) | (apply m_idx1_slj; (· rfl); (· rfl); (· assumption); (· omega)) | (apply m_idx1_roj; (· rfl); (· rfl); (· assumption); (· omega)) | (refine m_idx_ro rfl rfl ?_ ?_ ?_; (· omega); (· omega)) | (refine m_idx_sl rfl rfl ?_ ?_ ?_; (· omega); (· omega)) | (refine m_ld_rpi rfl ?_ ?_; (· omega)) | (refine m_ld_pti rfl (by rfl) ?_ ?_; (· first | omega | (simp; omega))) | (apply m_ld_ptb; (· rfl); (· rfl); (· assumption)) | (apply m_ld_rp; (· rfl); (· rfl)) | (apply m_ld_pt; (· rfl); (· rfl); (· rfl)) | (apply m_st; (· rfl); (· rfl); (· rfl); (· first | omega | (simp; done) | (simp; omega)); (· rfl)) | (refine m_nils ?_) | (refine m_bsl1 rfl rfl ?_) | (refine m_app1i rfl (by decide) (by rfl) (by first | rfl | omega | (simp; done)) rfl rfl ?_ (by decide) ?_; (· first | omega | (simp; omega))) | (refine m_app1 rfl (by decide) rfl (by first | (simp; done) | (simp [*]; done) | (simp; omega)) rfl rfl rfl ?_ (by decide) ?_; (· first | omega | (simp; omega))) | (refine m_appro rfl (by decide) rfl (by first | rfl | (simp; done) | (simp [*]; done) | (simp; omega)) rfl (oks_ints _) ?_ (by decide) ?_; (· first | omega | (simp; omega))) | (refine m_stall rfl rfl rfl ?_ ?_ ?_ ?_; (· first | rfl | (simp [*]; done)); (· first | rfl | (simp [*]; done)); (· first | rfl | (simp [cellOk, Value.oneCell']; done))))) | refine end_ops ?_ | refine seq_ops ?_ | refine AW_ops ?_ | (refine cond_t rfl ?_ ?_; (· first | rfl | assumption | (refine decide_eq_true ?_; first | assumption | omega) | (refine nt ?_; first | assumption | omega) | (simp [*]; done))) | (refine cond_f rfl ?_ ?_; (· first | rfl | assumption | (refine decide_eq_false ?_; first | assumption | omega) | (refine nf ?_; first | assumption | omega) | (simp [*]; done))) | refine skip_then ?_ | refine AW_seq ?_ | refine AW_ret ?_ | refine ret_done ?_ | refine norm_then ?_ | refine ret_then ?_ | refine exit_then ?_ | refine AW_block ?_ | refine norm_block ?_ | refine ret_block ?_ | refine ret_round ?_ | refine exit_round ?_ | refine AW_exit ?_ | refine exit_block ?_ | (refine exit_other ?_ ?_; (· decide)) | refine AW_skip ?_)
      refine next_round (k + 1, n) ⟨by omega, ?_⟩ (weak_st ?_ ?_ rfl rfl) ?_
      · rw [take_snoc L k 0 h, famFold_snoc, hn, Option.bind_some, if_pos hr, if_neg h3]
      · (repeat' (first | exact trivial | refine And.intro ?_ ?_)) <;> (first | rfl | skip)
      · refine ⟨?_, trivial⟩
        show some (true, ((sizesOf (L.take k) n).map AV.i).set f (AV.i ((sizesOf (L.take k) n).getD f 0 + 1))) = some (true, (sizesOf (L.take (k + 1)) n).map AV.i)
        rw [take_snoc L k 0 h, hfk, ← sizesOf_snoc _ _ hfn, List.map_set]
      · omega
  · repeat (first | (refine step_ops ?_; (first | (refine m_mov (by conv => lhs; whnf) ?_) | (refine m_lss rfl rfl ?_) | (refine m_eql rfl rfl ?_) | (refine m_eqk rfl rfl ?_) | (refine m_eqs rfl rfl ?_) | (refine m_add rfl rfl ?_ ?_ ?_; (· omega); (· omega)) | (refine m_adds rfl rfl ?_ ?_; (· first | omega | (simp; omega))) | (refine m_len_ro rfl ?_) | (refine m_len_sl rfl ?_) | (refine m_len_nil rfl ?_) | (refine m_idx1_ro rfl rfl ?_ ?_; (· omega)) | (refine m_idx1_sl rfl rfl ?_ ?_; (· omega)) | (apply m_idx1_slj; (· rfl); (· rfl); (· assumption); (· omega)) | (apply m_idx1_roj; (· rfl); (· rfl); (· assumption); (· omega)) | (refine m_idx_ro rfl rfl ?_ ?_ ?_; (· omega); (· omega)) | (refine m_idx_sl rfl rfl ?_ ?_ ?_; (· omega); (· omega)) | (refine m_ld_rpi rfl ?_ ?_; (· omega)) | (refine m_ld_pti rfl (by rfl) ?_ ?_; (· first | omega | (simp; omega))) | (apply m_ld_ptb; (· rfl); (· rfl); (· assumption)) | (apply m_ld_rp; (· rfl); (· rfl)) | (apply m_ld_pt; (· rfl); (· rfl); (· rfl)) | (apply m_st; (· rfl); (· rfl); (· rfl); (· first | omega | (simp; done) | (simp; omega)); (· rfl)) | (refine m_nils ?_) | (refine m_bsl1 rfl rfl ?_) | (refine m_app1i rfl (by decide) (by rfl) (by first | rfl | omega | (simp; done)) rfl rfl ?_ (by decide) ?_; (· first | omega | (simp; omega))) | (refine m_app1 rfl (by decide) rfl (by first | (simp; done) | (simp [*]; done) | (simp; omega)) rfl rfl rfl ?_ (by decide) ?_; (· first | omega | (simp; omega))) | (refine m_appro rfl (by decide) rfl (by first | rfl | (simp; done) | (simp [*]; done) | (simp; omega)) rfl (oks_ints _) ?_ (by decide) ?_; (· first | omega | (simp; omega))) | (refine m_stall rfl rfl rfl ?_ ?_ ?_ ?_; (· first | rfl | (simp [*]; done)); (· first | rfl | (simp [*]; done)); (· first | rfl | (simp [cellOk, Value.oneCell']; done))))) | refine end_ops ?_ | refine seq_ops ?_ | refine AW_ops ?_ | (refine cond_t rfl ?_ ?_; (· first | rfl | assumption | (refine decide_eq_true ?_; first | assumption | omega) | (refine nt ?_; first | assumption | omega) | (simp [*]; done))) | (refine cond_f rfl ?_ ?_; (· first | rfl | assumption | (refine decide_eq_false ?_; first | assumption | omega) | (refine nf ?_; first | assumption | omega) | (simp [*]; done))) | refine skip_then ?_ | refine AW_seq ?_ | refine AW_ret ?_ | refine ret_done ?_ | refine norm_then ?_ | refine ret_then ?_ | refine exit_then ?_ | refine AW_block ?_ | refine norm_block ?_ | refine ret_block ?_ | refine ret_round ?_ | refine exit_round ?_ | refine AW_exit ?_ | refine exit_block ?_ | (refine exit_other ?_ ?_; (· decide)) | refine AW_skip ?_)
    obtain rfl : k = L.length := by omega
    rw [List.take_length] at hn
    have : famN L = n := by rw [famN, hn]; rfl
    rw [this]
    refine outs_ints rfl ?_ ?_
    · rw [List.take_length]; rfl
    · rw [sizesOf_len]; rfl

/-- What FamilySizes tells. -/
def sizesRes (L : List Int) : List Int := if IsFam L then sizesOf L (famN L).toNat else []
theorem sizesRes_le (L : List Int) : (sizesRes L).length ≤ 9 := by
  unfold sizesRes
  split
  · rename_i h
    have := famN_le h
    have := h.2.1
    rw [sizesOf_len]; omega
  · simp

end Go.Proofs.Ytojbhdkjmaekjaa
