/- Contracts: families are told; their sizes. -/
import Derived.Test.YtlcjipgnflncfaaMaFam
import Derived.Test.YtlcjipgnflncfaaSpA
namespace Go.Proofs.Ytlcjipgnflncfaa
open Go.Am
attribute [local irreducible] AW Outs Weak Lends Lend Sp aops atree aop1 Then Round InBlock Done

theorem implAreFam_spec (L : List Int) (hL : L.length ≤ 1048576) : Sp Try.prog 16 [ints L] (.b (decide (IsFam L))) := by
  refine spec_of Try.func16 rfl cc16 rfl ?_
  unfold ac16
  by_cases hc : 1 ≤ (L.length : Int)
  · by_cases hc2 : (L.length : Int) ≤ 9
    · repeat (first | (refine step_ops ?_; ((try (refine g_yes rfl ?_ ?_; (· first | rfl | assumption | (refine decide_eq_true ?_; first | assumption | omega) | (refine nt ?_; first | assumption | omega) | (simp [*]; done) | (refine decide_eq_false ?_; first | assumption | omega) | (refine nf ?_; first | assumption | omega)))); (first | (refine m_mov (by conv => lhs; whnf) ?_) | (refine m_lss rfl rfl ?_) | (refine m_gtr rfl rfl ?_) | (refine m_len_ro rfl ?_) | (refine m_pick_f rfl ?_ (by conv => lhs; whnf) ?_; (· first | rfl | assumption | (refine decide_eq_false ?_; first | assumption | omega) | (refine nf ?_; first | assumption | omega) | (simp [*]; done)))))) | refine end_ops ?_ | refine seq_ops ?_ | (refine cond_f rfl ?_ ?_; (· first | rfl | assumption | (refine decide_eq_false ?_; first | assumption | omega) | (refine nf ?_; first | assumption | omega) | (simp [*]; done))) | refine skip_then ?_ | refine AW_seq ?_ | refine AW_block ?_)
      refine AW_loop (α := Nat × Int) (fun a => a.1 ≤ L.length ∧ famFold (L.take a.1) 0 = some a.2) (fun a => st [(0, ints L), (3, .i a.2), (14, ints L), (15, .i L.length), (16, .i a.1)] []) (fun a => L.length - a.1) (0, 0) (by simp [famFold]) (weak_st ?_ ?_ rfl rfl) ?_
      · (repeat' (first | exact trivial | refine And.intro ?_ ?_)) <;> (first | rfl | skip)
      · trivial
      rintro ⟨k, n⟩ ⟨hk, hn⟩
      have hle := famFold_le _ _ _ hn
      have hkl : (L.take k).length = k := List.length_take_of_le hk
      dsimp only at hk hn hle ⊢
      by_cases h : k < L.length
      · by_cases h1 : 0 ≤ L.getD k 0
        · by_cases h2 : L.getD k 0 ≤ n
          · by_cases h3 : L.getD k 0 = n
            · repeat (first | (refine step_ops ?_; ((try (refine g_yes rfl ?_ ?_; (· first | rfl | assumption | (refine decide_eq_true ?_; first | assumption | omega) | (refine nt ?_; first | assumption | omega) | (simp [*]; done) | (refine decide_eq_false ?_; first | assumption | omega) | (refine nf ?_; first | assumption | omega)))); (first | (refine m_mov (by conv => lhs; whnf) ?_) | (refine m_lss rfl rfl ?_) | (refine m_gtr rfl rfl ?_) | (refine m_eql rfl rfl ?_) | (refine m_add rfl rfl ?_ ?_ ?_; (· omega); (· omega)) | (refine m_idx1_ro rfl rfl ?_ ?_; (· omega)) | (refine m_ld_rpi rfl ?_ ?_; (· omega)) | (refine m_pick_f rfl ?_ (by conv => lhs; whnf) ?_; (· first | rfl | assumption | (refine decide_eq_false ?_; first | assumption | omega) | (refine nf ?_; first | assumption | omega) | (simp [*]; done)))))) | refine end_ops ?_ | refine seq_ops ?_ | refine AW_ops ?_ | (refine cond_t rfl ?_ ?_; (· first | rfl | assumption | (refine decide_eq_true ?_; first | assumption | omega) | (refine nt ?_; first | assumption | omega) | (simp [*]; done))) | (refine cond_f rfl ?_ ?_; (· first | rfl | assumption | (refine decide_eq_false ?_; first | assumption | omega) | (refine nf ?_; first | assumption | omega) | (simp [*]; done))) | refine skip_then ?_ | refine AW_seq ?_ | refine norm_then ?_ | refine AW_block ?_ | refine norm_block ?_)
              refine next_round (k + 1, n + 1) ⟨by omega, ?_⟩ (weak_st ?_ ?_ rfl rfl) ?_
              · rw [take_snoc L k 0 h, famFold_snoc, hn, Option.bind_some, if_pos ⟨h1, h2⟩, if_pos h3]
              · (repeat' (first | exact trivial | refine And.intro ?_ ?_)) <;> (first | rfl | skip)
              · trivial
              · omega
            · repeat (first | (refine step_ops ?_; ((try (refine g_yes rfl ?_ ?_; (· first | rfl | assumption | (refine decide_eq_true ?_; first | assumption | omega) | (refine nt ?_; first | assumption | omega) | (simp [*]; done) | (refine decide_eq_false ?_; first | assumption | omega) | (refine nf ?_; first | assumption | omega)))); (first | (refine m_mov (by conv => lhs; whnf) ?_) | (refine m_lss rfl rfl ?_) | (refine m_gtr rfl rfl ?_) | (refine m_eql rfl rfl ?_) | (refine m_add rfl rfl ?_ ?_ ?_; (· omega); (· omega)) | (refine m_idx1_ro rfl rfl ?_ ?_; (· omega)) | (refine m_ld_rpi rfl ?_ ?_; (· omega)) | (refine m_pick_f rfl ?_ (by conv => lhs; whnf) ?_; (· first | rfl | assumption | (refine decide_eq_false ?_; first | assumption | omega) | (refine nf ?_; first | assumption | omega) | (simp [*]; done)))))) | refine end_ops ?_ | refine seq_ops ?_ | refine AW_ops ?_ | (refine cond_t rfl ?_ ?_; (· first | rfl | assumption | (refine decide_eq_true ?_; first | assumption | omega) | (refine nt ?_; first | assumption | omega) | (simp [*]; done))) | (refine cond_f rfl ?_ ?_; (· first | rfl | assumption | (refine decide_eq_false ?_; first | assumption | omega) | (refine nf ?_; first | assumption | omega) | (simp [*]; done))) | refine skip_then ?_ | refine AW_seq ?_ | refine norm_then ?_ | refine AW_block ?_ | refine norm_block ?_ | refine AW_skip ?_)
              refine next_round (k + 1, n) ⟨by omega, ?_⟩ (weak_st ?_ ?_ rfl rfl) ?_
              · rw [take_snoc L k 0 h, famFold_snoc, hn, Option.bind_some, if_pos ⟨h1, h2⟩, if_neg h3]
              · (repeat' (first | exact trivial | refine And.intro ?_ ?_)) <;> (first | rfl | skip)
              · trivial
              · omega
          · repeat (first | (refine step_ops ?_; ((try (refine g_yes rfl ?_ ?_; (· first | rfl | assumption | (refine decide_eq_true ?_; first | assumption | omega) | (refine nt ?_; first | assumption | omega) | (simp [*]; done) | (refine decide_eq_false ?_; first | assumption | omega) | (refine nf ?_; first | assumption | omega)))); (first | (refine m_mov (by conv => lhs; whnf) ?_) | (refine m_lss rfl rfl ?_) | (refine m_gtr rfl rfl ?_) | (refine m_idx1_ro rfl rfl ?_ ?_; (· omega)) | (refine m_ld_rpi rfl ?_ ?_; (· omega)) | (refine m_pick_f rfl ?_ (by conv => lhs; whnf) ?_; (· first | rfl | assumption | (refine decide_eq_false ?_; first | assumption | omega) | (refine nf ?_; first | assumption | omega) | (simp [*]; done)))))) | refine end_ops ?_ | refine seq_ops ?_ | (refine cond_t rfl ?_ ?_; (· first | rfl | assumption | (refine decide_eq_true ?_; first | assumption | omega) | (refine nt ?_; first | assumption | omega) | (simp [*]; done))) | refine skip_then ?_ | refine AW_seq ?_ | refine AW_ret ?_ | refine ret_done ?_ | refine ret_then ?_ | refine AW_block ?_ | refine ret_block ?_ | refine ret_round ?_)
            refine outs_b ?_
            symm
            refine decide_eq_false fun hf => ?_
            obtain ⟨m, hm⟩ := famFold_take (fam_fold hf) (k + 1)
            rw [take_snoc L k 0 h, famFold_snoc, hn, Option.bind_some, if_neg (by omega)] at hm
            cases hm
        · repeat (first | (refine step_ops ?_; (first | (first | (refine m_mov (by conv => lhs; whnf) ?_) | (refine m_lss rfl rfl ?_) | (refine m_idx1_ro rfl rfl ?_ ?_; (· omega)) | (refine m_ld_rpi rfl ?_ ?_; (· omega)) | (refine m_pick_t rfl ?_ (by conv => lhs; whnf) ?_; (· first | rfl | assumption | (refine decide_eq_true ?_; first | assumption | omega) | (refine nt ?_; first | assumption | omega) | (simp [*]; done)))) | (refine g_noF rfl ?_ ?_; (· first | rfl | assumption | (refine decide_eq_true ?_; first | assumption | omega) | (refine nt ?_; first | assumption | omega) | (simp [*]; done))))) | refine end_ops ?_ | refine seq_ops ?_ | (refine cond_t rfl ?_ ?_; (· first | rfl | assumption | (refine decide_eq_true ?_; first | assumption | omega) | (refine nt ?_; first | assumption | omega) | (simp [*]; done))) | refine skip_then ?_ | refine AW_seq ?_ | refine AW_ret ?_ | refine ret_done ?_ | refine ret_then ?_ | refine AW_block ?_ | refine ret_block ?_ | refine ret_round ?_)
          refine outs_b ?_
          symm
          refine decide_eq_false fun hf => ?_
          obtain ⟨m, hm⟩ := famFold_take (fam_fold hf) (k + 1)
          rw [take_snoc L k 0 h, famFold_snoc, hn, Option.bind_some, if_neg (by omega)] at hm
          cases hm
      · repeat (first | (refine step_ops ?_; (first | (refine m_mov (by conv => lhs; whnf) ?_) | (refine m_lss rfl rfl ?_))) | refine end_ops ?_ | refine seq_ops ?_ | (refine cond_f rfl ?_ ?_; (· first | rfl | assumption | (refine decide_eq_false ?_; first | assumption | omega) | (refine nf ?_; first | assumption | omega) | (simp [*]; done))) | refine AW_seq ?_ | refine AW_ret ?_ | refine ret_done ?_ | refine norm_then ?_ | refine exit_then ?_ | refine exit_round ?_ | refine AW_exit ?_ | refine exit_block ?_)
        refine outs_b ?_
        symm
        rw [List.take_of_length_le (by omega)] at hn
        exact decide_eq_true ⟨by omega, by omega, by rw [hn]; rfl⟩
    · repeat (first | (refine step_ops ?_; ((try (refine g_yes rfl ?_ ?_; (· first | rfl | assumption | (refine decide_eq_true ?_; first | assumption | omega) | (refine nt ?_; first | assumption | omega) | (simp [*]; done) | (refine decide_eq_false ?_; first | assumption | omega) | (refine nf ?_; first | assumption | omega)))); (first | (refine m_mov (by conv => lhs; whnf) ?_) | (refine m_lss rfl rfl ?_) | (refine m_gtr rfl rfl ?_) | (refine m_len_ro rfl ?_) | (refine m_pick_f rfl ?_ (by conv => lhs; whnf) ?_; (· first | rfl | assumption | (refine decide_eq_false ?_; first | assumption | omega) | (refine nf ?_; first | assumption | omega) | (simp [*]; done)))))) | refine end_ops ?_ | refine seq_ops ?_ | (refine cond_t rfl ?_ ?_; (· first | rfl | assumption | (refine decide_eq_true ?_; first | assumption | omega) | (refine nt ?_; first | assumption | omega) | (simp [*]; done))) | refine AW_seq ?_ | refine AW_ret ?_ | refine ret_done ?_ | refine ret_then ?_)
      refine outs_b ?_
      symm
      exact decide_eq_false fun hf => hc2 (by have := hf.2.1; omega)
  · repeat (first | (refine step_ops ?_; (first | (first | (refine m_mov (by conv => lhs; whnf) ?_) | (refine m_lss rfl rfl ?_) | (refine m_len_ro rfl ?_) | (refine m_pick_t rfl ?_ (by conv => lhs; whnf) ?_; (· first | rfl | assumption | (refine decide_eq_true ?_; first | assumption | omega) | (refine nt ?_; first | assumption | omega) | (simp [*]; done)))) | (refine g_noF rfl ?_ ?_; (· first | rfl | assumption | (refine decide_eq_true ?_; first | assumption | omega) | (refine nt ?_; first | assumption | omega) | (simp [*]; done))))) | refine end_ops ?_ | refine seq_ops ?_ | (refine cond_t rfl ?_ ?_; (· first | rfl | assumption | (refine decide_eq_true ?_; first | assumption | omega) | (refine nt ?_; first | assumption | omega) | (simp [*]; done))) | refine AW_seq ?_ | refine AW_ret ?_ | refine ret_done ?_ | refine ret_then ?_)
    refine outs_b ?_
    symm
    exact decide_eq_false fun hf => hc (by have := hf.1; omega)

theorem giGood_spec (L : List Int) (hL : L.length ≤ 1048576) : Sp Try.prog 13 [ints L] (.b (decide (IsFam L))) := by
  refine spec_of Try.func13 rfl cc13 rfl ?_
  unfold ac13
  by_cases hc : 1 ≤ (L.length : Int) ∧ (L.length : Int) ≤ 9
  · repeat (first | (refine step_ops ?_; (first | (refine m_mov (by conv => lhs; whnf) ?_) | (refine m_len_ro rfl ?_))) | refine end_ops ?_ | refine seq_ops ?_ | refine AW_seq ?_)
    (refine step_ops ?_); (apply m_call (l1In_spec _ _ _)); (· repeat (first | exact lends_nil | (refine lends_cons ?_ ?_; (· exact lend_v))))
    repeat (first | (refine step_ops ?_; (first | (refine m_mov (by conv => lhs; whnf) ?_) | (refine m_not rfl ?_) | (refine m_len_ro rfl ?_))) | refine end_ops ?_ | refine seq_ops ?_ | (refine cond_f rfl ?_ ?_; (· first | rfl | assumption | (refine decide_eq_false ?_; first | assumption | omega) | (refine nf ?_; first | assumption | omega) | (simp [*]; done))) | refine skip_then ?_ | refine AW_seq ?_ | refine AW_block ?_)
    refine AW_loop (α := Nat × Int) (fun a => a.1 ≤ L.length ∧ famFold (L.take a.1) 0 = some a.2) (fun a => st [(0, ints L), (3, .i a.2), (10, ints L), (11, .i L.length), (12, .i a.1)] []) (fun a => L.length - a.1) (0, 0) (by simp [famFold]) (weak_st ?_ ?_ rfl rfl) ?_
    · (repeat' (first | exact trivial | refine And.intro ?_ ?_)) <;> (first | rfl | skip)
    · trivial
    rintro ⟨k, n⟩ ⟨hk, hn⟩
    have hle := famFold_le _ _ _ hn
    have hkl : (L.take k).length = k := List.length_take_of_le hk
    dsimp only at hk hn hle ⊢
    by_cases h : k < L.length
    · by_cases h2 : 0 ≤ L.getD k 0 ∧ L.getD k 0 ≤ n
      · by_cases h3 : L.getD k 0 = n
        · repeat (first | (refine step_ops ?_; (first | (refine m_mov (by conv => lhs; whnf) ?_) | (refine m_lss rfl rfl ?_) | (refine m_idx1_ro rfl rfl ?_ ?_; (· omega)) | (refine m_ld_rpi rfl ?_ ?_; (· omega)))) | refine end_ops ?_ | refine seq_ops ?_ | (refine cond_t rfl ?_ ?_; (· first | rfl | assumption | (refine decide_eq_true ?_; first | assumption | omega) | (refine nt ?_; first | assumption | omega) | (simp [*]; done))) | refine skip_then ?_ | refine AW_seq ?_ | refine AW_block ?_)
          (refine step_ops ?_); (apply m_call (l1In_spec _ _ _)); (· repeat (first | exact lends_nil | (refine lends_cons ?_ ?_; (· exact lend_v))))
          repeat (first | (refine step_ops ?_; (first | (refine m_mov (by conv => lhs; whnf) ?_) | (refine m_eql rfl rfl ?_) | (refine m_add rfl rfl ?_ ?_ ?_; (· omega); (· omega)) | (refine m_not rfl ?_))) | refine end_ops ?_ | refine seq_ops ?_ | refine AW_ops ?_ | (refine cond_t rfl ?_ ?_; (· first | rfl | assumption | (refine decide_eq_true ?_; first | assumption | omega) | (refine nt ?_; first | assumption | omega) | (simp [*]; done))) | (refine cond_f rfl ?_ ?_; (· first | rfl | assumption | (refine decide_eq_false ?_; first | assumption | omega) | (refine nf ?_; first | assumption | omega) | (simp [*]; done))) | refine skip_then ?_ | refine norm_then ?_ | refine norm_block ?_)
          refine next_round (k + 1, n + 1) ⟨by omega, ?_⟩ (weak_st ?_ ?_ rfl rfl) ?_
          · rw [take_snoc L k 0 h, famFold_snoc, hn, Option.bind_some, if_pos h2, if_pos h3]
          · (repeat' (first | exact trivial | refine And.intro ?_ ?_)) <;> (first | rfl | skip)
          · trivial
          · omega
        · repeat (first | (refine step_ops ?_; (first | (refine m_mov (by conv => lhs; whnf) ?_) | (refine m_lss rfl rfl ?_) | (refine m_idx1_ro rfl rfl ?_ ?_; (· omega)) | (refine m_ld_rpi rfl ?_ ?_; (· omega)))) | refine end_ops ?_ | refine seq_ops ?_ | (refine cond_t rfl ?_ ?_; (· first | rfl | assumption | (refine decide_eq_true ?_; first | assumption | omega) | (refine nt ?_; first | assumption | omega) | (simp [*]; done))) | refine skip_then ?_ | refine AW_seq ?_ | refine AW_block ?_)
          (refine step_ops ?_); (apply m_call (l1In_spec _ _ _)); (· repeat (first | exact lends_nil | (refine lends_cons ?_ ?_; (· exact lend_v))))
          repeat (first | (refine step_ops ?_; (first | (refine m_mov (by conv => lhs; whnf) ?_) | (refine m_eql rfl rfl ?_) | (refine m_add rfl rfl ?_ ?_ ?_; (· omega); (· omega)) | (refine m_not rfl ?_))) | refine end_ops ?_ | refine seq_ops ?_ | refine AW_ops ?_ | (refine cond_f rfl ?_ ?_; (· first | rfl | assumption | (refine decide_eq_false ?_; first | assumption | omega) | (refine nf ?_; first | assumption | omega) | (simp [*]; done))) | refine skip_then ?_ | refine norm_then ?_ | refine norm_block ?_ | refine AW_skip ?_)
          refine next_round (k + 1, n) ⟨by omega, ?_⟩ (weak_st ?_ ?_ rfl rfl) ?_
          · rw [take_snoc L k 0 h, famFold_snoc, hn, Option.bind_some, if_pos h2, if_neg h3]
          · (repeat' (first | exact trivial | refine And.intro ?_ ?_)) <;> (first | rfl | skip)
          · trivial
          · omega
      · repeat (first | (refine step_ops ?_; (first | (refine m_mov (by conv => lhs; whnf) ?_) | (refine m_lss rfl rfl ?_) | (refine m_idx1_ro rfl rfl ?_ ?_; (· omega)) | (refine m_ld_rpi rfl ?_ ?_; (· omega)))) | refine end_ops ?_ | refine seq_ops ?_ | (refine cond_t rfl ?_ ?_; (· first | rfl | assumption | (refine decide_eq_true ?_; first | assumption | omega) | (refine nt ?_; first | assumption | omega) | (simp [*]; done))) | refine skip_then ?_ | refine AW_seq ?_ | refine AW_block ?_)
        (refine step_ops ?_); (apply m_call (l1In_spec _ _ _)); (· repeat (first | exact lends_nil | (refine lends_cons ?_ ?_; (· exact lend_v))))
        repeat (first | (refine step_ops ?_; (first | (refine m_mov (by conv => lhs; whnf) ?_) | (refine m_not rfl ?_))) | refine end_ops ?_ | refine seq_ops ?_ | (refine cond_t rfl ?_ ?_; (· first | rfl | assumption | (refine decide_eq_true ?_; first | assumption | omega) | (refine nt ?_; first | assumption | omega) | (simp [*]; done))) | refine AW_ret ?_ | refine ret_done ?_ | refine ret_then ?_ | refine ret_block ?_ | refine ret_round ?_)
        refine outs_b ?_
        symm
        refine decide_eq_false fun hf => ?_
        obtain ⟨m, hm⟩ := famFold_take (fam_fold hf) (k + 1)
        rw [take_snoc L k 0 h, famFold_snoc, hn, Option.bind_some, if_neg h2] at hm
        cases hm
    · repeat (first | (refine step_ops ?_; (first | (refine m_mov (by conv => lhs; whnf) ?_) | (refine m_lss rfl rfl ?_))) | refine end_ops ?_ | refine seq_ops ?_ | (refine cond_f rfl ?_ ?_; (· first | rfl | assumption | (refine decide_eq_false ?_; first | assumption | omega) | (refine nf ?_; first | assumption | omega) | (simp [*]; done))) | refine AW_seq ?_ | refine AW_ret ?_ | refine ret_done ?_ | refine norm_then ?_ | refine exit_then ?_ | refine exit_round ?_ | refine AW_exit ?_ | refine exit_block ?_)
      refine outs_b ?_
      symm
      rw [List.take_of_length_le (by omega)] at hn
      exact decide_eq_true ⟨by omega, by omega, by rw [hn]; rfl⟩
  · repeat (first | (refine step_ops ?_; (first | (refine m_mov (by conv => lhs; whnf) ?_) | (refine m_len_ro rfl ?_))) | refine end_ops ?_ | refine seq_ops ?_ | refine AW_seq ?_)
    (refine step_ops ?_); (apply m_call (l1In_spec _ _ _)); (· repeat (first | exact lends_nil | (refine lends_cons ?_ ?_; (· exact lend_v))))
    repeat (first | (refine step_ops ?_; (first | (refine m_mov (by conv => lhs; whnf) ?_) | (refine m_not rfl ?_))) | refine end_ops ?_ | refine seq_ops ?_ | (refine cond_t rfl ?_ ?_; (· first | rfl | assumption | (refine decide_eq_true ?_; first | assumption | omega) | (refine nt ?_; first | assumption | omega) | (simp [*]; done))) | refine AW_ret ?_ | refine ret_done ?_ | refine ret_then ?_)
    refine outs_b ?_
    symm
    exact decide_eq_false fun hf => hc ⟨by have := hf.1; omega, by have := hf.2.1; omega⟩

end Go.Proofs.Ytlcjipgnflncfaa
