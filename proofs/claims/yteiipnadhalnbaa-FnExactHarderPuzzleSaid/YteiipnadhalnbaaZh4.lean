/- The abstract machine, contracts: part 4 of what this claim needs. -/
import Derived.Test.YteiipnadhalnbaaZh3
namespace Go.Proofs.Yteiipnadhalnbaa
open Go.Am
attribute [local irreducible] AW Outs Weak Lends Lend Sp aops atree aop1 Then Round InBlock Done
attribute [local irreducible] SpH DoneH
/-- What TimesToRight tells. -/
def timesR (L : List Int) : AV := .tup [.i (if IsEx L then (timesF L : Int) else 0), .b (decide (IsEx L))]
theorem specTimesToRight_spec (L : List Int) (hL : L.length ≤ 1048576) : Sp Try.prog 50 [ints L] (timesR L) := by
  unfold timesR
  refine spec_of Try.func50 rfl cc50 rfl ?_
  unfold ac50
  by_cases h : IsEx L
  · have hp := ex_pm h
    have h12 := h.2.1
    have ech : chs L = (sts L L.length).map (chn L) := chs_sts L L.length
    have hpl : (pers L).length = (chs L).length := by rw [ech]; simp [pers]
    have hcl : (chs L).length ≤ L.length := chsTo_len L L.length
    repeat (first | (refine step_ops ?_; (refine m_mov (by conv => lhs; whnf) ?_)) | refine end_ops ?_ | refine seq_ops ?_ | refine AW_seq ?_)
    refine step_ops ?_; (apply m_call (exGood_spec L hL)); (· repeat (first | exact lends_nil | (refine lends_cons ?_ ?_; (· (refine lend_ints ?_; first | rfl | omega)))))
    repeat (first | (refine step_ops ?_; (first | (refine m_mov (by conv => lhs; whnf) ?_) | (refine m_not rfl ?_))) | refine end_ops ?_ | refine seq_ops ?_ | (refine cond_f rfl ?_ ?_; (· first | rfl | assumption | (refine decide_eq_false ?_; first | assumption | omega) | (refine nf ?_; first | assumption | omega) | (simp [*]; done))) | refine skip_then ?_ | refine AW_seq ?_)
    refine step_ops ?_; (apply m_call (sp_mat1 (exChains_spec L h))); (· repeat (first | exact lends_nil | (refine lends_cons ?_ ?_; (· (refine lend_ints ?_; first | rfl | omega)))))
    repeat (first | (refine step_ops ?_; (first | (refine m_mov (by conv => lhs; whnf) ?_) | (refine m_len_ro rfl ?_))) | refine end_ops ?_ | refine AW_block ?_)
    refine AW_loop (α := Nat) (fun j => j ≤ (chs L).length) (fun j => st [(4, .i (lcF ((pers L).take j) 1 : Nat)), (13, roF (chs L)), (14, .i (chs L).length), (15, .i j)] []) (fun j => (chs L).length - j) 0 (by omega) (weak_st ?_ ?_ rfl rfl) ?_
    · (repeat' (first | exact trivial | refine And.intro ?_ ?_)) <;> (first | rfl | skip)
    · trivial
    intro j hj
    by_cases hc : j < (chs L).length
    · have hb := lcF_take h j
      have hb1 := lcF_take h (j + 1)
      have hpj : ((chs L).getD j []).length = (pers L).getD j 0 := by
        rw [ech]
        have hjs : j < (sts L L.length).length := by rw [ech] at hc; simpa using hc
        simp [pers, hjs, chn, chT_len]
      have hpo := (pers_ok h).2 ((pers L).getD j 0) (by have : j < (pers L).length := by omega
                                                        simp [this])
      rw [take_snoc (pers L) j 0 (by omega), lcF_snoc] at hb1
      have hat : (((chs L).map newInts).drop j)[0]? = some (newInts ((chs L).getD j [])) := by simp [hc]
      generalize hA : lcF ((pers L).take j) 1 = A at *
      generalize hB : (pers L).getD j 0 = B at *
      repeat (first | (refine step_ops ?_; (first | (refine m_lss rfl rfl ?_) | (refine m_idx1_ro rfl rfl ?_ ?_; (· omega)))) | refine end_ops ?_ | refine seq_ops ?_ | (refine cond_t rfl ?_ ?_; (· first | rfl | assumption | (refine decide_eq_true ?_; first | assumption | omega) | (refine nt ?_; first | assumption | omega) | (simp [*]; done))) | refine skip_then ?_ | refine AW_seq ?_ | refine AW_block ?_)
      refine step_ops ?_
      refine m_ld_rp rfl hat ?_
      repeat (first | (refine step_ops ?_; (first | (refine m_mov (by conv => lhs; whnf) ?_) | (refine m_len_ro rfl ?_))) | refine end_ops ?_ | refine seq_ops ?_ | refine AW_seq ?_ | refine AW_block ?_)
      rw [hpj]
      refine AW_loop (α := Nat × Nat) (fun q => Nat.gcd q.1 q.2 = Nat.gcd A B ∧ q.1 ≤ 8916100448256 ∧ q.2 ≤ 8916100448256) (fun q => st [(4, .i A), (6, .ro true 1 (((chs L).getD j []).map AV.i) B), (7, .i q.1), (8, .i q.2), (13, roF (chs L)), (14, .i (chs L).length), (15, .i j)] []) (fun q => q.2) (A, B) ⟨rfl, by dsimp only; omega, by dsimp only; omega⟩ (weak_st ?_ ?_ rfl rfl) ?_
      · (repeat' (first | exact trivial | refine And.intro ?_ ?_)) <;> (first | rfl | skip)
      · trivial
      rintro ⟨u, v⟩ ⟨hq, hu, hv⟩
      dsimp only at hq hu hv ⊢
      by_cases hcv : v = 0
      · subst hcv
        rw [Nat.gcd_zero_right] at hq
        have hu0 : 0 < u := by rw [hq]; exact Nat.gcd_pos_of_pos_left _ (by omega)
        have hdiv : (A : Int) / (u : Int) = ((A / u : Nat) : Int) := rfl
        have hmul : ((A / u : Nat) : Int) * (B : Int) = ((A / u * B : Nat) : Int) := by rw [Int.natCast_mul]
        rw [← hq] at hb1
        repeat (first | (refine step_ops ?_; (first | (refine m_mov (by conv => lhs; whnf) ?_) | (refine m_gtr rfl rfl ?_) | (refine m_len_ro rfl ?_) | (refine m_quo rfl rfl ?_ ?_ ?_ ?_; (· omega); (· omega); (· omega)))) | refine end_ops ?_ | refine seq_ops ?_ | refine AW_ops ?_ | (refine cond_f rfl ?_ ?_; (· first | rfl | assumption | (refine decide_eq_false ?_; first | assumption | omega) | (refine nf ?_; first | assumption | omega) | (simp [*]; done))) | refine AW_seq ?_ | refine norm_then ?_ | refine exit_then ?_ | refine exit_round ?_ | refine AW_exit ?_ | refine exit_block ?_)
        rw [hdiv]
        refine step_ops ?_
        refine m_mul rfl rfl (by rw [hmul]; omega) (by rw [hmul]; omega) ?_
        rw [hmul]
        repeat (first | (refine step_ops ?_; (first | (refine m_mov (by conv => lhs; whnf) ?_) | (refine m_add rfl rfl ?_ ?_ ?_; (· omega); (· omega)))) | refine end_ops ?_ | refine AW_ops ?_ | refine norm_then ?_ | refine norm_block ?_)
        refine next_round (j + 1) (by omega) (weak_st ?_ ?_ rfl rfl) ?_
        · rw [take_snoc (pers L) j 0 (by omega), lcF_snoc, hA, hB, ← hq]
          (repeat' (first | exact trivial | refine And.intro ?_ ?_)) <;> (first | rfl | skip)
        · trivial
        · omega
      · have hc' : 0 < (v : Int) := by omega
        have hm := Nat.mod_lt u (show v > 0 by omega)
        repeat (first | ((first | refine step_ops ?_ | refine step_tree ?_); (first | (refine m_mov (by conv => lhs; whnf) ?_) | (refine m_gtr rfl rfl ?_) | (refine m_rem rfl rfl ?_ ?_ ?_; (· omega); (· omega)))) | refine end_ops ?_ | refine seq_ops ?_ | refine end_tree ?_ | refine AW_tree ?_ | (refine cond_t rfl ?_ ?_; (· first | rfl | assumption | (refine decide_eq_true ?_; first | assumption | omega) | (refine nt ?_; first | assumption | omega) | (simp [*]; done))) | refine skip_then ?_ | refine AW_seq ?_ | refine AW_block ?_ | refine norm_block ?_)
        refine next_round (v, u % v) ⟨?_, hv, by dsimp only; omega⟩ (weak_st ?_ ?_ rfl rfl) ?_
        · dsimp only
          rw [← hq, Nat.gcd_comm u v, Nat.gcd_rec v u, Nat.gcd_comm]
        · (repeat' (first | exact trivial | refine And.intro ?_ ?_)) <;> (first | rfl | skip)
        · trivial
        · exact hm
    · repeat (first | (refine step_ops ?_; (first | (refine m_mov (by conv => lhs; whnf) ?_) | (refine m_lss rfl rfl ?_))) | refine end_ops ?_ | refine seq_ops ?_ | (refine cond_f rfl ?_ ?_; (· first | rfl | assumption | (refine decide_eq_false ?_; first | assumption | omega) | (refine nf ?_; first | assumption | omega) | (simp [*]; done))) | refine AW_seq ?_ | refine AW_ret ?_ | refine ret_done ?_ | refine norm_then ?_ | refine exit_then ?_ | refine exit_round ?_ | refine AW_exit ?_ | refine exit_block ?_)
      obtain rfl : j = (chs L).length := by omega
      rw [← hpl, List.take_length]
      refine outs_tup2 (outs_i ?_) (outs_b ?_) <;> simp [h, timesF]
  · repeat (first | (refine step_ops ?_; (refine m_mov (by conv => lhs; whnf) ?_)) | refine end_ops ?_ | refine seq_ops ?_ | refine AW_seq ?_)
    refine step_ops ?_; (apply m_call (exGood_spec L hL)); (· repeat (first | exact lends_nil | (refine lends_cons ?_ ?_; (· (refine lend_ints ?_; first | rfl | omega)))))
    repeat (first | (refine step_ops ?_; (first | (refine m_mov (by conv => lhs; whnf) ?_) | (refine m_not rfl ?_))) | refine end_ops ?_ | refine seq_ops ?_ | (refine cond_t rfl ?_ ?_; (· first | rfl | assumption | (refine decide_eq_true ?_; first | assumption | omega) | (refine nt ?_; first | assumption | omega) | (simp [*]; done))) | refine AW_ret ?_ | refine ret_done ?_ | refine ret_then ?_)
    refine outs_tup2 (outs_i ?_) (outs_b ?_) <;> simp [h]
end Go.Proofs.Yteiipnadhalnbaa
namespace Go.Proofs.Yteiipnadhalnbaa
open Go.Am
attribute [local irreducible] AW Outs Weak Lends Lend Sp aops atree aop1 Then Round InBlock Done
attribute [local irreducible] SpH DoneH
/-- Does a list fit a clue? -/
def fitC (L : List Int) (c : Clu) : Bool :=
  if c.1 = 0 then decide (L.getD c.2.1.toNat 0 = c.2.2)
  else if c.1 = 1 then decide (L.getD c.2.1.toNat 0 ≠ c.2.2)
  else if c.1 = 2 then decide (((ownList L L.length).length : Int) = c.2.1)
  else if c.1 = 3 then decide (((chs L).length : Int) = c.2.1)
  else if c.1 = 4 then decide (L.getD c.2.1.toNat 0 > c.2.1) == decide (c.2.2 = 1)
  else decide ((timesF L : Int) = c.2.1)
theorem pzFits_spec (L : List Int) (k a b : Int) (h : IsEx L) (hc : IsClu L.length (k, a, b)) : Sp Try.prog 75 [.agg [.i k, .i a, .i b], ints L] (.b (fitC L (k, a, b))) := by
  have hL : L.length ≤ 1048576 := by have := h.2.1; omega
  have hown := exOwn_spec L hL
  have hch := sp_mat1 (exChains_spec L h)
  have htm := specTimesToRight_spec L hL
  unfold timesR at htm
  rw [if_pos h, decide_eq_true h] at htm
  unfold fitC
  dsimp only
  refine spec_of Try.func75 rfl cc75 rfl ?_
  unfold ac75
  refine seq_ops ?_
  refine step_ops ?_
  refine m_box (l := [.i k, .i a, .i b]) rfl rfl ?_
  by_cases h0 : k = 0
  · have hi := (isClu_01 (.inl h0)).1 hc
    obtain ⟨n, rfl⟩ := Int.eq_ofNat_of_zero_le hi.1.1
    have hn : n < L.length := by omega
    rw [if_pos h0, Int.toNat_natCast]
    repeat (first | ((first | refine step_ops ?_ | refine step_tree ?_); (first | (refine m_mov (by conv => lhs; whnf) ?_) | (refine m_eql rfl rfl ?_) | (refine m_idx1_ro rfl rfl ?_ ?_; (· omega)) | (refine m_ld_rpi rfl ?_ ?_; (· omega)) | (apply m_ld_pt; (· rfl); (· rfl); (· rfl)) | (refine m_fa rfl ?_))) | refine end_ops ?_ | refine seq_ops ?_ | refine end_tree ?_ | refine seq_tree ?_ | (refine cond_t rfl ?_ ?_; (· first | rfl | assumption | (refine decide_eq_true ?_; first | assumption | omega) | (refine nt ?_; first | assumption | omega) | (simp [*]; done))) | refine AW_seq ?_ | refine AW_ret ?_ | refine ret_done ?_ | refine ret_then ?_ | refine AW_block ?_ | refine ret_block ?_)
    exact outs_b rfl
  by_cases h1 : k = 1
  · have hi := (isClu_01 (.inr h1)).1 hc
    obtain ⟨n, rfl⟩ := Int.eq_ofNat_of_zero_le hi.1.1
    have hn : n < L.length := by omega
    rw [if_neg h0, if_pos h1, Int.toNat_natCast]
    repeat (first | ((first | refine step_ops ?_ | refine step_tree ?_); (first | (refine m_mov (by conv => lhs; whnf) ?_) | (refine m_eql rfl rfl ?_) | (refine m_neq rfl rfl ?_) | (refine m_idx1_ro rfl rfl ?_ ?_; (· omega)) | (refine m_ld_rpi rfl ?_ ?_; (· omega)) | (apply m_ld_pt; (· rfl); (· rfl); (· rfl)) | (refine m_fa rfl ?_))) | refine end_ops ?_ | refine seq_ops ?_ | refine end_tree ?_ | refine seq_tree ?_ | (refine cond_t rfl ?_ ?_; (· first | rfl | assumption | (refine decide_eq_true ?_; first | assumption | omega) | (refine nt ?_; first | assumption | omega) | (simp [*]; done))) | (refine cond_f rfl ?_ ?_; (· first | rfl | assumption | (refine decide_eq_false ?_; first | assumption | omega) | (refine nf ?_; first | assumption | omega) | (simp [*]; done))) | refine AW_seq ?_ | refine AW_ret ?_ | refine ret_done ?_ | refine ret_then ?_ | refine AW_block ?_ | refine ret_block ?_)
    exact outs_b rfl
  by_cases h2 : k = 2
  · rw [if_neg h0, if_neg h1, if_pos h2]
    generalize ownList L L.length = O at *
    repeat (first | ((first | refine step_ops ?_ | refine step_tree ?_); (first | (refine m_mov (by conv => lhs; whnf) ?_) | (refine m_eql rfl rfl ?_) | (apply m_ld_pt; (· rfl); (· rfl); (· rfl)) | (refine m_fa rfl ?_))) | refine end_ops ?_ | refine seq_ops ?_ | refine seq_tree ?_ | (refine cond_t rfl ?_ ?_; (· first | rfl | assumption | (refine decide_eq_true ?_; first | assumption | omega) | (refine nt ?_; first | assumption | omega) | (simp [*]; done))) | (refine cond_f rfl ?_ ?_; (· first | rfl | assumption | (refine decide_eq_false ?_; first | assumption | omega) | (refine nf ?_; first | assumption | omega) | (simp [*]; done))) | refine AW_seq ?_ | refine AW_block ?_)
    refine step_tree ?_; (apply m_call (hown)); (· repeat (first | exact lends_nil | (refine lends_cons ?_ ?_; (· (refine lend_ints ?_; first | rfl | omega)))))
    repeat (first | (refine step_tree ?_; (first | (refine m_mov (by conv => lhs; whnf) ?_) | (refine m_eql rfl rfl ?_) | (refine m_len_ro rfl ?_) | (apply m_ld_pt; (· rfl); (· rfl); (· rfl)) | (refine m_fa rfl ?_))) | refine end_tree ?_ | refine AW_ret ?_ | refine ret_done ?_ | refine ret_then ?_ | refine ret_block ?_)
    exact outs_b rfl
  by_cases h3 : k = 3
  · rw [if_neg h0, if_neg h1, if_neg h2, if_pos h3]
    generalize chs L = O at *
    repeat (first | ((first | refine step_ops ?_ | refine step_tree ?_); (first | (refine m_mov (by conv => lhs; whnf) ?_) | (refine m_eql rfl rfl ?_) | (apply m_ld_pt; (· rfl); (· rfl); (· rfl)) | (refine m_fa rfl ?_))) | refine end_ops ?_ | refine seq_ops ?_ | refine seq_tree ?_ | (refine cond_t rfl ?_ ?_; (· first | rfl | assumption | (refine decide_eq_true ?_; first | assumption | omega) | (refine nt ?_; first | assumption | omega) | (simp [*]; done))) | (refine cond_f rfl ?_ ?_; (· first | rfl | assumption | (refine decide_eq_false ?_; first | assumption | omega) | (refine nf ?_; first | assumption | omega) | (simp [*]; done))) | refine AW_seq ?_ | refine AW_block ?_)
    refine step_tree ?_; (apply m_call (hch)); (· repeat (first | exact lends_nil | (refine lends_cons ?_ ?_; (· (refine lend_ints ?_; first | rfl | omega)))))
    repeat (first | (refine step_tree ?_; (first | (refine m_mov (by conv => lhs; whnf) ?_) | (refine m_eql rfl rfl ?_) | (refine m_len_ro rfl ?_) | (apply m_ld_pt; (· rfl); (· rfl); (· rfl)) | (refine m_fa rfl ?_))) | refine end_tree ?_ | refine AW_ret ?_ | refine ret_done ?_ | refine ret_then ?_ | refine ret_block ?_)
    exact outs_b rfl
  by_cases h4 : k = 4
  · have hi := isClu_4.1 (by rw [h4] at hc; exact hc)
    obtain ⟨n, rfl⟩ := Int.eq_ofNat_of_zero_le hi.1.1
    have hn : n < L.length := by omega
    rw [if_neg h0, if_neg h1, if_neg h2, if_neg h3, if_pos h4, Int.toNat_natCast]
    repeat (first | ((first | refine step_ops ?_ | refine step_tree ?_); (first | (refine m_mov (by conv => lhs; whnf) ?_) | (refine m_gtr rfl rfl ?_) | (refine m_eql rfl rfl ?_) | (refine m_beq rfl rfl ?_) | (refine m_idx1_ro rfl rfl ?_ ?_; (· omega)) | (refine m_ld_rpi rfl ?_ ?_; (· omega)) | (apply m_ld_pt; (· rfl); (· rfl); (· rfl)) | (refine m_fa rfl ?_))) | refine end_ops ?_ | refine seq_ops ?_ | refine end_tree ?_ | refine seq_tree ?_ | (refine cond_t rfl ?_ ?_; (· first | rfl | assumption | (refine decide_eq_true ?_; first | assumption | omega) | (refine nt ?_; first | assumption | omega) | (simp [*]; done))) | (refine cond_f rfl ?_ ?_; (· first | rfl | assumption | (refine decide_eq_false ?_; first | assumption | omega) | (refine nf ?_; first | assumption | omega) | (simp [*]; done))) | refine AW_seq ?_ | refine AW_ret ?_ | refine ret_done ?_ | refine ret_then ?_ | refine AW_block ?_ | refine ret_block ?_)
    refine outs_b ?_
    rw [Bool.false_xor]
  rw [if_neg h0, if_neg h1, if_neg h2, if_neg h3, if_neg h4]
  repeat (first | (refine step_ops ?_; (first | (refine m_mov (by conv => lhs; whnf) ?_) | (refine m_eql rfl rfl ?_) | (apply m_ld_pt; (· rfl); (· rfl); (· rfl)) | (refine m_fa rfl ?_))) | refine end_ops ?_ | refine seq_ops ?_ | (refine cond_f rfl ?_ ?_; (· first | rfl | assumption | (refine decide_eq_false ?_; first | assumption | omega) | (refine nf ?_; first | assumption | omega) | (simp [*]; done))) | refine AW_seq ?_ | refine norm_then ?_ | refine AW_block ?_ | refine norm_block ?_ | refine AW_skip ?_)
  refine step_ops ?_; (apply m_call (htm)); (· repeat (first | exact lends_nil | (refine lends_cons ?_ ?_; (· (refine lend_ints ?_; first | rfl | omega)))))
  repeat (first | (refine step_ops ?_; (first | (refine m_mov (by conv => lhs; whnf) ?_) | (refine m_eql rfl rfl ?_) | (apply m_ld_pt; (· rfl); (· rfl); (· rfl)) | (refine m_ext rfl rfl ?_) | (refine m_fa rfl ?_))) | refine end_ops ?_ | refine seq_ops ?_ | refine AW_ret ?_ | refine ret_done ?_)
  exact outs_b rfl
end Go.Proofs.Yteiipnadhalnbaa
namespace Go.Proofs.Yteiipnadhalnbaa
open Go.Am
attribute [local irreducible] AW Outs Weak Lends Lend Sp aops atree aop1 Then Round InBlock Done
theorem l1Own_spec (L : List Int) (hL : L.length ≤ 1048576) : Sp Try.prog 74 [ints L] (newInts L) := by
  refine spec_of Try.func74 rfl cc74 rfl ?_
  unfold ac74
  repeat (first | (refine step_ops ?_; (first | (refine m_mov (by conv => lhs; whnf) ?_) | (refine m_nils ?_) | (refine m_bsl0 ?_) | (refine m_app1i rfl (by decide) (by rfl) (by first | rfl | omega | (simp; done)) rfl rfl ?_ (by decide) ?_; (· first | omega | (simp; omega))) | (refine m_app1 rfl (by decide) rfl (by first | (simp; done) | (simp [*]; done) | (simp; omega)) rfl rfl rfl ?_ (by decide) ?_; (· first | omega | (simp; omega))) | (refine m_appro rfl (by decide) rfl (by first | rfl | (simp; done) | (simp [*]; done) | (simp; omega)) rfl (oks_ints _) ?_ (by decide) ?_; (· first | omega | (simp; omega))))) | refine end_ops ?_ | refine seq_ops ?_ | refine AW_ops ?_ | refine AW_seq ?_ | refine AW_ret ?_ | refine ret_done ?_ | refine norm_then ?_ | refine ret_then ?_ | refine exit_then ?_)
  exact outs_ints rfl rfl (Nat.zero_add _)
theorem slicesClone_spec (L : List Int) (hL : L.length ≤ 1048576) (h1 : 1 ≤ L.length) : Sp Try.prog 85 [ints L] (newInts L) := by
  refine spec_of Try.func85 rfl cc85 rfl ?_
  unfold ac85
  repeat (first | (refine step_ops ?_; (first | (refine m_mov (by conv => lhs; whnf) ?_) | (refine m_isnil_x rfl ?_) | (refine m_isnil_ro rfl ?_ ?_; (· omega)) | (refine m_isnil_sl rfl ?_ ?_; (· omega)) | (refine m_nils ?_) | (refine m_bsl0 ?_) | (refine m_app1i rfl (by decide) (by rfl) (by first | rfl | omega | (simp; done)) rfl rfl ?_ (by decide) ?_; (· first | omega | (simp; omega))) | (refine m_app1 rfl (by decide) rfl (by first | (simp; done) | (simp [*]; done) | (simp; omega)) rfl rfl rfl ?_ (by decide) ?_; (· first | omega | (simp; omega))) | (refine m_appro rfl (by decide) rfl (by first | rfl | (simp; done) | (simp [*]; done) | (simp; omega)) rfl (oks_ints _) ?_ (by decide) ?_; (· first | omega | (simp; omega))))) | refine end_ops ?_ | refine seq_ops ?_ | refine AW_ops ?_ | (refine cond_t rfl ?_ ?_; (· first | rfl | assumption | (refine decide_eq_true ?_; first | assumption | omega) | (refine nt ?_; first | assumption | omega) | (simp [*]; done))) | (refine cond_f rfl ?_ ?_; (· first | rfl | assumption | (refine decide_eq_false ?_; first | assumption | omega) | (refine nf ?_; first | assumption | omega) | (simp [*]; done))) | refine skip_then ?_ | refine AW_seq ?_ | refine AW_ret ?_ | refine ret_done ?_ | refine norm_then ?_ | refine ret_then ?_ | refine exit_then ?_ | refine AW_skip ?_)
  exact outs_ints rfl rfl (Nat.zero_add _)
end Go.Proofs.Yteiipnadhalnbaa
namespace Go.Am
section
variable (fits : List Int → Nat → Bool) (n : Nat)
/-- All that go on from l by k more, in order. -/
def goOn : Nat → List Int → List (List Int)
  | 0, l => [l]
  | k + 1, l => ((List.range n).filter fun x => fits l x).flatMap fun (x : Nat) => goOn k (l ++ [(x : Int)])
/-- Those whose next is at least g. -/
def goFrom (l : List Int) (g : Nat) : List (List Int) := ((List.range n).filter fun x => decide (g ≤ x) && fits l x).flatMap fun (x : Nat) => goOn fits n (n - l.length - 1) (l ++ [(x : Int)])
/-- What comes behind all that go on from a list (which is told from its end). -/
def goBack : List Int → List (List Int)
  | [] => []
  | x :: r => goFrom fits n r.reverse (x.toNat + 1) ++ goBack r
/-- What a search finds that stands at a list and is to try g next. -/
def goAt (l : List Int) (g : Nat) : List (List Int) := (if l.length = n then [l] else goFrom fits n l g) ++ goBack fits n l.reverse
theorem range_split (p : Nat → Bool) (g : Nat) : ∀ n, g < n → (List.range n).filter (fun x => decide (g ≤ x) && p x) = (if p g then [g] else []) ++ (List.range n).filter (fun x => decide (g + 1 ≤ x) && p x)
  | 0, h => by omega
  | n + 1, h => by
    rw [List.range_succ, List.filter_append, List.filter_append]
    by_cases hg : g < n
    · rw [range_split p g n hg, List.append_assoc]
      congr 2
      have h1 : decide (g ≤ n) = true := decide_eq_true (by omega)
      have h2 : decide (g + 1 ≤ n) = true := decide_eq_true (by omega)
      simp only [List.filter_cons, List.filter_nil, h1, h2]
    · obtain rfl : g = n := by omega
      have e1 : (List.range g).filter (fun x => decide (g ≤ x) && p x) = [] := List.filter_eq_nil_iff.2 fun x hx => by have := List.mem_range.1 hx; simp; omega
      have e2 : (List.range g).filter (fun x => decide (g + 1 ≤ x) && p x) = [] := List.filter_eq_nil_iff.2 fun x hx => by have := List.mem_range.1 hx; simp; omega
      rw [e1, e2]
      have h2 : decide (g + 1 ≤ g) = false := decide_eq_false (by omega)
      have h1 : decide (g ≤ g) = true := decide_eq_true (by omega)
      simp only [List.filter_cons, List.filter_nil, List.nil_append, h1, h2]
      simp
theorem goFrom_step {l : List Int} {g : Nat} (hg : g < n) : goFrom fits n l g = (if fits l g then goOn fits n (n - l.length - 1) (l ++ [(g : Int)]) else []) ++ goFrom fits n l (g + 1) := by
  unfold goFrom
  rw [range_split (fits l) g n hg, List.flatMap_append]
  split <;> simp
theorem goFrom_end {l : List Int} {g : Nat} (hg : n ≤ g) : goFrom fits n l g = [] := by
  unfold goFrom
  rw [List.filter_eq_nil_iff.2 fun x hx => by have := List.mem_range.1 hx; simp; omega]
  rfl
theorem goOn_from {l : List Int} (h : l.length < n) : goOn fits n (n - l.length) l = goFrom fits n l 0 := by
  obtain ⟨k, hk⟩ : ∃ k, n - l.length = k + 1 := ⟨n - l.length - 1, by omega⟩
  unfold goFrom
  rw [hk]
  simp [goOn]
theorem goAt_full {l : List Int} {g : Nat} (h : l.length = n) : (goAt fits n l g).head? = some l := by
  simp [goAt, h]
theorem goAt_take {l : List Int} {g : Nat} (h : l.length < n) (hg : g < n) (hf : fits l g = true) : goAt fits n (l ++ [(g : Int)]) 0 = goAt fits n l g := by
  have hne : ¬ l.length = n := by omega
  unfold goAt
  rw [if_neg hne, goFrom_step fits n hg, if_pos hf, List.reverse_append, List.reverse_singleton, List.singleton_append, goBack, List.reverse_reverse, Int.toNat_natCast, List.append_assoc]
  congr 1
  by_cases h1 : l.length + 1 = n
  · have e : n - l.length - 1 = 0 := by omega
    rw [if_pos (by simpa using h1), e]
    rfl
  · have e : n - l.length - 1 = n - (l ++ [(g : Int)]).length := by simp; omega
    rw [if_neg (by simpa using h1), e, goOn_from fits n (by simp; omega)]
theorem goAt_skip {l : List Int} {g : Nat} (h : l.length < n) (hg : g < n) (hf : fits l g = false) : goAt fits n l (g + 1) = goAt fits n l g := by
  have hne : ¬ l.length = n := by omega
  unfold goAt
  rw [if_neg hne, if_neg hne, goFrom_step fits n hg, hf]
  simp
theorem goAt_none {g : Nat} (h : 0 < n) (hg : n ≤ g) : goAt fits n [] g = [] := by
  unfold goAt
  rw [if_neg (by simp; omega), goFrom_end fits n hg]
  rfl
theorem goAt_back {l : List Int} {x : Int} {g : Nat} (h : l.length + 1 < n) (hg : n ≤ g) : goAt fits n (l ++ [x]) g = goAt fits n l (x.toNat + 1) := by
  unfold goAt
  rw [if_neg (by simp; omega), if_neg (by omega), goFrom_end fits n hg, List.reverse_append, List.reverse_singleton, List.singleton_append, goBack, List.reverse_reverse]
  rfl
theorem goAt_start (h : 0 < n) : goAt fits n [] 0 = goOn fits n n [] := by
  have := goOn_from fits n (l := []) (by simpa using h)
  simp only [List.length_nil, Nat.sub_zero] at this
  unfold goAt
  rw [if_neg (by simp; omega), this]
  simp [goBack]
end
/-- How long a search may go on. -/
def goW (n : Nat) : Nat → Nat
  | 0 => 0
  | j + 1 => n * goW n j + 2
def goM (n : Nat) : List Int → Nat
  | [] => 0
  | x :: r => (n - (x.toNat + 1)) * goW n (n - r.length) + 1 + goM n r
def goMeas (n : Nat) (l : List Int) (g : Nat) : Nat := (n - g) * goW n (n - l.length) + goM n l.reverse
theorem goMeas_take {n : Nat} {l : List Int} {g : Nat} (h : l.length < n) (hg : g < n) : goMeas n (l ++ [(g : Int)]) 0 < goMeas n l g := by
  obtain ⟨k, hk⟩ : ∃ k, n - l.length = k + 1 := ⟨n - l.length - 1, by omega⟩
  have hk2 : n - (l ++ [(g : Int)]).length = k := by simp; omega
  obtain ⟨q, hq⟩ : ∃ q, n - g = q + 1 := ⟨n - g - 1, by omega⟩
  have hq2 : n - (g + 1) = q := by omega
  unfold goMeas
  rw [List.reverse_append, List.reverse_singleton, List.singleton_append, goM, List.length_reverse, Int.toNat_natCast, hk2, hk, hq, hq2, Nat.sub_zero, Nat.add_mul, Nat.one_mul]
  have : goW n (k + 1) = n * goW n k + 2 := rfl
  omega
theorem goMeas_skip {n : Nat} {l : List Int} {g : Nat} (h : l.length < n) (hg : g < n) : goMeas n l (g + 1) < goMeas n l g := by
  obtain ⟨k, hk⟩ : ∃ k, n - l.length = k + 1 := ⟨n - l.length - 1, by omega⟩
  obtain ⟨q, hq⟩ : ∃ q, n - g = q + 1 := ⟨n - g - 1, by omega⟩
  have hq2 : n - (g + 1) = q := by omega
  unfold goMeas
  rw [hk, hq, hq2, Nat.add_mul, Nat.one_mul]
  have : goW n (k + 1) = n * goW n k + 2 := rfl
  omega
theorem goMeas_back {n : Nat} {l : List Int} {x : Int} {g : Nat} (hg : n ≤ g) : goMeas n l (x.toNat + 1) < goMeas n (l ++ [x]) g := by
  have h0 : n - g = 0 := by omega
  unfold goMeas
  rw [List.reverse_append, List.reverse_singleton, List.singleton_append, goM, List.length_reverse, h0, Nat.zero_mul]
  omega
/-- Does a list come before another? -/
def comesB : List Int → List Int → Bool
  | [], _ => false
  | _ :: _, [] => false
  | a :: l, b :: m => if a = b then comesB l m else decide (a < b)
theorem comesB_append (p : List Int) (l m : List Int) : comesB (p ++ l) (p ++ m) = comesB l m := by
  induction p with
  | nil => rfl
  | cons a p ih => simp [comesB, ih]
theorem comesB_self (l : List Int) : comesB l l = false := by
  induction l with
  | nil => rfl
  | cons a l ih => simp [comesB, ih]
section
variable (fits : List Int → Nat → Bool) (n : Nat)
theorem goOn_shape : ∀ (k : Nat) (l x : List Int), x ∈ goOn fits n k l → ∃ m, x = l ++ m ∧ m.length = k
  | 0, l, x, h => ⟨[], by simpa [goOn] using h, rfl⟩
  | k + 1, l, x, h => by
    simp only [goOn, List.mem_flatMap] at h
    obtain ⟨y, _, hx⟩ := h
    obtain ⟨m, rfl, hm⟩ := goOn_shape k _ _ hx
    exact ⟨(y : Int) :: m, by simp, by simp [hm]⟩
/-- All that go on behind a lesser next come before; behind a greater one, behind. -/
theorem find_less {k : Nat} {l : List Int} {x : Nat} {b : Int} {t : List Int} (h : (x : Int) < b) : (goOn fits n k (l ++ [(x : Int)])).find? (fun m => comesB (l ++ b :: t) m) = none := by
  rw [List.find?_eq_none]
  intro m hm
  obtain ⟨r, rfl, _⟩ := goOn_shape fits n _ _ _ hm
  rw [List.append_assoc, comesB_append]
  have h1 : ¬ b = (x : Int) := by omega
  have h2 : ¬ b < (x : Int) := by omega
  simp [comesB, h1, h2]
theorem find_more {k : Nat} {l : List Int} {x : Nat} {b : Int} {t : List Int} (h : b < (x : Int)) : (goOn fits n k (l ++ [(x : Int)])).find? (fun m => comesB (l ++ b :: t) m) = (goOn fits n k (l ++ [(x : Int)])).head? := by
  have hall : ∀ m ∈ goOn fits n k (l ++ [(x : Int)]), comesB (l ++ b :: t) m = true := by
    intro m hm
    obtain ⟨r, rfl, _⟩ := goOn_shape fits n _ _ _ hm
    rw [List.append_assoc, comesB_append]
    have h1 : ¬ b = (x : Int) := by omega
    simp [comesB, h1, h]
  cases hg : goOn fits n k (l ++ [(x : Int)]) with
  | nil => rfl
  | cons m ms => simp [hall m (by rw [hg]; simp)]
end
theorem range_three (p : Nat → Bool) (g : Nat) : ∀ n, g < n → (List.range n).filter p = (List.range g).filter p ++ ((if p g then [g] else []) ++ (List.range n).filter (fun x => decide (g + 1 ≤ x) && p x))
  | 0, h => by omega
  | n + 1, h => by
    rw [List.range_succ, List.filter_append, List.filter_append]
    by_cases hg : g < n
    · rw [range_three p g n hg, List.append_assoc, List.append_assoc]
      congr 3
      have h2 : decide (g + 1 ≤ n) = true := decide_eq_true (by omega)
      simp only [List.filter_cons, List.filter_nil, h2, Bool.true_and]
    · obtain rfl : g = n := by omega
      have e2 : (List.range g).filter (fun x => decide (g + 1 ≤ x) && p x) = [] := List.filter_eq_nil_iff.2 fun x hx => by have := List.mem_range.1 hx; simp; omega
      have h2 : decide (g + 1 ≤ g) = false := decide_eq_false (by omega)
      rw [e2]
      simp only [List.filter_cons, List.filter_nil, List.nil_append, h2]
      simp
theorem findSome_congr {α β : Type} {f g : α → Option β} : ∀ {l : List α}, (∀ x ∈ l, f x = g x) → l.findSome? f = l.findSome? g
  | [], _ => rfl
  | a :: l, h => by
    simp only [List.findSome?_cons]
    rw [h a (by simp), findSome_congr fun x hx => h x (by simp [hx])]
section
variable (fits : List Int → Nat → Bool) (n : Nat)
theorem goFrom_head (l : List Int) (g : Nat) : (goFrom fits n l g).head? = ((List.range n).filter fun x => decide (g ≤ x) && fits l x).findSome? fun (x : Nat) => (goOn fits n (n - l.length - 1) (l ++ [(x : Int)])).head? := by
  unfold goFrom
  rw [List.head?_flatMap]
theorem find_next {k g : Nat} {l t : List Int} (hg : g < n) (hk : n - l.length = k + 1) : (goOn fits n (k + 1) l).find? (fun m => comesB (l ++ (g : Int) :: t) m) =
    (if fits l g then (goOn fits n k (l ++ [(g : Int)])).find? (fun m => comesB (l ++ (g : Int) :: t) m) else none).or (goFrom fits n l (g + 1)).head? := by
  have hk2 : n - l.length - 1 = k := by omega
  rw [goFrom_head, goOn, List.find?_flatMap, range_three _ g n hg, List.findSome?_append, List.findSome?_append, hk2]
  have e1 : ((List.range g).filter fun x => fits l x).findSome? (fun (x : Nat) => (goOn fits n k (l ++ [(x : Int)])).find? fun m => comesB (l ++ (g : Int) :: t) m) = none := by
    rw [List.findSome?_eq_none_iff]
    intro x hx
    have := List.mem_range.1 (List.mem_filter.1 hx).1
    exact find_less fits n (by omega)
  rw [e1, Option.none_or]
  congr 1
  · split <;> simp
  · refine findSome_congr fun x hx => ?_
    have := (List.mem_filter.1 hx).2
    simp only [Bool.and_eq_true, decide_eq_true_eq] at this
    exact find_more fits n (by omega)
/-- The first that comes behind a list: where its own beginning goes no further, a search that begins there finds it. -/
theorem find_behind {L : List Int} (hL : L.length = n) (hb : ∀ i < n, ∃ g : Nat, L.getD i 0 = g ∧ g < n) {kept : Nat} (hk : kept < n) (hf : ∀ i < kept, fits (L.take i) (L.getD i 0).toNat = true)
    (he : fits (L.take kept) (L.getD kept 0).toNat = false ∨ kept + 1 = n) : (goOn fits n n []).find? (fun m => comesB L m) = (goAt fits n (L.take kept) ((L.getD kept 0).toNat + 1)).head? := by
  have step : ∀ i, i < n → (goOn fits n (n - i) (L.take i)).find? (fun m => comesB L m) =
      (if fits (L.take i) (L.getD i 0).toNat then (goOn fits n (n - (i + 1)) (L.take (i + 1))).find? (fun m => comesB L m) else none).or (goFrom fits n (L.take i) ((L.getD i 0).toNat + 1)).head? := by
    intro i hi
    obtain ⟨g, hg, hgn⟩ := hb i hi
    have hlen : (L.take i).length = i := List.length_take_of_le (by omega)
    have hsp : L = L.take i ++ (g : Int) :: L.drop (i + 1) := by
      have h1 := take_snoc L i 0 (by omega)
      have h2 := List.take_append_drop (i + 1) L
      rw [h1, hg, List.append_assoc] at h2
      exact h2.symm
    have h1 := find_next fits n (k := n - (i + 1)) (g := g) (l := L.take i) (t := L.drop (i + 1)) hgn (by omega)
    rw [← hsp] at h1
    have e : n - (i + 1) + 1 = n - i := by omega
    rw [e] at h1
    rw [take_snoc L i 0 (by omega), hg, Int.toNat_natCast]
    exact h1
  have key : ∀ i, i ≤ kept → (goOn fits n n []).find? (fun m => comesB L m) = ((goOn fits n (n - i) (L.take i)).find? (fun m => comesB L m)).or (goBack fits n (L.take i).reverse).head? := by
    intro i
    induction i with
    | zero => intro _; simp [goBack]
    | succ i ih =>
      intro hi
      have h1 := hf i (by omega)
      rw [ih (by omega), step i (by omega), if_pos h1, Option.or_assoc]
      congr 1
      rw [take_snoc L i 0 (by omega), List.reverse_append, List.reverse_singleton, List.singleton_append, goBack, List.reverse_reverse, List.head?_append]
  have hlen : (L.take kept).length = kept := List.length_take_of_le (by omega)
  have hnone : (if fits (L.take kept) (L.getD kept 0).toNat then (goOn fits n (n - (kept + 1)) (L.take (kept + 1))).find? (fun m => comesB L m) else none) = none := by
    split
    · rename_i hh
      rcases he with he | he
      · rw [he] at hh; cases hh
      · have e : n - (kept + 1) = 0 := by omega
        rw [e, List.take_of_length_le (by omega)]
        simp [goOn, comesB_self]
    · rfl
  have hne : ¬ (L.take kept).length = n := by omega
  rw [key kept (Nat.le_refl _), step kept hk, hnone, Option.none_or, goAt, if_neg hne, List.head?_append]
end
end Go.Am
namespace Go.Am
theorem pig_le1 : ∀ (l m : List Int), l.Nodup → (∀ x ∈ l, x ∈ m) → l.length ≤ m.length
  | [], _, _, _ => Nat.zero_le _
  | a :: l, m, hn, hs => by
    have ha := hs a (List.mem_cons_self ..)
    have hn' := List.nodup_cons.1 hn
    have h := pig_le1 l (m.erase a) hn'.2 fun x hx => (List.mem_erase_of_ne fun e => hn'.1 (by rw [← e]; exact hx)).2 (hs x (List.mem_cons_of_mem _ hx))
    have hl := List.length_erase_of_mem ha
    have hp := List.length_pos_of_mem ha
    simp only [List.length_cons]
    omega
def facR : Nat → Nat
  | 0 => 1
  | k + 1 => (k + 1) * facR k
theorem sum_leR {α : Type} (f : α → Nat) (b : Nat) : ∀ l : List α, (∀ x ∈ l, f x ≤ b) → (l.map f).sum ≤ l.length * b
  | [], _ => by simp
  | a :: l, h => by
    have h1 := h a (List.mem_cons_self ..)
    have h2 := sum_leR f b l fun x hx => h x (List.mem_cons_of_mem _ hx)
    rw [List.map_cons, List.sum_cons, List.length_cons, Nat.add_mul]
    omega
theorem goOn_fac {fits : List Int → Nat → Bool} {n : Nat} (hf : ∀ l x, fits l x = true → (x : Int) ∉ l) : ∀ (k : Nat) (l : List Int), l.length + k = n → l.Nodup → (∀ y ∈ l, 0 ≤ y ∧ y < (n : Int)) → (goOn fits n k l).length ≤ facR k
  | 0, _, _, _, _ => Nat.le_refl _
  | k + 1, l, hl, hn, hb => by
    have hL : ((List.range n).filter fun x => fits l x).length ≤ k + 1 := by
      have h := pig_le1 (l ++ ((List.range n).filter fun x => fits l x).map fun (x : Nat) => (x : Int)) ((List.range n).map fun (x : Nat) => (x : Int)) ?_ ?_
      · simp only [List.length_append, List.length_map, List.length_range] at h
        omega
      · rw [List.nodup_append]
        refine ⟨hn, ?_, ?_⟩
        · exact List.Pairwise.map _ (fun a b h e => h (by omega)) (List.Pairwise.filter _ List.nodup_range)
        · rintro a ha b hb' rfl
          obtain ⟨x, hx, rfl⟩ := List.mem_map.1 hb'
          exact hf l x (List.mem_filter.1 hx).2 ha
      · intro y hy
        rcases List.mem_append.1 hy with hy | hy
        · have := hb y hy
          exact List.mem_map.2 ⟨y.toNat, List.mem_range.2 (by omega), by omega⟩
        · obtain ⟨x, hx, rfl⟩ := List.mem_map.1 hy
          exact List.mem_map.2 ⟨x, (List.mem_filter.1 hx).1, rfl⟩
    show (((List.range n).filter fun x => fits l x).flatMap fun (x : Nat) => goOn fits n k (l ++ [(x : Int)])).length ≤ (k + 1) * facR k
    rw [List.length_flatMap]
    refine Nat.le_trans (sum_leR _ (facR k) _ fun x hx => ?_) (Nat.mul_le_mul_right _ hL)
    have hx' := List.mem_filter.1 hx
    refine goOn_fac hf k (l ++ [(x : Int)]) (by simp; omega) ?_ ?_
    · rw [List.nodup_append]
      refine ⟨hn, by simp, ?_⟩
      rintro a ha b hb' rfl
      rw [List.mem_singleton] at hb'
      subst hb'
      exact hf l x hx'.2 ha
    · intro y hy
      rcases List.mem_append.1 hy with hy | hy
      · exact hb y hy
      · rw [List.mem_singleton.1 hy]
        have := List.mem_range.1 hx'.1
        omega
/-- What the first nexts give. -/
def partA (fits : List Int → Nat → Bool) (n k : Nat) (l : List Int) (x : Nat) : List (List Int) := ((List.range x).filter fun x => fits l x).flatMap fun (x : Nat) => goOn fits n k (l ++ [(x : Int)])
theorem partA_zero (fits : List Int → Nat → Bool) (n k : Nat) (l : List Int) : partA fits n k l 0 = [] := rfl
theorem partA_succ (fits : List Int → Nat → Bool) (n k : Nat) (l : List Int) (x : Nat) : partA fits n k l (x + 1) = partA fits n k l x ++ (if fits l x then goOn fits n k (l ++ [(x : Int)]) else []) := by
  unfold partA
  rw [List.range_succ, List.filter_append, List.flatMap_append]
  congr 1
  cases h : fits l x <;> simp [h]
theorem partA_all (fits : List Int → Nat → Bool) (n k : Nat) (l : List Int) : partA fits n k l n = goOn fits n (k + 1) l := rfl
theorem partA_mono (fits : List Int → Nat → Bool) (n k : Nat) (l : List Int) {x y : Nat} (h : x ≤ y) : (partA fits n k l x).length ≤ (partA fits n k l y).length := by
  induction y with
  | zero => obtain rfl : x = 0 := by omega
            exact Nat.le_refl _
  | succ y ih =>
    by_cases e : x = y + 1
    · subst e; exact Nat.le_refl _
    · rw [partA_succ, List.length_append]
      have := ih (by omega)
      omega
end Go.Am
namespace Go.Am
/-- What goes on has no number twice. -/
theorem goOn_pm {fits : List Int → Nat → Bool} {n : Nat} (hf : ∀ l x, fits l x = true → (x : Int) ∉ l) : ∀ (k : Nat) (l : List Int), l.Nodup → (∀ y ∈ l, 0 ≤ y ∧ y < (n : Int)) → ∀ m ∈ goOn fits n k l, m.Nodup ∧ (∀ y ∈ m, 0 ≤ y ∧ y < (n : Int)) ∧ m.length = l.length + k
  | 0, l, hn, hb, m, hm => by
    have : m = l := by simpa [goOn] using hm
    subst this
    exact ⟨hn, hb, rfl⟩
  | k + 1, l, hn, hb, m, hm => by
    obtain ⟨x, hx, hm⟩ := List.mem_flatMap.1 hm
    have hx' := List.mem_filter.1 hx
    obtain ⟨h1, h2, h3⟩ := goOn_pm hf k (l ++ [(x : Int)]) (by
      rw [List.nodup_append]
      refine ⟨hn, by simp, ?_⟩
      rintro a ha b hb' rfl
      rw [List.mem_singleton] at hb'
      subst hb'
      exact hf l x hx'.2 ha) (fun y hy => by
      rcases List.mem_append.1 hy with hy | hy
      · exact hb y hy
      · rw [List.mem_singleton.1 hy]
        have := List.mem_range.1 hx'.1
        omega) m hm
    refine ⟨h1, h2, ?_⟩
    rw [h3]
    simp
    omega
end Go.Am
namespace Go.Am
variable {P : Program} {own : Bool} {N : Nat} {s : AS} {K : AS → Prop} {d : Option Nat}
/-- The end of a function that is given regions. -/
def DoneT (ts : List Nat) (res : AV) (hin hout : Hp) : Exit → AS → Prop
  | .normal, s | .ret, s => ∃ g : Nat → Nat, resAV s ts = renV g res ∧ (∀ r c, hout r = some c → ∃ c0, s.hp (g r) = some c0 ∧ (c0 = renR g c ∨ (c.2 = [] ∧ c0.2 = []))) ∧ (∀ r, (hin r).isSome = true → r < gvb → g r = r ∧ (hout r).isSome = true) ∧
      (∀ r, (hout r).isSome = true → hin r = none → g r < pbase) ∧ (∀ r r', (hout r).isSome = true → (hout r').isSome = true → g r = g r' → r = r') ∧ ∀ r, (hout r).isSome = true → r < gvb
  | _, _ => False
theorem specT_of {f : FuncId} {fn : Func} {code : Code} {ac : ACode} {ts : List Nat} {asx : List AV} {hin hout : Hp} {res : AV} (hf : P.funcs[f]? = some fn) (hb : fn.body = some code) (hc : ccode P (min fn.ntmps pbase) code = some ac) (hr : resTmps fn = some ts)
    (hst : Static hin res hout) (s0 : AS) (hw : Weak (enterH asx hin) s0) (h : AW P (min fn.ntmps pbase) ac s0 (DoneT ts res hin hout)) : SpG P f asx hin res hout := by
  intro w vs phi hg hgb hinj hregs hs hl
  refine calls_of_wp hf hb (wp_mono (AW_weak hw h code hc w _ _ w ⟨rfl, _, _, enterH_sim hg hgb hst.pb hinj hregs hs hl⟩) fun e a' w' hA => ?_)
  obtain ⟨s', h1, hf', phi', ro, hS⟩ := hA
  have fin : (∃ g : Nat → Nat, resAV s' ts = renV g res ∧ (∀ r c, hout r = some c → ∃ c0, s'.hp (g r) = some c0 ∧ (c0 = renR g c ∨ (c.2 = [] ∧ c0.2 = []))) ∧ (∀ r, (hin r).isSome = true → r < gvb → g r = r ∧ (hout r).isSome = true) ∧
      (∀ r, (hout r).isSome = true → hin r = none → g r < pbase) ∧ (∀ r r', (hout r).isSome = true → (hout r').isSome = true → g r = g r' → r = r') ∧ ∀ r, (hout r).isSome = true → r < gvb) → a'.defers = [] ∧ ∃ v, (results fn a'.tmps).run P w' = .ok v w' ∧
      ∃ v' phi', Ending.returned v = .returned v' ∧ w'.os = w.os ∧ w'.tape = w.tape ∧ w'.output = w.output ∧ w.heap.size ≤ w'.heap.size ∧
      (∀ r, (hin r).isSome = true → r < gvb → phi' r = phi r) ∧ (∀ b, b < w.heap.size → (∀ r, (hin r).isSome = true → phi r ≠ some b) → w'.heap[b]? = w.heap[b]?) ∧
      (∀ (b : Nat) (cur : Array Value) (e : TypeId) (f : Nat × Nat), w.heap[b]? = some (.cells cur e f) → ∃ cur' : Array Value, w'.heap[b]? = some (.cells cur' e f) ∧ cur'.size = cur.size) ∧
      Inj hout phi' ∧ (∀ r b, (hout r).isSome = true → hin r = none → phi' r = some b → w.heap.size ≤ b ∨ ∃ r', gvb ≤ r' ∧ (hin r').isSome = true ∧ phi r' = some b) ∧ Regs (ctxX w w' phi' hout) hout ∧ SimV res (ctxX w w' phi' hout) v' := by
    rintro ⟨g, hres, hhas, hstay, hfresh, hgi, hltg⟩
    have hlv : ∀ r, (hout r).isSome = true → (s'.hp (g r)).isSome = true := by
      intro r hr
      obtain ⟨c, hc⟩ := Option.isSome_iff_exists.1 hr
      obtain ⟨c0, h1, _⟩ := hhas r c hc
      rw [h1]; rfl
    have hvt : SimV (resAV s' ts) (ctx w w' ro phi' s') (resVal a'.tmps ts) := simv_res hS ts
    rw [hres] at hvt
    refine ⟨hf', _, run_results hr a'.tmps w' P, _, fun r => phi' (g r), rfl, hS.os, hS.tape, hS.output, hS.size, fun r hr hlt => ?_, fun b hb hne => hS.kept b hb fun r hr => ?_, hS.shp, ?_, ?_, ?_, ?_⟩
    · obtain ⟨e1, e2⟩ := hstay r hr hlt
      obtain ⟨c, hc⟩ := Option.isSome_iff_exists.1 e2
      obtain ⟨c0, hh, _⟩ := hhas r c hc
      rw [e1] at hh
      show phi' (g r) = phi r
      rw [e1]
      rcases hS.liv r _ hh with ⟨k1, _, k3⟩ | ⟨b, cur, e', k1, _, _, k4, _⟩ | ⟨b, o, _, k1, _, _, _, k4⟩
      case inr.inr =>
        rcases k4 with k4 | k4
        · have := hst.pb r hr; omega
        · have k5 := k4.2
          simp only [hr, if_true] at k5
          rw [k1, k5]
      · have k5 := k3 (hst.pb r hr)
        simp only [hr, if_true] at k5
        rw [k1, k5]
      · rcases k4 with k4 | k4
        · have := hst.pb r hr; omega
        · have k5 := k4.2
          simp only [hr, if_true] at k5
          rw [k1, k5]
    · split at hr
      · rename_i hrs; exact hne r hrs hr
      · cases hr
    · intro r r' b h1 h2 h3 h4
      exact hgi r r' h1 h2 (hS.inj _ _ b (hlv r h1) (hlv r' h2) h3 h4)
    · intro r b h1 h2 h3
      obtain ⟨c, hc⟩ := Option.isSome_iff_exists.1 h1
      have hlt := hfresh r h1 h2
      obtain ⟨c0, hh0, _⟩ := hhas r c hc
      have key : Mine w (fun r => if (hin r).isSome = true then phi r else none) b → w.heap.size ≤ b ∨ ∃ r', gvb ≤ r' ∧ (hin r').isSome = true ∧ phi r' = some b := by
        rintro (k | ⟨r', k1, k2⟩)
        · exact .inl k
        · by_cases hi : (hin r').isSome = true
          · simp only [hi, if_true] at k2
            exact .inr ⟨r', k1, hi, k2⟩
          · simp only [hi, Bool.false_eq_true, if_false] at k2
            cases k2
      rcases hS.liv _ _ hh0 with ⟨k1, _⟩ | ⟨b', _, _, k1, _, _, k4, _⟩ | ⟨b', _, _, k1, _, _, _, k4⟩
      · have h3' : phi' (g r) = some b := h3
        rw [k1] at h3'; cases h3'
      case inr.inr =>
        have h3' : phi' (g r) = some b := h3
        rw [k1] at h3'; cases h3'
        rcases k4 with k4 | k4
        · exact key k4.2
        · omega
      · have h3' : phi' (g r) = some b := h3
        rw [k1] at h3'; cases h3'
        rcases k4 with k4 | k4
        · exact key k4.2
        · omega
    · intro r c hc
      obtain ⟨ho, hrf⟩ := hst.own r c hc
      obtain ⟨c0, hh0, hc0⟩ := hhas r c hc
      rcases hS.liv _ _ hh0 with ⟨k1, k2, _⟩ | ⟨b, cur, e', k1, k2, _, _, k5⟩ | ⟨b, o, h0, k1, k2, k3, _⟩
      case inr.inr =>
        rcases hc0 with rfl | hc0
        · exact .inr (.inr ⟨b, o, renR_ob h0, k1, k2, k3⟩)
        · rw [h0] at hc0; simp at hc0
      · refine .inl ⟨k1, ?_⟩
        rcases hc0 with rfl | hc0
        · obtain ⟨fl, cs⟩ := c
          simp only [renR, renL_map] at k2
          exact List.map_eq_nil_iff.1 k2
        · exact hc0.1
      · rcases hc0 with rfl | hc0
        case inr => exact .inr (.inl ⟨b, cur, e', k1, k2, by unfold SimR; rw [hc0.1]; simp [SimL]⟩)
        refine .inr (.inl ?_)
        exact ⟨b, cur, e', k1, k2, simR_in (q := false) (C := ctxX w w' (fun r => phi' (g r)) hout) (D := ctx w w' ro phi' s') rfl (fun e => by cases e) (fun _ => rfl) (fun _ r _ => rfl) ho hrf k5⟩
    · exact simV_in false g (ctxX w w' (fun r => phi' (g r)) hout) (ctx w w' ro phi' s') rfl (fun e => by cases e) (fun _ => rfl) (fun _ r _ => rfl) res _ hst.res.1 hst.res.2 hvt
  cases e with
  | normal => exact fin h1
  | ret => exact fin h1
  | exit id => exact h1.elim
  | goto l => exact h1.elim
  | panic c => exact h1.elim
  | outgrown => exact h1.elim
/-- A call that regions are given to. -/
theorem m_callG {f : FuncId} {args : List Opd} {asx : List AV} {hin hout hp' : Hp} {res : AV} (g : Nat → Nat) (p : Nat → Bool) (hs : SpG P f asx hin res hout) (ha : LendsH s.hp g hin (args.map s.ev) asx) (hG : Given s p g hin hout hp' res)
    (k : K (AS.put ⟨(s.drop p).tm, hp'⟩ d (renV g res))) : aop1 P true ⟨d, .call f args, none⟩ s K := .inr (.inr (.inr (.inl ⟨rfl, asx, hin, res, hout, g, p, hp', hs, ha, hG, k⟩)))
/-- Names on both sides of forgetting; what was given may become a region of the call's own. -/
def nameOk (r q : Nat) : Prop := (r < pbase ∧ q < pbase) ∨ (pbase ≤ r ∧ q = r) ∨ (r < pbase ∧ gvb ≤ q)
/-- THE RULE OF FORGETTING, where what was given becomes the call's own. -/
theorem weak_ren3 {s s' : AS} (f : Nat → Nat) (htm : ∀ t, s'.tm t = .any ∨ s.tm t = renV f (s'.tm t)) (hhp : ∀ r c', s'.hp r = some c' → ∃ c, s.hp (f r) = some c ∧ cellsRen f c c')
    (hinj : ∀ r r', (s'.hp r).isSome = true → (s'.hp r').isSome = true → f r = f r' → r = r') (hpb : ∀ r, (s'.hp r).isSome = true → nameOk r (f r))
    (href : ∀ t, refsV (fun r => (s'.hp r).isSome) (s'.tm t) = true) (hrefh : ∀ r cs, s'.hp r = some (false, cs) → refsL (fun r => (s'.hp r).isSome) cs = true) : Weak s s' := by
  intro w0 mu N a w hS
  obtain ⟨hf, phi, ro, hS⟩ := hS
  have hlive : ∀ r, (s'.hp r).isSome = true → (s.hp (f r)).isSome = true := by
    intro r hr
    obtain ⟨c, hc⟩ := Option.isSome_iff_exists.1 hr
    obtain ⟨c0, h1, _⟩ := hhp r c hc
    rw [h1]; rfl
  have hgp : pbase ≤ gvb := by decide
  have hown : ∀ r b, nameOk r (f r) → (f r < pbase ∧ Mine w0 mu b ∨ pbase ≤ f r ∧ mu (f r) = some b) → (r < pbase ∧ Mine w0 mu b ∨ pbase ≤ r ∧ mu r = some b) := by
    intro r b hp k4
    rcases hp with ⟨h3, h4⟩ | ⟨h3, h4⟩ | ⟨h3, h4⟩
    · rcases k4 with k4 | k4
      · exact .inl ⟨h3, k4.2⟩
      · omega
    · rcases k4 with k4 | k4
      · omega
      · exact .inr ⟨h3, by rw [← h4]; exact k4.2⟩
    · rcases k4 with k4 | k4
      · omega
      · exact .inl ⟨h3, .inr ⟨_, h4, k4.2⟩⟩
  refine ⟨hf, fun r => phi (f r), ro, { hS with
    inj := fun r r' b h1 h2 h3 h4 => hinj r r' h1 h2 (hS.inj _ _ b (hlive r h1) (hlive r' h2) h3 h4)
    liv := fun r c hc => ?_
    tms := fun t => ?_ }⟩
  · obtain ⟨c0, h1, h2⟩ := hhp r c hc
    have hp := hpb r (by rw [hc]; rfl)
    rcases hS.liv _ _ h1 with ⟨k1, k2, k3⟩ | ⟨b, cur, e, k1, k2, k3, k4, k5⟩ | ⟨b, o, rfl, k1, k2, k0, k3, k4⟩
    case inr.inr =>
      refine .inr (.inr ⟨b, o, ?_, k1, k2, k0, k3, hown r b hp k4⟩)
      obtain ⟨fl, cs⟩ := c
      rcases h2 with ⟨h3, h4⟩ | ⟨h3, h4⟩
      · simp only at h3 h4
        rw [h3]; exact h4.symm
      · simp only at h3
        rcases h4 with h4 | ⟨_, h4⟩ | ⟨h4, h5⟩
        · cases h4
        · simp at h4
        · simp only [Prod.mk.injEq, true_and] at h4
          rw [← h4] at h5
          simp [plainV] at h5
    · refine .inl ⟨k1, ?_, fun hge => ?_⟩
      · rcases h2 with ⟨_, rfl⟩ | ⟨_, rfl | ⟨h3, _⟩ | ⟨rfl, _⟩⟩
        · exact k2
        · simp only [renL_map] at k2
          exact List.map_eq_nil_iff.1 k2
        · exact h3
        · exact k2
      · rcases hp with ⟨h3, _⟩ | ⟨_, h3⟩ | ⟨h3, _⟩
        · omega
        · rw [h3] at k3; exact k3 hge
        · omega
    · refine .inr (.inl ⟨b, cur, e, k1, k2, k3, hown r b hp k4, ?_⟩)
      obtain ⟨fl, cs⟩ := c
      rcases h2 with ⟨h3, h4⟩ | ⟨h3, h4⟩
      · simp only at h3 h4
        subst h3; subst h4
        simp only [SimR, if_true] at k5 ⊢
        exact simL_out_any (ctx w0 w ro phi s) (ctx w0 w ro (fun r => phi (f r)) s') rfl rfl rfl _ _ k5
      · simp only at h3 h4
        subst h3
        simp only [SimR, Bool.false_eq_true, if_false]
        rcases h4 with rfl | ⟨h5, h6⟩ | ⟨rfl, h5⟩
        · simp only [SimR, Bool.false_eq_true, if_false] at k5
          exact simL_ren f (ctx w0 w ro (fun r => phi (f r)) s') (ctx w0 w ro phi s) rfl rfl rfl rfl (fun _ _ => rfl) cs _ (hrefh r cs hc) k5
        · rw [h5]; simp [SimL]
        · simp only [SimR, if_true] at k5
          exact simL_allv h5 k5
  · rcases htm t with h1 | h1
    · rw [h1]; simp [SimV]
    · have h2 := hS.tms t
      rw [h1] at h2
      exact simV_ren f (ctx w0 w ro (fun r => phi (f r)) s') (ctx w0 w ro phi s) rfl rfl rfl rfl (fun _ _ => rfl) _ _ (href t) h2
/-- A state with regions of a finite list, and rows. -/
def stG (l : List (Nat × AV)) (h : List (Nat × (Bool × List AV))) (b : Nat) (rows : List (List Int)) : AS := ⟨fun t => (look l t).getD .any, famH (look h) b rows⟩
/-- Forgetting, to such a state. -/
theorem weak_G {l : List (Nat × AV)} {h : List (Nat × (Bool × List AV))} {b : Nat} {rows : List (List Int)} (F : Nat → Nat) (hl : HasF s F l) (hh : HasJ s F h)
    (hrow : ∀ j, j < rows.length → s.hp (F (b + j)) = some (true, (rows.getD j []).map AV.i))
    (hnd : (h.map fun p => F p.1).Nodup) (hri : ∀ j j', j < rows.length → j' < rows.length → F (b + j) = F (b + j') → j = j') (hdis : ∀ p ∈ h, ∀ j, j < rows.length → F p.1 ≠ F (b + j))
    (hpb : ∀ p ∈ h, nameOk p.1 (F p.1)) (hpr : ∀ j, j < rows.length → nameOk (b + j) (F (b + j)))
    (hr : refsT (fun r => (famH (look h) b rows r).isSome) l = true) (hrh : ∀ p ∈ h, p.2.1 = false → refsL (fun r => (famH (look h) b rows r).isSome) p.2.2 = true) : Weak s (stG l h b rows) := by
  have hcase : ∀ r, (famH (look h) b rows r).isSome = true → r ∈ h.map (·.1) ∨ ∃ j, j < rows.length ∧ r = b + j := by
    intro r hr'
    obtain ⟨c, hc⟩ := Option.isSome_iff_exists.1 hr'
    rcases famH_some hc with h1 | ⟨_, j, h2, h3, _⟩
    · exact .inl (look_isSome.1 (by rw [h1]; rfl))
    · exact .inr ⟨j, h2, h3⟩
  refine weak_ren3 F (fun t => ?_) (fun r c' hc => ?_) (fun r r' h1 h2 e => ?_) (fun r hr' => ?_) (fun t => ?_) (fun r cs hc => ?_)
  · show (look l t).getD .any = .any ∨ s.tm t = renV F ((look l t).getD .any)
    cases hx : look l t with
    | none => exact .inl rfl
    | some x => exact .inr (look_hasF hl hx)
  · rcases famH_some hc with h1 | ⟨_, j, h2, h3, h4⟩
    · exact hh.at (look_mem h1)
    · rw [h3, h4]
      exact ⟨_, hrow j h2, .inl ⟨rfl, rfl⟩⟩
  · rcases hcase r h1 with k1 | ⟨j, k1, rfl⟩
    · rcases hcase r' h2 with k2 | ⟨j', k2, rfl⟩
      · exact look_inj hnd k1 k2 e
      · obtain ⟨p, hp, rfl⟩ := List.mem_map.1 k1
        exact absurd e (hdis p hp j' k2)
    · rcases hcase r' h2 with k2 | ⟨j', k2, rfl⟩
      · obtain ⟨p, hp, rfl⟩ := List.mem_map.1 k2
        exact absurd e.symm (hdis p hp j k1)
      · rw [hri j j' k1 k2 e]
  · rcases hcase r hr' with k1 | ⟨j, k1, rfl⟩
    · obtain ⟨p, hp, rfl⟩ := List.mem_map.1 k1
      exact hpb p hp
    · exact hpr j k1
  · show refsV (fun r => (famH (look h) b rows r).isSome) ((look l t).getD .any) = true
    cases hx : look l t with
    | none => rfl
    | some x => exact look_refs hr hx
  · rcases famH_some hc with h1 | ⟨_, j, _, _, h4⟩
    · exact hrh _ (look_mem h1) rfl
    · cases h4
/-- What a value is to a callee that is lent regions under the names g. -/
def LendH1 (hp : Hp) (g : Nat → Nat) (hin : Hp) (x y : AV) : Prop := ∀ w0 mu N tm w phi ro v, Sim w0 mu N ⟨fun _ => .any, hp⟩ tm w phi ro → SimV x (ctx w0 w ro phi ⟨fun _ => .any, hp⟩) v → SimV y (ctxE w (fun r => phi (g r)) hin) v
theorem lendH_nil {hp : Hp} {g : Nat → Nat} {hin : Hp} : LendsH hp g hin [] [] := fun _ _ _ _ _ _ _ vs _ _ hl => ⟨by simp [SimL], hl⟩
theorem lendH_cons {hp : Hp} {g : Nat → Nat} {hin : Hp} {x y : AV} {xs ys : List AV} (h : LendH1 hp g hin x y) (hs : LendsH hp g hin xs ys) : LendsH hp g hin (x :: xs) (y :: ys) := by
  intro w0 mu N tm w phi ro vs hS hv hl
  cases vs with
  | nil => simp at hl
  | cons v vs =>
    simp only [SimL] at hv
    obtain ⟨h1, h2⟩ := hs w0 mu N tm w phi ro vs hS hv.2 (by simpa using hl)
    exact ⟨⟨h w0 mu N tm w phi ro v hS hv.1, h1⟩, by simpa using h2⟩
theorem lendH_v {hp : Hp} {g : Nat → Nat} {hin : Hp} {c : Value} : LendH1 hp g hin (.v c) (.v c) := fun _ _ _ _ _ _ _ _ _ h => by simpa [SimV] using h
/-- A block that somebody reads is not lent. -/
theorem not_lent {hp : Hp} {g : Nat → Nat} {hin : Hp} (hin1 : ∀ r c, hin r = some c → (hp (g r)).isSome = true) {w0 : World} {mu : Nat → Option Nat} {N : Nat} {tm : Array Value} {w : World} {phi : Nat → Option Nat} {ro : Nat → Prop} (hS : Sim w0 mu N ⟨fun _ => .any, hp⟩ tm w phi ro) {b : Nat} (hb : ro b) :
    b < w.heap.size ∧ ∀ r, (hin r).isSome = true → phi (g r) ≠ some b := by
  refine ⟨hS.rob b hb, fun r hr hp' => ?_⟩
  obtain ⟨c, hc⟩ := Option.isSome_iff_exists.1 hr
  obtain ⟨c', hc'⟩ := Option.isSome_iff_exists.1 (hin1 r c hc)
  rcases hS.liv _ _ hc' with ⟨h1, _⟩ | ⟨b', _, _, h1, _, h2, _⟩ | ⟨b', _, _, h1, _, _, h2, _⟩
  · rw [h1] at hp'; cases hp'
  · rw [h1] at hp'; cases hp'
    exact h2 hb
  · rw [h1] at hp'; cases hp'
    exact h2 hb
theorem lendH_ren {hp : Hp} {g : Nat → Nat} {hin : Hp} {x : AV} (hin1 : ∀ r c, hin r = some c → (hp (g r)).isSome = true) (ho : ownV true x = true) (hr : refsV (fun r => (hin r).isSome) x = true) : LendH1 hp g hin (renV g x) x := by
  intro w0 mu N tm w phi ro v hS hv
  exact simV_in true g (ctxE w (fun r => phi (g r)) hin) (ctx w0 w ro phi ⟨fun _ => .any, hp⟩) rfl (fun _ b hb => not_lent hin1 hS hb) (fun _ => rfl) (fun _ r _ => rfl) x v ho hr hv
/-- A region of mine that is not lent is read. -/
theorem lendH_sl {hp : Hp} {g : Nat → Nat} {hin : Hp} {q : Nat} {M : List Int} (hin1 : ∀ r c, hin r = some c → (hp (g r)).isSome = true) (hq : hp q = some (true, M.map AV.i)) (hne : ∀ r, (hin r).isSome = true → g r ≠ q) : LendH1 hp g hin (.sl q 1 0 M.length) (ints M) := by
  intro w0 mu N tm w phi ro v hS h
  simp only [SimV] at h ⊢
  rcases h.2.2 with ⟨h1, _, h3, h4⟩ | ⟨b, o, cap, cur, e, h1, h2, h3, h4, h5, h6, h7⟩
  · exact .inl ⟨h3, by rw [List.eq_nil_of_length_eq_zero h3]; rfl, none, 0, by rw [h4], by simp⟩
  · by_cases hn : M.length = 0
    · exact .inl ⟨hn, by rw [List.eq_nil_of_length_eq_zero hn]; rfl, some ⟨b, o, none⟩, cap, by rw [h2, hn], by simp⟩
    · have ho : o = 0 := by
        rcases h4 with h4 | h4
        · exact h4
        · exact absurd h4.1 hn
      subst ho
      have h1' : phi q = some b := h1
      have h3' : w.heap[b]? = some (.cells cur e (0, 0)) := h3
      rcases hS.liv q _ hq with ⟨h8, _⟩ | ⟨b', cur', e', h8, h9, h10, h11, h12⟩ | ⟨b', o', _, h8, h9, h10, _⟩
      · rw [h8] at h1'; cases h1'
      case inr.inr => exact ob_not_cells h8 h9 h10 h1 h3
      · rw [h8] at h1'
        cases h1'
        rw [h9] at h3'
        cases h3'
        refine .inr ⟨b, 0, cap, cur, e, (0, 0), h2, h9, ⟨lt_of_get h9, fun r hr hp' => ?_⟩, by simp, h5, by simp, ?_⟩
        · obtain ⟨c, hc⟩ := Option.isSome_iff_exists.1 hr
          exact hne r hr (hS.inj _ _ b (hin1 r c hc) (by show (hp q).isSome = true; rw [hq]; rfl) hp' h8)
        · simp only [SimR, if_true] at h12
          rw [List.drop_zero]
          exact simL_allv (allv_ints M) h12
end Go.Am
namespace Go.Am
theorem ret_doneT {s : AS} {ts : List Nat} {res : AV} {hin hout : Hp} (g : Nat → Nat) (h1 : resAV s ts = renV g res) (h2 : ∀ r c, hout r = some c → ∃ c0, s.hp (g r) = some c0 ∧ (c0 = renR g c ∨ (c.2 = [] ∧ c0.2 = []))) (h3 : ∀ r, (hin r).isSome = true → r < gvb → g r = r ∧ (hout r).isSome = true)
    (h4 : ∀ r, (hout r).isSome = true → hin r = none → g r < pbase) (h5 : ∀ r r', (hout r).isSome = true → (hout r').isSome = true → g r = g r' → r = r') (h6 : ∀ r, (hout r).isSome = true → r < gvb) : DoneT ts res hin hout .ret s := ⟨g, h1, h2, h3, h4, h5, h6⟩
theorem normal_doneT {s : AS} {ts : List Nat} {res : AV} {hin hout : Hp} (h : DoneT ts res hin hout .ret s) : DoneT ts res hin hout .normal s := h
section
attribute [local irreducible] SpH DoneH SpG DoneT
/-- The cell with the lists; they and a list more are given; they are handed out. -/
abbrev tyC (r n : Nat) : Bool × List AV := (false, [.sl r 1 0 n])
def hinA (P R : List (List Int)) : Hp := famH (look [(pbase, tyC gvb P.length), (gvb, (false, rowsC (gvb + 1) P))]) (gvb + 1) R
def houtA (P : List (List Int)) : Hp := famH (look [(pbase, tyC nbase P.length), (nbase, (false, rowsC (nbase + 1) P))]) (nbase + 1) P
def stA (l : List (Nat × AV)) (P R : List (List Int)) : AS := stG l [(pbase, tyC 900 P.length), (900, (false, rowsC 1000 P))] 1000 R
/-- So many lists at most. -/
def mxA : Nat := 1000000
theorem look2 {β : Type} {a b r : Nat} {x y v : β} (h : look [(a, x), (b, y)] r = some v) : (r = a ∧ v = x) ∨ (r = b ∧ v = y) := by
  simp only [look] at h
  split at h
  · exact .inl ⟨by assumption, (Option.some.inj h).symm⟩
  · split at h
    · exact .inr ⟨by assumption, (Option.some.inj h).symm⟩
    · cases h
theorem look2_none {β : Type} {a b r : Nat} {x y : β} (h1 : r ≠ a) (h2 : r ≠ b) : look [(a, x), (b, y)] r = none := by
  simp only [look, if_neg h1, if_neg h2]
theorem hinA_some {P R : List (List Int)} {r : Nat} {c : Bool × List AV} (h : hinA P R r = some c) : (r = pbase ∧ c = tyC gvb P.length) ∨ (r = gvb ∧ c = (false, rowsC (gvb + 1) P)) ∨ ∃ j, j < R.length ∧ r = gvb + 1 + j ∧ c = (true, (R.getD j []).map AV.i) := by
  rcases famH_some h with h1 | ⟨_, j, h2, h3, h4⟩
  · rcases look2 h1 with h | h
    · exact .inl h
    · exact .inr (.inl h)
  · exact .inr (.inr ⟨j, h2, h3, h4⟩)
theorem houtA_some {P : List (List Int)} {r : Nat} {c : Bool × List AV} (h : houtA P r = some c) : (r = pbase ∧ c = tyC nbase P.length) ∨ (r = nbase ∧ c = (false, rowsC (nbase + 1) P)) ∨ ∃ j, j < P.length ∧ r = nbase + 1 + j ∧ c = (true, (P.getD j []).map AV.i) := by
  rcases famH_some h with h1 | ⟨_, j, h2, h3, h4⟩
  · rcases look2 h1 with h | h
    · exact .inl h
    · exact .inr (.inl h)
  · exact .inr (.inr ⟨j, h2, h3, h4⟩)
theorem hinA_row {P R : List (List Int)} {j : Nat} (hj : j < R.length) : hinA P R (gvb + 1 + j) = some (true, (R.getD j []).map AV.i) := by
  have hp : pbase = 4000000 := rfl
  have hg : gvb = 16000000 := rfl
  exact famH_row (look2_none (by omega) (by omega)) hj
theorem houtA_row {P : List (List Int)} {j : Nat} (hj : j < P.length) : houtA P (nbase + 1 + j) = some (true, (P.getD j []).map AV.i) := by
  have hp : pbase = 4000000 := rfl
  have hg : nbase = 8000000 := rfl
  exact famH_row (look2_none (by omega) (by omega)) hj
theorem stA_row {l : List (Nat × AV)} {P R : List (List Int)} {j : Nat} (hj : j < R.length) (h2 : R.length ≤ mxA + 1) : (stA l P R).hp (1000 + j) = some (true, (R.getD j []).map AV.i) := by
  have hp : pbase = 4000000 := rfl
  have hx : mxA = 1000000 := rfl
  exact famH_row (look2_none (by omega) (by omega)) hj
theorem stA_static (P R P' : List (List Int)) : Static (hinA P R) (.tup []) (houtA P') := by
  have hp : pbase = 4000000 := rfl
  have hn : nbase = 8000000 := rfl
  have hg : gvb = 16000000 := rfl
  refine ⟨fun r hr => ?_, fun r c hc => ?_, by simp [ownV, ownL, refsV, refsL]⟩
  · obtain ⟨c, hc⟩ := Option.isSome_iff_exists.1 hr
    rcases hinA_some hc with ⟨rfl, _⟩ | ⟨rfl, _⟩ | ⟨j, _, rfl, _⟩ <;> omega
  · rcases houtA_some hc with ⟨_, rfl⟩ | ⟨_, rfl⟩ | ⟨j, _, _, rfl⟩
    · exact ⟨rfl, rfl⟩
    · refine ⟨rowsC_own _ _ _, rowsC_refs _ _ _ fun j hj => ?_⟩
      rw [houtA_row hj]; rfl
    · exact ⟨ownL_ints _ _, refsL_ints _ _⟩
/-- The call's own names for what it is given. -/
def nmA : Nat → Nat := fun r => if r = 900 then gvb else if 1000 ≤ r ∧ r < pbase then gvb + 1 + (r - 1000) else r
theorem nmA_row {j : Nat} (h : j < mxA + 2) : nmA (1000 + j) = gvb + 1 + j := by
  have hp : pbase = 4000000 := rfl
  have hx : mxA = 1000000 := rfl
  unfold nmA
  rw [if_neg (by omega), if_pos (by omega), Nat.add_sub_cancel_left]
theorem stA_enter {av : List AV} {l : List (Nat × AV)} {P R : List (List Int)} (hR : R.length ≤ mxA + 1) (hPR : P.length ≤ R.length) (hl : HasF (enterH av (hinA P R)) nmA l) (hr : refsT (fun r => (famH (look [(pbase, tyC 900 P.length), (900, (false, rowsC 1000 P))]) 1000 R r).isSome) l = true) : Weak (enterH av (hinA P R)) (stA l P R) := by
  have hp : pbase = 4000000 := rfl
  have hg : gvb = 16000000 := rfl
  have hx : mxA = 1000000 := rfl
  refine weak_G nmA hl ⟨rfl, ?_, trivial⟩ (fun j hj => ?_) (show [nmA pbase, nmA 900].Nodup by decide) (fun j j' h1 h2 e => ?_) (fun p hm j hj => ?_) (fun p hm => ?_) (fun j hj => ?_) hr (fun p hm hf => ?_)
  · show hinA P R (nmA 900) = some (false, renL nmA (rowsC 1000 P))
    rw [rowsC_ren nmA 1000 (gvb + 1) P fun j hj => nmA_row (by omega)]
    rfl
  · rw [nmA_row (by omega)]
    exact hinA_row hj
  · rw [nmA_row (by omega), nmA_row (by omega)] at e
    omega
  · rw [nmA_row (by omega)]
    simp only [List.mem_cons, List.not_mem_nil, or_false] at hm
    rcases hm with rfl | rfl
    · show nmA pbase ≠ _
      have : nmA pbase = pbase := by decide
      omega
    · show nmA 900 ≠ _
      have : nmA 900 = gvb := by decide
      omega
  · simp only [List.mem_cons, List.not_mem_nil, or_false] at hm
    rcases hm with rfl | rfl
    · exact .inr (.inl ⟨by show pbase ≤ pbase; omega, show nmA pbase = pbase by decide⟩)
    · exact .inr (.inr ⟨by show 900 < pbase; omega, show gvb ≤ nmA 900 by decide⟩)
  · rw [nmA_row (by omega)]
    exact .inr (.inr ⟨by omega, by omega⟩)
  · simp only [List.mem_cons, List.not_mem_nil, or_false] at hm
    rcases hm with rfl | rfl
    · rfl
    · refine rowsC_refs _ _ _ fun j hj => ?_
      show (famH _ 1000 R (1000 + j)).isSome = true
      rw [famH_row (look2_none (by omega) (by omega)) (by omega)]
      rfl
/-- The end: the lists lie in the region q. -/
theorem stA_done {s : AS} {P R P' : List (List Int)} {q : Nat} (hq : q < 1000) (hP : P'.length ≤ mxA) (h1 : s.hp pbase = some (tyC q P'.length)) (h2 : s.hp q = some (false, rowsC 1000 P')) (h3 : ∀ j, j < P'.length → s.hp (1000 + j) = some (true, (P'.getD j []).map AV.i)) : DoneT [] (.tup []) (hinA P R) (houtA P') .ret s := by
  have hp : pbase = 4000000 := rfl
  have hn : nbase = 8000000 := rfl
  have hg : gvb = 16000000 := rfl
  have hx : mxA = 1000000 := rfl
  have g0 : ∀ r, r < nbase → (if r = nbase then q else if nbase + 1 ≤ r then 1000 + (r - (nbase + 1)) else r) = r := fun r hr => by rw [if_neg (by omega), if_neg (by omega)]
  have g1 : ∀ j, (if nbase + 1 + j = nbase then q else if nbase + 1 ≤ nbase + 1 + j then 1000 + (nbase + 1 + j - (nbase + 1)) else nbase + 1 + j) = 1000 + j := fun j => by rw [if_neg (by omega), if_pos (by omega), Nat.add_sub_cancel_left]
  refine ret_doneT (fun r => if r = nbase then q else if nbase + 1 ≤ r then 1000 + (r - (nbase + 1)) else r) (by rfl) (fun r c hc => ?_) (fun r hr hlt => ?_) (fun r hr hno => ?_) (fun r r' hr hr' e => ?_) (fun r hr => ?_)
  · rcases houtA_some hc with ⟨rfl, rfl⟩ | ⟨rfl, rfl⟩ | ⟨j, hj, rfl, rfl⟩
    · refine ⟨_, by rw [g0 _ (by omega)]; exact h1, .inl ?_⟩
      simp only [renR, renL, renV, if_true]
    · refine ⟨_, by rw [if_pos rfl]; exact h2, .inl ?_⟩
      simp only [renR]
      rw [rowsC_ren _ (nbase + 1) 1000 P' fun j hj => g1 j]
    · refine ⟨_, by rw [g1]; exact h3 j hj, .inl ?_⟩
      simp only [renR]
      rw [renL_ints]
  · obtain ⟨c, hc⟩ := Option.isSome_iff_exists.1 hr
    rcases hinA_some hc with ⟨rfl, _⟩ | ⟨rfl, _⟩ | ⟨j, _, rfl, _⟩
    · exact ⟨g0 _ (by omega), rfl⟩
    · omega
    · omega
  · obtain ⟨c, hc⟩ := Option.isSome_iff_exists.1 hr
    rcases houtA_some hc with ⟨rfl, _⟩ | ⟨rfl, _⟩ | ⟨j, hj, rfl, _⟩
    · have e : hinA P R pbase = some (tyC gvb P.length) := rfl
      rw [e] at hno; cases hno
    · show (if nbase = nbase then q else _) < _
      rw [if_pos rfl]; omega
    · show (if nbase + 1 + j = nbase then q else _) < _
      rw [g1]; omega
  · obtain ⟨c, hc⟩ := Option.isSome_iff_exists.1 hr
    obtain ⟨c', hc'⟩ := Option.isSome_iff_exists.1 hr'
    rcases houtA_some hc with ⟨rfl, _⟩ | ⟨rfl, _⟩ | ⟨j, hj, rfl, _⟩ <;> rcases houtA_some hc' with ⟨rfl, _⟩ | ⟨rfl, _⟩ | ⟨j', hj', rfl, _⟩ <;> (repeat' split at e) <;> omega
  · obtain ⟨c, hc⟩ := Option.isSome_iff_exists.1 hr
    rcases houtA_some hc with ⟨rfl, _⟩ | ⟨rfl, _⟩ | ⟨j, hj, rfl, _⟩ <;> omega
/-- The callee's names for what the caller has; X is the list that was made for the call. -/
def nmB (X n : Nat) : Nat → Nat := fun r => if r = gvb then 900 else if gvb + 1 ≤ r then (if r - (gvb + 1) < n then 1000 + (r - (gvb + 1)) else X) else if r = nbase then 900 else if nbase + 1 ≤ r then 1000 + (r - (nbase + 1)) else r
/-- What is given, and the list that was made for the call. -/
def gvA (X : Nat) : Nat → Bool := fun r => r == 900 || (decide (1000 ≤ r) && decide (r < pbase)) || r == X
theorem nmB_row {X n j : Nat} (h : j < n) : nmB X n (gvb + 1 + j) = 1000 + j := by
  unfold nmB
  rw [if_neg (by omega), if_pos (by omega), Nat.add_sub_cancel_left, if_pos h]
theorem nmB_new (X n : Nat) : nmB X n (gvb + 1 + n) = X := by
  unfold nmB
  rw [if_neg (by omega), if_pos (by omega), Nat.add_sub_cancel_left, if_neg (by omega)]
theorem nmB_out {X n j : Nat} (h : j < mxA + 2) : nmB X n (nbase + 1 + j) = 1000 + j := by
  have hn : nbase = 8000000 := rfl
  have hg : gvb = 16000000 := rfl
  have hx : mxA = 1000000 := rfl
  unfold nmB
  rw [if_neg (by omega), if_neg (by omega), if_neg (by omega), if_pos (by omega), Nat.add_sub_cancel_left]
theorem nmB_0 (X n : Nat) : nmB X n pbase = pbase ∧ nmB X n gvb = 900 ∧ nmB X n nbase = 900 := by
  have hp : pbase = 4000000 := rfl
  have hn : nbase = 8000000 := rfl
  have hg : gvb = 16000000 := rfl
  unfold nmB
  exact ⟨by rw [if_neg (by omega), if_neg (by omega), if_neg (by omega), if_neg (by omega)], by rw [if_pos rfl], by rw [if_neg (by omega), if_neg (by omega), if_pos rfl]⟩
/-- The caller's regions behind the call. -/
def hpA (X : Nat) (s : AS) (P' : List (List Int)) : Hp := fun q => if q = pbase then some (tyC 900 P'.length) else if q = 900 then some (false, rowsC 1000 P') else if 1000 ≤ q ∧ q < 1000 + P'.length then some (true, (P'.getD (q - 1000) []).map AV.i) else (s.drop (gvA X)).hp q
theorem hpA_at (X : Nat) (s : AS) (P' : List (List Int)) : hpA X s P' pbase = some (tyC 900 P'.length) ∧ hpA X s P' 900 = some (false, rowsC 1000 P') := ⟨rfl, rfl⟩
theorem hpA_row {X : Nat} {s : AS} {P' : List (List Int)} {j : Nat} (hj : j < P'.length) (h2 : P'.length ≤ mxA) : hpA X s P' (1000 + j) = some (true, (P'.getD j []).map AV.i) := by
  have hp : pbase = 4000000 := rfl
  have hx : mxA = 1000000 := rfl
  unfold hpA
  rw [if_neg (by omega), if_neg (by omega), if_pos (by omega), Nat.add_sub_cancel_left]
theorem gvA_row {X j : Nat} (h : j < mxA + 2) : gvA X (1000 + j) = true := by
  have hp : pbase = 4000000 := rfl
  have hx : mxA = 1000000 := rfl
  unfold gvA
  rw [decide_eq_true (show 1000 ≤ 1000 + j by omega), decide_eq_true (show 1000 + j < pbase by omega)]
  simp
theorem stA_given {X : Nat} {s : AS} {P R P' : List (List Int)} (hX : X < 900) (hP : P.length ≤ mxA) (hR : R.length ≤ P.length + 1) (hP' : P'.length ≤ mxA) (h1 : s.hp pbase = some (tyC 900 P.length)) (h2 : s.hp 900 = some (false, rowsC 1000 P)) (h3 : ∀ j, j < R.length → s.hp (nmB X P.length (gvb + 1 + j)) = some (true, (R.getD j []).map AV.i)) (hPR : P.length ≤ R.length) :
    Given s (gvA X) (nmB X P.length) (hinA P R) (houtA P') (hpA X s P') (.tup []) := by
  have hp : pbase = 4000000 := rfl
  have hn : nbase = 8000000 := rfl
  have hg : gvb = 16000000 := rfl
  have hx : mxA = 1000000 := rfl
  obtain ⟨g1, g2, g3⟩ := nmB_0 X P.length
  have grow : ∀ j, j < R.length → (nmB X P.length (gvb + 1 + j) = 1000 + j ∧ j < P.length) ∨ (nmB X P.length (gvb + 1 + j) = X ∧ j = P.length) := by
    intro j hj
    by_cases h : j < P.length
    · exact .inl ⟨nmB_row h, h⟩
    · obtain rfl : j = P.length := by omega
      exact .inr ⟨nmB_new _ _, rfl⟩
  have gout : ∀ j, j < P'.length → nmB X P.length (nbase + 1 + j) = 1000 + j := fun j hj => nmB_out (by omega)
  have qX : gvA X X = true := by simp [gvA]
  have q900 : gvA X 900 = true := rfl
  have qp : gvA X pbase = false := by
    unfold gvA
    simp only [Bool.or_eq_false_iff, Bool.and_eq_false_iff, beq_eq_false_iff_ne, decide_eq_false_iff_not]
    omega
  have hinS : ∀ r, (hinA P R r).isSome = true → r = pbase ∨ r = gvb ∨ ∃ j, j < R.length ∧ r = gvb + 1 + j := by
    intro r hr
    obtain ⟨c, hc⟩ := Option.isSome_iff_exists.1 hr
    rcases hinA_some hc with ⟨h, _⟩ | ⟨h, _⟩ | ⟨j, h, h', _⟩
    · exact .inl h
    · exact .inr (.inl h)
    · exact .inr (.inr ⟨j, h, h'⟩)
  have houtS : ∀ r, (houtA P' r).isSome = true → r = pbase ∨ r = nbase ∨ ∃ j, j < P'.length ∧ r = nbase + 1 + j := by
    intro r hr
    obtain ⟨c, hc⟩ := Option.isSome_iff_exists.1 hr
    rcases houtA_some hc with ⟨h, _⟩ | ⟨h, _⟩ | ⟨j, h, h', _⟩
    · exact .inl h
    · exact .inr (.inl h)
    · exact .inr (.inr ⟨j, h, h'⟩)
  have hinV : ∀ r, (hinA P R r).isSome = true → (r = pbase ∧ nmB X P.length r = pbase) ∨ (r = gvb ∧ nmB X P.length r = 900) ∨ (∃ j, j < P.length ∧ r = gvb + 1 + j ∧ nmB X P.length r = 1000 + j) ∨ (r = gvb + 1 + P.length ∧ nmB X P.length r = X) := by
    intro r hr
    rcases hinS r hr with h | h | ⟨j, hj, h⟩
    · exact .inl ⟨h, by rw [h]; exact g1⟩
    · exact .inr (.inl ⟨h, by rw [h]; exact g2⟩)
    · rcases grow j hj with ⟨e, h'⟩ | ⟨e, h'⟩
      · exact .inr (.inr (.inl ⟨j, h', h, by rw [h]; exact e⟩))
      · exact .inr (.inr (.inr ⟨by rw [h, h'], by rw [h]; exact e⟩))
  have houtV : ∀ r, (houtA P' r).isSome = true → (r = pbase ∧ nmB X P.length r = pbase) ∨ (r = nbase ∧ nmB X P.length r = 900) ∨ ∃ j, j < P'.length ∧ r = nbase + 1 + j ∧ nmB X P.length r = 1000 + j := by
    intro r hr
    rcases houtS r hr with h | h | ⟨j, hj, h⟩
    · exact .inl ⟨h, by rw [h]; exact g1⟩
    · exact .inr (.inl ⟨h, by rw [h]; exact g3⟩)
    · exact .inr (.inr ⟨j, hj, h, by rw [h]; exact gout j hj⟩)
  refine ⟨fun r c hc => ?_, fun r hr => ?_, fun r hr hge => ?_, fun r r' hr hr' e => ?_, fun r r' hr hr' e => ?_, fun r hr hlt => ?_, fun r hr => ?_, fun r hr hno => ?_, fun r c hc => ?_, fun q hq => ?_, fun r c hc => ?_, fun r c hc => ?_, rfl⟩
  · rcases hinA_some hc with ⟨rfl, rfl⟩ | ⟨rfl, rfl⟩ | ⟨j, hj, rfl, rfl⟩
    · rw [g1, h1]
      simp only [renR, renL, renV, g2]
    · rw [g2, h2]
      simp only [renR]
      rw [rowsC_ren _ (gvb + 1) 1000 P fun j hj => nmB_row hj]
    · rw [h3 j hj]
      simp only [renR]
      rw [renL_ints]
  · rcases hinS r hr with rfl | rfl | ⟨j, hj, rfl⟩
    · rw [g1, qp]
      exact ⟨fun h => (by cases h), fun h => by omega⟩
    · rw [g2]
      exact ⟨fun _ => Nat.le_refl _, fun _ => q900⟩
    · refine ⟨fun _ => by omega, fun _ => ?_⟩
      rcases grow j hj with ⟨e, h⟩ | ⟨e, _⟩
      · rw [e]; exact gvA_row (by omega)
      · rw [e]; exact qX
  · refine .inl ?_
    rcases hinS r hr with rfl | rfl | ⟨j, hj, rfl⟩
    · omega
    · rw [g2]; omega
    · rcases grow j hj with ⟨e, h⟩ | ⟨e, _⟩
      · rw [e]; omega
      · rw [e]; omega
  · rcases hinV r hr with ⟨a, b⟩ | ⟨a, b⟩ | ⟨j, h, a, b⟩ | ⟨a, b⟩ <;> rcases hinV r' hr' with ⟨a', b'⟩ | ⟨a', b'⟩ | ⟨j', h', a', b'⟩ | ⟨a', b'⟩ <;> omega
  · rcases houtV r hr with ⟨a, b⟩ | ⟨a, b⟩ | ⟨j, h, a, b⟩ <;> rcases houtV r' hr' with ⟨a', b'⟩ | ⟨a', b'⟩ | ⟨j', h', a', b'⟩ <;> omega
  · rcases hinS r hr with rfl | rfl | ⟨j, hj, rfl⟩
    · rfl
    · omega
    · omega
  · rcases houtS r hr with rfl | rfl | ⟨j, hj, rfl⟩ <;> omega
  · have drop : ∀ q, gvA X q = true → (s.drop (gvA X)).hp q = none := fun q h => by
      show (if gvA X q = true then none else (s.hp q).map (dropR (gvA X))) = none
      rw [if_pos h]
    rcases houtS r hr with rfl | rfl | ⟨j, hj, rfl⟩
    · have e : hinA P R pbase = some (tyC gvb P.length) := rfl
      rw [e] at hno; cases hno
    · rw [g3]
      exact ⟨drop _ q900, by omega⟩
    · rw [gout j hj]
      exact ⟨drop _ (gvA_row (by omega)), by omega⟩
  · obtain ⟨k1, k2⟩ := hpA_at X s P'
    rcases houtA_some hc with ⟨rfl, rfl⟩ | ⟨rfl, rfl⟩ | ⟨j, hj, rfl, rfl⟩
    · rw [g1, k1]
      simp only [renR, renL, renV, g3]
    · rw [g3, k2]
      simp only [renR]
      rw [rowsC_ren _ (nbase + 1) 1000 P' fun j hj => gout j hj]
    · rw [gout j hj, hpA_row hj hP']
      simp only [renR]
      rw [renL_ints]
  · have k1 := hq pbase rfl
    have k2 := hq nbase rfl
    rw [g1] at k1
    rw [g3] at k2
    unfold hpA
    rw [if_neg (Ne.symm k1), if_neg (Ne.symm k2), if_neg]
    rintro ⟨h4, h5⟩
    have := hq (nbase + 1 + (q - 1000)) (by rw [houtA_row (by omega)]; rfl)
    rw [gout _ (by omega)] at this
    omega
  · rcases hinA_some hc with ⟨rfl, rfl⟩ | ⟨rfl, rfl⟩ | ⟨j, hj, rfl, rfl⟩
    · exact ⟨rfl, rfl⟩
    · refine ⟨rowsC_own _ _ _, rowsC_refs _ _ _ fun j hj => ?_⟩
      rw [hinA_row (by omega)]; rfl
    · exact ⟨ownL_ints _ _, refsL_ints _ _⟩
  · rcases houtA_some hc with ⟨rfl, rfl⟩ | ⟨rfl, rfl⟩ | ⟨j, hj, rfl, rfl⟩
    · rfl
    · exact rowsC_own _ _ _
    · exact ownL_ints _ _
end
end Go.Am
namespace Go.Am
section
attribute [local irreducible] SpH DoneH SpG DoneT
theorem stA_weak {s : AS} {l : List (Nat × AV)} {P : List (List Int)} (hP : P.length ≤ mxA) (hl : HasF s id l) (h1 : s.hp pbase = some (tyC 900 P.length)) (h2 : s.hp 900 = some (false, rowsC 1000 P)) (h3 : ∀ j, j < P.length → s.hp (1000 + j) = some (true, (P.getD j []).map AV.i)) (hr : refsT (fun r => (famH (look [(pbase, tyC 900 P.length), (900, (false, rowsC 1000 P))]) 1000 P r).isSome) l = true) : Weak s (stA l P P) := by
  have hp : pbase = 4000000 := rfl
  have hx : mxA = 1000000 := rfl
  refine weak_G id hl ⟨h1, ?_, trivial⟩ h3 (show [pbase, 900].Nodup by decide) (fun j j' _ _ e => by simp only [id] at e; omega) (fun p hm j hj => ?_) (fun p hm => ?_) (fun j hj => .inl ⟨by omega, by simp only [id]; omega⟩) hr (fun p hm hf => ?_)
  · rw [renL_id]; exact h2
  · simp only [List.mem_cons, List.not_mem_nil, or_false] at hm
    rcases hm with rfl | rfl <;> simp only [id] <;> omega
  · simp only [List.mem_cons, List.not_mem_nil, or_false] at hm
    rcases hm with rfl | rfl
    · exact .inr (.inl ⟨by show pbase ≤ pbase; omega, rfl⟩)
    · exact .inl ⟨by show 900 < pbase; omega, by show 900 < pbase; omega⟩
  · simp only [List.mem_cons, List.not_mem_nil, or_false] at hm
    rcases hm with rfl | rfl
    · rfl
    · refine rowsC_refs _ _ _ fun j hj => ?_
      show (famH _ 1000 P (1000 + j)).isSome = true
      rw [famH_row (look2_none (by omega) (by omega)) (by omega)]
      rfl
theorem stA_weakR {s : AS} {l : List (Nat × AV)} {P R : List (List Int)} (hPR : P.length ≤ R.length) (hR : R.length ≤ mxA + 1) (hl : HasF s id l) (h1 : s.hp pbase = some (tyC 900 P.length)) (h2 : s.hp 900 = some (false, rowsC 1000 P)) (h3 : ∀ j, j < R.length → s.hp (1000 + j) = some (true, (R.getD j []).map AV.i)) (hr : refsT (fun r => (famH (look [(pbase, tyC 900 P.length), (900, (false, rowsC 1000 P))]) 1000 R r).isSome) l = true) : Weak s (stA l P R) := by
  have hp : pbase = 4000000 := rfl
  have hx : mxA = 1000000 := rfl
  refine weak_G id hl ⟨h1, ?_, trivial⟩ h3 (show [pbase, 900].Nodup by decide) (fun j j' _ _ e => by simp only [id] at e; omega) (fun p hm j hj => ?_) (fun p hm => ?_) (fun j hj => .inl ⟨by omega, by simp only [id]; omega⟩) hr (fun p hm hf => ?_)
  · rw [renL_id]; exact h2
  · simp only [List.mem_cons, List.not_mem_nil, or_false] at hm
    rcases hm with rfl | rfl <;> simp only [id] <;> omega
  · simp only [List.mem_cons, List.not_mem_nil, or_false] at hm
    rcases hm with rfl | rfl
    · exact .inr (.inl ⟨by show pbase ≤ pbase; omega, rfl⟩)
    · exact .inl ⟨by show 900 < pbase; omega, by show 900 < pbase; omega⟩
  · simp only [List.mem_cons, List.not_mem_nil, or_false] at hm
    rcases hm with rfl | rfl
    · rfl
    · refine rowsC_refs _ _ _ fun j hj => ?_
      show (famH _ 1000 R (1000 + j)).isSome = true
      rw [famH_row (look2_none (by omega) (by omega)) (by omega)]
      rfl
/-- What is lent and given beside the lists: values that are read; the pointer; a list that is made for the call. -/
theorem lendH_pt {X : Nat} {s : AS} {P R P' : List (List Int)} (hG : Given s (gvA X) (nmB X P.length) (hinA P R) (houtA P') (hpA X s P') (.tup [])) : LendH1 s.hp (nmB X P.length) (hinA P R) (.pt pbase 0) (.pt pbase 0) := by
  have hin1 : ∀ r c, hinA P R r = some c → (s.hp (nmB X P.length r)).isSome = true := fun r c hc => by rw [hG.has r c hc]; rfl
  have := lendH_ren (x := .pt pbase 0) hin1 rfl rfl
  simp only [renV, (nmB_0 X P.length).1] at this
  exact this
theorem lendH_ro {X : Nat} {s : AS} {P R P' : List (List Int)} (hG : Given s (gvA X) (nmB X P.length) (hinA P R) (houtA P') (hpA X s P') (.tup [])) {x : AV} (ho : ownV true x = true) (hr : refsV (fun r => (hinA P R r).isSome) x = true) (hn : renV (nmB X P.length) x = x) : LendH1 s.hp (nmB X P.length) (hinA P R) x x := by
  have hin1 : ∀ r c, hinA P R r = some c → (s.hp (nmB X P.length r)).isSome = true := fun r c hc => by rw [hG.has r c hc]; rfl
  have := lendH_ren (x := x) hin1 ho hr
  rw [hn] at this
  exact this
theorem lendH_leaf {X : Nat} {s : AS} {P P' : List (List Int)} {M : List Int} (hG : Given s (gvA X) (nmB X P.length) (hinA P (P ++ [M])) (houtA P') (hpA X s P') (.tup [])) : LendH1 s.hp (nmB X P.length) (hinA P (P ++ [M])) (.sl X 1 0 M.length) (.sl (gvb + 1 + P.length) 1 0 M.length) := by
  have hin1 : ∀ r c, hinA P (P ++ [M]) r = some c → (s.hp (nmB X P.length r)).isSome = true := fun r c hc => by rw [hG.has r c hc]; rfl
  have := lendH_ren (x := .sl (gvb + 1 + P.length) 1 0 M.length) hin1 rfl (by
    simp only [refsV]
    rw [hinA_row (by simp)]
    rfl)
  simp only [renV, nmB_new] at this
  exact this
theorem lendH_node {X : Nat} (hX : X < 900) {s : AS} {P P' : List (List Int)} {M : List Int} (hP : P.length ≤ mxA) (hG : Given s (gvA X) (nmB X P.length) (hinA P P) (houtA P') (hpA X s P') (.tup [])) (hM : s.hp X = some (true, M.map AV.i)) : LendH1 s.hp (nmB X P.length) (hinA P P) (.sl X 1 0 M.length) (ints M) := by
  have hpb : pbase = 4000000 := rfl
  have hin1 : ∀ r c, hinA P P r = some c → (s.hp (nmB X P.length r)).isSome = true := fun r c hc => by rw [hG.has r c hc]; rfl
  refine lendH_sl hin1 hM fun r hr e => ?_
  obtain ⟨c, hc⟩ := Option.isSome_iff_exists.1 hr
  obtain ⟨g1, g2, _⟩ := nmB_0 X P.length
  rcases hinA_some hc with ⟨rfl, _⟩ | ⟨rfl, _⟩ | ⟨j, hj, rfl, _⟩
  · rw [g1] at e; omega
  · rw [g2] at e; omega
  · rw [nmB_row hj] at e; omega
theorem stA_givenN {X : Nat} {s : AS} {P P' : List (List Int)} (hX : X < 900) (hP : P.length ≤ mxA) (hP' : P'.length ≤ mxA) (h1 : s.hp pbase = some (tyC 900 P.length)) (h2 : s.hp 900 = some (false, rowsC 1000 P)) (h3 : ∀ j, j < P.length → s.hp (1000 + j) = some (true, (P.getD j []).map AV.i)) :
    Given s (gvA X) (nmB X P.length) (hinA P P) (houtA P') (hpA X s P') (.tup []) :=
  stA_given hX hP (by omega) hP' h1 h2 (fun j hj => by rw [nmB_row hj]; exact h3 j hj) (Nat.le_refl _)
theorem stA_givenL {X : Nat} {s : AS} {P P' : List (List Int)} {M : List Int} (hX : X < 900) (hP : P.length ≤ mxA) (hP' : P'.length ≤ mxA) (h1 : s.hp pbase = some (tyC 900 P.length)) (h2 : s.hp 900 = some (false, rowsC 1000 P)) (h3 : ∀ j, j < P.length → s.hp (1000 + j) = some (true, (P.getD j []).map AV.i)) (hM : s.hp X = some (true, M.map AV.i)) :
    Given s (gvA X) (nmB X P.length) (hinA P (P ++ [M])) (houtA P') (hpA X s P') (.tup []) := by
  refine stA_given hX hP (by simp) hP' h1 h2 (fun j hj => ?_) (by simp)
  by_cases hj' : j < P.length
  · rw [nmB_row hj', h3 j hj']
    simp [List.getElem?_append, hj']
  · have : j = P.length := by simp at hj; omega
    subst this
    rw [nmB_new, hM]
    simp
/-- A nil slice in a cell is a slice of an empty region. -/
theorem weak_nilcellG {s : AS} (fl : Bool) (r q z j : Nat) {cs : List AV} (hr : s.hp r = some (true, cs)) (hq : s.hp q = none) (hqp : q < pbase) (hc : cs[j]? = some (.v (.slice none 0 0))) (hpl : cs.all plainV = true) :
    Weak s ((s.mem q (fl, [])).mem r (false, cs.set j (.sl q z 0 0))) := by
  have hrq : r ≠ q := fun e => by rw [e] at hr; rw [hr] at hq; cases hq
  have hr' : (s.mem q (fl, [])).hp r = some (true, cs) := by rw [hp_mem_ne hrq]; exact hr
  intro w0 mu N a w hS
  obtain ⟨hf, phi, ro, hS⟩ := hS
  have hS1 := hS.born hq hqp (fl, []) none rfl
  rcases hS1.liv r _ hr' with ⟨_, h2, _⟩ | ⟨b, cur, e, h1, h2, h3, h4, h5⟩ | ⟨b, o, h0, _⟩
  case inr.inr => cases h0; simp [plainV] at hpl
  · simp only at h2; rw [h2] at hc; simp at hc
  · refine ⟨hf, _, ro, hS1.write hr' h1 h2 h2 rfl (fun _ _ _ => rfl) rfl rfl rfl (Nat.le_refl _) ?_⟩
    simp only [SimR, if_true, Bool.false_eq_true, if_false] at h5 ⊢
    have h6 := simL_allv (D := ctx w0 w ro (fun p => if p = q then none else phi p) (s.mem q (fl, []))) hpl h5
    obtain ⟨y, k1, k2⟩ := h6.get hc
    simp only [SimV] at k2
    subst k2
    have hlt : j < cs.length := (List.getElem?_eq_some_iff.1 hc).1
    have h7 := h6.set (i := j) (a := .sl q z 0 0) (y := .slice none 0 0) (by simp only [SimV]; exact ⟨rfl, by simp [ctx, AS.mem], .inl (by simp [ctx])⟩) hlt
    have e2 : cur.toList.set j (.slice none 0 0) = cur.toList := by
      apply List.ext_getElem?
      intro i
      rw [List.getElem?_set]
      by_cases e : j = i
      · subst e
        have := (List.getElem?_eq_some_iff.1 k1).1
        simp only [if_true, this, k1]
      · simp [e]
    rw [e2] at h7
    exact h7
/-- Names at the first call: the pointer's region is q0. -/
def nmR (q0 : Nat) : Nat → Nat := fun r => if r = pbase then q0 else if r = gvb then 900 else if r = nbase then 900 else 1000 + (r - (nbase + 1))
def gvR : Nat → Bool := fun r => r == 900
def hpR (q0 : Nat) (s : AS) (P' : List (List Int)) : Hp := fun q => if q = q0 then some (tyC 900 P'.length) else if q = 900 then some (false, rowsC 1000 P') else if 1000 ≤ q ∧ q < 1000 + P'.length then some (true, (P'.getD (q - 1000) []).map AV.i) else (s.drop gvR).hp q
theorem hpR_row {q0 : Nat} (h0 : q0 < 900) {s : AS} {P' : List (List Int)} {j : Nat} (hj : j < P'.length) : hpR q0 s P' (1000 + j) = some (true, (P'.getD j []).map AV.i) := by
  unfold hpR
  rw [if_neg (by omega), if_neg (by omega), if_pos (by omega), Nat.add_sub_cancel_left]
theorem stA_given0 {q0 : Nat} (hq0 : q0 < 900) {s : AS} {P' : List (List Int)} (hP' : P'.length ≤ mxA) (h1 : s.hp q0 = some (tyC 900 0)) (h2 : s.hp 900 = some (false, [])) (h3 : ∀ j, j < P'.length → s.hp (1000 + j) = none) :
    Given s gvR (nmR q0) (hinA [] []) (houtA P') (hpR q0 s P') (.tup []) := by
  have hp : pbase = 4000000 := rfl
  have hn : nbase = 8000000 := rfl
  have hg : gvb = 16000000 := rfl
  have hx : mxA = 1000000 := rfl
  have g1 : nmR q0 pbase = q0 := rfl
  have g2 : nmR q0 gvb = 900 := rfl
  have g3 : nmR q0 nbase = 900 := rfl
  have gout : ∀ j, nmR q0 (nbase + 1 + j) = 1000 + j ∨ nbase + 1 + j = gvb := fun j => by
    by_cases e : nbase + 1 + j = gvb
    · exact .inr e
    · unfold nmR
      exact .inl (by rw [if_neg (by omega), if_neg e, if_neg (by omega), Nat.add_sub_cancel_left])
  have gout : ∀ j, j < P'.length → nmR q0 (nbase + 1 + j) = 1000 + j := fun j hj => (gout j).resolve_right (by omega)
  have qq : gvR q0 = false := by unfold gvR; simp; omega
  have hinS : ∀ r, (hinA [] [] r).isSome = true → r = pbase ∨ r = gvb := by
    intro r hr
    obtain ⟨c, hc⟩ := Option.isSome_iff_exists.1 hr
    rcases hinA_some hc with ⟨h, _⟩ | ⟨h, _⟩ | ⟨j, h, _⟩
    · exact .inl h
    · exact .inr h
    · simp at h
  have houtV : ∀ r, (houtA P' r).isSome = true → (r = pbase ∧ nmR q0 r = q0) ∨ (r = nbase ∧ nmR q0 r = 900) ∨ ∃ j, j < P'.length ∧ r = nbase + 1 + j ∧ nmR q0 r = 1000 + j := by
    intro r hr
    obtain ⟨c, hc⟩ := Option.isSome_iff_exists.1 hr
    rcases houtA_some hc with ⟨h, _⟩ | ⟨h, _⟩ | ⟨j, h, h', _⟩
    · exact .inl ⟨h, by rw [h]; exact g1⟩
    · exact .inr (.inl ⟨h, by rw [h]; exact g3⟩)
    · exact .inr (.inr ⟨j, h, h', by rw [h']; exact gout j h⟩)
  refine ⟨fun r c hc => ?_, fun r hr => ?_, fun r hr hge => ?_, fun r r' hr hr' e => ?_, fun r r' hr hr' e => ?_, fun r hr hlt => ?_, fun r hr => ?_, fun r hr hno => ?_, fun r c hc => ?_, fun q hq => ?_, fun r c hc => ?_, fun r c hc => ?_, rfl⟩
  · rcases hinA_some hc with ⟨rfl, rfl⟩ | ⟨rfl, rfl⟩ | ⟨j, hj, _⟩
    · rw [g1, h1]
      rfl
    · rw [g2, h2]
      rfl
    · simp at hj
  · rcases hinS r hr with rfl | rfl
    · rw [g1, qq]
      exact ⟨fun h => (by cases h), fun h => by omega⟩
    · rw [g2]
      exact ⟨fun _ => Nat.le_refl _, fun _ => rfl⟩
  · refine .inl ?_
    rcases hinS r hr with rfl | rfl
    · omega
    · rw [g2]; omega
  · rcases hinS r hr with rfl | rfl <;> rcases hinS r' hr' with rfl | rfl
    · rfl
    · rw [g1, g2] at e; omega
    · rw [g1, g2] at e; omega
    · rfl
  · rcases houtV r hr with ⟨a, b⟩ | ⟨a, b⟩ | ⟨j, h, a, b⟩ <;> rcases houtV r' hr' with ⟨a', b'⟩ | ⟨a', b'⟩ | ⟨j', h', a', b'⟩ <;> omega
  · rcases hinS r hr with rfl | rfl
    · rfl
    · omega
  · rcases houtV r hr with ⟨a, b⟩ | ⟨a, b⟩ | ⟨j, h, a, b⟩ <;> omega
  · rcases houtV r hr with ⟨rfl, b⟩ | ⟨rfl, b⟩ | ⟨j, h, rfl, b⟩
    · have e : hinA [] [] pbase = some (tyC gvb 0) := rfl
      rw [e] at hno; cases hno
    · exact ⟨rfl, by rw [b]; omega⟩
    · rw [b]
      refine ⟨?_, by omega⟩
      show (if gvR (1000 + j) = true then none else (s.hp (1000 + j)).map (dropR gvR)) = none
      rw [h3 j h]
      split <;> rfl
  · have k1 : hpR q0 s P' q0 = some (tyC 900 P'.length) := by unfold hpR; rw [if_pos rfl]
    have k2 : hpR q0 s P' 900 = some (false, rowsC 1000 P') := by unfold hpR; rw [if_neg (by omega), if_pos rfl]
    rcases houtA_some hc with ⟨rfl, rfl⟩ | ⟨rfl, rfl⟩ | ⟨j, hj, rfl, rfl⟩
    · rw [g1, k1]
      rfl
    · rw [g3, k2]
      simp only [renR]
      rw [rowsC_ren _ (nbase + 1) 1000 P' fun j hj => gout j hj]
    · rw [gout j hj, hpR_row hq0 hj]
      simp only [renR]
      rw [renL_ints]
  · have k1 := hq pbase rfl
    have k2 := hq nbase rfl
    rw [g1] at k1
    rw [g3] at k2
    unfold hpR
    rw [if_neg (Ne.symm k1), if_neg (Ne.symm k2), if_neg]
    rintro ⟨h4, h5⟩
    have := hq (nbase + 1 + (q - 1000)) (by rw [houtA_row (by omega)]; rfl)
    rw [gout _ (by omega)] at this
    omega
  · rcases hinA_some hc with ⟨rfl, rfl⟩ | ⟨rfl, rfl⟩ | ⟨j, hj, _⟩
    · exact ⟨rfl, rfl⟩
    · exact ⟨rfl, rfl⟩
    · simp at hj
  · rcases houtA_some hc with ⟨rfl, rfl⟩ | ⟨rfl, rfl⟩ | ⟨j, hj, rfl, rfl⟩
    · rfl
    · exact rowsC_own _ _ _
    · exact ownL_ints _ _
theorem lendH_nil0 {hp : Hp} {g : Nat → Nat} {hin : Hp} : LendH1 hp g hin (.v (.slice none 0 0)) (ints []) := by
  intro w0 mu N tm w phi ro v hS h
  simp only [SimV] at h ⊢
  exact .inl ⟨rfl, rfl, none, 0, h, by simp⟩
theorem hin0_live {q0 : Nat} {hp : Hp} {c1 c2 : Bool × List AV} (h1 : hp q0 = some c1) (h2 : hp 900 = some c2) : ∀ r c, hinA [] [] r = some c → (hp (nmR q0 r)).isSome = true := by
  intro r c hc
  rcases hinA_some hc with ⟨rfl, _⟩ | ⟨rfl, _⟩ | ⟨j, hj, _⟩
  · show (hp q0).isSome = true
    rw [h1]; rfl
  · show (hp 900).isSome = true
    rw [h2]; rfl
  · simp at hj
end
end Go.Am
namespace Go.Proofs.Yteiipnadhalnbaa
open Go.Am
attribute [local irreducible] AW Outs Weak Lends Lend Sp aops atree aop1 Then Round InBlock Done
attribute [local irreducible] SpM DoneM SpH DoneH SpG DoneT
abbrev pzArgs (n : Nat) (C : List Clu) (x : AV) : List AV := [.i n, .ro false 3 (cls C) C.length, x, .pt pbase 0]
/-- All that go on from a beginning. -/
def newN (l : List Int) (x : Nat) : Bool := !decide ((x : Int) ∈ l)
def allFit (C : List Clu) (L : List Int) : Bool := C.all (fitC L)
/-- What is found at a full list: the list itself, if it fits. -/
def leafP (C : List Clu) (P : List (List Int)) (M : List Int) : List (List Int) := if allFit C M then P ++ [M] else P
theorem pzLook_leaf (n : Nat) (C : List Clu) (M : List Int) (P : List (List Int)) (hM : IsEx M) (hn : M.length = n) (hC : C.length ≤ 6) (hcl : ∀ c ∈ C, IsClu n c) (hP : P.length + 1 ≤ mxA) : SpG Try.prog 59 (pzArgs n C (.sl (gvb + 1 + P.length) 1 0 M.length)) (hinA P (P ++ [M])) (.tup []) (houtA (leafP C P M)) := by
  have hpb : pbase = 4000000 := rfl
  have hx : mxA = 1000000 := rfl
  have hl1 : (P ++ [M]).length = P.length + 1 := by simp
  have hrl := rowsC_len 1000 P
  have hrow : ∀ j, j < P.length → (P ++ [M]).getD j [] = P.getD j [] := fun j hj => by simp [List.getElem?_append, hj]
  have href : refsT (fun r => (famH (Am.look [(pbase, tyC 900 P.length), (900, (false, rowsC 1000 P))]) 1000 (P ++ [M]) r).isSome) [(2, .sl (1000 + P.length) 1 0 M.length)] = true := by
    simp only [refsT, refsV, Bool.and_true]
    rw [famH_row (look2_none (by omega) (by omega)) (by omega)]
    rfl
  simp only [refsT, Bool.and_true] at href
  refine specT_of Try.func59 rfl cc59 rfl (stA_static P (P ++ [M]) (leafP C P M)) (stA [(0, .i n), (1, .ro false 3 (cls C) C.length), (2, .sl (1000 + P.length) 1 0 M.length), (3, .pt pbase 0)] P (P ++ [M])) (stA_enter (by omega) (by omega) ?_ ?_) ?_
  · refine ⟨rfl, rfl, ?_, rfl, trivial⟩
    show AV.sl (gvb + 1 + P.length) 1 0 M.length = .sl (nmA (1000 + P.length)) 1 0 M.length
    rw [nmA_row (by omega)]
  · simp only [refsT, Bool.true_and, Bool.and_true, href]
    rfl
  unfold ac59
  repeat (first | (refine step_ops ?_; (first | (refine m_mov (by conv => lhs; whnf) ?_) | (refine m_lss rfl rfl ?_) | (refine m_len_ro rfl ?_) | (refine m_len_sl rfl ?_))) | refine end_ops ?_ | refine seq_ops ?_ | (refine cond_f rfl ?_ ?_; (· first | rfl | assumption | (refine decide_eq_false ?_; first | assumption | omega) | (refine nf ?_; first | assumption | omega) | (simp [*]; done))) | refine skip_then ?_ | refine AW_seq ?_ | refine AW_block ?_)
  refine AW_loop (α := Nat) (fun k => k ≤ C.length ∧ ∀ c ∈ C.take k, fitC M c = true) (fun k => stA [(0, .i n), (1, .ro false 3 (cls C) C.length), (2, .sl (1000 + P.length) 1 0 M.length), (3, .pt pbase 0), (33, .ro false 3 (cls C) C.length), (34, .i C.length), (35, .i k)] P (P ++ [M])) (fun k => C.length - k) 0 ⟨Nat.zero_le _, by simp⟩ ?_ ?_
  · refine stA_weakR (by omega) (by omega) ⟨rfl, rfl, rfl, rfl, rfl, rfl, rfl, trivial⟩ rfl rfl (fun j hj => ?_) ?_
    · simp (disch := omega) only [hp_put]
      exact stA_row hj (by omega)
    · simp only [refsT, Bool.true_and, Bool.and_true, href]
      rfl
  rintro k ⟨hk, hI⟩
  by_cases h : k < C.length
  · have hsn := take_snoc C k (0, 0, 0) h
    have hmem := getD_memL (d := ((0, 0, 0) : Clu)) h
    rcases hce : C.getD k (0, 0, 0) with ⟨c1, c2, c3⟩
    rw [hce] at hsn hmem
    have hfi := pzFits_spec M c1 c2 c3 hM (by rw [hn]; exact hcl _ hmem)
    cases hf : fitC M (c1, c2, c3) with
    | true =>
      rw [hf] at hfi
      repeat (first | (refine step_ops ?_; (first | (refine m_lss rfl rfl ?_) | (refine m_idx_ro rfl rfl ?_ ?_ ?_; (· omega); (· omega)))) | refine end_ops ?_ | refine seq_ops ?_ | (refine cond_t rfl ?_ ?_; (· first | rfl | assumption | (refine decide_eq_true ?_; first | assumption | omega) | (refine nt ?_; first | assumption | omega) | (simp [*]; done))) | refine skip_then ?_ | refine AW_seq ?_ | refine AW_block ?_)
      refine step_ops ?_
      refine m_ldClu h hce rfl ?_
      repeat (first | (refine step_ops ?_; (first | (refine m_mov (by conv => lhs; whnf) ?_) | (refine m_alloc ?_) | (refine m_ldall rfl rfl ?_ ?_; (· first | rfl | (simp; done) | (simp [*]; done))) | (refine m_stall rfl rfl rfl ?_ ?_ ?_ ?_; (· first | rfl | (simp [*]; done)); (· first | rfl | (simp [*]; done)); (· first | rfl | (simp [cellOk, Value.oneCell']; done))))) | refine end_ops ?_ | refine seq_ops ?_)
      have hk10 : killV 10 (AV.sl (1000 + P.length) 1 0 M.length) = .sl (1000 + P.length) 1 0 M.length := by
        simp only [killV]
        rw [if_neg (by omega)]
      refine step_ops ?_
      refine m_call hfi ?_ ?_
      · show Lends _ [AV.agg [.i c1, .i c2, .i c3], killV 10 (AV.sl (1000 + P.length) 1 0 M.length)] _
        rw [hk10]
        refine lends_cons (lend_agg rfl) (lends_cons (lend_sli (L := M) ?_ rfl) lends_nil)
        simp (disch := omega) only [hp_put, hp_mem_ne, hp_kill_ne]
        rw [stA_row (by omega) (by omega)]
        simp [killR]
      repeat (first | (refine step_ops ?_; (first | (refine m_mov (by conv => lhs; whnf) ?_) | (refine m_add rfl rfl ?_ ?_ ?_; (· omega); (· omega)) | (refine m_not rfl ?_))) | refine end_ops ?_ | refine AW_ops ?_ | (refine cond_f rfl ?_ ?_; (· first | rfl | assumption | (refine decide_eq_false ?_; first | assumption | omega) | (refine nf ?_; first | assumption | omega) | (simp [*]; done))) | refine norm_then ?_ | refine norm_block ?_ | refine AW_skip ?_)
      refine next_round (k + 1) ⟨h, fun c hcm => ?_⟩ ?_ (by omega)
      · rw [hsn] at hcm
        rcases List.mem_append.1 hcm with hcm | hcm
        · exact hI c hcm
        · rw [List.mem_singleton.1 hcm]; exact hf
      refine stA_weakR (by omega) (by omega) ⟨rfl, rfl, hk10, rfl, rfl, rfl, rfl, trivial⟩ rfl ?_ (fun j hj => ?_) ?_
      · show some (false, killL 10 (rowsC 1000 P)) = _
        rw [rowsC_kill _ _ _ (by decide)]
      · simp (disch := omega) only [hp_put, hp_mem_ne, hp_kill_ne]
        rw [stA_row hj (by omega)]
        rfl
      · simp only [refsT, Bool.true_and, Bool.and_true, href]
        rfl
    | false =>
      rw [hf] at hfi
      have hno : allFit C M = false := by
        unfold allFit
        rw [List.all_eq_false]
        exact ⟨_, hmem, by rw [hf]; simp⟩
      have hlp : leafP C P M = P := if_neg (by rw [hno]; simp)
      rw [hlp]
      repeat (first | (refine step_ops ?_; (first | (refine m_lss rfl rfl ?_) | (refine m_idx_ro rfl rfl ?_ ?_ ?_; (· omega); (· omega)))) | refine end_ops ?_ | refine seq_ops ?_ | (refine cond_t rfl ?_ ?_; (· first | rfl | assumption | (refine decide_eq_true ?_; first | assumption | omega) | (refine nt ?_; first | assumption | omega) | (simp [*]; done))) | refine skip_then ?_ | refine AW_seq ?_ | refine AW_block ?_)
      refine step_ops ?_
      refine m_ldClu h hce rfl ?_
      repeat (first | (refine step_ops ?_; (first | (refine m_mov (by conv => lhs; whnf) ?_) | (refine m_alloc ?_) | (refine m_ldall rfl rfl ?_ ?_; (· first | rfl | (simp; done) | (simp [*]; done))) | (refine m_stall rfl rfl rfl ?_ ?_ ?_ ?_; (· first | rfl | (simp [*]; done)); (· first | rfl | (simp [*]; done)); (· first | rfl | (simp [cellOk, Value.oneCell']; done))))) | refine end_ops ?_ | refine seq_ops ?_)
      have hk10 : killV 10 (AV.sl (1000 + P.length) 1 0 M.length) = .sl (1000 + P.length) 1 0 M.length := by
        simp only [killV]
        rw [if_neg (by omega)]
      refine step_ops ?_
      refine m_call hfi ?_ ?_
      · show Lends _ [AV.agg [.i c1, .i c2, .i c3], killV 10 (AV.sl (1000 + P.length) 1 0 M.length)] _
        rw [hk10]
        refine lends_cons (lend_agg rfl) (lends_cons (lend_sli (L := M) ?_ rfl) lends_nil)
        simp (disch := omega) only [hp_put, hp_mem_ne, hp_kill_ne]
        rw [stA_row (by omega) (by omega)]
        simp [killR]
      repeat (first | (refine step_ops ?_; (refine m_not rfl ?_)) | refine end_ops ?_ | (refine cond_t rfl ?_ ?_; (· first | rfl | assumption | (refine decide_eq_true ?_; first | assumption | omega) | (refine nt ?_; first | assumption | omega) | (simp [*]; done))) | refine AW_ret ?_ | refine ret_then ?_ | refine ret_block ?_ | refine ret_round ?_)
      refine stA_done (P' := P) (q := 900) (by decide) (by omega) rfl ?_ fun j hj => ?_
      · show some (false, killL 10 (rowsC 1000 P)) = _
        rw [rowsC_kill _ _ _ (by decide)]
      · simp (disch := omega) only [hp_put, hp_mem_ne, hp_kill_ne]
        rw [stA_row (by omega) (by omega), hrow j hj]
        rfl
  · obtain rfl : k = C.length := by omega
    rw [List.take_length] at hI
    have hyes : allFit C M = true := List.all_eq_true.2 hI
    have hlp : leafP C P M = P ++ [M] := if_pos hyes
    rw [hlp]
    repeat (first | (refine step_ops ?_; (first | (refine m_mov (by conv => lhs; whnf) ?_) | (refine m_lss rfl rfl ?_) | (apply m_ld_pt; (· rfl); (· rfl); (· rfl)) | (refine m_nchk rfl ?_))) | refine end_ops ?_ | refine seq_ops ?_ | refine AW_ops ?_ | (refine cond_f rfl ?_ ?_; (· first | rfl | assumption | (refine decide_eq_false ?_; first | assumption | omega) | (refine nf ?_; first | assumption | omega) | (simp [*]; done))) | refine AW_seq ?_ | refine norm_then ?_ | refine exit_then ?_ | refine exit_round ?_ | refine AW_exit ?_ | refine exit_block ?_)
    refine step_ops ?_
    refine m_bsl1d rfl rfl ?_
    refine step_ops ?_
    have hk49 : killV 49 (AV.sl (1000 + P.length) 1 0 M.length) = .sl (1000 + P.length) 1 0 M.length := by
      simp only [killV]
      rw [if_neg (by omega)]
    refine m_app1d (v := .sl (1000 + P.length) 1 0 M.length) rfl (by decide) rfl ?_ rfl (by show some (false, [killV 49 (AV.sl (1000 + P.length) 1 0 M.length)]) = _; rw [hk49]) rfl ?_ (by decide) ?_
    · simp [rowsC_kill, rowsC_len]
    · omega
    repeat (refine step_ops ?_; (refine m_nchk rfl ?_))
    refine step_ops ?_
    refine m_st (r := pbase) (off := 0) (fl := false) (cs := [.any]) rfl rfl rfl (by decide) rfl ?_
    repeat refine end_ops ?_
    refine normal_doneT (stA_done (P' := P ++ [M]) (q := 50) (by decide) (by omega) ?_ ?_ fun j hj => ?_)
    · rw [hl1]
      rfl
    · rw [rowsC_snoc]
      simp (disch := decide) only [hp_put, hp_mem_ne]
      simp [AS.mem, killR, rowsC_kill, killL_append, killL, killV]
      rw [if_neg (by omega)]
      simp only [killV]
      rw [if_neg (by omega)]
    · simp (disch := omega) only [hp_put, hp_mem_ne, hp_kill_ne]
      rw [stA_row hj (by omega)]
      rfl
end Go.Proofs.Yteiipnadhalnbaa
namespace Go.Proofs.Yteiipnadhalnbaa
open Go.Am
attribute [local irreducible] AW Outs Weak Lends Lend Sp aops atree aop1 Then Round InBlock Done
attribute [local irreducible] SpM DoneM SpH DoneH SpG DoneT
/-- All that go on and fit. -/
def slv (C : List Clu) (n k : Nat) (l : List Int) : List (List Int) := (goOn newN n k l).filter (allFit C)
theorem slv_zero (C : List Clu) (n : Nat) (P : List (List Int)) (l : List Int) : leafP C P l = P ++ slv C n 0 l := by
  unfold leafP slv
  cases h : allFit C l <;> simp [goOn, h]
theorem newN_new : ∀ l x, newN l x = true → (x : Int) ∉ l := by
  intro l x h
  unfold newN at h
  simpa using h
theorem snoc_ok {n : Nat} {l : List Int} {x : Nat} (hn : l.Nodup) (hb : ∀ y ∈ l, 0 ≤ y ∧ y < (n : Int)) (hx : x < n) (hf : newN l x = true) : (l ++ [(x : Int)]).Nodup ∧ ∀ y ∈ l ++ [(x : Int)], 0 ≤ y ∧ y < (n : Int) := by
  refine ⟨?_, fun y hy => ?_⟩
  · rw [List.nodup_append]
    refine ⟨hn, by simp, ?_⟩
    rintro a ha b hb' rfl
    rw [List.mem_singleton] at hb'
    subst hb'
    exact newN_new l x hf ha
  · rcases List.mem_append.1 hy with hy | hy
    · exact hb y hy
    · rw [List.mem_singleton.1 hy]
      omega
theorem slv_len {C : List Clu} {n k : Nat} (h5 : n ≤ 5) {l : List Int} (hl : l.length + k = n) (hn : l.Nodup) (hb : ∀ y ∈ l, 0 ≤ y ∧ y < (n : Int)) : (slv C n k l).length ≤ 120 := by
  have h1 := goOn_fac newN_new k l hl hn hb
  have h2 : (slv C n k l).length ≤ (goOn newN n k l).length := List.length_filter_le ..
  have h3 : ∀ k < 6, facR k ≤ 120 := by decide
  have := h3 k (by omega)
  omega
theorem ex_of {n : Nat} {l : List Int} (h1 : 1 ≤ n) (h5 : n ≤ 5) (hl : l.length = n) (hn : l.Nodup) (hb : ∀ y ∈ l, 0 ≤ y ∧ y < (n : Int)) : IsEx l := ⟨by omega, by omega, fun x hx => by rw [hl]; exact hb x hx, hn⟩
/-- One guest more goes on: the call within the loop. -/
theorem pzLook_step (n : Nat) (h1n : 1 ≤ n) (h5 : n ≤ 5) (C : List Clu) (hC : C.length ≤ 6) (hcl : ∀ c ∈ C, IsClu n c) (l : List Int) (x k : Nat) (Q : List (List Int)) (hl : l.length + (k + 1) = n) (hn : (l ++ [(x : Int)]).Nodup) (hb : ∀ y ∈ l ++ [(x : Int)], 0 ≤ y ∧ y < (n : Int)) (hQ : Q.length + 121 ≤ mxA)
    (ih : 0 < k → SpG Try.prog 59 (pzArgs n C (ints (l ++ [(x : Int)]))) (hinA Q Q) (.tup []) (houtA (Q ++ slv C n k (l ++ [(x : Int)]))))
    {s : AS} {K : AS → Prop} {d : Option Nat} {a0 a1 a2 a3 : Opd} (e0 : s.ev a0 = .i n) (e1 : s.ev a1 = .ro false 3 (cls C) C.length) (e2 : s.ev a2 = .sl 30 1 0 (l ++ [(x : Int)]).length) (e3 : s.ev a3 = .pt pbase 0)
    (h1 : s.hp pbase = some (tyC 900 Q.length)) (h2 : s.hp 900 = some (false, rowsC 1000 Q)) (h3 : ∀ j, j < Q.length → s.hp (1000 + j) = some (true, (Q.getD j []).map AV.i)) (h30 : s.hp 30 = some (true, (l ++ [(x : Int)]).map AV.i))
    (kk : K (AS.put ⟨(s.drop (gvA 30)).tm, hpA 30 s (Q ++ slv C n k (l ++ [(x : Int)]))⟩ d (.tup []))) : aop1 Try.prog true ⟨d, .call 59 [a0, a1, a2, a3], none⟩ s K := by
  have hlen : (l ++ [(x : Int)]).length = l.length + 1 := by simp
  have hsl := slv_len (C := C) (k := k) h5 (l := l ++ [(x : Int)]) (by omega) hn hb
  have hcr : ownV true (AV.ro false 3 (cls C) C.length) = true := cls_plain C
  by_cases hk : k = 0
  · subst hk
    have hlf := pzLook_leaf n C (l ++ [(x : Int)]) Q (ex_of h1n h5 (by omega) hn hb) (by omega) hC hcl (by omega)
    rw [slv_zero C n] at hlf
    have hG := stA_givenL (X := 30) (P' := Q ++ slv C n 0 (l ++ [(x : Int)])) (by decide) (by omega) (by rw [List.length_append]; omega) h1 h2 h3 h30
    refine m_callG (nmB 30 Q.length) (gvA 30) hlf ?_ hG kk
    show LendsH s.hp _ _ [s.ev a0, s.ev a1, s.ev a2, s.ev a3] _
    rw [e0, e1, e2, e3]
    exact lendH_cons lendH_v (lendH_cons (lendH_ro hG hcr rfl rfl) (lendH_cons (lendH_leaf hG) (lendH_cons (lendH_pt hG) lendH_nil)))
  · have hG := stA_givenN (X := 30) (P' := Q ++ slv C n k (l ++ [(x : Int)])) (by decide) (by omega) (by rw [List.length_append]; omega) h1 h2 h3
    refine m_callG (nmB 30 Q.length) (gvA 30) (ih (by omega)) ?_ hG kk
    show LendsH s.hp _ _ [s.ev a0, s.ev a1, s.ev a2, s.ev a3] _
    rw [e0, e1, e2, e3]
    exact lendH_cons lendH_v (lendH_cons (lendH_ro hG hcr rfl rfl) (lendH_cons (lendH_node (by decide) (by omega) hG h30) (lendH_cons (lendH_pt hG) lendH_nil)))
set_option maxRecDepth 20000 in
theorem pzLook_in (n : Nat) (h1n : 1 ≤ n) (h5 : n ≤ 5) (C : List Clu) (hC : C.length ≤ 6) (hcl : ∀ c ∈ C, IsClu n c) (k : Nat)
    (ih : 0 < k → ∀ (l : List Int) (P : List (List Int)), l.length + k = n → l.Nodup → (∀ y ∈ l, 0 ≤ y ∧ y < (n : Int)) → P.length + 1000 * k ≤ 100000 → SpG Try.prog 59 (pzArgs n C (ints l)) (hinA P P) (.tup []) (houtA (P ++ slv C n k l)))
    (l : List Int) (P : List (List Int)) (hl : l.length + (k + 1) = n) (hn : l.Nodup) (hb : ∀ y ∈ l, 0 ≤ y ∧ y < (n : Int)) (hN : P.length + 1000 * (k + 1) ≤ 100000) :
    SpG Try.prog 59 (pzArgs n C (ints l)) (hinA P P) (.tup []) (houtA (P ++ slv C n (k + 1) l)) := by
  have hpb : pbase = 4000000 := rfl
  have hx : mxA = 1000000 := rfl
  have hall : (partA newN n k l n).filter (allFit C) = slv C n (k + 1) l := rfl
  have hfin := slv_len (C := C) (k := k + 1) h5 hl hn hb
  have hlen : ∀ x, x ≤ n → (P ++ (partA newN n k l x).filter (allFit C)).length ≤ P.length + 120 := fun x hx' => by
    have h1 := goOn_fac newN_new (k + 1) l hl hn hb
    have h2 := partA_mono newN n k l hx'
    rw [partA_all] at h2
    have h3 : ∀ k < 6, facR k ≤ 120 := by decide
    have h4 := h3 (k + 1) (by omega)
    have h6 : ((partA newN n k l x).filter (allFit C)).length ≤ (partA newN n k l x).length := List.length_filter_le ..
    rw [List.length_append]
    omega
  have hp0 : P ++ (partA newN n k l 0).filter (allFit C) = P := by rw [partA_zero]; simp
  refine specT_of Try.func59 rfl cc59 rfl (stA_static P P _) (stA [(0, .i n), (1, .ro false 3 (cls C) C.length), (2, ints l), (3, .pt pbase 0)] P P) (stA_enter (by omega) (Nat.le_refl _) ⟨rfl, rfl, rfl, rfl, trivial⟩ rfl) ?_
  unfold ac59
  repeat (first | (refine step_ops ?_; (first | (refine m_mov (by conv => lhs; whnf) ?_) | (refine m_lss rfl rfl ?_) | (refine m_len_ro rfl ?_))) | refine end_ops ?_ | refine seq_ops ?_ | (refine cond_t rfl ?_ ?_; (· first | rfl | assumption | (refine decide_eq_true ?_; first | assumption | omega) | (refine nt ?_; first | assumption | omega) | (simp [*]; done))) | refine AW_seq ?_ | refine AW_block ?_)
  refine AW_loop (α := Nat) (fun x => x ≤ n) (fun x => stA [(0, .i n), (1, .ro false 3 (cls C) C.length), (2, ints l), (3, .pt pbase 0), (8, .i x)] (P ++ (partA newN n k l x).filter (allFit C)) (P ++ (partA newN n k l x).filter (allFit C))) (fun x => n - x) 0 (Nat.zero_le _) ?_ ?_
  · rw [hp0]
    refine stA_weak (by omega) ⟨rfl, rfl, rfl, rfl, rfl, trivial⟩ rfl rfl (fun j hj => ?_) rfl
    simp (disch := omega) only [hp_put]
    exact stA_row hj (by omega)
  intro x hx'
  have hQ := hlen x hx'
  by_cases hc : x < n
  · have hsucc := partA_succ newN n k l x
    have hsame : newN l x = false → P ++ (partA newN n k l (x + 1)).filter (allFit C) = P ++ (partA newN n k l x).filter (allFit C) := fun h => by rw [hsucc, h]; simp
    have hmore : newN l x = true → P ++ (partA newN n k l (x + 1)).filter (allFit C) = P ++ (partA newN n k l x).filter (allFit C) ++ slv C n k (l ++ [(x : Int)]) := fun h => by
      rw [hsucc, if_pos h, List.filter_append, List.append_assoc]
      rfl
    generalize P ++ (partA newN n k l x).filter (allFit C) = Q at *
    by_cases hm : (x : Int) ∈ l
    · have hfit : newN l x = false := by unfold newN; simp [hm]
      repeat (first | (refine step_ops ?_; (first | (refine m_mov (by conv => lhs; whnf) ?_) | (refine m_lss rfl rfl ?_))) | refine end_ops ?_ | refine seq_ops ?_ | (refine cond_t rfl ?_ ?_; (· first | rfl | assumption | (refine decide_eq_true ?_; first | assumption | omega) | (refine nt ?_; first | assumption | omega) | (simp [*]; done))) | refine skip_then ?_ | refine AW_seq ?_ | refine AW_block ?_)
      refine step_ops ?_; (apply m_call (l1Has_spec l x (by omega))); (· repeat (first | exact lends_nil | (refine lends_cons ?_ ?_; (· (first | exact lend_v | (refine lend_ints ?_; first | rfl | omega))))))
      repeat (first | (refine step_ops ?_; (first | (refine m_mov (by conv => lhs; whnf) ?_) | (refine m_add rfl rfl ?_ ?_ ?_; (· omega); (· omega)) | (refine m_not rfl ?_))) | refine end_ops ?_ | refine AW_ops ?_ | (refine cond_f rfl ?_ ?_; (· first | rfl | assumption | (refine decide_eq_false ?_; first | assumption | omega) | (refine nf ?_; first | assumption | omega) | (simp [*]; done))) | refine norm_then ?_ | refine norm_block ?_ | refine AW_skip ?_)
      refine next_round (x + 1) hc ?_ (by omega)
      show Weak _ (stA [(0, .i n), (1, .ro false 3 (cls C) C.length), (2, ints l), (3, .pt pbase 0), (8, .i ((x + 1 : Nat) : Int))] (P ++ (partA newN n k l (x + 1)).filter (allFit C)) (P ++ (partA newN n k l (x + 1)).filter (allFit C)))
      rw [hsame hfit]
      refine stA_weak (by omega) ⟨rfl, rfl, rfl, rfl, rfl, trivial⟩ rfl rfl (fun j hj => ?_) rfl
      simp (disch := omega) only [hp_put]
      exact stA_row hj (by omega)
    have hfit : newN l x = true := by unfold newN; simp [hm]
    obtain ⟨hn', hb'⟩ := snoc_ok hn hb hc hfit
    have hsl := slv_len (C := C) (k := k) h5 (l := l ++ [(x : Int)]) (by simp; omega) hn' hb'
    have hih : 0 < k → SpG Try.prog 59 (pzArgs n C (ints (l ++ [(x : Int)]))) (hinA Q Q) (.tup []) (houtA (Q ++ slv C n k (l ++ [(x : Int)]))) := fun h => ih h _ _ (by simp; omega) hn' hb' (by omega)
    repeat (first | (refine step_ops ?_; (first | (refine m_mov (by conv => lhs; whnf) ?_) | (refine m_lss rfl rfl ?_))) | refine end_ops ?_ | refine seq_ops ?_ | (refine cond_t rfl ?_ ?_; (· first | rfl | assumption | (refine decide_eq_true ?_; first | assumption | omega) | (refine nt ?_; first | assumption | omega) | (simp [*]; done))) | refine skip_then ?_ | refine AW_seq ?_ | refine AW_block ?_)
    refine step_ops ?_; (apply m_call (l1Has_spec l x (by omega))); (· repeat (first | exact lends_nil | (refine lends_cons ?_ ?_; (· (first | exact lend_v | (refine lend_ints ?_; first | rfl | omega))))))
    repeat (first | (refine step_ops ?_; (first | (refine m_mov (by conv => lhs; whnf) ?_) | (refine m_not rfl ?_))) | refine end_ops ?_ | refine AW_ops ?_ | (refine cond_t rfl ?_ ?_; (· first | rfl | assumption | (refine decide_eq_true ?_; first | assumption | omega) | (refine nt ?_; first | assumption | omega) | (simp [*]; done))))
    refine step_ops ?_; (apply m_callo (l1Own_spec l (by omega))); (· repeat (first | exact lends_nil | (refine lends_cons ?_ ?_; (· (refine lend_ints ?_; first | rfl | omega))))); (· first | exact allv_ints _ | rfl | (simp; done))
    repeat (refine step_ops ?_; (first | (refine m_mov (by conv => lhs; whnf) ?_) | (refine m_bsl1 rfl rfl ?_) | (refine m_app1i rfl (by decide) (by rfl) (by first | rfl | omega | (simp; done)) rfl rfl ?_ (by decide) ?_; (· first | omega | (simp; omega)))))
    refine step_ops ?_
    refine pzLook_step n h1n h5 C hC hcl l x k Q hl hn' hb' (by omega) hih rfl rfl rfl rfl rfl ?_ (fun j hj => ?_) ?_ ?_
    · show some (false, killL 30 (killL 27 (killL 29 (killL 27 (rowsC 1000 Q))))) = _
      have hk := fun r (h : r < 1000) => rowsC_kill r 1000 Q h
      rw [hk 27 (by decide), hk 29 (by decide), hk 27 (by decide), hk 30 (by decide)]
    · simp (disch := omega) only [hp_put, hp_mem_ne, hp_kill_ne]
      rw [stA_row hj (by omega)]
      rfl
    · rfl
    repeat (first | (refine step_ops ?_; (first | (refine m_mov (by conv => lhs; whnf) ?_) | (refine m_add rfl rfl ?_ ?_ ?_; (· omega); (· omega)))) | refine end_ops ?_ | refine AW_ops ?_ | refine norm_then ?_ | refine norm_block ?_)
    refine next_round (x + 1) hc ?_ (by omega)
    show Weak _ (stA [(0, .i n), (1, .ro false 3 (cls C) C.length), (2, ints l), (3, .pt pbase 0), (8, .i ((x + 1 : Nat) : Int))] (P ++ (partA newN n k l (x + 1)).filter (allFit C)) (P ++ (partA newN n k l (x + 1)).filter (allFit C)))
    rw [hmore hfit]
    refine stA_weak (by rw [List.length_append]; omega) ⟨rfl, rfl, rfl, rfl, rfl, trivial⟩ rfl rfl (fun j hj => ?_) rfl
    simp (disch := omega) only [hp_put]
    exact hpA_row hj (by rw [List.length_append]; omega)
  · obtain rfl : x = n := by omega
    rw [hall] at hQ ⊢
    repeat (first | (refine step_ops ?_; (first | (refine m_mov (by conv => lhs; whnf) ?_) | (refine m_lss rfl rfl ?_))) | refine end_ops ?_ | refine seq_ops ?_ | (refine cond_f rfl ?_ ?_; (· first | rfl | assumption | (refine decide_eq_false ?_; first | assumption | omega) | (refine nf ?_; first | assumption | omega) | (simp [*]; done))) | refine AW_seq ?_ | refine AW_ret ?_ | refine norm_then ?_ | refine ret_then ?_ | refine exit_then ?_ | refine exit_round ?_ | refine AW_exit ?_ | refine exit_block ?_)
    refine stA_done (q := 900) (by decide) (by omega) ?_ ?_ fun j hj => ?_
    · rfl
    · rfl
    · simp (disch := omega) only [hp_put]
      exact stA_row hj (by omega)
theorem pzLook_node (n : Nat) (h1n : 1 ≤ n) (h5 : n ≤ 5) (C : List Clu) (hC : C.length ≤ 6) (hcl : ∀ c ∈ C, IsClu n c) : ∀ (k : Nat) (l : List Int) (P : List (List Int)), l.length + (k + 1) = n → l.Nodup → (∀ y ∈ l, 0 ≤ y ∧ y < (n : Int)) → P.length + 1000 * (k + 1) ≤ 100000 →
    SpG Try.prog 59 (pzArgs n C (ints l)) (hinA P P) (.tup []) (houtA (P ++ slv C n (k + 1) l)) := by
  intro k
  induction k with
  | zero => exact pzLook_in n h1n h5 C hC hcl 0 (fun h => absurd h (by omega))
  | succ k ih => exact pzLook_in n h1n h5 C hC hcl (k + 1) (fun _ => ih)
end Go.Proofs.Yteiipnadhalnbaa
namespace Go.Proofs.Yteiipnadhalnbaa
open Go.Am
attribute [local irreducible] AW Outs Weak Lends Lend Sp aops atree aop1 Then Round InBlock Done
attribute [local irreducible] SpM DoneM SpH DoneH SpG DoneT
/-- All solutions, in order. -/
def sol (n : Nat) (C : List Clu) : List (List Int) := slv C n n []
theorem sol_len {n : Nat} {C : List Clu} (h5 : n ≤ 5) : (sol n C).length ≤ 120 := slv_len h5 (by simp) List.nodup_nil (by simp)
theorem pzAll_spec (n : Nat) (h1 : 1 ≤ n) (h5 : n ≤ 5) (C : List Clu) (hC : C.length ≤ 6) (hcl : ∀ c ∈ C, IsClu n c) : SpH Try.prog 45 [.i n, .ro false 3 (cls C) C.length] (fun _ => none) (.sl nbase 1 0 (sol n C).length) (matO (sol n C)) := by
  have hpb : pbase = 4000000 := rfl
  have hx : mxA = 1000000 := rfl
  have hl := sol_len (n := n) (C := C) h5
  obtain ⟨k, hk⟩ : ∃ k, n = k + 1 := ⟨n - 1, by omega⟩
  have hnode := pzLook_node n h1 h5 C hC hcl k [] [] (by simp; omega) List.nodup_nil (by simp) (by simp; omega)
  rw [← hk, List.nil_append] at hnode
  change SpG Try.prog _ _ _ _ (houtA (sol n C)) at hnode
  have hcr : ownV true (AV.ro false 3 (cls C) C.length) = true := cls_plain C
  generalize sol n C = R at *
  refine specH_of Try.func45 rfl cc45 rfl (by first | exact static_mat1 _ | exact static_mat2 _ _ | assumption) ?_
  unfold ac45
  repeat (first | (refine step_ops ?_; (first | (refine m_mov (by conv => lhs; whnf) ?_) | (refine m_nils ?_) | (refine m_alloc ?_))) | refine end_ops ?_ | refine seq_ops ?_)
  refine step_opsW (weak_nilcellG false 5 900 1 0 rfl rfl (by decide) rfl rfl) ?_
  refine m_callG (nmR 5) gvR hnode ?_ (stA_given0 (by decide) (by omega) rfl rfl fun j hj => ?_) ?_
  · exact lendH_cons lendH_v (lendH_cons (lendH_ren (x := .ro false 3 (cls C) C.length) (hin0_live rfl rfl) hcr rfl) (lendH_cons lendH_nil0 (lendH_cons (lendH_ren (x := .pt pbase 0) (hin0_live (q0 := 5) rfl rfl) rfl rfl) lendH_nil)))
  · simp (disch := omega) only [hp_put, hp_mem_ne, hp_kill_ne]
    rfl
  repeat (first | (refine step_ops ?_; (first | (refine m_mov (by conv => lhs; whnf) ?_) | (apply m_ld_pt; (· rfl); (· rfl); (· rfl)))) | refine end_ops ?_ | refine seq_ops ?_ | refine AW_ret ?_)
  refine ret_mat (r0 := 900) (b := 1000) (by omega) (by omega) (by omega) rfl rfl fun j hj => ?_
  simp (disch := omega) only [hp_put]
  exact hpR_row (by decide) hj
end Go.Proofs.Yteiipnadhalnbaa
namespace Go.Am
theorem lend_pzl {hp : Hp} {g : Int} {C : List Clu} {fr : Bool} : Lend hp (.agg [.i g, .ro fr 3 (cls C) C.length]) (pzl g C) := lend_aggs (lends_cons lend_v (lends_cons (lend_ro (cls_plain C)) lends_nil))
theorem lend_cls {hp : Hp} {C : List Clu} {fr : Bool} : Lend hp (.ro fr 3 (cls C) C.length) (.ro false 3 (cls C) C.length) := lend_ro (cls_plain C)
end Go.Am
namespace Go.Proofs.Yteiipnadhalnbaa
open Go.Am
attribute [local irreducible] AW Outs Weak Lends Lend Sp aops atree aop1 Then Round InBlock Done
attribute [local irreducible] SpM DoneM SpH DoneH SpG DoneT
theorem pz_nat {g : Int} {C : List Clu} (h : IsPz g C) : ∃ n : Nat, g = n ∧ 1 ≤ n ∧ n ≤ 5 := by
  have h1 := h.1.1
  have h5 := h.1.2
  obtain ⟨n, rfl⟩ := Int.eq_ofNat_of_zero_le (show 0 ≤ g by omega)
  exact ⟨n, rfl, by omega, by omega⟩
/-- All solutions; none, if there is no puzzle. -/
def solS (g : Int) (C : List Clu) : List (List Int) := if IsPz g C then sol g.toNat C else []
theorem pzSolved_spec (n : Nat) (h1 : 1 ≤ n) (h5 : n ≤ 5) (C : List Clu) (hC : C.length ≤ 6) (hcl : ∀ c ∈ C, IsClu n c) : Sp Try.prog 30 [.i n, .ro false 3 (cls C) C.length] (.b (decide (((sol n C).length : Int) = 1))) := by
  have hall := sp_mat1 (pzAll_spec n h1 h5 C hC hcl)
  generalize sol n C = R at *
  refine spec_of Try.func30 rfl cc30 rfl ?_
  unfold ac30
  repeat (first | (refine step_ops ?_; (refine m_mov (by conv => lhs; whnf) ?_)) | refine end_ops ?_ | refine seq_ops ?_)
  refine step_ops ?_
  refine m_call hall (lends_cons lend_v (lends_cons lend_cls lends_nil)) ?_
  repeat (first | (refine step_ops ?_; (first | (refine m_mov (by conv => lhs; whnf) ?_) | (refine m_eql rfl rfl ?_) | (refine m_len_ro rfl ?_))) | refine end_ops ?_ | refine AW_ret ?_ | refine ret_done ?_)
  exact outs_b rfl
end Go.Proofs.Yteiipnadhalnbaa
namespace Go.Proofs.Yteiipnadhalnbaa
open Go.Am
attribute [local irreducible] AW Outs Weak Lends Lend Sp aops atree aop1 Then Round InBlock Done
attribute [local irreducible] SpM DoneM
set_option maxRecDepth 8000 in
theorem toClue_spec (k a b : Int) : Sp Try.prog 9 [.agg [.i k, .i a, .i b]] (.agg [.i k, .i a, .i b]) := by
  refine specC_of Try.func9 rfl cc9 (by rfl) ?_
  unfold ac9
  refine seq_ops ?_
  refine step_ops ?_
  refine m_box (l := [.i k, .i a, .i b]) rfl rfl ?_
  repeat (first | (refine step_ops ?_; (first | (apply m_ld_pt; (· rfl); (· rfl); (· rfl)) | (apply m_st; (· rfl); (· rfl); (· rfl); (· first | omega | (simp; done) | (simp; omega)); (· rfl)) | (refine m_alloc ?_) | (refine m_fa rfl ?_) | (refine m_ldall rfl rfl ?_ ?_; (· first | rfl | (simp; done) | (simp [*]; done))) | (refine m_stall rfl rfl rfl ?_ ?_ ?_ ?_; (· first | rfl | (simp [*]; done)); (· first | rfl | (simp [*]; done)); (· first | rfl | (simp [cellOk, Value.oneCell']; done))))) | refine end_ops ?_ | refine seq_ops ?_ | refine AW_ret ?_)
  refine ret_donec rfl rfl rfl ?_
  exact outs_agg3 (outs_i rfl) (outs_i rfl) (outs_i rfl)
def copP (C : List Clu) (k : Nat) : List Clu := C.take k ++ List.replicate (C.length - k) (0, 0, 0)
theorem copP_len (C : List Clu) (k : Nat) (h : k ≤ C.length) : (copP C k).length = C.length := by simp [copP]; omega
theorem copP_set (C : List Clu) (k : Nat) (h : k < C.length) : (copP C k).set k (C.getD k (0, 0, 0)) = copP C (k + 1) := by
  unfold copP
  have e : C.length - k = (C.length - (k + 1)) + 1 := by omega
  have e2 : k - (C.take k).length = 0 := by simp; omega
  rw [take_snoc C k (0, 0, 0) h, e, List.replicate_succ, List.set_append_right _ _ (by simp; omega), e2]
  simp
theorem toClueS_spec (C : List Clu) (hC : C.length ≤ 1048576) : Sp Try.prog 24 [.ro false 3 (cls C) C.length] (.ro true 3 (cls C) C.length) := by
  refine spec_of Try.func24 rfl cc24 rfl ?_
  unfold ac24
  repeat (first | (refine step_ops ?_; (first | (refine m_mov (by conv => lhs; whnf) ?_) | (refine m_len_ro rfl ?_) | (refine m_nils ?_))) | refine end_ops ?_ | refine seq_ops ?_)
  refine step_ops ?_
  refine m_mk rfl rfl ?_ ?_ ?_
  · omega
  · omega
  repeat (first | (refine step_ops ?_; (refine m_mov (by conv => lhs; whnf) ?_)) | refine end_ops ?_ | refine seq_ops ?_ | refine AW_seq ?_ | refine AW_block ?_)
  refine AW_loop (α := Nat) (fun k => k ≤ C.length) (fun k => st [(0, .ro false 3 (cls C) C.length), (3, .sl 7 3 0 C.length), (4, .i k)] [(7, (true, cls (copP C k)))]) (fun k => C.length - k) 0 (by omega) (weak_st ?_ ?_ rfl rfl) ?_
  · (repeat' (first | exact trivial | refine And.intro ?_ ?_)) <;> (first | rfl | skip)
  · refine ⟨?_, trivial⟩
    show some (true, (List.replicate C.length ([.int .i64 0, .int .i64 0, .int .i64 0].map AV.v)).flatten) = _
    rw [cls_rep]
    simp [copP]
  intro k hk
  by_cases h : k < C.length
  · have hcl := copP_len C k hk
    have hset := copP_set C k h
    rcases hce : C.getD k (0, 0, 0) with ⟨c1, c2, c3⟩
    rw [hce] at hset
    repeat (first | (refine step_ops ?_; (first | (refine m_mov (by conv => lhs; whnf) ?_) | (refine m_lss rfl rfl ?_) | (refine m_len_ro rfl ?_) | (refine m_idx_ro rfl rfl ?_ ?_ ?_; (· omega); (· omega)))) | refine end_ops ?_ | refine seq_ops ?_ | refine AW_ops ?_ | (refine cond_t rfl ?_ ?_; (· first | rfl | assumption | (refine decide_eq_true ?_; first | assumption | omega) | (refine nt ?_; first | assumption | omega) | (simp [*]; done))) | refine skip_then ?_ | refine AW_seq ?_ | refine AW_block ?_)
    refine step_ops ?_
    refine m_ldClu h hce rfl ?_
    skip
    (refine step_ops ?_); (apply m_call (toClue_spec c1 c2 c3)); (· repeat (first | exact lends_nil | (refine lends_cons ?_ ?_; (· (refine lend_agg ?_; first | rfl | assumption | (simp [plainV]; done))))))
    repeat (refine step_ops ?_; (refine m_idx_sl rfl rfl ?_ ?_ ?_; (· omega); (· omega)))
    refine step_ops ?_
    refine m_stClu rfl (by rfl) rfl (by omega) hset ?_
    repeat (first | (refine step_ops ?_; (first | (refine m_mov (by conv => lhs; whnf) ?_) | (refine m_add rfl rfl ?_ ?_ ?_; (· omega); (· omega)))) | refine end_ops ?_ | refine AW_ops ?_ | refine norm_then ?_ | refine norm_block ?_)
    refine next_round (k + 1) h (weak_st ?_ ?_ rfl rfl) ?_
    · (repeat' (first | exact trivial | refine And.intro ?_ ?_)) <;> (first | rfl | skip)
    · (repeat' (first | exact trivial | refine And.intro ?_ ?_)) <;> (first | rfl | skip)
    · omega
  · obtain rfl : k = C.length := by omega
    repeat (first | (refine step_ops ?_; (first | (refine m_mov (by conv => lhs; whnf) ?_) | (refine m_lss rfl rfl ?_) | (refine m_len_ro rfl ?_))) | refine end_ops ?_ | refine seq_ops ?_ | (refine cond_f rfl ?_ ?_; (· first | rfl | assumption | (refine decide_eq_false ?_; first | assumption | omega) | (refine nf ?_; first | assumption | omega) | (simp [*]; done))) | refine AW_seq ?_ | refine AW_ret ?_ | refine ret_done ?_ | refine norm_then ?_ | refine exit_then ?_ | refine exit_round ?_ | refine AW_exit ?_ | refine exit_block ?_)
    refine outs_clus rfl ?_ rfl
    simp [copP]
set_option maxRecDepth 8000 in
theorem toPuzzle_spec (g : Int) (C : List Clu) (hC : C.length ≤ 1048576) : Sp Try.prog 8 [pzl g C] (newPz g C) := by
  refine specC_of Try.func8 rfl cc8 (by rfl) ?_
  unfold ac8
  repeat (first | (refine step_ops ?_; (first | (apply m_ld_pt; (· rfl); (· rfl); (· rfl)) | (apply m_st; (· rfl); (· rfl); (· rfl); (· first | omega | (simp; done) | (simp; omega)); (· rfl)) | (refine m_alloc ?_) | (refine m_fa rfl ?_) | (refine m_box rfl ?_ ?_; (· first | rfl | (simp [cellOk, Value.oneCell']; done))))) | refine end_ops ?_ | refine seq_ops ?_)
  refine step_ops ?_
  refine m_callo (toClueS_spec C hC) ?_ (cls_plain C) ?_
  · exact lends_cons lend_cls lends_nil
  repeat (refine step_ops ?_; (refine m_fa rfl ?_))
  refine step_opsW (weak_deep (r := 3) rfl (by simp) rfl) ?_
  refine m_st (v := .sl 9 3 0 C.length) rfl rfl rfl (by simp) rfl ?_
  repeat (first | (refine step_ops ?_; (refine m_ldall rfl rfl ?_ ?_; (· first | rfl | (simp; done) | (simp [*]; done)))) | refine end_ops ?_ | refine seq_ops ?_)
  refine step_opsW (weak_deep (r := 2) rfl (by simp) rfl) ?_
  refine m_stall (l := [.i g, .sl 9 3 0 C.length]) rfl rfl rfl rfl rfl rfl ?_
  repeat (first | refine end_ops ?_ | refine AW_ret ?_)
  refine ret_donec rfl rfl rfl ?_
  exact outs_agg2 (outs_i rfl) (outs_clus rfl rfl rfl)
theorem szClueS_spec (C : List Clu) (hC : C.length ≤ 9223372036854775807) : Sp Try.prog 21 [.ro false 3 (cls C) C.length, .i 1048576] (.i (if C.length ≤ 1048576 then 1048576 - C.length else -1)) := by
  refine spec_of Try.func21 rfl cc21 rfl ?_
  unfold ac21
  by_cases h : C.length ≤ 1048576
  · rw [if_pos h]
    repeat (first | (refine step_ops ?_; (first | (refine m_mov (by conv => lhs; whnf) ?_) | (refine m_lss rfl rfl ?_) | (refine m_sub rfl rfl ?_ ?_ ?_; (· omega); (· omega)) | (refine m_len_ro rfl ?_))) | refine end_ops ?_ | refine seq_ops ?_ | (refine cond_f rfl ?_ ?_; (· first | rfl | assumption | (refine decide_eq_false ?_; first | assumption | omega) | (refine nf ?_; first | assumption | omega) | (simp [*]; done))) | refine skip_then ?_ | refine AW_seq ?_ | refine AW_ret ?_ | refine ret_done ?_)
    exact outs_i rfl
  · rw [if_neg h]
    repeat (first | (refine step_ops ?_; (first | (refine m_mov (by conv => lhs; whnf) ?_) | (refine m_lss rfl rfl ?_) | (refine m_sub rfl rfl ?_ ?_ ?_; (· omega); (· omega)) | (refine m_len_ro rfl ?_))) | refine end_ops ?_ | refine seq_ops ?_ | (refine cond_t rfl ?_ ?_; (· first | rfl | assumption | (refine decide_eq_true ?_; first | assumption | omega) | (refine nt ?_; first | assumption | omega) | (simp [*]; done))) | refine AW_seq ?_ | refine AW_ret ?_ | refine ret_done ?_ | refine ret_then ?_)
    exact outs_i rfl
theorem szPuzzle_spec (g : Int) (C : List Clu) (hC : C.length ≤ 9223372036854775807) : Sp Try.prog 6 [pzl g C, .i 1048576] (.i (if C.length ≤ 1048576 then 1048576 - C.length else -1)) := by
  have hs := szClueS_spec C hC
  refine spec_of Try.func6 rfl cc6 rfl ?_
  unfold ac6
  by_cases h : C.length ≤ 1048576
  · rw [if_pos h] at hs ⊢
    repeat (first | (refine step_ops ?_; (first | (refine m_mov (by conv => lhs; whnf) ?_) | (apply m_ld_pt; (· rfl); (· rfl); (· rfl)) | (refine m_fa rfl ?_) | (refine m_box rfl ?_ ?_; (· first | rfl | (simp [cellOk, Value.oneCell']; done))))) | refine end_ops ?_ | refine seq_ops ?_)
    (refine step_ops ?_); (apply m_call (hs)); (· repeat (first | exact lends_nil | (refine lends_cons ?_ ?_; (· (first | exact lend_v | exact lend_cls)))))
    repeat (first | (refine step_ops ?_; (first | (refine m_mov (by conv => lhs; whnf) ?_) | (refine m_lss rfl rfl ?_))) | refine end_ops ?_ | refine seq_ops ?_ | (refine cond_f rfl ?_ ?_; (· first | rfl | assumption | (refine decide_eq_false ?_; first | assumption | omega) | (refine nf ?_; first | assumption | omega) | (simp [*]; done))) | refine skip_then ?_ | refine AW_seq ?_ | refine AW_ret ?_ | refine ret_done ?_)
    exact outs_i rfl
  · rw [if_neg h] at hs ⊢
    repeat (first | (refine step_ops ?_; (first | (refine m_mov (by conv => lhs; whnf) ?_) | (apply m_ld_pt; (· rfl); (· rfl); (· rfl)) | (refine m_fa rfl ?_) | (refine m_box rfl ?_ ?_; (· first | rfl | (simp [cellOk, Value.oneCell']; done))))) | refine end_ops ?_ | refine seq_ops ?_)
    (refine step_ops ?_); (apply m_call (hs)); (· repeat (first | exact lends_nil | (refine lends_cons ?_ ?_; (· (first | exact lend_v | exact lend_cls)))))
    repeat (first | (refine step_ops ?_; (first | (refine m_mov (by conv => lhs; whnf) ?_) | (refine m_lss rfl rfl ?_))) | refine end_ops ?_ | refine seq_ops ?_ | (refine cond_t rfl ?_ ?_; (· first | rfl | assumption | (refine decide_eq_true ?_; first | assumption | omega) | (refine nt ?_; first | assumption | omega) | (simp [*]; done))) | refine AW_seq ?_ | refine AW_ret ?_ | refine ret_done ?_ | refine ret_then ?_)
    exact outs_i rfl
theorem eqClue_spec (k a b l c d : Int) : Sp Try.prog 44 [.agg [.i k, .i a, .i b], .agg [.i l, .i c, .i d]] (.b (decide (((k, a, b) : Clu) = (l, c, d)))) := by
  have e : decide (((k, a, b) : Clu) = (l, c, d)) = decide (k = l ∧ a = c ∧ b = d) := by simp
  rw [e]
  refine spec_of Try.func44 rfl cc44 rfl ?_
  unfold ac44
  refine seq_ops ?_
  refine step_ops ?_
  refine m_box (l := [.i k, .i a, .i b]) rfl rfl ?_
  refine step_ops ?_
  refine m_box (l := [.i l, .i c, .i d]) rfl rfl ?_
  by_cases h1 : k = l
  · by_cases h2 : a = c
    · by_cases h3 : b = d
      · repeat (first | (refine step_ops ?_; (first | (refine m_mov (by conv => lhs; whnf) ?_) | (refine m_neq rfl rfl ?_) | (apply m_ld_pt; (· rfl); (· rfl); (· rfl)) | (refine m_fa rfl ?_))) | refine end_ops ?_ | refine seq_ops ?_ | (refine cond_f rfl ?_ ?_; (· first | rfl | assumption | (refine decide_eq_false ?_; first | assumption | omega) | (refine nf ?_; first | assumption | omega) | (simp [*]; done))) | refine skip_then ?_ | refine AW_seq ?_ | refine AW_ret ?_ | refine ret_done ?_)
        exact outs_b (by simp [h1, h2, h3])
      · repeat (first | (refine step_ops ?_; (first | (refine m_mov (by conv => lhs; whnf) ?_) | (refine m_neq rfl rfl ?_) | (apply m_ld_pt; (· rfl); (· rfl); (· rfl)) | (refine m_fa rfl ?_))) | refine end_ops ?_ | refine seq_ops ?_ | (refine cond_t rfl ?_ ?_; (· first | rfl | assumption | (refine decide_eq_true ?_; first | assumption | omega) | (refine nt ?_; first | assumption | omega) | (simp [*]; done))) | (refine cond_f rfl ?_ ?_; (· first | rfl | assumption | (refine decide_eq_false ?_; first | assumption | omega) | (refine nf ?_; first | assumption | omega) | (simp [*]; done))) | refine skip_then ?_ | refine AW_seq ?_ | refine AW_ret ?_ | refine ret_done ?_ | refine ret_then ?_)
        exact outs_b (by simp [h3])
    · repeat (first | (refine step_ops ?_; (first | (refine m_mov (by conv => lhs; whnf) ?_) | (refine m_neq rfl rfl ?_) | (apply m_ld_pt; (· rfl); (· rfl); (· rfl)) | (refine m_fa rfl ?_))) | refine end_ops ?_ | refine seq_ops ?_ | (refine cond_t rfl ?_ ?_; (· first | rfl | assumption | (refine decide_eq_true ?_; first | assumption | omega) | (refine nt ?_; first | assumption | omega) | (simp [*]; done))) | (refine cond_f rfl ?_ ?_; (· first | rfl | assumption | (refine decide_eq_false ?_; first | assumption | omega) | (refine nf ?_; first | assumption | omega) | (simp [*]; done))) | refine skip_then ?_ | refine AW_seq ?_ | refine AW_ret ?_ | refine ret_done ?_ | refine ret_then ?_)
      exact outs_b (by simp [h2])
  · repeat (first | (refine step_ops ?_; (first | (refine m_mov (by conv => lhs; whnf) ?_) | (refine m_neq rfl rfl ?_) | (apply m_ld_pt; (· rfl); (· rfl); (· rfl)) | (refine m_fa rfl ?_))) | refine end_ops ?_ | refine seq_ops ?_ | (refine cond_t rfl ?_ ?_; (· first | rfl | assumption | (refine decide_eq_true ?_; first | assumption | omega) | (refine nt ?_; first | assumption | omega) | (simp [*]; done))) | refine AW_seq ?_ | refine AW_ret ?_ | refine ret_done ?_ | refine ret_then ?_)
    exact outs_b (by simp [h1])
theorem eqClueS_spec (C D : List Clu) (hC : C.length ≤ 1048576) : Sp Try.prog 27 [.ro false 3 (cls C) C.length, .ro false 3 (cls D) D.length] (.b (decide (C = D))) := by
  refine spec_of Try.func27 rfl cc27 rfl ?_
  unfold ac27
  by_cases hlen : C.length = D.length
  · have hlen' : (decide ((C.length : Int) ≠ D.length)) = false := by simp [hlen]
    repeat (first | (refine step_ops ?_; (first | (refine m_mov (by conv => lhs; whnf) ?_) | (refine m_neq rfl rfl ?_) | (refine m_len_ro rfl ?_))) | refine end_ops ?_ | refine seq_ops ?_ | (refine cond_f rfl ?_ ?_; (· first | rfl | assumption | (refine decide_eq_false ?_; first | assumption | omega) | (refine nf ?_; first | assumption | omega) | (simp [*]; done))) | refine skip_then ?_ | refine AW_seq ?_ | refine AW_block ?_)
    refine AW_loop (α := Nat) (fun k => k ≤ C.length ∧ C.take k = D.take k) (fun k => st [(0, .ro false 3 (cls C) C.length), (1, .ro false 3 (cls D) D.length), (5, .i k)] []) (fun k => C.length - k) 0 (by simp) (weak_st ?_ ?_ rfl rfl) ?_
    · (repeat' (first | exact trivial | refine And.intro ?_ ?_)) <;> (first | rfl | skip)
    · trivial
    rintro k ⟨hk, he⟩
    by_cases h : k < C.length
    · have h' : k < D.length := by omega
      have hsn := take_snoc C k (0, 0, 0) h
      have hsn' := take_snoc D k (0, 0, 0) h'
      have hne : C.getD k (0, 0, 0) ≠ D.getD k (0, 0, 0) → ¬ C = D := fun hx e => hx (by rw [e])
      rcases hce : C.getD k (0, 0, 0) with ⟨c1, c2, c3⟩
      rcases hcd : D.getD k (0, 0, 0) with ⟨d1, d2, d3⟩
      rw [hce] at hsn
      rw [hcd] at hsn'
      rw [hce, hcd] at hne
      have heq := eqClue_spec c1 c2 c3 d1 d2 d3
      by_cases hx : ((c1, c2, c3) : Clu) = (d1, d2, d3)
      · rw [decide_eq_true hx] at heq
        repeat (first | ((first | refine step_ops ?_ | refine step_tree ?_); (first | (refine m_mov (by conv => lhs; whnf) ?_) | (refine m_lss rfl rfl ?_) | (refine m_len_ro rfl ?_) | (refine m_idx_ro rfl rfl ?_ ?_ ?_; (· omega); (· omega)))) | refine end_ops ?_ | refine seq_ops ?_ | refine seq_tree ?_ | (refine cond_t rfl ?_ ?_; (· first | rfl | assumption | (refine decide_eq_true ?_; first | assumption | omega) | (refine nt ?_; first | assumption | omega) | (simp [*]; done))) | refine skip_then ?_ | refine AW_seq ?_ | refine AW_block ?_)
        refine step_tree ?_
        refine m_ldClu h hce rfl ?_
        repeat (refine step_tree ?_; (first | (refine m_mov (by conv => lhs; whnf) ?_) | (refine m_idx_ro rfl rfl ?_ ?_ ?_; (· omega); (· omega))))
        refine step_tree ?_
        refine m_ldClu h' hcd rfl ?_
        skip
        refine step_tree ?_; (apply m_call (heq)); (· repeat (first | exact lends_nil | (refine lends_cons ?_ ?_; (· (refine lend_agg ?_; first | rfl | assumption | (simp [plainV]; done))))))
        repeat (first | ((first | refine step_ops ?_ | refine step_tree ?_); (first | (refine m_mov (by conv => lhs; whnf) ?_) | (refine m_add rfl rfl ?_ ?_ ?_; (· omega); (· omega)) | (refine m_not rfl ?_))) | refine end_ops ?_ | refine AW_ops ?_ | refine end_tree ?_ | (refine cond_f rfl ?_ ?_; (· first | rfl | assumption | (refine decide_eq_false ?_; first | assumption | omega) | (refine nf ?_; first | assumption | omega) | (simp [*]; done))) | refine norm_then ?_ | refine norm_block ?_ | refine AW_skip ?_)
        refine next_round (k + 1) ⟨h, ?_⟩ (weak_st ?_ ?_ rfl rfl) ?_
        · rw [hsn, hsn', he, hx]
        · (repeat' (first | exact trivial | refine And.intro ?_ ?_)) <;> (first | rfl | skip)
        · trivial
        · omega
      · rw [decide_eq_false hx] at heq
        repeat (first | ((first | refine step_ops ?_ | refine step_tree ?_); (first | (refine m_mov (by conv => lhs; whnf) ?_) | (refine m_lss rfl rfl ?_) | (refine m_len_ro rfl ?_) | (refine m_idx_ro rfl rfl ?_ ?_ ?_; (· omega); (· omega)))) | refine end_ops ?_ | refine seq_ops ?_ | refine seq_tree ?_ | (refine cond_t rfl ?_ ?_; (· first | rfl | assumption | (refine decide_eq_true ?_; first | assumption | omega) | (refine nt ?_; first | assumption | omega) | (simp [*]; done))) | refine skip_then ?_ | refine AW_seq ?_ | refine AW_block ?_)
        refine step_tree ?_
        refine m_ldClu h hce rfl ?_
        repeat (refine step_tree ?_; (first | (refine m_mov (by conv => lhs; whnf) ?_) | (refine m_idx_ro rfl rfl ?_ ?_ ?_; (· omega); (· omega))))
        refine step_tree ?_
        refine m_ldClu h' hcd rfl ?_
        skip
        refine step_tree ?_; (apply m_call (heq)); (· repeat (first | exact lends_nil | (refine lends_cons ?_ ?_; (· (refine lend_agg ?_; first | rfl | assumption | (simp [plainV]; done))))))
        repeat (first | ((first | refine step_ops ?_ | refine step_tree ?_); (first | (refine m_mov (by conv => lhs; whnf) ?_) | (refine m_not rfl ?_))) | refine end_ops ?_ | refine seq_ops ?_ | refine end_tree ?_ | (refine cond_t rfl ?_ ?_; (· first | rfl | assumption | (refine decide_eq_true ?_; first | assumption | omega) | (refine nt ?_; first | assumption | omega) | (simp [*]; done))) | refine AW_ret ?_ | refine ret_done ?_ | refine ret_then ?_ | refine ret_block ?_ | refine ret_round ?_)
        exact outs_b (decide_eq_false (hne hx)).symm
    · obtain rfl : k = C.length := by omega
      rw [List.take_length, List.take_of_length_le (by omega)] at he
      repeat (first | (refine step_ops ?_; (first | (refine m_mov (by conv => lhs; whnf) ?_) | (refine m_lss rfl rfl ?_) | (refine m_len_ro rfl ?_))) | refine end_ops ?_ | refine seq_ops ?_ | (refine cond_f rfl ?_ ?_; (· first | rfl | assumption | (refine decide_eq_false ?_; first | assumption | omega) | (refine nf ?_; first | assumption | omega) | (simp [*]; done))) | refine AW_seq ?_ | refine AW_ret ?_ | refine ret_done ?_ | refine norm_then ?_ | refine exit_then ?_ | refine exit_round ?_ | refine AW_exit ?_ | refine exit_block ?_)
      exact outs_b (decide_eq_true he).symm
  · have hlen' : (decide ((C.length : Int) ≠ D.length)) = true := by simp; omega
    repeat (first | (refine step_ops ?_; (first | (refine m_mov (by conv => lhs; whnf) ?_) | (refine m_neq rfl rfl ?_) | (refine m_len_ro rfl ?_))) | refine end_ops ?_ | refine seq_ops ?_ | (refine cond_t rfl ?_ ?_; (· first | rfl | assumption | (refine decide_eq_true ?_; first | assumption | omega) | (refine nt ?_; first | assumption | omega) | (simp [*]; done))) | refine AW_seq ?_ | refine AW_ret ?_ | refine ret_done ?_ | refine ret_then ?_)
    exact outs_b (decide_eq_false fun e => hlen (by rw [e])).symm
theorem eqPuzzle_spec (g h : Int) (C D : List Clu) (hC : C.length ≤ 1048576) : Sp Try.prog 11 [pzl g C, pzl h D] (.b (decide (g = h ∧ C = D))) := by
  have hs := eqClueS_spec C D hC
  refine spec_of Try.func11 rfl cc11 rfl ?_
  unfold ac11
  by_cases hc : g = h
  · by_cases hx : C = D
    · rw [decide_eq_true hx] at hs
      repeat (first | (refine step_ops ?_; (first | (refine m_mov (by conv => lhs; whnf) ?_) | (refine m_neq rfl rfl ?_) | (apply m_ld_pt; (· rfl); (· rfl); (· rfl)) | (refine m_fa rfl ?_) | (refine m_box rfl ?_ ?_; (· first | rfl | (simp [cellOk, Value.oneCell']; done))))) | refine end_ops ?_ | refine seq_ops ?_ | (refine cond_f rfl ?_ ?_; (· first | rfl | assumption | (refine decide_eq_false ?_; first | assumption | omega) | (refine nf ?_; first | assumption | omega) | (simp [*]; done))) | refine skip_then ?_ | refine AW_seq ?_)
      (refine step_ops ?_); (apply m_call (hs)); (· repeat (first | exact lends_nil | (refine lends_cons ?_ ?_; (· exact lend_cls))))
      repeat (first | (refine step_ops ?_; (first | (refine m_mov (by conv => lhs; whnf) ?_) | (refine m_not rfl ?_))) | refine end_ops ?_ | refine seq_ops ?_ | (refine cond_f rfl ?_ ?_; (· first | rfl | assumption | (refine decide_eq_false ?_; first | assumption | omega) | (refine nf ?_; first | assumption | omega) | (simp [*]; done))) | refine skip_then ?_ | refine AW_ret ?_ | refine ret_done ?_)
      exact outs_b (by simp [hc, hx])
    · rw [decide_eq_false hx] at hs
      repeat (first | (refine step_ops ?_; (first | (refine m_mov (by conv => lhs; whnf) ?_) | (refine m_neq rfl rfl ?_) | (apply m_ld_pt; (· rfl); (· rfl); (· rfl)) | (refine m_fa rfl ?_) | (refine m_box rfl ?_ ?_; (· first | rfl | (simp [cellOk, Value.oneCell']; done))))) | refine end_ops ?_ | refine seq_ops ?_ | (refine cond_f rfl ?_ ?_; (· first | rfl | assumption | (refine decide_eq_false ?_; first | assumption | omega) | (refine nf ?_; first | assumption | omega) | (simp [*]; done))) | refine skip_then ?_ | refine AW_seq ?_)
      (refine step_ops ?_); (apply m_call (hs)); (· repeat (first | exact lends_nil | (refine lends_cons ?_ ?_; (· exact lend_cls))))
      repeat (first | (refine step_ops ?_; (first | (refine m_mov (by conv => lhs; whnf) ?_) | (refine m_not rfl ?_))) | refine end_ops ?_ | refine seq_ops ?_ | (refine cond_t rfl ?_ ?_; (· first | rfl | assumption | (refine decide_eq_true ?_; first | assumption | omega) | (refine nt ?_; first | assumption | omega) | (simp [*]; done))) | refine AW_ret ?_ | refine ret_done ?_ | refine ret_then ?_)
      exact outs_b (by simp [hx])
  · repeat (first | (refine step_ops ?_; (first | (refine m_mov (by conv => lhs; whnf) ?_) | (refine m_neq rfl rfl ?_) | (apply m_ld_pt; (· rfl); (· rfl); (· rfl)) | (refine m_fa rfl ?_) | (refine m_box rfl ?_ ?_; (· first | rfl | (simp [cellOk, Value.oneCell']; done))))) | refine end_ops ?_ | refine seq_ops ?_ | (refine cond_t rfl ?_ ?_; (· first | rfl | assumption | (refine decide_eq_true ?_; first | assumption | omega) | (refine nt ?_; first | assumption | omega) | (simp [*]; done))) | refine AW_seq ?_ | refine AW_ret ?_ | refine ret_done ?_ | refine ret_then ?_)
    exact outs_b (by simp [hc])
end Go.Proofs.Yteiipnadhalnbaa
namespace Go.Am
/-- k, k + 1, .. in clues. -/
def mkC (k : Int) (n : Nat) : List Clu := (List.range n).map fun (i : Nat) => (k + 3 * i, k + 3 * i + 1, k + 3 * i + 2)
theorem mkC_len (k : Int) (n : Nat) : (mkC k n).length = n := by simp [mkC]
theorem mkC_succ (k : Int) (n : Nat) : mkC k (n + 1) = mkC k n ++ [(k + 3 * n, k + 3 * n + 1, k + 3 * n + 2)] := by simp [mkC, List.range_succ]
theorem mkC_get (k : Int) (n i : Nat) (h : i < n) : (mkC k n).getD i (0, 0, 0) = (k + 3 * i, k + 3 * i + 1, k + 3 * i + 2) := by simp [mkC, h]
def mkdC (C : List Clu) (k : Int) (j : Nat) : List Clu := mkC k j ++ C.drop j
theorem mkdC_len (C : List Clu) (k : Int) (j : Nat) (h : j ≤ C.length) : (mkdC C k j).length = C.length := by simp [mkdC, mkC_len]; omega
theorem mkdC_zero (C : List Clu) (k : Int) : mkdC C k 0 = C := by simp [mkdC, mkC]
theorem mkdC_all (C : List Clu) (k : Int) : mkdC C k C.length = mkC k C.length := by simp [mkdC]
theorem mkdC_set (C : List Clu) (k : Int) (j : Nat) (h : j < C.length) : (mkdC C k j).set j (k + 3 * j, k + 3 * j + 1, k + 3 * j + 2) = mkdC C k (j + 1) := by
  unfold mkdC
  rw [mkC_succ, List.set_append_right _ _ (by rw [mkC_len]; omega), mkC_len, Nat.sub_self, List.drop_eq_getElem_cons h, List.set_cons_zero]
  simp
theorem cls_set3 {C : List Clu} {k : Nat} {a b c : Int} (h : k < C.length) : (((cls C).set (k * 3) (.i a)).set (k * 3 + 1) (.i b)).set (k * 3 + 2) (.i c) = cls (C.set k (a, b, c)) := by
  have hl := cls_len C
  rw [← cls_put (a, b, c) h]
  apply List.ext_getElem?
  intro i
  have e : ((cls C).take (k * 3)).length = k * 3 := by rw [List.length_take, hl]; omega
  by_cases h1 : i < k * 3
  · rw [List.append_assoc, List.getElem?_append_left (by omega), List.getElem?_take, if_pos h1, List.getElem?_set_ne (by omega), List.getElem?_set_ne (by omega), List.getElem?_set_ne (by omega)]
  · rw [List.append_assoc, List.getElem?_append_right (by omega), e]
    rcases (show i = k * 3 ∨ i = k * 3 + 1 ∨ i = k * 3 + 2 ∨ k * 3 + 3 ≤ i by omega) with rfl | rfl | rfl | h2
    · rw [List.getElem?_set_ne (by omega), List.getElem?_set_ne (by omega), List.getElem?_set_self (by omega), Nat.sub_self]
      rfl
    · rw [List.getElem?_set_ne (by omega), List.getElem?_set_self (by rw [List.length_set]; omega), Nat.add_sub_cancel_left]
      rfl
    · rw [List.getElem?_set_self (by rw [List.length_set, List.length_set]; omega), Nat.add_sub_cancel_left]
      rfl
    · rw [List.getElem?_set_ne (by omega), List.getElem?_set_ne (by omega), List.getElem?_set_ne (by omega), List.getElem?_append_right (by simp [cC]; omega), List.getElem?_drop]
      congr 1
      simp [cC]
      omega
end Go.Am
namespace Go.Proofs.Yteiipnadhalnbaa
open Go.Am
attribute [local irreducible] AW Outs Weak Lends Lend Sp aops atree aop1 Then Round InBlock Done
attribute [local irreducible] SpM DoneM SpH DoneH
theorem markClueS_spec (C : List Clu) (k : Int) (hC : C.length ≤ 1048576) (h0 : 0 ≤ k) (h1 : k ≤ 1099511627776) :
    SpM Try.prog 28 3 C.length (cls C) [.i k] (.i (k + 3 * C.length)) (cls (mkC k C.length)) := by
  refine specM_of Try.func28 rfl cc28 rfl (by first | exact allv_ints _ | exact txs_plain _ | exact cls_plain _) (by first | exact allv_ints _ | exact txs_plain _ | exact cls_plain _) rfl ?_
  unfold ac28
  repeat (first | (refine step_ops ?_; (refine m_mov (by conv => lhs; whnf) ?_)) | refine end_ops ?_ | refine seq_ops ?_ | refine AW_seq ?_ | refine AW_block ?_)
  refine AW_loop (α := Nat) (fun j => j ≤ C.length) (fun j => st [(0, .sl pbase 3 0 C.length), (1, .i (k + 3 * j)), (5, .i j)] [(pbase, (true, cls (mkdC C k j)))]) (fun j => C.length - j) 0 (by omega) (weak_st ?_ ?_ rfl rfl) ?_
  · refine ⟨rfl, ?_, rfl, trivial⟩
    show AV.i k = AV.i (k + 3 * (0 : Nat))
    simp
  · refine ⟨?_, trivial⟩
    rw [mkdC_zero]
    rfl
  intro j hj
  have hml := mkdC_len C k j hj
  have hcl := cls_len (mkdC C k j)
  by_cases h : j < C.length
  · have hs3 := cls_set3 (C := mkdC C k j) (k := j) (a := k + 3 * j) (b := k + 3 * j + 1) (c := k + 3 * j + 2) (by omega)
    rw [mkdC_set C k j h] at hs3
    repeat (first | (refine step_ops ?_; (first | (refine m_mov (by conv => lhs; whnf) ?_) | (refine m_lss rfl rfl ?_) | (refine m_add rfl rfl ?_ ?_ ?_; (· omega); (· omega)) | (refine m_len_sl rfl ?_) | (refine m_idx_sl rfl rfl ?_ ?_ ?_; (· omega); (· omega)) | (apply m_st; (· rfl); (· rfl); (· rfl); (· first | omega | (simp; done) | (simp; omega)); (· rfl)) | (refine m_fa rfl ?_))) | refine end_ops ?_ | refine seq_ops ?_ | refine AW_ops ?_ | (refine cond_t rfl ?_ ?_; (· first | rfl | assumption | (refine decide_eq_true ?_; first | assumption | omega) | (refine nt ?_; first | assumption | omega) | (simp [*]; done))) | refine skip_then ?_ | refine AW_seq ?_ | refine norm_then ?_ | refine AW_block ?_ | refine norm_block ?_)
    refine next_round (j + 1) h (weak_st ?_ ?_ rfl rfl) ?_
    · refine ⟨rfl, ?_, rfl, trivial⟩
      show AV.i (k + 3 * (j : Int) + 1 + 1 + 1) = AV.i (k + 3 * ((j + 1 : Nat) : Int))
      rw [show k + 3 * (j : Int) + 1 + 1 + 1 = k + 3 * ((j + 1 : Nat) : Int) by omega]
    · refine ⟨?_, trivial⟩
      show some (true, (((cls (mkdC C k j)).set (0 + ((j : Nat) : Int).toNat * 3 + 0) (AV.i (k + 3 * j))).set (0 + ((j : Nat) : Int).toNat * 3 + 1) (AV.i (k + 3 * j + 1))).set (0 + ((j : Nat) : Int).toNat * 3 + 2) (AV.i (k + 3 * j + 1 + 1))) = _
      rw [Int.toNat_natCast, Nat.zero_add, Nat.add_zero, ← hs3, show k + 3 * (j : Int) + 1 + 1 = k + 3 * j + 2 by omega]
    · omega
  · obtain rfl : j = C.length := by omega
    repeat (first | (refine step_ops ?_; (first | (refine m_mov (by conv => lhs; whnf) ?_) | (refine m_lss rfl rfl ?_) | (refine m_len_sl rfl ?_))) | refine end_ops ?_ | refine seq_ops ?_ | (refine cond_f rfl ?_ ?_; (· first | rfl | assumption | (refine decide_eq_false ?_; first | assumption | omega) | (refine nf ?_; first | assumption | omega) | (simp [*]; done))) | refine AW_seq ?_ | refine AW_ret ?_ | refine norm_then ?_ | refine exit_then ?_ | refine exit_round ?_ | refine AW_exit ?_ | refine exit_block ?_)
    refine ret_donem rfl ?_
    rw [← mkdC_all]
    rfl
theorem heldClueS_spec (k : Int) (n : Nat) (hn : n ≤ 1048576) (h0 : 0 ≤ k) (h1 : k ≤ 1099511627776) :
    Sp Try.prog 29 [.ro false 3 (cls (mkC k n)) (mkC k n).length, .i k] (.i (k + 3 * n)) := by
  have hml := mkC_len k n
  refine spec_of Try.func29 rfl cc29 rfl ?_
  unfold ac29
  repeat (first | (refine step_ops ?_; (refine m_mov (by conv => lhs; whnf) ?_)) | refine end_ops ?_ | refine seq_ops ?_ | refine AW_seq ?_ | refine AW_block ?_)
  refine AW_loop (α := Nat) (fun j => j ≤ n) (fun j => st [(0, .ro false 3 (cls (mkC k n)) (mkC k n).length), (1, .i (k + 3 * j)), (5, .i j)] []) (fun j => n - j) 0 (by omega) (weak_st ?_ ?_ rfl rfl) ?_
  · refine ⟨rfl, ?_, rfl, trivial⟩
    show AV.i k = AV.i (k + 3 * (0 : Nat))
    simp
  · trivial
  intro j hj
  by_cases h : j < n
  · have hg := cls_get (C := mkC k n) (k := j) (by omega) (mkC_get k n j h)
    obtain ⟨g0, g1, g2⟩ := hg
    have r0 : ((cls (mkC k n)).drop (((j : Nat) : Int).toNat * 3) |>.drop 0)[0]? = some (.i (k + 3 * j)) := by rw [Int.toNat_natCast, List.drop_drop, List.getElem?_drop]; exact g0
    have r1 : ((cls (mkC k n)).drop (((j : Nat) : Int).toNat * 3) |>.drop 1)[0]? = some (.i (k + 3 * j + 1)) := by rw [Int.toNat_natCast, List.drop_drop, List.getElem?_drop]; exact g1
    have r2 : ((cls (mkC k n)).drop (((j : Nat) : Int).toNat * 3) |>.drop 2)[0]? = some (.i (k + 3 * j + 2)) := by rw [Int.toNat_natCast, List.drop_drop, List.getElem?_drop]; exact g2
    repeat (first | (refine step_ops ?_; (first | (refine m_mov (by conv => lhs; whnf) ?_) | (refine m_lss rfl rfl ?_) | (refine m_len_ro rfl ?_) | (refine m_idx_ro rfl rfl ?_ ?_ ?_; (· omega); (· omega)) | (refine m_fa_rp rfl ?_))) | refine end_ops ?_ | refine seq_ops ?_ | (refine cond_t rfl ?_ ?_; (· first | rfl | assumption | (refine decide_eq_true ?_; first | assumption | omega) | (refine nt ?_; first | assumption | omega) | (simp [*]; done))) | refine skip_then ?_ | refine AW_seq ?_ | refine AW_block ?_)
    refine step_ops ?_
    refine m_ld_rp rfl r0 ?_
    repeat (first | (refine step_ops ?_; (first | (refine m_mov (by conv => lhs; whnf) ?_) | (refine m_neq rfl rfl ?_) | (refine m_add rfl rfl ?_ ?_ ?_; (· omega); (· omega)) | (refine m_idx_ro rfl rfl ?_ ?_ ?_; (· omega); (· omega)) | (refine m_fa_rp rfl ?_))) | refine end_ops ?_ | refine seq_ops ?_ | (refine cond_f rfl ?_ ?_; (· first | rfl | assumption | (refine decide_eq_false ?_; first | assumption | omega) | (refine nf ?_; first | assumption | omega) | (simp [*]; done))) | refine skip_then ?_ | refine AW_seq ?_)
    refine step_ops ?_
    refine m_ld_rp rfl r1 ?_
    repeat (first | (refine step_ops ?_; (first | (refine m_mov (by conv => lhs; whnf) ?_) | (refine m_neq rfl rfl ?_) | (refine m_add rfl rfl ?_ ?_ ?_; (· omega); (· omega)) | (refine m_idx_ro rfl rfl ?_ ?_ ?_; (· omega); (· omega)) | (refine m_fa_rp rfl ?_))) | refine end_ops ?_ | refine seq_ops ?_ | (refine cond_f rfl ?_ ?_; (· first | rfl | assumption | (refine decide_eq_false ?_; first | assumption | omega) | (refine nf ?_; first | assumption | omega) | (simp [*]; done))) | refine skip_then ?_ | refine AW_seq ?_)
    refine step_ops ?_
    refine m_ld_rp rfl r2 ?_
    repeat (first | (refine step_ops ?_; (first | (refine m_mov (by conv => lhs; whnf) ?_) | (refine m_neq rfl rfl ?_) | (refine m_add rfl rfl ?_ ?_ ?_; (· omega); (· omega)))) | refine end_ops ?_ | refine AW_ops ?_ | (refine cond_f rfl ?_ ?_; (· first | rfl | assumption | (refine decide_eq_false ?_; first | assumption | omega) | (refine nf ?_; first | assumption | omega) | (simp [*]; done))) | refine skip_then ?_ | refine norm_then ?_ | refine norm_block ?_)
    refine next_round (j + 1) h (weak_st ?_ ?_ rfl rfl) ?_
    · refine ⟨rfl, ?_, rfl, trivial⟩
      show AV.i (k + 3 * (j : Int) + 1 + 1 + 1) = AV.i (k + 3 * ((j + 1 : Nat) : Int))
      rw [show k + 3 * (j : Int) + 1 + 1 + 1 = k + 3 * ((j + 1 : Nat) : Int) by omega]
    · trivial
    · omega
  · obtain rfl : j = n := by omega
    repeat (first | (refine step_ops ?_; (first | (refine m_mov (by conv => lhs; whnf) ?_) | (refine m_lss rfl rfl ?_) | (refine m_len_ro rfl ?_))) | refine end_ops ?_ | refine seq_ops ?_ | (refine cond_f rfl ?_ ?_; (· first | rfl | assumption | (refine decide_eq_false ?_; first | assumption | omega) | (refine nf ?_; first | assumption | omega) | (simp [*]; done))) | refine AW_seq ?_ | refine AW_ret ?_ | refine ret_done ?_ | refine norm_then ?_ | refine exit_then ?_ | refine exit_round ?_ | refine AW_exit ?_ | refine exit_block ?_)
    exact outs_i rfl
theorem static_lenC (C M : List Clu) (x : Value) : Static (Am.look (lenH (cls C))) (.v x) (Am.look (lenH (cls M))) :=
  static_R (by simp) (fun p hp => by rw [List.mem_singleton] at hp; subst hp; exact ⟨pl_own _ (cls_plain M), refsL_plain (cls_plain M)⟩) ⟨rfl, rfl⟩
theorem markPuzzle_spec (g : Int) (C : List Clu) (k : Int) (hC : C.length ≤ 1048576) (h0 : 0 ≤ k) (h1 : k ≤ 1099511627776) :
    SpH Try.prog 12 [.agg [.i g, .sl pbase 3 0 C.length], .i k] (Am.look (lenH (cls C))) (.i (k + 3 * C.length)) (Am.look (lenH (cls (mkC k C.length)))) := by
  have hst := static_lenC C (mkC k C.length) (.int .i64 (k + 3 * C.length))
  refine specH_of Try.func12 rfl cc12 rfl (by first | exact static_mat1 _ | exact static_mat2 _ _ | assumption) ?_
  unfold ac12
  refine seq_ops ?_
  refine step_ops ?_
  refine m_boxd (l := [.i g, .sl pbase 3 0 C.length]) rfl rfl rfl ?_
  repeat (first | (refine step_ops ?_; (first | (refine m_mov (by conv => lhs; whnf) ?_) | (apply m_ld_pt; (· rfl); (· rfl); (· rfl)) | (refine m_fa rfl ?_))) | refine end_ops ?_ | refine seq_ops ?_)
  refine step_ops ?_
  refine m_callm (markClueS_spec C k hC h0 h1) rfl rfl rfl (cls_plain _) (cls_plain _) rfl ?_
  repeat (first | (refine step_ops ?_; (refine m_mov (by conv => lhs; whnf) ?_)) | refine end_ops ?_ | refine seq_ops ?_ | refine AW_ret ?_)
  refine ret_R id (by rfl) ?_ (by simp) (by simp) (by simp)
  refine ⟨⟨_, rfl, .inl ?_⟩, trivial⟩
  exact congrArg (Prod.mk true) (pl_ren _ (cls_plain _)).symm
theorem heldPuzzle_spec (g k : Int) (n : Nat) (hn : n ≤ 1048576) (h0 : 0 ≤ k) (h1 : k ≤ 1099511627776) :
    Sp Try.prog 13 [pzl g (mkC k n), .i k] (.i (k + 3 * n)) := by
  have hs := heldClueS_spec k n hn h0 h1
  refine spec_of Try.func13 rfl cc13 rfl ?_
  unfold ac13
  repeat (first | (refine step_ops ?_; (first | (refine m_mov (by conv => lhs; whnf) ?_) | (apply m_ld_pt; (· rfl); (· rfl); (· rfl)) | (refine m_fa rfl ?_) | (refine m_box rfl ?_ ?_; (· first | rfl | (simp [cellOk, Value.oneCell']; done))))) | refine end_ops ?_ | refine seq_ops ?_)
  refine step_ops ?_
  refine m_call hs (lends_cons lend_cls (lends_cons lend_v lends_nil)) ?_
  repeat (first | (refine step_ops ?_; (first | (refine m_mov (by conv => lhs; whnf) ?_) | (refine m_lss rfl rfl ?_))) | refine end_ops ?_ | refine seq_ops ?_ | (refine cond_f rfl ?_ ?_; (· first | rfl | assumption | (refine decide_eq_false ?_; first | assumption | omega) | (refine nf ?_; first | assumption | omega) | (simp [*]; done))) | refine skip_then ?_ | refine AW_seq ?_ | refine AW_ret ?_ | refine ret_done ?_)
  exact outs_i rfl
end Go.Proofs.Yteiipnadhalnbaa
