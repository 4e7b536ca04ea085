/- Contracts: ChanceNone. -/
import Derived.Test.YtcbpohocbfjgaaaSpJ
namespace Go.Proofs.Ytcbpohocbfjgaaa
open Go.Am
attribute [local irreducible] AW Outs Weak Lends Lend Sp aops atree aop1 Then Round InBlock Done

theorem exTimes_spec (n : Nat) (h : n ≤ 12) : Sp Try.prog 81 [.i n] (.i (fac n)) := by
  refine spec_of Try.func81 rfl cc81 rfl ?_
  unfold ac81
  repeat (first | (refine step_ops ?_; (first | (refine m_mov (by conv => lhs; whnf) ?_) | (refine m_leq rfl rfl ?_) | (refine m_add rfl rfl ?_ ?_ ?_; (· omega); (· omega)) | (refine m_mul rfl rfl ?_ ?_ ?_; (· first | omega | (simp; done)); (· first | omega | (simp; done))))) | refine end_ops ?_ | refine seq_ops ?_ | refine AW_ops ?_ | (refine cond_t rfl ?_ ?_; (· first | rfl | assumption | (refine decide_eq_true ?_; first | assumption | omega) | (refine nt ?_; first | assumption | omega) | (simp [*]; done))) | (refine cond_f rfl ?_ ?_; (· first | rfl | assumption | (refine decide_eq_false ?_; first | assumption | omega) | (refine nf ?_; first | assumption | omega) | (simp [*]; done))) | refine skip_then ?_ | refine AW_seq ?_ | refine AW_ret ?_ | refine ret_done ?_ | refine norm_then ?_ | refine ret_then ?_ | refine exit_then ?_ | refine AW_block ?_ | refine norm_block ?_ | refine ret_block ?_ | refine ret_round ?_ | refine exit_round ?_ | refine AW_exit ?_ | refine exit_block ?_ | (refine exit_other ?_ ?_; (· decide)) | refine AW_skip ?_)
  refine AW_loop (α := Nat) (fun j => j + 1 ≤ n ∨ j = 0) (fun j => st [(0, .i n), (3, .i (fac (j + 1))), (4, .i ((j : Int) + 2))] []) (fun j => n - j) 0 (.inr rfl) (weak_st ?_ ?_ rfl rfl) ?_
  · (repeat' (first | exact trivial | refine And.intro ?_ ?_)) <;> (first | rfl | skip)
  · trivial
  intro j hj
  by_cases hc : (j : Int) + 2 ≤ n
  · have hb := fac_le (j + 2) (by omega)
    have e : fac (j + 2) = fac (j + 1) * ((j : Int) + 2) := rfl
    rw [e] at hb
    repeat (first | (refine step_ops ?_; (first | (refine m_mov (by conv => lhs; whnf) ?_) | (refine m_leq rfl rfl ?_) | (refine m_add rfl rfl ?_ ?_ ?_; (· omega); (· omega)) | (refine m_mul rfl rfl ?_ ?_ ?_; (· first | omega | (simp; done)); (· first | omega | (simp; done))))) | refine end_ops ?_ | refine seq_ops ?_ | refine AW_ops ?_ | (refine cond_t rfl ?_ ?_; (· first | rfl | assumption | (refine decide_eq_true ?_; first | assumption | omega) | (refine nt ?_; first | assumption | omega) | (simp [*]; done))) | (refine cond_f rfl ?_ ?_; (· first | rfl | assumption | (refine decide_eq_false ?_; first | assumption | omega) | (refine nf ?_; first | assumption | omega) | (simp [*]; done))) | refine skip_then ?_ | refine AW_seq ?_ | refine AW_ret ?_ | refine ret_done ?_ | refine norm_then ?_ | refine ret_then ?_ | refine exit_then ?_ | refine AW_block ?_ | refine norm_block ?_ | refine ret_block ?_ | refine ret_round ?_ | refine exit_round ?_ | refine AW_exit ?_ | refine exit_block ?_ | (refine exit_other ?_ ?_; (· decide)) | refine AW_skip ?_)
    refine next_round (j + 1) (by omega) (weak_st ?_ ?_ rfl rfl) ?_
    · (repeat' (first | exact trivial | refine And.intro ?_ ?_)) <;> (first | rfl | skip)
    · trivial
    · omega
  · repeat (first | (refine step_ops ?_; (first | (refine m_mov (by conv => lhs; whnf) ?_) | (refine m_leq rfl rfl ?_) | (refine m_add rfl rfl ?_ ?_ ?_; (· omega); (· omega)) | (refine m_mul rfl rfl ?_ ?_ ?_; (· first | omega | (simp; done)); (· first | omega | (simp; done))))) | refine end_ops ?_ | refine seq_ops ?_ | refine AW_ops ?_ | (refine cond_t rfl ?_ ?_; (· first | rfl | assumption | (refine decide_eq_true ?_; first | assumption | omega) | (refine nt ?_; first | assumption | omega) | (simp [*]; done))) | (refine cond_f rfl ?_ ?_; (· first | rfl | assumption | (refine decide_eq_false ?_; first | assumption | omega) | (refine nf ?_; first | assumption | omega) | (simp [*]; done))) | refine skip_then ?_ | refine AW_seq ?_ | refine AW_ret ?_ | refine ret_done ?_ | refine norm_then ?_ | refine ret_then ?_ | refine exit_then ?_ | refine AW_block ?_ | refine norm_block ?_ | refine ret_block ?_ | refine ret_round ?_ | refine exit_round ?_ | refine AW_exit ?_ | refine exit_block ?_ | (refine exit_other ?_ ?_; (· decide)) | refine AW_skip ?_)
    refine outs_i ?_
    rcases hj with hj | rfl
    · have : j + 1 = n := by omega
      rw [this]
    · have : n = 0 ∨ n = 1 := by omega
      rcases this with rfl | rfl <;> rfl

theorem commonDivisor_spec (a b : Nat) : Sp Try.prog 82 [.i a, .i b] (.i (Nat.gcd a b)) := by
  refine spec_of Try.func82 rfl cc82 rfl ?_
  unfold ac82
  repeat (first | ((first | refine step_ops ?_ | refine step_tree ?_); (first | (refine m_mov (by conv => lhs; whnf) ?_) | (refine m_neq rfl rfl ?_) | (refine m_rem rfl rfl ?_ ?_ ?_; (· omega); (· omega)))) | refine end_ops ?_ | refine seq_ops ?_ | refine AW_ops ?_ | refine end_tree ?_ | refine seq_tree ?_ | refine AW_tree ?_ | (refine cond_t rfl ?_ ?_; (· first | rfl | assumption | (refine decide_eq_true ?_; first | assumption | omega) | (refine nt ?_; first | assumption | omega) | (simp [*]; done))) | (refine cond_f rfl ?_ ?_; (· first | rfl | assumption | (refine decide_eq_false ?_; first | assumption | omega) | (refine nf ?_; first | assumption | omega) | (simp [*]; done))) | refine skip_then ?_ | refine AW_seq ?_ | refine AW_ret ?_ | refine ret_done ?_ | refine norm_then ?_ | refine ret_then ?_ | refine exit_then ?_ | refine AW_block ?_ | refine norm_block ?_ | refine ret_block ?_ | refine ret_round ?_ | refine exit_round ?_ | refine AW_exit ?_ | refine exit_block ?_ | (refine exit_other ?_ ?_; (· decide)) | refine AW_skip ?_)
  refine AW_loop (α := Nat × Nat) (fun q => Nat.gcd q.1 q.2 = Nat.gcd a b) (fun q => st [(0, .i q.1), (1, .i q.2)] []) (fun q => q.2) (a, b) rfl (weak_st ?_ ?_ rfl rfl) ?_
  · (repeat' (first | exact trivial | refine And.intro ?_ ?_)) <;> (first | rfl | skip)
  · trivial
  rintro ⟨u, v⟩ hq
  dsimp only at hq ⊢
  by_cases hc : v = 0
  · subst hc
    have hc' : ((0 : Nat) : Int) = 0 := rfl
    repeat (first | ((first | refine step_ops ?_ | refine step_tree ?_); (first | (refine m_mov (by conv => lhs; whnf) ?_) | (refine m_neq rfl rfl ?_) | (refine m_rem rfl rfl ?_ ?_ ?_; (· omega); (· omega)))) | refine end_ops ?_ | refine seq_ops ?_ | refine AW_ops ?_ | refine end_tree ?_ | refine seq_tree ?_ | refine AW_tree ?_ | (refine cond_t rfl ?_ ?_; (· first | rfl | assumption | (refine decide_eq_true ?_; first | assumption | omega) | (refine nt ?_; first | assumption | omega) | (simp [*]; done))) | (refine cond_f rfl ?_ ?_; (· first | rfl | assumption | (refine decide_eq_false ?_; first | assumption | omega) | (refine nf ?_; first | assumption | omega) | (simp [*]; done))) | refine skip_then ?_ | refine AW_seq ?_ | refine AW_ret ?_ | refine ret_done ?_ | refine norm_then ?_ | refine ret_then ?_ | refine exit_then ?_ | refine AW_block ?_ | refine norm_block ?_ | refine ret_block ?_ | refine ret_round ?_ | refine exit_round ?_ | refine AW_exit ?_ | refine exit_block ?_ | (refine exit_other ?_ ?_; (· decide)) | refine AW_skip ?_)
    refine outs_i ?_
    rw [← hq, Nat.gcd_zero_right]
  · have hc' : ¬ (v : Int) = 0 := by omega
    repeat (first | ((first | refine step_ops ?_ | refine step_tree ?_); (first | (refine m_mov (by conv => lhs; whnf) ?_) | (refine m_neq rfl rfl ?_) | (refine m_rem rfl rfl ?_ ?_ ?_; (· omega); (· omega)))) | refine end_ops ?_ | refine seq_ops ?_ | refine AW_ops ?_ | refine end_tree ?_ | refine seq_tree ?_ | refine AW_tree ?_ | (refine cond_t rfl ?_ ?_; (· first | rfl | assumption | (refine decide_eq_true ?_; first | assumption | omega) | (refine nt ?_; first | assumption | omega) | (simp [*]; done))) | (refine cond_f rfl ?_ ?_; (· first | rfl | assumption | (refine decide_eq_false ?_; first | assumption | omega) | (refine nf ?_; first | assumption | omega) | (simp [*]; done))) | refine skip_then ?_ | refine AW_seq ?_ | refine AW_ret ?_ | refine ret_done ?_ | refine norm_then ?_ | refine ret_then ?_ | refine exit_then ?_ | refine AW_block ?_ | refine norm_block ?_ | refine ret_block ?_ | refine ret_round ?_ | refine exit_round ?_ | refine AW_exit ?_ | refine exit_block ?_ | (refine exit_other ?_ ?_; (· decide)) | refine AW_skip ?_)
    refine next_round (v, u % v) ?_ (weak_st ?_ ?_ rfl rfl) ?_
    · dsimp only
      rw [← hq, Nat.gcd_comm u v, Nat.gcd_rec v u, Nat.gcd_comm]
    · (repeat' (first | exact trivial | refine And.intro ?_ ?_)) <;> (first | rfl | skip)
    · trivial
    · exact Nat.mod_lt _ (by omega)

theorem exLow_spec (a b : Nat) (ha : a ≤ 100000000000) (hb : b ≤ 100000000000) (h1 : 1 ≤ b) : Sp Try.prog 80 [.i a, .i b] (.tup [.i ((a : Int) / (Nat.gcd a b : Nat)), .i ((b : Int) / (Nat.gcd a b : Nat))]) := by
  refine spec_of Try.func80 rfl cc80 rfl ?_
  unfold ac80
  repeat (first | ((first | refine step_ops ?_ | refine step_tree ?_); (first | (refine m_mov (by conv => lhs; whnf) ?_) | (refine m_gtr rfl rfl ?_) | (refine m_quo rfl rfl ?_ ?_ ?_ ?_; (· omega); (· omega); (· omega)) | (refine m_rem rfl rfl ?_ ?_ ?_; (· omega); (· omega)))) | refine end_ops ?_ | refine seq_ops ?_ | refine AW_ops ?_ | refine end_tree ?_ | refine seq_tree ?_ | refine AW_tree ?_ | (refine cond_t rfl ?_ ?_; (· first | rfl | assumption | (refine decide_eq_true ?_; first | assumption | omega) | (refine nt ?_; first | assumption | omega) | (simp [*]; done))) | (refine cond_f rfl ?_ ?_; (· first | rfl | assumption | (refine decide_eq_false ?_; first | assumption | omega) | (refine nf ?_; first | assumption | omega) | (simp [*]; done))) | refine skip_then ?_ | refine AW_seq ?_ | refine AW_ret ?_ | refine ret_done ?_ | refine norm_then ?_ | refine ret_then ?_ | refine exit_then ?_ | refine AW_block ?_ | refine norm_block ?_ | refine ret_block ?_ | refine ret_round ?_ | refine exit_round ?_ | refine AW_exit ?_ | refine exit_block ?_ | (refine exit_other ?_ ?_; (· decide)) | refine AW_skip ?_)
  refine AW_loop (α := Nat × Nat) (fun q => Nat.gcd q.1 q.2 = Nat.gcd a b) (fun q => st [(0, .i a), (1, .i b), (6, .i q.1), (7, .i q.2)] []) (fun q => q.2) (a, b) rfl (weak_st ?_ ?_ rfl rfl) ?_
  · (repeat' (first | exact trivial | refine And.intro ?_ ?_)) <;> (first | rfl | skip)
  · trivial
  rintro ⟨u, v⟩ hq
  dsimp only at hq ⊢
  by_cases hc : v = 0
  · subst hc
    rw [Nat.gcd_zero_right] at hq
    have hu : 0 < u := by rw [hq]; exact Nat.gcd_pos_of_pos_right _ h1
    repeat (first | ((first | refine step_ops ?_ | refine step_tree ?_); (first | (refine m_mov (by conv => lhs; whnf) ?_) | (refine m_gtr rfl rfl ?_) | (refine m_quo rfl rfl ?_ ?_ ?_ ?_; (· omega); (· omega); (· omega)) | (refine m_rem rfl rfl ?_ ?_ ?_; (· omega); (· omega)))) | refine end_ops ?_ | refine seq_ops ?_ | refine AW_ops ?_ | refine end_tree ?_ | refine seq_tree ?_ | refine AW_tree ?_ | (refine cond_t rfl ?_ ?_; (· first | rfl | assumption | (refine decide_eq_true ?_; first | assumption | omega) | (refine nt ?_; first | assumption | omega) | (simp [*]; done))) | (refine cond_f rfl ?_ ?_; (· first | rfl | assumption | (refine decide_eq_false ?_; first | assumption | omega) | (refine nf ?_; first | assumption | omega) | (simp [*]; done))) | refine skip_then ?_ | refine AW_seq ?_ | refine AW_ret ?_ | refine ret_done ?_ | refine norm_then ?_ | refine ret_then ?_ | refine exit_then ?_ | refine AW_block ?_ | refine norm_block ?_ | refine ret_block ?_ | refine ret_round ?_ | refine exit_round ?_ | refine AW_exit ?_ | refine exit_block ?_ | (refine exit_other ?_ ?_; (· decide)) | refine AW_skip ?_)
    refine outs_tup2 (outs_i ?_) (outs_i ?_) <;> rw [hq]
  · have hc' : 0 < (v : Int) := by omega
    repeat (first | ((first | refine step_ops ?_ | refine step_tree ?_); (first | (refine m_mov (by conv => lhs; whnf) ?_) | (refine m_gtr rfl rfl ?_) | (refine m_quo rfl rfl ?_ ?_ ?_ ?_; (· omega); (· omega); (· omega)) | (refine m_rem rfl rfl ?_ ?_ ?_; (· omega); (· omega)))) | refine end_ops ?_ | refine seq_ops ?_ | refine AW_ops ?_ | refine end_tree ?_ | refine seq_tree ?_ | refine AW_tree ?_ | (refine cond_t rfl ?_ ?_; (· first | rfl | assumption | (refine decide_eq_true ?_; first | assumption | omega) | (refine nt ?_; first | assumption | omega) | (simp [*]; done))) | (refine cond_f rfl ?_ ?_; (· first | rfl | assumption | (refine decide_eq_false ?_; first | assumption | omega) | (refine nf ?_; first | assumption | omega) | (simp [*]; done))) | refine skip_then ?_ | refine AW_seq ?_ | refine AW_ret ?_ | refine ret_done ?_ | refine norm_then ?_ | refine ret_then ?_ | refine exit_then ?_ | refine AW_block ?_ | refine norm_block ?_ | refine ret_block ?_ | refine ret_round ?_ | refine exit_round ?_ | refine AW_exit ?_ | refine exit_block ?_ | (refine exit_other ?_ ?_; (· decide)) | refine AW_skip ?_)
    refine next_round (v, u % v) ?_ (weak_st ?_ ?_ rfl rfl) ?_
    · dsimp only
      rw [← hq, Nat.gcd_comm u v, Nat.gcd_rec v u, Nat.gcd_comm]
    · (repeat' (first | exact trivial | refine And.intro ?_ ?_)) <;> (first | rfl | skip)
    · trivial
    · exact Nat.mod_lt _ (by omega)

theorem none_le : ∀ g < 13, 0 ≤ noneN g ∧ noneN g ≤ 1000000000 := by decide +kernel
def chanceG (n : Int) : Int := (Nat.gcd (noneN n.toNat).toNat (fac n.toNat).toNat : Nat)
def chanceA (n : Int) : Int := if 1 ≤ n ∧ n ≤ 12 then ((noneN n.toNat).toNat : Int) / chanceG n else 0
def chanceB (n : Int) : Int := if 1 ≤ n ∧ n ≤ 12 then ((fac n.toNat).toNat : Int) / chanceG n else 0

theorem specChanceNone_spec (n : Int) : Sp Try.prog 49 [.i n] (.tup [.i (chanceA n), .i (chanceB n), .b (decide (1 ≤ n ∧ n ≤ 12))]) := by
  refine spec_of Try.func49 rfl cc49 rfl ?_
  unfold ac49
  by_cases h : 1 ≤ n ∧ n ≤ 12
  · have eA : chanceA n = _ := if_pos h
    have eB : chanceB n = _ := if_pos h
    obtain ⟨m, rfl⟩ := Int.eq_ofNat_of_zero_le (show 0 ≤ n by omega)
    have h1 := none_le m (by omega)
    have h2 := fac_le m (by omega)
    obtain ⟨p, hp⟩ := Int.eq_ofNat_of_zero_le h1.1
    obtain ⟨q, hq⟩ := Int.eq_ofNat_of_zero_le (show 0 ≤ fac m by omega)
    have s1 := exNone_spec m (by omega)
    have s2 := exTimes_spec m (by omega)
    rw [hp] at s1
    rw [hq] at s2
    repeat (first | (refine step_ops ?_; (first | (refine m_mov (by conv => lhs; whnf) ?_) | (refine m_not rfl ?_) | (refine m_ext rfl rfl ?_))) | refine end_ops ?_ | refine seq_ops ?_ | refine AW_ops ?_ | (refine cond_t rfl ?_ ?_; (· first | rfl | assumption | (refine decide_eq_true ?_; first | assumption | omega) | (refine nt ?_; first | assumption | omega) | (simp [*]; done))) | (refine cond_f rfl ?_ ?_; (· first | rfl | assumption | (refine decide_eq_false ?_; first | assumption | omega) | (refine nf ?_; first | assumption | omega) | (simp [*]; done))) | refine skip_then ?_ | refine AW_seq ?_ | refine AW_ret ?_ | refine ret_done ?_ | refine norm_then ?_ | refine ret_then ?_ | refine exit_then ?_ | refine AW_skip ?_)
    (refine step_ops ?_); (apply m_call (exGuests_spec _)); (· repeat (first | exact lends_nil | (refine lends_cons ?_ ?_; (· first | exact lend_v | (refine lend_ints ?_; first | rfl | omega) | (refine lend_sli (by rfl) ?_; first | rfl | omega | (simp; done)) | exact lend_any))))
    repeat (first | (refine step_ops ?_; (first | (refine m_mov (by conv => lhs; whnf) ?_) | (refine m_not rfl ?_) | (refine m_ext rfl rfl ?_))) | refine end_ops ?_ | refine seq_ops ?_ | refine AW_ops ?_ | (refine cond_t rfl ?_ ?_; (· first | rfl | assumption | (refine decide_eq_true ?_; first | assumption | omega) | (refine nt ?_; first | assumption | omega) | (simp [*]; done))) | (refine cond_f rfl ?_ ?_; (· first | rfl | assumption | (refine decide_eq_false ?_; first | assumption | omega) | (refine nf ?_; first | assumption | omega) | (simp [*]; done))) | refine skip_then ?_ | refine AW_seq ?_ | refine AW_ret ?_ | refine ret_done ?_ | refine norm_then ?_ | refine ret_then ?_ | refine exit_then ?_ | refine AW_skip ?_)
    (refine step_ops ?_); (apply m_call (s1)); (· repeat (first | exact lends_nil | (refine lends_cons ?_ ?_; (· first | exact lend_v | (refine lend_ints ?_; first | rfl | omega) | (refine lend_sli (by rfl) ?_; first | rfl | omega | (simp; done)) | exact lend_any))))
    repeat (first | (refine step_ops ?_; (first | (refine m_mov (by conv => lhs; whnf) ?_) | (refine m_not rfl ?_) | (refine m_ext rfl rfl ?_))) | refine end_ops ?_ | refine seq_ops ?_ | refine AW_ops ?_ | (refine cond_t rfl ?_ ?_; (· first | rfl | assumption | (refine decide_eq_true ?_; first | assumption | omega) | (refine nt ?_; first | assumption | omega) | (simp [*]; done))) | (refine cond_f rfl ?_ ?_; (· first | rfl | assumption | (refine decide_eq_false ?_; first | assumption | omega) | (refine nf ?_; first | assumption | omega) | (simp [*]; done))) | refine skip_then ?_ | refine AW_seq ?_ | refine AW_ret ?_ | refine ret_done ?_ | refine norm_then ?_ | refine ret_then ?_ | refine exit_then ?_ | refine AW_skip ?_)
    (refine step_ops ?_); (apply m_call (s2)); (· repeat (first | exact lends_nil | (refine lends_cons ?_ ?_; (· first | exact lend_v | (refine lend_ints ?_; first | rfl | omega) | (refine lend_sli (by rfl) ?_; first | rfl | omega | (simp; done)) | exact lend_any))))
    repeat (first | (refine step_ops ?_; (first | (refine m_mov (by conv => lhs; whnf) ?_) | (refine m_not rfl ?_) | (refine m_ext rfl rfl ?_))) | refine end_ops ?_ | refine seq_ops ?_ | refine AW_ops ?_ | (refine cond_t rfl ?_ ?_; (· first | rfl | assumption | (refine decide_eq_true ?_; first | assumption | omega) | (refine nt ?_; first | assumption | omega) | (simp [*]; done))) | (refine cond_f rfl ?_ ?_; (· first | rfl | assumption | (refine decide_eq_false ?_; first | assumption | omega) | (refine nf ?_; first | assumption | omega) | (simp [*]; done))) | refine skip_then ?_ | refine AW_seq ?_ | refine AW_ret ?_ | refine ret_done ?_ | refine norm_then ?_ | refine ret_then ?_ | refine exit_then ?_ | refine AW_skip ?_)
    (refine step_ops ?_); (apply m_call (exLow_spec p q (by omega) (by omega) (by omega))); (· repeat (first | exact lends_nil | (refine lends_cons ?_ ?_; (· first | exact lend_v | (refine lend_ints ?_; first | rfl | omega) | (refine lend_sli (by rfl) ?_; first | rfl | omega | (simp; done)) | exact lend_any))))
    repeat (first | (refine step_ops ?_; (first | (refine m_mov (by conv => lhs; whnf) ?_) | (refine m_not rfl ?_) | (refine m_ext rfl rfl ?_))) | refine end_ops ?_ | refine seq_ops ?_ | refine AW_ops ?_ | (refine cond_t rfl ?_ ?_; (· first | rfl | assumption | (refine decide_eq_true ?_; first | assumption | omega) | (refine nt ?_; first | assumption | omega) | (simp [*]; done))) | (refine cond_f rfl ?_ ?_; (· first | rfl | assumption | (refine decide_eq_false ?_; first | assumption | omega) | (refine nf ?_; first | assumption | omega) | (simp [*]; done))) | refine skip_then ?_ | refine AW_seq ?_ | refine AW_ret ?_ | refine ret_done ?_ | refine norm_then ?_ | refine ret_then ?_ | refine exit_then ?_ | refine AW_skip ?_)
    have tm : ((m : Int)).toNat = m := rfl
    refine outs_tup3 (outs_i ?_) (outs_i ?_) (outs_b ?_)
    · rw [eA]; simp only [chanceG, tm, hp, hq, Int.toNat_natCast]
    · rw [eB]; simp only [chanceG, tm, hp, hq, Int.toNat_natCast]
    · exact (decide_eq_true h).symm
  · have eA : chanceA n = 0 := if_neg h
    have eB : chanceB n = 0 := if_neg h
    repeat (first | (refine step_ops ?_; (first | (refine m_mov (by conv => lhs; whnf) ?_) | (refine m_not rfl ?_) | (refine m_ext rfl rfl ?_))) | refine end_ops ?_ | refine seq_ops ?_ | refine AW_ops ?_ | (refine cond_t rfl ?_ ?_; (· first | rfl | assumption | (refine decide_eq_true ?_; first | assumption | omega) | (refine nt ?_; first | assumption | omega) | (simp [*]; done))) | (refine cond_f rfl ?_ ?_; (· first | rfl | assumption | (refine decide_eq_false ?_; first | assumption | omega) | (refine nf ?_; first | assumption | omega) | (simp [*]; done))) | refine skip_then ?_ | refine AW_seq ?_ | refine AW_ret ?_ | refine ret_done ?_ | refine norm_then ?_ | refine ret_then ?_ | refine exit_then ?_ | refine AW_skip ?_)
    (refine step_ops ?_); (apply m_call (exGuests_spec _)); (· repeat (first | exact lends_nil | (refine lends_cons ?_ ?_; (· first | exact lend_v | (refine lend_ints ?_; first | rfl | omega) | (refine lend_sli (by rfl) ?_; first | rfl | omega | (simp; done)) | exact lend_any))))
    repeat (first | (refine step_ops ?_; (first | (refine m_mov (by conv => lhs; whnf) ?_) | (refine m_not rfl ?_) | (refine m_ext rfl rfl ?_))) | refine end_ops ?_ | refine seq_ops ?_ | refine AW_ops ?_ | (refine cond_t rfl ?_ ?_; (· first | rfl | assumption | (refine decide_eq_true ?_; first | assumption | omega) | (refine nt ?_; first | assumption | omega) | (simp [*]; done))) | (refine cond_f rfl ?_ ?_; (· first | rfl | assumption | (refine decide_eq_false ?_; first | assumption | omega) | (refine nf ?_; first | assumption | omega) | (simp [*]; done))) | refine skip_then ?_ | refine AW_seq ?_ | refine AW_ret ?_ | refine ret_done ?_ | refine norm_then ?_ | refine ret_then ?_ | refine exit_then ?_ | refine AW_skip ?_)
    refine outs_tup3 (outs_i ?_) (outs_i ?_) (outs_b ?_)
    · rw [eA]
    · rw [eB]
    · exact (decide_eq_false h).symm

theorem implChanceNone_spec (n : Int) : Sp Try.prog 50 [.i n] (.tup [.i (chanceA n), .i (chanceB n), .b (decide (1 ≤ n ∧ n ≤ 12))]) := by
  refine spec_of Try.func50 rfl cc50 rfl ?_
  unfold ac50
  by_cases h : 1 ≤ n ∧ n ≤ 12
  · have eA : chanceA n = _ := if_pos h
    have eB : chanceB n = _ := if_pos h
    obtain ⟨m, rfl⟩ := Int.eq_ofNat_of_zero_le (show 0 ≤ n by omega)
    have h1 := none_le m (by omega)
    have h2 := fac_le m (by omega)
    obtain ⟨p, hp⟩ := Int.eq_ofNat_of_zero_le h1.1
    obtain ⟨q, hq⟩ := Int.eq_ofNat_of_zero_le (show 0 ≤ fac m by omega)
    have s1 := countApart_spec m m (by omega) (by omega)
    have s2 := factorial_spec m (by omega)
    rw [none_table m (by omega), hp] at s1
    rw [hq] at s2
    have hg : 0 < Nat.gcd p q := Nat.gcd_pos_of_pos_right _ (by omega)
    repeat (first | ((first | refine step_ops ?_ | refine step_tree ?_); (first | (refine m_mov (by conv => lhs; whnf) ?_) | (refine m_not rfl ?_) | (refine m_quo rfl rfl ?_ ?_ ?_ ?_; (· omega); (· omega); (· omega)))) | refine end_ops ?_ | refine seq_ops ?_ | refine AW_ops ?_ | refine end_tree ?_ | refine seq_tree ?_ | refine AW_tree ?_ | (refine cond_t rfl ?_ ?_; (· first | rfl | assumption | (refine decide_eq_true ?_; first | assumption | omega) | (refine nt ?_; first | assumption | omega) | (simp [*]; done))) | (refine cond_f rfl ?_ ?_; (· first | rfl | assumption | (refine decide_eq_false ?_; first | assumption | omega) | (refine nf ?_; first | assumption | omega) | (simp [*]; done))) | refine skip_then ?_ | refine AW_seq ?_ | refine AW_ret ?_ | refine ret_done ?_ | refine norm_then ?_ | refine ret_then ?_ | refine exit_then ?_ | refine AW_skip ?_)
    (first | refine step_ops ?_ | refine step_tree ?_); (apply m_call (isGuestCount_spec _)); (· repeat (first | exact lends_nil | (refine lends_cons ?_ ?_; (· first | exact lend_v | (refine lend_ints ?_; first | rfl | omega) | (refine lend_sli (by rfl) ?_; first | rfl | omega | (simp; done)) | exact lend_any))))
    repeat (first | ((first | refine step_ops ?_ | refine step_tree ?_); (first | (refine m_mov (by conv => lhs; whnf) ?_) | (refine m_not rfl ?_) | (refine m_quo rfl rfl ?_ ?_ ?_ ?_; (· omega); (· omega); (· omega)))) | refine end_ops ?_ | refine seq_ops ?_ | refine AW_ops ?_ | refine end_tree ?_ | refine seq_tree ?_ | refine AW_tree ?_ | (refine cond_t rfl ?_ ?_; (· first | rfl | assumption | (refine decide_eq_true ?_; first | assumption | omega) | (refine nt ?_; first | assumption | omega) | (simp [*]; done))) | (refine cond_f rfl ?_ ?_; (· first | rfl | assumption | (refine decide_eq_false ?_; first | assumption | omega) | (refine nf ?_; first | assumption | omega) | (simp [*]; done))) | refine skip_then ?_ | refine AW_seq ?_ | refine AW_ret ?_ | refine ret_done ?_ | refine norm_then ?_ | refine ret_then ?_ | refine exit_then ?_ | refine AW_skip ?_)
    (first | refine step_ops ?_ | refine step_tree ?_); (apply m_call (s1)); (· repeat (first | exact lends_nil | (refine lends_cons ?_ ?_; (· first | exact lend_v | (refine lend_ints ?_; first | rfl | omega) | (refine lend_sli (by rfl) ?_; first | rfl | omega | (simp; done)) | exact lend_any))))
    repeat (first | ((first | refine step_ops ?_ | refine step_tree ?_); (first | (refine m_mov (by conv => lhs; whnf) ?_) | (refine m_not rfl ?_) | (refine m_quo rfl rfl ?_ ?_ ?_ ?_; (· omega); (· omega); (· omega)))) | refine end_ops ?_ | refine seq_ops ?_ | refine AW_ops ?_ | refine end_tree ?_ | refine seq_tree ?_ | refine AW_tree ?_ | (refine cond_t rfl ?_ ?_; (· first | rfl | assumption | (refine decide_eq_true ?_; first | assumption | omega) | (refine nt ?_; first | assumption | omega) | (simp [*]; done))) | (refine cond_f rfl ?_ ?_; (· first | rfl | assumption | (refine decide_eq_false ?_; first | assumption | omega) | (refine nf ?_; first | assumption | omega) | (simp [*]; done))) | refine skip_then ?_ | refine AW_seq ?_ | refine AW_ret ?_ | refine ret_done ?_ | refine norm_then ?_ | refine ret_then ?_ | refine exit_then ?_ | refine AW_skip ?_)
    (first | refine step_ops ?_ | refine step_tree ?_); (apply m_call (s2)); (· repeat (first | exact lends_nil | (refine lends_cons ?_ ?_; (· first | exact lend_v | (refine lend_ints ?_; first | rfl | omega) | (refine lend_sli (by rfl) ?_; first | rfl | omega | (simp; done)) | exact lend_any))))
    repeat (first | ((first | refine step_ops ?_ | refine step_tree ?_); (first | (refine m_mov (by conv => lhs; whnf) ?_) | (refine m_not rfl ?_) | (refine m_quo rfl rfl ?_ ?_ ?_ ?_; (· omega); (· omega); (· omega)))) | refine end_ops ?_ | refine seq_ops ?_ | refine AW_ops ?_ | refine end_tree ?_ | refine seq_tree ?_ | refine AW_tree ?_ | (refine cond_t rfl ?_ ?_; (· first | rfl | assumption | (refine decide_eq_true ?_; first | assumption | omega) | (refine nt ?_; first | assumption | omega) | (simp [*]; done))) | (refine cond_f rfl ?_ ?_; (· first | rfl | assumption | (refine decide_eq_false ?_; first | assumption | omega) | (refine nf ?_; first | assumption | omega) | (simp [*]; done))) | refine skip_then ?_ | refine AW_seq ?_ | refine AW_ret ?_ | refine ret_done ?_ | refine norm_then ?_ | refine ret_then ?_ | refine exit_then ?_ | refine AW_skip ?_)
    (first | refine step_ops ?_ | refine step_tree ?_); (apply m_call (commonDivisor_spec p q)); (· repeat (first | exact lends_nil | (refine lends_cons ?_ ?_; (· first | exact lend_v | (refine lend_ints ?_; first | rfl | omega) | (refine lend_sli (by rfl) ?_; first | rfl | omega | (simp; done)) | exact lend_any))))
    repeat (first | ((first | refine step_ops ?_ | refine step_tree ?_); (first | (refine m_mov (by conv => lhs; whnf) ?_) | (refine m_not rfl ?_) | (refine m_quo rfl rfl ?_ ?_ ?_ ?_; (· omega); (· omega); (· omega)))) | refine end_ops ?_ | refine seq_ops ?_ | refine AW_ops ?_ | refine end_tree ?_ | refine seq_tree ?_ | refine AW_tree ?_ | (refine cond_t rfl ?_ ?_; (· first | rfl | assumption | (refine decide_eq_true ?_; first | assumption | omega) | (refine nt ?_; first | assumption | omega) | (simp [*]; done))) | (refine cond_f rfl ?_ ?_; (· first | rfl | assumption | (refine decide_eq_false ?_; first | assumption | omega) | (refine nf ?_; first | assumption | omega) | (simp [*]; done))) | refine skip_then ?_ | refine AW_seq ?_ | refine AW_ret ?_ | refine ret_done ?_ | refine norm_then ?_ | refine ret_then ?_ | refine exit_then ?_ | refine AW_skip ?_)
    have tm : ((m : Int)).toNat = m := rfl
    refine outs_tup3 (outs_i ?_) (outs_i ?_) (outs_b ?_)
    · rw [eA]; simp only [chanceG, tm, hp, hq, Int.toNat_natCast]
    · rw [eB]; simp only [chanceG, tm, hp, hq, Int.toNat_natCast]
    · exact (decide_eq_true h).symm
  · have eA : chanceA n = 0 := if_neg h
    have eB : chanceB n = 0 := if_neg h
    repeat (first | ((first | refine step_ops ?_ | refine step_tree ?_); (first | (refine m_mov (by conv => lhs; whnf) ?_) | (refine m_not rfl ?_) | (refine m_quo rfl rfl ?_ ?_ ?_ ?_; (· omega); (· omega); (· omega)))) | refine end_ops ?_ | refine seq_ops ?_ | refine AW_ops ?_ | refine end_tree ?_ | refine seq_tree ?_ | refine AW_tree ?_ | (refine cond_t rfl ?_ ?_; (· first | rfl | assumption | (refine decide_eq_true ?_; first | assumption | omega) | (refine nt ?_; first | assumption | omega) | (simp [*]; done))) | (refine cond_f rfl ?_ ?_; (· first | rfl | assumption | (refine decide_eq_false ?_; first | assumption | omega) | (refine nf ?_; first | assumption | omega) | (simp [*]; done))) | refine skip_then ?_ | refine AW_seq ?_ | refine AW_ret ?_ | refine ret_done ?_ | refine norm_then ?_ | refine ret_then ?_ | refine exit_then ?_ | refine AW_skip ?_)
    (first | refine step_ops ?_ | refine step_tree ?_); (apply m_call (isGuestCount_spec _)); (· repeat (first | exact lends_nil | (refine lends_cons ?_ ?_; (· first | exact lend_v | (refine lend_ints ?_; first | rfl | omega) | (refine lend_sli (by rfl) ?_; first | rfl | omega | (simp; done)) | exact lend_any))))
    repeat (first | ((first | refine step_ops ?_ | refine step_tree ?_); (first | (refine m_mov (by conv => lhs; whnf) ?_) | (refine m_not rfl ?_) | (refine m_quo rfl rfl ?_ ?_ ?_ ?_; (· omega); (· omega); (· omega)))) | refine end_ops ?_ | refine seq_ops ?_ | refine AW_ops ?_ | refine end_tree ?_ | refine seq_tree ?_ | refine AW_tree ?_ | (refine cond_t rfl ?_ ?_; (· first | rfl | assumption | (refine decide_eq_true ?_; first | assumption | omega) | (refine nt ?_; first | assumption | omega) | (simp [*]; done))) | (refine cond_f rfl ?_ ?_; (· first | rfl | assumption | (refine decide_eq_false ?_; first | assumption | omega) | (refine nf ?_; first | assumption | omega) | (simp [*]; done))) | refine skip_then ?_ | refine AW_seq ?_ | refine AW_ret ?_ | refine ret_done ?_ | refine norm_then ?_ | refine ret_then ?_ | refine exit_then ?_ | refine AW_skip ?_)
    refine outs_tup3 (outs_i ?_) (outs_i ?_) (outs_b ?_)
    · rw [eA]
    · rw [eB]
    · exact (decide_eq_false h).symm
end Go.Proofs.Ytcbpohocbfjgaaa
