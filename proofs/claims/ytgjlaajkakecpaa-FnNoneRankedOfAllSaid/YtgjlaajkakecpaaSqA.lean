/- Contracts: fractions in lowest terms, chances of own seats, counts of seatings. -/
import Derived.Test.YtgjlaajkakecpaaSpKm
namespace Go.Proofs.Ytgjlaajkakecpaa
open Go.Am
attribute [local irreducible] AW Outs Weak Lends Lend Sp aops atree aop1 Then Round InBlock Done

/-- A fraction in lowest terms. -/
def low (a b : Nat) : Nat × Nat := (a / Nat.gcd a b, b / Nat.gcd a b)
def fracV (p : Nat × Nat) : List AV := [.i p.1, .i p.2]

theorem partOf_spec (a b : Nat) (ha : a ≤ 1000000000000000000) (hb : b ≤ 1000000000000000000) (h1 : 1 ≤ b) : Sp Try.prog 45 [.i a, .i b] (.agg (fracV (low a b))) := by
  have hg : 0 < Nat.gcd a b := Nat.gcd_pos_of_pos_right _ h1
  have e1 : ((a / Nat.gcd a b : Nat) : Int) = (a : Int) / (Nat.gcd a b : Nat) := by simp
  have e2 : ((b / Nat.gcd a b : Nat) : Int) = (b : Int) / (Nat.gcd a b : Nat) := by simp
  unfold fracV low
  dsimp only
  rw [e1, e2]
  refine specC_of Try.func45 rfl cc45 (by rfl) ?_
  unfold ac45
  repeat (first | (refine step_ops ?_; (first | (refine m_mov (by conv => lhs; whnf) ?_) | (refine m_alloc ?_))) | refine end_ops ?_ | refine seq_ops ?_)
  refine step_ops ?_; (apply m_call (commonDivisor_spec a b)); (· repeat (first | exact lends_nil | (refine lends_cons ?_ ?_; (· exact lend_v))))
  repeat (first | ((first | refine step_ops ?_ | refine step_tree ?_); (first | (refine m_mov (by conv => lhs; whnf) ?_) | (refine m_bld_2 (by conv => lhs; whnf) (by conv => lhs; whnf) (by decide)  (by decide) (by rfl) (by rfl) ?_) | (refine m_stall rfl rfl rfl ?_ ?_ ?_ ?_; (· first | rfl | (simp [*]; done)); (· first | rfl | (simp [*]; done)); (· first | rfl | (simp [cellOk, Value.oneCell']; done))) | (refine m_quo rfl rfl ?_ ?_ ?_ ?_; (· omega); (· omega); (· omega)))) | refine end_ops ?_ | refine end_tree ?_ | refine seq_tree ?_ | refine AW_ret ?_)
  exact ret_donec rfl rfl rfl (outs_agg rfl)

theorem told_spec (p : Nat × Nat) : Sp Try.prog 47 [.agg (fracV p)] (.tup [.i p.1, .i p.2, .b true]) := by
  unfold fracV
  refine spec_of Try.func47 rfl cc47 rfl ?_
  unfold ac47
  repeat (first | ((first | refine step_ops ?_ | refine step_tree ?_); (first | (refine m_mov (by conv => lhs; whnf) ?_) | (apply m_ld_pt; (· rfl); (· rfl); (· rfl)) | (refine m_fa rfl ?_) | (refine m_box rfl ?_ ?_; (· first | rfl | (simp [cellOk, Value.oneCell']; done))))) | refine end_ops ?_ | refine seq_ops ?_ | refine end_tree ?_ | refine seq_tree ?_ | refine AW_ret ?_ | refine ret_done ?_)
  exact outs_tup3 (outs_i rfl) (outs_i rfl) (outs_b rfl)

def addF (p q : Nat × Nat) : Nat × Nat := low (p.1 * q.2 + q.1 * p.2) (p.2 * q.2)

theorem exLowN_spec (a b : Nat) (ha : a ≤ 1000000000000000000) (hb : b ≤ 1000000000000000000) (h1 : 1 ≤ b) : Sp Try.prog 48 [.i a, .i b] (.tup [.i (low a b).1, .i (low a b).2]) := by
  have e1 : (((low a b).1 : Nat) : Int) = (a : Int) / (Nat.gcd a b : Nat) := by simp [low]
  have e2 : (((low a b).2 : Nat) : Int) = (b : Int) / (Nat.gcd a b : Nat) := by simp [low]
  rw [e1, e2]
  refine spec_of Try.func48 rfl cc48 rfl ?_
  unfold ac48
  repeat (first | (refine step_ops ?_; (refine m_mov (by conv => lhs; whnf) ?_)) | refine end_ops ?_ | refine seq_ops ?_ | refine AW_seq ?_ | refine AW_block ?_)
  refine AW_loop (α := Nat × Nat) (fun q => Nat.gcd q.1 q.2 = Nat.gcd a b) (fun q => st [(0, .i a), (1, .i b), (6, .i q.1), (7, .i q.2)] []) (fun q => q.2) (a, b) rfl (weak_st ?_ ?_ rfl rfl) ?_
  · (repeat' (first | exact trivial | refine And.intro ?_ ?_)) <;> (first | rfl | skip)
  · trivial
  rintro ⟨u, v⟩ hq
  dsimp only at hq ⊢
  by_cases hc : v = 0
  · subst hc
    rw [Nat.gcd_zero_right] at hq
    have hu : 0 < u := by rw [hq]; exact Nat.gcd_pos_of_pos_right _ h1
    repeat (first | ((first | refine step_ops ?_ | refine step_tree ?_); (first | (refine m_mov (by conv => lhs; whnf) ?_) | (refine m_gtr rfl rfl ?_) | (refine m_quo rfl rfl ?_ ?_ ?_ ?_; (· omega); (· omega); (· omega)))) | refine end_ops ?_ | refine seq_ops ?_ | refine end_tree ?_ | refine seq_tree ?_ | (refine cond_f rfl ?_ ?_; (· first | rfl | assumption | (refine decide_eq_false ?_; first | assumption | omega) | (refine nf ?_; first | assumption | omega) | (simp [*]; done))) | refine AW_seq ?_ | refine AW_ret ?_ | refine ret_done ?_ | refine norm_then ?_ | refine exit_then ?_ | refine exit_round ?_ | refine AW_exit ?_ | refine exit_block ?_)
    refine outs_tup2 (outs_i ?_) (outs_i ?_) <;> rw [hq]
  · have hc' : 0 < (v : Int) := by omega
    repeat (first | ((first | refine step_ops ?_ | refine step_tree ?_); (first | (refine m_mov (by conv => lhs; whnf) ?_) | (refine m_gtr rfl rfl ?_) | (refine m_rem rfl rfl ?_ ?_ ?_; (· omega); (· omega)))) | refine end_ops ?_ | refine seq_ops ?_ | refine end_tree ?_ | refine AW_tree ?_ | (refine cond_t rfl ?_ ?_; (· first | rfl | assumption | (refine decide_eq_true ?_; first | assumption | omega) | (refine nt ?_; first | assumption | omega) | (simp [*]; done))) | refine skip_then ?_ | refine AW_seq ?_ | refine AW_block ?_ | refine norm_block ?_)
    refine next_round (v, u % v) ?_ (weak_st ?_ ?_ rfl rfl) ?_
    · dsimp only
      rw [← hq, Nat.gcd_comm u v, Nat.gcd_rec v u, Nat.gcd_comm]
    · (repeat' (first | exact trivial | refine And.intro ?_ ?_)) <;> (first | rfl | skip)
    · trivial
    · exact Nat.mod_lt _ (by omega)

end Go.Proofs.Ytgjlaajkakecpaa
