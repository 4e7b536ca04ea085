/- Contracts: fractions in lowest terms, chances of own seats, counts of seatings. -/
import Derived.Test.YtojbhdkjmaekjaaSpKm
namespace Go.Proofs.Ytojbhdkjmaekjaa
open Go.Am
attribute [local irreducible] AW Outs Weak Lends Lend Sp aops atree aop1 Then Round InBlock Done

/-- A fraction in lowest terms. -/
def low (a b : Nat) : Nat × Nat := (a / Nat.gcd a b, b / Nat.gcd a b)
def fracV (p : Nat × Nat) : List AV := [.i p.1, .i p.2]

theorem partOf_spec (a b : Nat) (ha : a ≤ 1000000000000000000) (hb : b ≤ 1000000000000000000) (h1 : 1 ≤ b) : Sp Try.prog 50 [.i a, .i b] (.agg (fracV (low a b))) := by
  have hg : 0 < Nat.gcd a b := Nat.gcd_pos_of_pos_right _ h1
  have e1 : ((a / Nat.gcd a b : Nat) : Int) = (a : Int) / (Nat.gcd a b : Nat) := by simp
  have e2 : ((b / Nat.gcd a b : Nat) : Int) = (b : Int) / (Nat.gcd a b : Nat) := by simp
  unfold fracV low
  dsimp only
  rw [e1, e2]
  refine specC_of Try.func50 rfl cc50 (by rfl) ?_
  unfold ac50
  repeat (first | ((first | refine step_ops ?_ | refine step_tree ?_); (first | (refine m_mov (by conv => lhs; whnf) ?_) | (refine m_alloc ?_) | (refine m_bld rfl ?_) | (refine m_bld_1 (by conv => lhs; whnf) (by decide)  (by rfl) ?_) | (refine m_bld_2 (by conv => lhs; whnf) (by conv => lhs; whnf) (by decide)  (by decide) (by rfl) (by rfl) ?_) | (refine m_bld_3 (by conv => lhs; whnf) (by conv => lhs; whnf) (by conv => lhs; whnf) (by decide)  (by decide) (by decide) (by rfl) (by rfl) (by rfl) ?_) | (refine m_stall rfl rfl rfl ?_ ?_ ?_ ?_; (· first | rfl | (simp [*]; done)); (· first | rfl | (simp [*]; done)); (· first | rfl | (simp [cellOk, Value.oneCell']; done))) | (refine m_quo rfl rfl ?_ ?_ ?_ ?_; (· omega); (· omega); (· omega)))) | refine end_ops ?_ | refine seq_ops ?_ | refine AW_ops ?_ | refine end_tree ?_ | refine seq_tree ?_ | refine AW_tree ?_ | refine AW_seq ?_ | refine AW_ret ?_ | refine ret_done ?_ | refine norm_then ?_ | refine ret_then ?_ | refine exit_then ?_)
  (first | refine step_ops ?_ | refine step_tree ?_); (apply m_call (commonDivisor_spec a b)); (· repeat (first | exact lends_nil | (refine lends_cons ?_ ?_; (· first | exact lend_v | (refine lend_roM rfl; done) | (refine lend_mat rfl ?_; intro j hj; simp (disch := first | omega | assumption) only [hp_put, hp_mem_ne, hp_kill_ne]; first | exact stM_row rfl hj | (rw [stM_row rfl hj]; rfl)) | (refine lend_ints ?_; first | rfl | omega) | (refine lend_sli (by rfl) ?_; first | rfl | omega | (simp; done)) | exact lend_any | (refine lend_agg ?_; first | rfl | assumption | (simp [plainV]; done))))))
  repeat (first | ((first | refine step_ops ?_ | refine step_tree ?_); (first | (refine m_mov (by conv => lhs; whnf) ?_) | (refine m_alloc ?_) | (refine m_bld rfl ?_) | (refine m_bld_1 (by conv => lhs; whnf) (by decide)  (by rfl) ?_) | (refine m_bld_2 (by conv => lhs; whnf) (by conv => lhs; whnf) (by decide)  (by decide) (by rfl) (by rfl) ?_) | (refine m_bld_3 (by conv => lhs; whnf) (by conv => lhs; whnf) (by conv => lhs; whnf) (by decide)  (by decide) (by decide) (by rfl) (by rfl) (by rfl) ?_) | (refine m_stall rfl rfl rfl ?_ ?_ ?_ ?_; (· first | rfl | (simp [*]; done)); (· first | rfl | (simp [*]; done)); (· first | rfl | (simp [cellOk, Value.oneCell']; done))) | (refine m_quo rfl rfl ?_ ?_ ?_ ?_; (· omega); (· omega); (· omega)))) | refine end_ops ?_ | refine seq_ops ?_ | refine AW_ops ?_ | refine end_tree ?_ | refine seq_tree ?_ | refine AW_tree ?_ | refine AW_seq ?_ | refine AW_ret ?_ | refine ret_done ?_ | refine norm_then ?_ | refine ret_then ?_ | refine exit_then ?_)
  exact ret_donec rfl rfl rfl (outs_agg rfl)

theorem told_spec (p : Nat × Nat) : Sp Try.prog 51 [.agg (fracV p)] (.tup [.i p.1, .i p.2, .b true]) := by
  unfold fracV
  refine spec_of Try.func51 rfl cc51 rfl ?_
  unfold ac51
  repeat (first | ((first | refine step_ops ?_ | refine step_tree ?_); (first | (refine m_mov (by conv => lhs; whnf) ?_) | (refine m_ld_rpi rfl ?_ ?_; (· omega)) | (refine m_ld_pti rfl (by rfl) ?_ ?_; (· first | omega | (simp; omega))) | (apply m_ld_ptb; (· rfl); (· rfl); (· assumption)) | (apply m_ld_rp; (· rfl); (· rfl)) | (apply m_ld_pt; (· rfl); (· rfl); (· rfl)) | (refine m_fa rfl ?_) | (refine m_fa_rp rfl ?_) | (refine m_box rfl ?_ ?_; (· first | rfl | (simp [cellOk, Value.oneCell']; done))) | (refine m_box1 rfl rfl ?_))) | refine end_ops ?_ | refine seq_ops ?_ | refine AW_ops ?_ | refine end_tree ?_ | refine seq_tree ?_ | refine AW_tree ?_ | refine AW_seq ?_ | refine AW_ret ?_ | refine ret_done ?_ | refine norm_then ?_ | refine ret_then ?_ | refine exit_then ?_)
  exact outs_tup3 (outs_i rfl) (outs_i rfl) (outs_b rfl)

def addF (p q : Nat × Nat) : Nat × Nat := low (p.1 * q.2 + q.1 * p.2) (p.2 * q.2)

theorem canLose_spec (a b : Int) : Sp Try.prog 48 [.i a, .i b] (.b (decide (0 ≤ b ∧ b ≤ a))) := by
  refine spec_of Try.func48 rfl cc48 rfl ?_
  unfold ac48
  by_cases h : 0 ≤ b
  all_goals
    repeat (first | (refine step_ops ?_; (first | ((try (refine g_yes rfl ?_ ?_; (· first | rfl | assumption | (refine decide_eq_true ?_; first | assumption | omega) | (refine nt ?_; first | assumption | omega) | (simp [*]; done) | (refine decide_eq_false ?_; first | assumption | omega) | (refine nf ?_; first | assumption | omega)))); (first | (refine m_mov (by conv => lhs; whnf) ?_) | (refine m_leq rfl rfl ?_) | (refine m_geq rfl rfl ?_) | (refine m_pick_t rfl ?_ (by conv => lhs; whnf) ?_; (· first | rfl | assumption | (refine decide_eq_true ?_; first | assumption | omega) | (refine nt ?_; first | assumption | omega) | (simp [*]; done))) | (refine m_pick_f rfl ?_ (by conv => lhs; whnf) ?_; (· first | rfl | assumption | (refine decide_eq_false ?_; first | assumption | omega) | (refine nf ?_; first | assumption | omega) | (simp [*]; done))))) | (refine g_noT rfl ?_ ?_; (· first | rfl | assumption | (refine decide_eq_false ?_; first | assumption | omega) | (refine nf ?_; first | assumption | omega) | (simp [*]; done))))) | refine end_ops ?_ | refine seq_ops ?_ | refine AW_ops ?_ | refine AW_seq ?_ | refine AW_ret ?_ | refine ret_done ?_ | refine norm_then ?_ | refine ret_then ?_ | refine exit_then ?_)
    refine outs_b ?_
    simp [*]

end Go.Proofs.Ytojbhdkjmaekjaa
