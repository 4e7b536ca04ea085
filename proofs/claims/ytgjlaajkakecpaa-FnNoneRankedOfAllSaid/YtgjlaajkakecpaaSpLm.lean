/- Contracts: choices. -/
import Derived.Test.YtgjlaajkakecpaaSpKm
import Derived.Test.YtgjlaajkakecpaaMaNone
namespace Go.Proofs.Ytgjlaajkakecpaa
open Go.Am
attribute [local irreducible] AW Outs Weak Lends Lend Sp aops atree aop1 Then Round InBlock Done

theorem chz_le : ∀ n < 13, ∀ k < n + 1, ∀ j < k + 1, (0 ≤ chz n k j ∧ chz n k j ≤ 1000) ∧ 0 ≤ chz n k j * ((n : Int) - k + ((j : Int) + 1)) ∧ chz n k j * ((n : Int) - k + ((j : Int) + 1)) ≤ 100000 := by decide +kernel

theorem exChoose_spec (n k : Nat) (hn : n ≤ 12) (hk : k ≤ n) : Sp Try.prog 54 [.i n, .i k] (.i (chz n k k)) := by
  refine spec_of Try.func54 rfl cc54 rfl ?_
  unfold ac54
  repeat (first | (refine step_ops ?_; (refine m_mov (by conv => lhs; whnf) ?_)) | refine end_ops ?_ | refine seq_ops ?_ | refine AW_seq ?_ | refine AW_block ?_)
  refine AW_loop (α := Nat) (fun j => j ≤ k) (fun j => st [(0, .i n), (1, .i k), (5, .i (chz n k j)), (6, .i ((j : Int) + 1))] []) (fun j => k - j) 0 (by omega) (weak_st ?_ ?_ rfl rfl) ?_
  · (repeat' (first | exact trivial | refine And.intro ?_ ?_)) <;> (first | rfl | skip)
  · trivial
  intro j hj
  have hb := chz_le n (by omega) k (by omega) j (by omega)
  by_cases hc : (j : Int) + 1 ≤ k
  · repeat (first | (refine step_ops ?_; (first | (refine m_mov (by conv => lhs; whnf) ?_) | (refine m_leq rfl rfl ?_) | (refine m_add rfl rfl ?_ ?_ ?_; (· omega); (· omega)) | (refine m_sub rfl rfl ?_ ?_ ?_; (· omega); (· omega)) | (refine m_mul rfl rfl ?_ ?_ ?_; (· first | omega | (simp; done)); (· first | omega | (simp; done))) | (refine m_quo rfl rfl ?_ ?_ ?_ ?_; (· omega); (· omega); (· omega)))) | refine end_ops ?_ | refine seq_ops ?_ | refine AW_ops ?_ | (refine cond_t rfl ?_ ?_; (· first | rfl | assumption | (refine decide_eq_true ?_; first | assumption | omega) | (refine nt ?_; first | assumption | omega) | (simp [*]; done))) | refine skip_then ?_ | refine AW_seq ?_ | refine norm_then ?_ | refine AW_block ?_ | refine norm_block ?_)
    refine next_round (j + 1) (by omega) (weak_st ?_ ?_ rfl rfl) ?_
    · (repeat' (first | exact trivial | refine And.intro ?_ ?_)) <;> (first | rfl | skip)
    · trivial
    · omega
  · repeat (first | (refine step_ops ?_; (first | (refine m_mov (by conv => lhs; whnf) ?_) | (refine m_leq rfl rfl ?_))) | refine end_ops ?_ | refine seq_ops ?_ | (refine cond_f rfl ?_ ?_; (· first | rfl | assumption | (refine decide_eq_false ?_; first | assumption | omega) | (refine nf ?_; first | assumption | omega) | (simp [*]; done))) | refine AW_seq ?_ | refine AW_ret ?_ | refine ret_done ?_ | refine norm_then ?_ | refine exit_then ?_ | refine exit_round ?_ | refine AW_exit ?_ | refine exit_block ?_)
    obtain rfl : j = k := by omega
    exact outs_i rfl

end Go.Proofs.Ytgjlaajkakecpaa
