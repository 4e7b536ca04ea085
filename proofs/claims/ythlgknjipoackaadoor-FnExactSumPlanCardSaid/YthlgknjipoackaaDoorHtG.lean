/- Contracts: the specification's plans, views and guesses. -/
import Derived.Test.YthlgknjipoackaaDoorHtE
namespace Go.Proofs.YthlgknjipoackaaDoor
open Go.Am
attribute [local irreducible] AW Outs Weak Lends Lend Sp aops atree aop1 Then Round InBlock Done

theorem haCount_spec (c g : Nat) (hc : c ≤ 3) (hg : g ≤ 4) : Sp Tryd.prog 22 [.i g, .i c] (.i ((c ^ g : Nat) : Int)) := by
  refine spec_of Tryd.func22 rfl cc22 rfl ?_
  unfold ac22
  repeat (first | (refine step_ops ?_; (refine m_mov (by conv => lhs; whnf) ?_)) | refine end_ops ?_ | refine seq_ops ?_ | refine AW_seq ?_ | refine AW_block ?_)
  refine AW_loop (α := Nat) (fun j => j ≤ g) (fun j => st [(0, .i ((g - j : Nat) : Int)), (1, .i c), (5, .i ((c ^ j : Nat) : Int))] []) (fun j => g - j) 0 (Nat.zero_le _) (weak_st ?_ ?_ rfl rfl) ?_
  · (repeat' (first | exact trivial | refine And.intro ?_ ?_)) <;> (first | rfl | skip)
  · trivial
  intro j hj
  have hp := pow_le c (by omega) j (by omega)
  by_cases h : j < g
  · have hp2 := pow_le c (by omega) (j + 1) (by omega)
    have he : ((c ^ j : Nat) : Int) * (c : Int) = ((c ^ (j + 1) : Nat) : Int) := by rw [Nat.pow_succ]; push_cast; rfl
    have he2 : ((g - j : Nat) : Int) - 1 = ((g - (j + 1) : Nat) : Int) := by omega
    repeat (first | (refine step_ops ?_; (first | (refine m_mov (by conv => lhs; whnf) ?_) | (refine m_gtr rfl rfl ?_) | (refine m_sub rfl rfl ?_ ?_ ?_; (· omega); (· omega)) | (refine m_mul rfl rfl ?_ ?_ ?_; (· first | omega | (simp; done)); (· first | omega | (simp; done))))) | refine end_ops ?_ | refine seq_ops ?_ | refine AW_ops ?_ | (refine cond_t rfl ?_ ?_; (· first | rfl | assumption | (refine decide_eq_true ?_; first | assumption | omega) | (refine nt ?_; first | assumption | omega) | (simp [*]; done))) | refine skip_then ?_ | refine AW_seq ?_ | refine norm_then ?_ | refine AW_block ?_ | refine norm_block ?_)
    rw [he, he2]
    refine next_round (j + 1) h (weak_st ?_ ?_ rfl rfl) ?_
    · (repeat' (first | exact trivial | refine And.intro ?_ ?_)) <;> (first | rfl | skip)
    · trivial
    · omega
  · obtain rfl : j = g := by omega
    repeat (first | (refine step_ops ?_; (first | (refine m_mov (by conv => lhs; whnf) ?_) | (refine m_gtr rfl rfl ?_))) | refine end_ops ?_ | refine seq_ops ?_ | (refine cond_f rfl ?_ ?_; (· first | rfl | assumption | (refine decide_eq_false ?_; first | assumption | omega) | (refine nf ?_; first | assumption | omega) | (simp [*]; done))) | refine AW_seq ?_ | refine AW_ret ?_ | refine ret_done ?_ | refine norm_then ?_ | refine exit_then ?_ | refine exit_round ?_ | refine AW_exit ?_ | refine exit_block ?_)
    exact outs_i rfl

theorem haDigits_spec (n c g : Nat) (hn : n < 100) (h2 : 2 ≤ c) (hc : c ≤ 3) (h4 : g ≤ 4) : Sp Tryd.prog 24 [.i n, .i c, .i g] (str (dgs c g n)) := by
  refine spec_of Tryd.func24 rfl cc24 rfl ?_
  unfold ac24
  repeat (first | (refine step_ops ?_; (refine m_mov (by conv => lhs; whnf) ?_)) | refine end_ops ?_ | refine seq_ops ?_ | refine AW_seq ?_ | refine AW_block ?_)
  refine AW_loop (α := Nat) (fun j => j ≤ g) (fun j => st [(0, .i ((n / c ^ j : Nat) : Int)), (1, .i c), (2, .i ((g - j : Nat) : Int)), (7, str (dgs c j n))] []) (fun j => g - j) 0 (Nat.zero_le _) (weak_st ?_ ?_ rfl rfl) ?_
  · rw [Nat.pow_zero, Nat.div_one]
    (repeat' (first | exact trivial | refine And.intro ?_ ?_)) <;> (first | rfl | skip)
  · trivial
  intro j hj
  have hle : n / c ^ j ≤ n := Nat.div_le_self ..
  have hlen := dgs_len c j n
  by_cases h : j < g
  · have he2 : ((g - j : Nat) : Int) - 1 = ((g - (j + 1) : Nat) : Int) := by omega
    have hm : n / c ^ j % c < c := Nat.mod_lt _ (by omega)
    have hq : n / c ^ j / c = n / c ^ (j + 1) := by rw [Nat.pow_succ, Nat.div_div_eq_div_mul]
    have hds : dgs c (j + 1) n = hg (n / c ^ j % c) :: dgs c j n := rfl
    generalize n / c ^ j = q at *
    have hmi : (q : Int) % (c : Int) = ((q % c : Nat) : Int) := by push_cast; rfl
    have hqi : (q : Int) / (c : Int) = ((q / c : Nat) : Int) := by push_cast; rfl
    generalize q % c = x at *
    repeat (first | (refine step_ops ?_; (first | (refine m_mov (by conv => lhs; whnf) ?_) | (refine m_gtr rfl rfl ?_) | (refine m_rem rfl rfl ?_ ?_ ?_; (· omega); (· omega)))) | refine end_ops ?_ | refine seq_ops ?_ | (refine cond_t rfl ?_ ?_; (· first | rfl | assumption | (refine decide_eq_true ?_; first | assumption | omega) | (refine nt ?_; first | assumption | omega) | (simp [*]; done))) | refine skip_then ?_ | refine AW_seq ?_ | refine AW_block ?_)
    rw [hmi]
    skip
    (refine step_ops ?_); (apply m_call (l1Num_hg x (by omega))); (· repeat (first | exact lends_nil | (refine lends_cons ?_ ?_; (· exact lend_v))))
    repeat (first | (refine step_ops ?_; (first | (refine m_mov (by conv => lhs; whnf) ?_) | (refine m_adds rfl rfl ?_ ?_; (· first | omega | (simp; omega))) | (refine m_sub rfl rfl ?_ ?_ ?_; (· omega); (· omega)) | (refine m_quo rfl rfl ?_ ?_ ?_ ?_; (· omega); (· omega); (· omega)))) | refine end_ops ?_ | refine AW_ops ?_ | refine norm_then ?_ | refine norm_block ?_)
    rw [hqi, hq]
    skip
    rw [he2]
    refine next_round (j + 1) h (weak_st ?_ ?_ rfl rfl) ?_
    · rw [hds]
      (repeat' (first | exact trivial | refine And.intro ?_ ?_)) <;> (first | rfl | skip)
    · trivial
    · omega
  · obtain rfl : j = g := by omega
    repeat (first | (refine step_ops ?_; (first | (refine m_mov (by conv => lhs; whnf) ?_) | (refine m_gtr rfl rfl ?_))) | refine end_ops ?_ | refine seq_ops ?_ | (refine cond_f rfl ?_ ?_; (· first | rfl | assumption | (refine decide_eq_false ?_; first | assumption | omega) | (refine nf ?_; first | assumption | omega) | (simp [*]; done))) | refine AW_seq ?_ | refine AW_ret ?_ | refine ret_done ?_ | refine norm_then ?_ | refine exit_then ?_ | refine exit_round ?_ | refine AW_exit ?_ | refine exit_block ?_)
    exact outs_v

end Go.Proofs.YthlgknjipoackaaDoor
