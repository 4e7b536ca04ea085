/- The law FnExactIsDesk says true for every desk: IsDesk answers as its model does. No condition but what its card ties. -/
import Derived.Test.YtojpcpdbnmnknaaDoorZs4
namespace Go.Proofs.YtojpcpdbnmnknaaDoor
open Go.Am
attribute [local irreducible] AW Outs Weak Lends Lend Sp aops atree aop1 Then Round InBlock Done
attribute [local irreducible] SpM SpH
theorem szDesk_spec (L : List Int) (b : List UInt8) (hL : L.length ≤ maxLen) (hb : b.length ≤ 9223372036854775807) : ∃ r : Int, Sp Tryd.prog 22 [dsk L b, .i 1048576] (.i r) ∧ (0 ≤ r → L.length ≤ 1048576 ∧ b.length ≤ 1048576) := by
  by_cases h1 : (L.length : Int) ≤ 1048576
  · refine ⟨if (L.length : Int) + b.length ≤ 1048576 then 1048576 - L.length - b.length else -1, ?_, fun h => ?_⟩
    · have hs := szIntS_spec L 1048576 (by decide) (by decide) hL
      rw [if_pos h1] at hs
      by_cases h2 : (L.length : Int) + b.length ≤ 1048576
      · rw [if_pos h2]
        refine spec_of Tryd.func22 rfl cc22 rfl ?_
        unfold ac22
        repeat (first | (refine step_ops ?_; (first | (refine m_mov (by conv => lhs; whnf) ?_) | (apply m_ld_pt; (· rfl); (· rfl); (· rfl)) | (refine m_fa rfl ?_) | (refine m_box rfl ?_ ?_; (· first | rfl | (simp [cellOk, Value.oneCell']; done))))) | refine end_ops ?_ | refine seq_ops ?_)
        (refine step_ops ?_); (apply m_call (hs)); (· repeat (first | exact lends_nil | (refine lends_cons ?_ ?_; (· (first | exact lend_v | (refine lend_ints ?_; first | rfl | omega))))))
        repeat (first | (refine step_ops ?_; (first | (refine m_mov (by conv => lhs; whnf) ?_) | (refine m_lss rfl rfl ?_) | (refine m_sub rfl rfl ?_ ?_ ?_; (· omega); (· omega)) | (refine m_slen rfl ?_) | (apply m_ld_pt; (· rfl); (· rfl); (· rfl)) | (refine m_fa rfl ?_))) | refine end_ops ?_ | refine seq_ops ?_ | (refine cond_f rfl ?_ ?_; (· first | rfl | assumption | (refine decide_eq_false ?_; first | assumption | omega) | (refine nf ?_; first | assumption | omega) | (simp [*]; done))) | refine skip_then ?_ | refine AW_seq ?_ | refine AW_ret ?_ | refine ret_done ?_)
        exact outs_i (by omega)
      · rw [if_neg h2]
        refine spec_of Tryd.func22 rfl cc22 rfl ?_
        unfold ac22
        repeat (first | (refine step_ops ?_; (first | (refine m_mov (by conv => lhs; whnf) ?_) | (apply m_ld_pt; (· rfl); (· rfl); (· rfl)) | (refine m_fa rfl ?_) | (refine m_box rfl ?_ ?_; (· first | rfl | (simp [cellOk, Value.oneCell']; done))))) | refine end_ops ?_ | refine seq_ops ?_)
        (refine step_ops ?_); (apply m_call (hs)); (· repeat (first | exact lends_nil | (refine lends_cons ?_ ?_; (· (first | exact lend_v | (refine lend_ints ?_; first | rfl | omega))))))
        repeat (first | (refine step_ops ?_; (first | (refine m_mov (by conv => lhs; whnf) ?_) | (refine m_lss rfl rfl ?_) | (refine m_sub rfl rfl ?_ ?_ ?_; (· omega); (· omega)) | (refine m_slen rfl ?_) | (apply m_ld_pt; (· rfl); (· rfl); (· rfl)) | (refine m_fa rfl ?_))) | refine end_ops ?_ | refine seq_ops ?_ | (refine cond_t rfl ?_ ?_; (· first | rfl | assumption | (refine decide_eq_true ?_; first | assumption | omega) | (refine nt ?_; first | assumption | omega) | (simp [*]; done))) | (refine cond_f rfl ?_ ?_; (· first | rfl | assumption | (refine decide_eq_false ?_; first | assumption | omega) | (refine nf ?_; first | assumption | omega) | (simp [*]; done))) | refine skip_then ?_ | refine AW_seq ?_ | refine AW_ret ?_ | refine ret_done ?_ | refine ret_then ?_)
        exact outs_i (by omega)
    · split at h <;> omega
  · refine ⟨-1, ?_, fun h => by omega⟩
    have hs := szIntS_spec L 1048576 (by decide) (by decide) hL
    rw [if_neg h1] at hs
    refine spec_of Tryd.func22 rfl cc22 rfl ?_
    unfold ac22
    repeat (first | (refine step_ops ?_; (first | (refine m_mov (by conv => lhs; whnf) ?_) | (apply m_ld_pt; (· rfl); (· rfl); (· rfl)) | (refine m_fa rfl ?_) | (refine m_box rfl ?_ ?_; (· first | rfl | (simp [cellOk, Value.oneCell']; done))))) | refine end_ops ?_ | refine seq_ops ?_)
    (refine step_ops ?_); (apply m_call (hs)); (· repeat (first | exact lends_nil | (refine lends_cons ?_ ?_; (· (first | exact lend_v | (refine lend_ints ?_; first | rfl | omega))))))
    repeat (first | (refine step_ops ?_; (first | (refine m_mov (by conv => lhs; whnf) ?_) | (refine m_lss rfl rfl ?_))) | refine end_ops ?_ | refine seq_ops ?_ | (refine cond_t rfl ?_ ?_; (· first | rfl | assumption | (refine decide_eq_true ?_; first | assumption | omega) | (refine nt ?_; first | assumption | omega) | (simp [*]; done))) | refine AW_seq ?_ | refine AW_ret ?_ | refine ret_done ?_ | refine ret_then ?_)
    exact outs_i (by omega)
theorem lawIsDesk (L : List Int) (b : List UInt8) (hL : L.length ≤ 9223372036854775807) (hb : b.length ≤ 9223372036854775807) : Sp Tryd.prog 8 [dsk L b] (.b true) := by
  obtain ⟨r, hs, hr⟩ := szDesk_spec L b hL hb
  refine spec_of Tryd.func8 rfl cc8 rfl ?_
  unfold ac8
  by_cases h0 : r < 0
  · repeat (first | (refine step_ops ?_; (first | (refine m_mov (by conv => lhs; whnf) ?_) | (refine m_box rfl ?_ ?_; (· first | rfl | (simp [cellOk, Value.oneCell']; done))) | (refine m_ldall rfl rfl ?_ ?_; (· first | rfl | (simp; done) | (simp [*]; done))))) | refine end_ops ?_ | refine seq_ops ?_)
    refine step_ops ?_
    refine m_call hs (lends_cons (lend_dsk rfl) (lends_cons lend_v lends_nil)) ?_
    repeat (first | (refine step_ops ?_; (first | (refine m_mov (by conv => lhs; whnf) ?_) | (refine m_lss rfl rfl ?_))) | refine end_ops ?_ | refine seq_ops ?_ | (refine cond_t rfl ?_ ?_; (· first | rfl | assumption | (refine decide_eq_true ?_; first | assumption | omega) | (refine nt ?_; first | assumption | omega) | (simp [*]; done))) | refine AW_seq ?_ | refine AW_ret ?_ | refine ret_done ?_ | refine ret_then ?_)
    exact outs_b rfl
  · obtain ⟨h1, h2⟩ := hr (by omega)
    have hne : (true ^^ (decide (DeskOk L b) == decide (DeskOk L b))) = false := by simp
    have heq : (!decide (L = L ∧ b = b)) = false := by simp
    repeat (first | (refine step_ops ?_; (first | (refine m_mov (by conv => lhs; whnf) ?_) | (refine m_box rfl ?_ ?_; (· first | rfl | (simp [cellOk, Value.oneCell']; done))) | (refine m_ldall rfl rfl ?_ ?_; (· first | rfl | (simp; done) | (simp [*]; done))))) | refine end_ops ?_ | refine seq_ops ?_)
    refine step_ops ?_
    refine m_call hs (lends_cons (lend_dsk rfl) (lends_cons lend_v lends_nil)) ?_
    repeat (first | (refine step_ops ?_; (first | (refine m_mov (by conv => lhs; whnf) ?_) | (refine m_lss rfl rfl ?_) | (refine m_ldall rfl rfl ?_ ?_; (· first | rfl | (simp; done) | (simp [*]; done))))) | refine end_ops ?_ | refine seq_ops ?_ | (refine cond_f rfl ?_ ?_; (· first | rfl | assumption | (refine decide_eq_false ?_; first | assumption | omega) | (refine nf ?_; first | assumption | omega) | (simp [*]; done))) | refine skip_then ?_ | refine AW_seq ?_)
    refine step_ops ?_
    refine m_call (toDesk_spec L b h1) (lends_cons (lend_dsk rfl) lends_nil) ?_
    skip
    refine step_ops ?_
    refine m_call (specIsDesk_spec L b h1 h2) (lends_cons (lend_dsk rfl) lends_nil) ?_
    repeat (first | (refine step_ops ?_; (first | (refine m_mov (by conv => lhs; whnf) ?_) | (refine m_ldall rfl rfl ?_ ?_; (· first | rfl | (simp; done) | (simp [*]; done))))) | refine end_ops ?_ | refine seq_ops ?_)
    refine step_ops ?_
    refine m_call (toDesk_spec L b h1) (lends_cons (lend_dsk rfl) lends_nil) ?_
    repeat (first | (refine step_ops ?_; (first | (refine m_alloc ?_) | (refine m_ldall rfl rfl ?_ ?_; (· first | rfl | (simp; done) | (simp [*]; done))) | (refine m_stall rfl rfl rfl ?_ ?_ ?_ ?_; (· first | rfl | (simp [*]; done)); (· first | rfl | (simp [*]; done)); (· first | rfl | (simp [cellOk, Value.oneCell']; done))))) | refine end_ops ?_ | refine seq_ops ?_)
    refine step_ops ?_
    refine m_call (implIsDesk_spec L b h1 h2) (lends_cons (lend_dsk rfl) lends_nil) ?_
    repeat (first | ((first | refine step_ops ?_ | refine step_tree ?_); (first | (refine m_mov (by conv => lhs; whnf) ?_) | (refine m_beq rfl rfl ?_) | (refine m_ldall rfl rfl ?_ ?_; (· first | rfl | (simp; done) | (simp [*]; done))))) | refine end_ops ?_ | refine seq_ops ?_ | refine seq_tree ?_ | (refine cond_f rfl ?_ ?_; (· first | rfl | assumption | (refine decide_eq_false ?_; first | assumption | omega) | (refine nf ?_; first | assumption | omega) | (simp [*]; done))) | refine skip_then ?_ | refine AW_seq ?_)
    refine step_tree ?_
    refine m_call (toDesk_spec L b h1) (lends_cons (lend_dsk rfl) lends_nil) ?_
    skip
    refine step_tree ?_
    refine m_call (eqDesk_spec L L b b h1) (lends_cons (lend_dsk rfl) (lends_cons (lend_dsk rfl) lends_nil)) ?_
    repeat (first | ((first | refine step_ops ?_ | refine step_tree ?_); (first | (refine m_mov (by conv => lhs; whnf) ?_) | (refine m_not rfl ?_))) | refine end_ops ?_ | refine seq_ops ?_ | refine end_tree ?_ | (refine cond_f rfl ?_ ?_; (· first | rfl | assumption | (refine decide_eq_false ?_; first | assumption | omega) | (refine nf ?_; first | assumption | omega) | (simp [*]; done))) | refine skip_then ?_ | refine AW_ret ?_ | refine ret_done ?_)
    exact outs_b rfl
end Go.Proofs.YtojpcpdbnmnknaaDoor
