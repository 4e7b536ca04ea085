/- The abstract machine, contracts: part 4 of what this claim needs. -/
import Derived.Test.YtamgcjdmcmbffaaZs3
set_option linter.unusedSectionVars false
namespace Go.Proofs.Ytamgcjdmcmbffaa
variable [Go.Am.CodeBlk]
open Go.Am
attribute [local irreducible] AW Outs Weak Lends Lend Sp aops atree aop1 Then Round InBlock Done
/-- The chance of the own seat. -/
def chOwn (g l i : Nat) : Nat × Nat := if i < l then low 1 g else low (g - i) (g - i + l)
theorem chanceOwn_spec (g l i : Nat) (hg : g ≤ 30) (hl : l ≤ g) (hi : i < g) : Sp Try.prog 43 [.i g, .i l, .i i] (.agg (fracV (chOwn g l i))) := by
  by_cases h : i < l
  · have hs := partOf_spec 1 g (by omega) (by omega) (by omega)
    have e : chOwn g l i = low 1 g := if_pos h
    rw [e]
    generalize low 1 g = r at hs ⊢
    have hs' : Sp Try.prog 29 [.i 1, .i g] (.agg (fracV r)) := hs
    unfold fracV at hs' ⊢
    refine specC_of Try.func43 rfl cc43 (by rfl) ?_
    unfold ac43
    repeat (first | (refine step_ops ?_; (first | (refine m_mov (by conv => lhs; whnf) ?_) | (refine m_lss rfl rfl ?_) | (refine m_alloc ?_))) | refine end_ops ?_ | refine seq_ops ?_ | (refine cond_t rfl ?_ ?_; (· first | rfl | assumption | (refine decide_eq_true ?_; first | assumption | omega) | (refine nt ?_; first | assumption | omega) | (simp [*]; done))) | refine AW_seq ?_)
    (refine step_ops ?_); (apply m_call (hs')); (· repeat (first | exact lends_nil | (refine lends_cons ?_ ?_; (· exact lend_v))))
    repeat (first | (refine step_ops ?_; (refine m_stall rfl rfl rfl ?_ ?_ ?_ ?_; (· first | rfl | (simp [*]; done)); (· first | rfl | (simp [*]; done)); (· first | rfl | (simp [cellOk, Value.oneCell']; done)))) | refine end_ops ?_ | refine AW_ret ?_ | refine ret_then ?_)
    exact ret_donec rfl rfl rfl (outs_agg rfl)
  · have hs := partOf_spec (g - i) (g - i + l) (by omega) (by omega) (by omega)
    have e : chOwn g l i = low (g - i) (g - i + l) := if_neg h
    rw [e]
    generalize low (g - i) (g - i + l) = r at hs ⊢
    rw [show ((g - i + l : Nat) : Int) = (g : Int) - i + l by omega, show ((g - i : Nat) : Int) = (g : Int) - i by omega] at hs
    unfold fracV at hs ⊢
    refine specC_of Try.func43 rfl cc43 (by rfl) ?_
    unfold ac43
    repeat (first | (refine step_ops ?_; (first | (refine m_mov (by conv => lhs; whnf) ?_) | (refine m_lss rfl rfl ?_) | (refine m_add rfl rfl ?_ ?_ ?_; (· omega); (· omega)) | (refine m_sub rfl rfl ?_ ?_ ?_; (· omega); (· omega)) | (refine m_alloc ?_))) | refine end_ops ?_ | refine seq_ops ?_ | (refine cond_f rfl ?_ ?_; (· first | rfl | assumption | (refine decide_eq_false ?_; first | assumption | omega) | (refine nf ?_; first | assumption | omega) | (simp [*]; done))) | refine skip_then ?_ | refine AW_seq ?_)
    (refine step_ops ?_); (apply m_call (hs)); (· repeat (first | exact lends_nil | (refine lends_cons ?_ ?_; (· exact lend_v))))
    repeat (first | (refine step_ops ?_; (refine m_stall rfl rfl rfl ?_ ?_ ?_ ?_; (· first | rfl | (simp [*]; done)); (· first | rfl | (simp [*]; done)); (· first | rfl | (simp [cellOk, Value.oneCell']; done)))) | refine end_ops ?_ | refine AW_ret ?_)
    exact ret_donec rfl rfl rfl (outs_agg rfl)
/-- Of which guests ChanceOwnSeat tells. -/
def OwnOk (g l i : Int) : Prop := ((1 ≤ g ∧ g ≤ 30) ∧ 0 ≤ l ∧ l ≤ g) ∧ 0 ≤ i ∧ i < g
instance (g l i : Int) : Decidable (OwnOk g l i) := inferInstanceAs (Decidable (_ ∧ _))
def ownCh (g l i : Int) : Nat × Nat := if OwnOk g l i then chOwn g.toNat l.toNat i.toNat else (0, 0)
def ownTup (g l i : Int) : AV := .tup [.i (ownCh g l i).1, .i (ownCh g l i).2, .b (decide (OwnOk g l i))]
theorem specChanceOwnSeat_spec (g l i : Int) : Sp Try.prog 16 [.i g, .i l, .i i] (ownTup g l i) := by
  unfold ownTup
  by_cases h : OwnOk g l i
  · have e : ownCh g l i = _ := if_pos h
    rw [e, decide_eq_true h]
    obtain ⟨⟨⟨h1, h2⟩, h3, h4⟩, h5, h6⟩ := h
    obtain ⟨g, rfl⟩ := Int.eq_ofNat_of_zero_le (show 0 ≤ g by omega)
    obtain ⟨l, rfl⟩ := Int.eq_ofNat_of_zero_le (show 0 ≤ l by omega)
    obtain ⟨i, rfl⟩ := Int.eq_ofNat_of_zero_le (show 0 ≤ i by omega)
    simp only [Int.toNat_natCast]
    by_cases h : i < l
    · have hs := exLowN_spec 1 g (by omega) (by omega) (by omega)
      have e : chOwn g l i = low 1 g := if_pos h
      rw [e]
      generalize low 1 g = r at hs ⊢
      have hs' : Sp Try.prog 39 [.i 1, .i g] (.tup [.i r.1, .i r.2]) := hs
      clear hs e
      refine spec_of Try.func16 rfl cc16 rfl ?_
      unfold ac16
      repeat (first | (refine step_ops ?_; (refine m_mov (by conv => lhs; whnf) ?_)) | refine end_ops ?_ | refine seq_ops ?_ | refine AW_seq ?_)
      (refine step_ops ?_); (apply m_call (seGuests_spec _ _ _)); (· repeat (first | exact lends_nil | (refine lends_cons ?_ ?_; (· exact lend_v))))
      repeat (refine step_ops ?_; ((try (refine g_yes rfl ?_ ?_; (· first | rfl | assumption | (refine decide_eq_true ?_; first | assumption | omega) | (refine nt ?_; first | assumption | omega) | (simp [*]; done) | (refine decide_eq_false ?_; first | assumption | omega) | (refine nf ?_; first | assumption | omega)))); (first | (refine m_mov (by conv => lhs; whnf) ?_) | (refine m_sub rfl rfl ?_ ?_ ?_; (· omega); (· omega)) | (refine m_not rfl ?_))))
      (refine step_ops ?_); (refine g_yes rfl ?_ ?_; (· first | (first | rfl | assumption | (refine decide_eq_true ?_; first | assumption | omega) | (refine nt ?_; first | assumption | omega) | (simp [*]; done)) | (first | rfl | assumption | (refine decide_eq_false ?_; first | assumption | omega) | (refine nf ?_; first | assumption | omega) | (simp [*]; done))); (apply m_call (l1In_spec _ _ _))); (· repeat (first | exact lends_nil | (refine lends_cons ?_ ?_; (· exact lend_v))))
      repeat (first | (refine step_ops ?_; ((try (refine g_yes rfl ?_ ?_; (· first | rfl | assumption | (refine decide_eq_true ?_; first | assumption | omega) | (refine nt ?_; first | assumption | omega) | (simp [*]; done) | (refine decide_eq_false ?_; first | assumption | omega) | (refine nf ?_; first | assumption | omega)))); (first | (refine m_mov (by conv => lhs; whnf) ?_) | (refine m_lss rfl rfl ?_) | (refine m_not rfl ?_) | (refine m_pick_f rfl ?_ (by conv => lhs; whnf) ?_; (· first | rfl | assumption | (refine decide_eq_false ?_; first | assumption | omega) | (refine nf ?_; first | assumption | omega) | (simp [*]; done)))))) | refine end_ops ?_ | refine seq_ops ?_ | (refine cond_t rfl ?_ ?_; (· first | rfl | assumption | (refine decide_eq_true ?_; first | assumption | omega) | (refine nt ?_; first | assumption | omega) | (simp [*]; done))) | (refine cond_f rfl ?_ ?_; (· first | rfl | assumption | (refine decide_eq_false ?_; first | assumption | omega) | (refine nf ?_; first | assumption | omega) | (simp [*]; done))) | refine skip_then ?_ | refine AW_seq ?_)
      (refine step_ops ?_); (apply m_call (hs')); (· repeat (first | exact lends_nil | (refine lends_cons ?_ ?_; (· exact lend_v))))
      repeat (first | (refine step_ops ?_; (first | (refine m_mov (by conv => lhs; whnf) ?_) | (refine m_ext rfl rfl ?_))) | refine end_ops ?_ | refine seq_ops ?_ | refine AW_ret ?_ | refine ret_done ?_ | refine ret_then ?_)
      exact outs_tup3 (outs_i rfl) (outs_i rfl) (outs_b rfl)
    · have hs := exLowN_spec (g - i) (g - i + l) (by omega) (by omega) (by omega)
      have e : chOwn g l i = low (g - i) (g - i + l) := if_neg h
      rw [e]
      generalize low (g - i) (g - i + l) = r at hs ⊢
      rw [show ((g - i + l : Nat) : Int) = (g : Int) - i + l by omega, show ((g - i : Nat) : Int) = (g : Int) - i by omega] at hs
      refine spec_of Try.func16 rfl cc16 rfl ?_
      unfold ac16
      repeat (first | (refine step_ops ?_; (refine m_mov (by conv => lhs; whnf) ?_)) | refine end_ops ?_ | refine seq_ops ?_ | refine AW_seq ?_)
      (refine step_ops ?_); (apply m_call (seGuests_spec _ _ _)); (· repeat (first | exact lends_nil | (refine lends_cons ?_ ?_; (· exact lend_v))))
      repeat (refine step_ops ?_; ((try (refine g_yes rfl ?_ ?_; (· first | rfl | assumption | (refine decide_eq_true ?_; first | assumption | omega) | (refine nt ?_; first | assumption | omega) | (simp [*]; done) | (refine decide_eq_false ?_; first | assumption | omega) | (refine nf ?_; first | assumption | omega)))); (first | (refine m_mov (by conv => lhs; whnf) ?_) | (refine m_sub rfl rfl ?_ ?_ ?_; (· omega); (· omega)) | (refine m_not rfl ?_))))
      (refine step_ops ?_); (refine g_yes rfl ?_ ?_; (· first | (first | rfl | assumption | (refine decide_eq_true ?_; first | assumption | omega) | (refine nt ?_; first | assumption | omega) | (simp [*]; done)) | (first | rfl | assumption | (refine decide_eq_false ?_; first | assumption | omega) | (refine nf ?_; first | assumption | omega) | (simp [*]; done))); (apply m_call (l1In_spec _ _ _))); (· repeat (first | exact lends_nil | (refine lends_cons ?_ ?_; (· exact lend_v))))
      repeat (first | (refine step_ops ?_; ((try (refine g_yes rfl ?_ ?_; (· first | rfl | assumption | (refine decide_eq_true ?_; first | assumption | omega) | (refine nt ?_; first | assumption | omega) | (simp [*]; done) | (refine decide_eq_false ?_; first | assumption | omega) | (refine nf ?_; first | assumption | omega)))); (first | (refine m_mov (by conv => lhs; whnf) ?_) | (refine m_lss rfl rfl ?_) | (refine m_add rfl rfl ?_ ?_ ?_; (· omega); (· omega)) | (refine m_sub rfl rfl ?_ ?_ ?_; (· omega); (· omega)) | (refine m_not rfl ?_) | (refine m_pick_f rfl ?_ (by conv => lhs; whnf) ?_; (· first | rfl | assumption | (refine decide_eq_false ?_; first | assumption | omega) | (refine nf ?_; first | assumption | omega) | (simp [*]; done)))))) | refine end_ops ?_ | refine seq_ops ?_ | (refine cond_f rfl ?_ ?_; (· first | rfl | assumption | (refine decide_eq_false ?_; first | assumption | omega) | (refine nf ?_; first | assumption | omega) | (simp [*]; done))) | refine skip_then ?_ | refine AW_seq ?_)
      (refine step_ops ?_); (apply m_call (hs)); (· repeat (first | exact lends_nil | (refine lends_cons ?_ ?_; (· exact lend_v))))
      repeat (first | (refine step_ops ?_; (first | (refine m_mov (by conv => lhs; whnf) ?_) | (refine m_ext rfl rfl ?_))) | refine end_ops ?_ | refine seq_ops ?_ | refine AW_ret ?_ | refine ret_done ?_)
      exact outs_tup3 (outs_i rfl) (outs_i rfl) (outs_b rfl)
  · have e : ownCh g l i = (0, 0) := if_neg h
    rw [e, decide_eq_false h]
    refine spec_of Try.func16 rfl cc16 rfl ?_
    unfold ac16
    by_cases h1 : (1 ≤ g ∧ g ≤ 30) ∧ 0 ≤ l ∧ l ≤ g
    · have h2 : ¬ (0 ≤ i ∧ i ≤ g - 1) := fun hh => h ⟨h1, by omega, by omega⟩
      repeat (first | (refine step_ops ?_; (refine m_mov (by conv => lhs; whnf) ?_)) | refine end_ops ?_ | refine seq_ops ?_ | refine AW_seq ?_)
      (refine step_ops ?_); (apply m_call (seGuests_spec _ _ _)); (· repeat (first | exact lends_nil | (refine lends_cons ?_ ?_; (· exact lend_v))))
      repeat (refine step_ops ?_; ((try (refine g_yes rfl ?_ ?_; (· first | rfl | assumption | (refine decide_eq_true ?_; first | assumption | omega) | (refine nt ?_; first | assumption | omega) | (simp [*]; done) | (refine decide_eq_false ?_; first | assumption | omega) | (refine nf ?_; first | assumption | omega)))); (first | (refine m_mov (by conv => lhs; whnf) ?_) | (refine m_sub rfl rfl ?_ ?_ ?_; (· omega); (· omega)) | (refine m_not rfl ?_))))
      (refine step_ops ?_); (refine g_yes rfl ?_ ?_; (· first | (first | rfl | assumption | (refine decide_eq_true ?_; first | assumption | omega) | (refine nt ?_; first | assumption | omega) | (simp [*]; done)) | (first | rfl | assumption | (refine decide_eq_false ?_; first | assumption | omega) | (refine nf ?_; first | assumption | omega) | (simp [*]; done))); (apply m_call (l1In_spec _ _ _))); (· repeat (first | exact lends_nil | (refine lends_cons ?_ ?_; (· exact lend_v))))
      repeat (first | (refine step_ops ?_; ((try (refine g_yes rfl ?_ ?_; (· first | rfl | assumption | (refine decide_eq_true ?_; first | assumption | omega) | (refine nt ?_; first | assumption | omega) | (simp [*]; done) | (refine decide_eq_false ?_; first | assumption | omega) | (refine nf ?_; first | assumption | omega)))); (first | (refine m_mov (by conv => lhs; whnf) ?_) | (refine m_not rfl ?_) | (refine m_pick_f rfl ?_ (by conv => lhs; whnf) ?_; (· first | rfl | assumption | (refine decide_eq_false ?_; first | assumption | omega) | (refine nf ?_; first | assumption | omega) | (simp [*]; done)))))) | refine end_ops ?_ | refine seq_ops ?_ | (refine cond_t rfl ?_ ?_; (· first | rfl | assumption | (refine decide_eq_true ?_; first | assumption | omega) | (refine nt ?_; first | assumption | omega) | (simp [*]; done))) | refine AW_ret ?_ | refine ret_done ?_ | refine ret_then ?_)
      exact outs_tup3 (outs_i rfl) (outs_i rfl) (outs_b rfl)
    · repeat (first | (refine step_ops ?_; (refine m_mov (by conv => lhs; whnf) ?_)) | refine end_ops ?_ | refine seq_ops ?_ | refine AW_seq ?_)
      (refine step_ops ?_); (apply m_call (seGuests_spec _ _ _)); (· repeat (first | exact lends_nil | (refine lends_cons ?_ ?_; (· exact lend_v))))
      repeat (first | (refine step_ops ?_; (first | (first | (refine m_mov (by conv => lhs; whnf) ?_) | (refine m_not rfl ?_) | (refine m_pick_t rfl ?_ (by conv => lhs; whnf) ?_; (· first | rfl | assumption | (refine decide_eq_true ?_; first | assumption | omega) | (refine nt ?_; first | assumption | omega) | (simp [*]; done)))) | (refine g_noF rfl ?_ ?_; (· first | rfl | assumption | (refine decide_eq_true ?_; first | assumption | omega) | (refine nt ?_; first | assumption | omega) | (simp [*]; done))))) | refine end_ops ?_ | refine seq_ops ?_ | (refine cond_t rfl ?_ ?_; (· first | rfl | assumption | (refine decide_eq_true ?_; first | assumption | omega) | (refine nt ?_; first | assumption | omega) | (simp [*]; done))) | refine AW_ret ?_ | refine ret_done ?_ | refine ret_then ?_)
      exact outs_tup3 (outs_i rfl) (outs_i rfl) (outs_b rfl)
theorem implChanceOwnSeat_spec (g l i : Int) : Sp Try.prog 15 [.i g, .i l, .i i] (ownTup g l i) := by
  unfold ownTup
  by_cases h : OwnOk g l i
  · have e : ownCh g l i = _ := if_pos h
    rw [e, decide_eq_true h]
    obtain ⟨⟨⟨h1, h2⟩, h3, h4⟩, h5, h6⟩ := h
    obtain ⟨g, rfl⟩ := Int.eq_ofNat_of_zero_le (show 0 ≤ g by omega)
    obtain ⟨l, rfl⟩ := Int.eq_ofNat_of_zero_le (show 0 ≤ l by omega)
    obtain ⟨i, rfl⟩ := Int.eq_ofNat_of_zero_le (show 0 ≤ i by omega)
    simp only [Int.toNat_natCast]
    have hs := chanceOwn_spec g l i (by omega) (by omega) (by omega)
    generalize chOwn g l i = r at hs ⊢
    have ht := told_spec r
    unfold fracV at hs ht
    refine spec_of Try.func15 rfl cc15 rfl ?_
    unfold ac15
    repeat (first | (refine step_ops ?_; ((try (refine g_yes rfl ?_ ?_; (· first | rfl | assumption | (refine decide_eq_true ?_; first | assumption | omega) | (refine nt ?_; first | assumption | omega) | (simp [*]; done) | (refine decide_eq_false ?_; first | assumption | omega) | (refine nf ?_; first | assumption | omega)))); (first | (refine m_mov (by conv => lhs; whnf) ?_) | (refine m_gtr rfl rfl ?_)))) | refine end_ops ?_ | refine seq_ops ?_ | refine AW_seq ?_)
    (refine step_ops ?_); (refine g_yes rfl ?_ ?_; (· first | (first | rfl | assumption | (refine decide_eq_true ?_; first | assumption | omega) | (refine nt ?_; first | assumption | omega) | (simp [*]; done)) | (first | rfl | assumption | (refine decide_eq_false ?_; first | assumption | omega) | (refine nf ?_; first | assumption | omega) | (simp [*]; done))); (apply m_call (canLose_spec _ _))); (· repeat (first | exact lends_nil | (refine lends_cons ?_ ?_; (· exact lend_v))))
    repeat (refine step_ops ?_; ((try (refine g_yes rfl ?_ ?_; (· first | rfl | assumption | (refine decide_eq_true ?_; first | assumption | omega) | (refine nt ?_; first | assumption | omega) | (simp [*]; done) | (refine decide_eq_false ?_; first | assumption | omega) | (refine nf ?_; first | assumption | omega)))); (first | (refine m_mov (by conv => lhs; whnf) ?_) | (refine m_not rfl ?_) | (refine m_pick_f rfl ?_ (by conv => lhs; whnf) ?_; (· first | rfl | assumption | (refine decide_eq_false ?_; first | assumption | omega) | (refine nf ?_; first | assumption | omega) | (simp [*]; done))))))
    (refine step_ops ?_); (refine g_yes rfl ?_ ?_; (· first | (first | rfl | assumption | (refine decide_eq_true ?_; first | assumption | omega) | (refine nt ?_; first | assumption | omega) | (simp [*]; done)) | (first | rfl | assumption | (refine decide_eq_false ?_; first | assumption | omega) | (refine nf ?_; first | assumption | omega) | (simp [*]; done))); (apply m_call (isGuest_spec _ _))); (· repeat (first | exact lends_nil | (refine lends_cons ?_ ?_; (· exact lend_v))))
    repeat (first | (refine step_ops ?_; ((try (refine g_yes rfl ?_ ?_; (· first | rfl | assumption | (refine decide_eq_true ?_; first | assumption | omega) | (refine nt ?_; first | assumption | omega) | (simp [*]; done) | (refine decide_eq_false ?_; first | assumption | omega) | (refine nf ?_; first | assumption | omega)))); (first | (refine m_mov (by conv => lhs; whnf) ?_) | (refine m_not rfl ?_) | (refine m_pick_f rfl ?_ (by conv => lhs; whnf) ?_; (· first | rfl | assumption | (refine decide_eq_false ?_; first | assumption | omega) | (refine nf ?_; first | assumption | omega) | (simp [*]; done)))))) | refine end_ops ?_ | refine seq_ops ?_ | (refine cond_f rfl ?_ ?_; (· first | rfl | assumption | (refine decide_eq_false ?_; first | assumption | omega) | (refine nf ?_; first | assumption | omega) | (simp [*]; done))) | refine skip_then ?_)
    (refine step_ops ?_); (apply m_call (hs)); (· repeat (first | exact lends_nil | (refine lends_cons ?_ ?_; (· exact lend_v))))
    skip
    (refine step_ops ?_); (apply m_call (ht)); (· repeat (first | exact lends_nil | (refine lends_cons ?_ ?_; (· (refine lend_agg ?_; first | rfl | assumption | (simp [plainV]; done))))))
    repeat (first | (refine step_ops ?_; (first | (refine m_mov (by conv => lhs; whnf) ?_) | (refine m_ext rfl rfl ?_))) | refine end_ops ?_ | refine AW_ret ?_ | refine ret_done ?_)
    exact outs_tup3 (outs_i rfl) (outs_i rfl) (outs_b rfl)
  · have e : ownCh g l i = (0, 0) := if_neg h
    rw [e, decide_eq_false h]
    refine spec_of Try.func15 rfl cc15 rfl ?_
    unfold ac15
    by_cases h0 : 30 < g
    · repeat (first | (refine step_ops ?_; (first | (first | (refine m_mov (by conv => lhs; whnf) ?_) | (refine m_gtr rfl rfl ?_) | (refine m_pick_t rfl ?_ (by conv => lhs; whnf) ?_; (· first | rfl | assumption | (refine decide_eq_true ?_; first | assumption | omega) | (refine nt ?_; first | assumption | omega) | (simp [*]; done)))) | (refine g_noF rfl ?_ ?_; (· first | rfl | assumption | (refine decide_eq_true ?_; first | assumption | omega) | (refine nt ?_; first | assumption | omega) | (simp [*]; done))))) | refine end_ops ?_ | refine seq_ops ?_ | (refine cond_t rfl ?_ ?_; (· first | rfl | assumption | (refine decide_eq_true ?_; first | assumption | omega) | (refine nt ?_; first | assumption | omega) | (simp [*]; done))) | refine AW_seq ?_ | refine AW_ret ?_ | refine ret_done ?_ | refine ret_then ?_)
      exact outs_tup3 (outs_i rfl) (outs_i rfl) (outs_b rfl)
    by_cases h1 : 0 ≤ l ∧ l ≤ g
    · have h2 : ¬ (0 ≤ i ∧ i < g) := fun hh => h ⟨⟨by omega, h1⟩, hh⟩
      repeat (first | (refine step_ops ?_; ((try (refine g_yes rfl ?_ ?_; (· first | rfl | assumption | (refine decide_eq_true ?_; first | assumption | omega) | (refine nt ?_; first | assumption | omega) | (simp [*]; done) | (refine decide_eq_false ?_; first | assumption | omega) | (refine nf ?_; first | assumption | omega)))); (first | (refine m_mov (by conv => lhs; whnf) ?_) | (refine m_gtr rfl rfl ?_)))) | refine end_ops ?_ | refine seq_ops ?_ | refine AW_seq ?_)
      (refine step_ops ?_); (refine g_yes rfl ?_ ?_; (· first | (first | rfl | assumption | (refine decide_eq_true ?_; first | assumption | omega) | (refine nt ?_; first | assumption | omega) | (simp [*]; done)) | (first | rfl | assumption | (refine decide_eq_false ?_; first | assumption | omega) | (refine nf ?_; first | assumption | omega) | (simp [*]; done))); (apply m_call (canLose_spec _ _))); (· repeat (first | exact lends_nil | (refine lends_cons ?_ ?_; (· exact lend_v))))
      repeat (refine step_ops ?_; ((try (refine g_yes rfl ?_ ?_; (· first | rfl | assumption | (refine decide_eq_true ?_; first | assumption | omega) | (refine nt ?_; first | assumption | omega) | (simp [*]; done) | (refine decide_eq_false ?_; first | assumption | omega) | (refine nf ?_; first | assumption | omega)))); (first | (refine m_mov (by conv => lhs; whnf) ?_) | (refine m_not rfl ?_) | (refine m_pick_f rfl ?_ (by conv => lhs; whnf) ?_; (· first | rfl | assumption | (refine decide_eq_false ?_; first | assumption | omega) | (refine nf ?_; first | assumption | omega) | (simp [*]; done))))))
      (refine step_ops ?_); (refine g_yes rfl ?_ ?_; (· first | (first | rfl | assumption | (refine decide_eq_true ?_; first | assumption | omega) | (refine nt ?_; first | assumption | omega) | (simp [*]; done)) | (first | rfl | assumption | (refine decide_eq_false ?_; first | assumption | omega) | (refine nf ?_; first | assumption | omega) | (simp [*]; done))); (apply m_call (isGuest_spec _ _))); (· repeat (first | exact lends_nil | (refine lends_cons ?_ ?_; (· exact lend_v))))
      repeat (first | (refine step_ops ?_; ((try (refine g_yes rfl ?_ ?_; (· first | rfl | assumption | (refine decide_eq_true ?_; first | assumption | omega) | (refine nt ?_; first | assumption | omega) | (simp [*]; done) | (refine decide_eq_false ?_; first | assumption | omega) | (refine nf ?_; first | assumption | omega)))); (first | (refine m_mov (by conv => lhs; whnf) ?_) | (refine m_not rfl ?_) | (refine m_pick_f rfl ?_ (by conv => lhs; whnf) ?_; (· first | rfl | assumption | (refine decide_eq_false ?_; first | assumption | omega) | (refine nf ?_; first | assumption | omega) | (simp [*]; done)))))) | refine end_ops ?_ | refine seq_ops ?_ | (refine cond_t rfl ?_ ?_; (· first | rfl | assumption | (refine decide_eq_true ?_; first | assumption | omega) | (refine nt ?_; first | assumption | omega) | (simp [*]; done))) | refine AW_ret ?_ | refine ret_done ?_ | refine ret_then ?_)
      exact outs_tup3 (outs_i rfl) (outs_i rfl) (outs_b rfl)
    · repeat (first | (refine step_ops ?_; ((try (refine g_yes rfl ?_ ?_; (· first | rfl | assumption | (refine decide_eq_true ?_; first | assumption | omega) | (refine nt ?_; first | assumption | omega) | (simp [*]; done) | (refine decide_eq_false ?_; first | assumption | omega) | (refine nf ?_; first | assumption | omega)))); (first | (refine m_mov (by conv => lhs; whnf) ?_) | (refine m_gtr rfl rfl ?_)))) | refine end_ops ?_ | refine seq_ops ?_ | refine AW_seq ?_)
      (refine step_ops ?_); (refine g_yes rfl ?_ ?_; (· first | (first | rfl | assumption | (refine decide_eq_true ?_; first | assumption | omega) | (refine nt ?_; first | assumption | omega) | (simp [*]; done)) | (first | rfl | assumption | (refine decide_eq_false ?_; first | assumption | omega) | (refine nf ?_; first | assumption | omega) | (simp [*]; done))); (apply m_call (canLose_spec _ _))); (· repeat (first | exact lends_nil | (refine lends_cons ?_ ?_; (· exact lend_v))))
      repeat (first | (refine step_ops ?_; (first | ((try (refine g_yes rfl ?_ ?_; (· first | rfl | assumption | (refine decide_eq_true ?_; first | assumption | omega) | (refine nt ?_; first | assumption | omega) | (simp [*]; done) | (refine decide_eq_false ?_; first | assumption | omega) | (refine nf ?_; first | assumption | omega)))); (first | (refine m_mov (by conv => lhs; whnf) ?_) | (refine m_not rfl ?_) | (refine m_pick_t rfl ?_ (by conv => lhs; whnf) ?_; (· first | rfl | assumption | (refine decide_eq_true ?_; first | assumption | omega) | (refine nt ?_; first | assumption | omega) | (simp [*]; done))) | (refine m_pick_f rfl ?_ (by conv => lhs; whnf) ?_; (· first | rfl | assumption | (refine decide_eq_false ?_; first | assumption | omega) | (refine nf ?_; first | assumption | omega) | (simp [*]; done))))) | (refine g_noF rfl ?_ ?_; (· first | rfl | assumption | (refine decide_eq_true ?_; first | assumption | omega) | (refine nt ?_; first | assumption | omega) | (simp [*]; done))))) | refine end_ops ?_ | refine seq_ops ?_ | (refine cond_t rfl ?_ ?_; (· first | rfl | assumption | (refine decide_eq_true ?_; first | assumption | omega) | (refine nt ?_; first | assumption | omega) | (simp [*]; done))) | refine AW_ret ?_ | refine ret_done ?_ | refine ret_then ?_)
      exact outs_tup3 (outs_i rfl) (outs_i rfl) (outs_b rfl)
/-- The mean over the first k guests. -/
def meanOf (g l : Nat) : Nat → Nat × Nat
  | 0 => (0, 1)
  | k + 1 => addF (meanOf g l k) (chOwn g l k)
theorem meanOf_le : ∀ g < 13, ∀ l < g + 1, ∀ k < g + 1, (meanOf g l k).1 ≤ 1000000000 ∧ (meanOf g l k).2 ≤ 1000000000 ∧ 1 ≤ (meanOf g l k).2 := by decide +kernel
theorem chOwn_le : ∀ g < 13, ∀ l < g + 1, ∀ k < g, (chOwn g l k).1 ≤ 100000000 ∧ (chOwn g l k).2 ≤ 100000000 ∧ 1 ≤ (chOwn g l k).2 := by decide +kernel
def SeOk (m g l : Int) : Prop := (1 ≤ g ∧ g ≤ m) ∧ 0 ≤ l ∧ l ≤ g
instance (m g l : Int) : Decidable (SeOk m g l) := inferInstanceAs (Decidable (_ ∧ _))
def meanR (g l : Int) : Nat × Nat := if SeOk 12 g l then meanOf g.toNat l.toNat g.toNat else (0, 0)
def meanTup (g l : Int) : AV := .tup [.i (meanR g l).1, .i (meanR g l).2, .b (decide (SeOk 12 g l))]
theorem implMeanOwnSeats_spec (g l : Int) : Sp Try.prog 13 [.i g, .i l] (meanTup g l) := by
  unfold meanTup
  by_cases h : SeOk 12 g l
  · have e : meanR g l = _ := if_pos h
    rw [e, decide_eq_true h]
    obtain ⟨⟨h1, h2⟩, h3, h4⟩ := h
    obtain ⟨g, rfl⟩ := Int.eq_ofNat_of_zero_le (show 0 ≤ g by omega)
    obtain ⟨l, rfl⟩ := Int.eq_ofNat_of_zero_le (show 0 ≤ l by omega)
    simp only [Int.toNat_natCast]
    have hp0 : Sp Try.prog 29 [.i 0, .i 1] (.agg [.i 0, .i 1]) := partOf_spec 0 1 (by omega) (by omega) (by omega)
    refine spec_of Try.func13 rfl cc13 rfl ?_
    unfold ac13
    repeat (first | (refine step_ops ?_; (refine m_mov (by conv => lhs; whnf) ?_)) | refine end_ops ?_ | refine seq_ops ?_ | refine AW_seq ?_)
    refine step_ops ?_; (apply m_call (isGuestCount_spec _)); (· repeat (first | exact lends_nil | (refine lends_cons ?_ ?_; (· exact lend_v))))
    repeat (refine step_ops ?_; ((try (refine g_yes rfl ?_ ?_; (· first | rfl | assumption | (refine decide_eq_true ?_; first | assumption | omega) | (refine nt ?_; first | assumption | omega) | (simp [*]; done) | (refine decide_eq_false ?_; first | assumption | omega) | (refine nf ?_; first | assumption | omega)))); (first | (refine m_mov (by conv => lhs; whnf) ?_) | (refine m_not rfl ?_))))
    refine step_ops ?_; (refine g_yes rfl ?_ ?_; (· first | (first | rfl | assumption | (refine decide_eq_true ?_; first | assumption | omega) | (refine nt ?_; first | assumption | omega) | (simp [*]; done)) | (first | rfl | assumption | (refine decide_eq_false ?_; first | assumption | omega) | (refine nf ?_; first | assumption | omega) | (simp [*]; done))); (apply m_call (canLose_spec _ _))); (· repeat (first | exact lends_nil | (refine lends_cons ?_ ?_; (· exact lend_v))))
    repeat (first | (refine step_ops ?_; ((try (refine g_yes rfl ?_ ?_; (· first | rfl | assumption | (refine decide_eq_true ?_; first | assumption | omega) | (refine nt ?_; first | assumption | omega) | (simp [*]; done) | (refine decide_eq_false ?_; first | assumption | omega) | (refine nf ?_; first | assumption | omega)))); (first | (refine m_not rfl ?_) | (refine m_pick_f rfl ?_ (by conv => lhs; whnf) ?_; (· first | rfl | assumption | (refine decide_eq_false ?_; first | assumption | omega) | (refine nf ?_; first | assumption | omega) | (simp [*]; done)))))) | refine end_ops ?_ | refine seq_ops ?_ | (refine cond_f rfl ?_ ?_; (· first | rfl | assumption | (refine decide_eq_false ?_; first | assumption | omega) | (refine nf ?_; first | assumption | omega) | (simp [*]; done))) | refine skip_then ?_)
    refine step_ops ?_; (apply m_call (hp0)); (· repeat (first | exact lends_nil | (refine lends_cons ?_ ?_; (· exact lend_v))))
    repeat (first | (refine step_ops ?_; (first | (refine m_mov (by conv => lhs; whnf) ?_) | (refine m_alloc ?_) | (refine m_stall rfl rfl rfl ?_ ?_ ?_ ?_; (· first | rfl | (simp [*]; done)); (· first | rfl | (simp [*]; done)); (· first | rfl | (simp [cellOk, Value.oneCell']; done))))) | refine end_ops ?_ | refine seq_ops ?_ | refine AW_seq ?_ | refine AW_block ?_)
    refine AW_loop (α := Nat) (fun k => k ≤ g) (fun k => st [(0, .i g), (1, .i l), (7, .pt 7 0), (19, .i g), (20, .i k)] [(7, (true, fracV (meanOf g l k)))]) (fun k => g - k) 0 (by omega) (weak_st ?_ ?_ rfl rfl) ?_
    · (repeat' (first | exact trivial | refine And.intro ?_ ?_)) <;> (first | rfl | skip)
    · exact ⟨rfl, trivial⟩
    intro k hk
    have hb := meanOf_le g (by omega) l (by omega) k (by omega)
    by_cases hc : k < g
    · have hb2 := chOwn_le g (by omega) l (by omega) k (by omega)
      have hs := chanceOwn_spec g l k (by omega) (by omega) hc
      have ha := plus_spec (meanOf g l k) (chOwn g l k) hb.1 hb.2.1 hb2.1 hb2.2.1 hb.2.2 hb2.2.2
      have e2 : meanOf g l (k + 1) = addF (meanOf g l k) (chOwn g l k) := rfl
      rw [← e2] at ha
      unfold fracV at hs ha ⊢
      repeat (first | ((first | refine step_ops ?_ | refine step_tree ?_); (first | (refine m_mov (by conv => lhs; whnf) ?_) | (refine m_lss rfl rfl ?_) | (refine m_ldall rfl rfl ?_ ?_; (· first | rfl | (simp; done) | (simp [*]; done))))) | refine end_ops ?_ | refine seq_ops ?_ | refine AW_tree ?_ | (refine cond_t rfl ?_ ?_; (· first | rfl | assumption | (refine decide_eq_true ?_; first | assumption | omega) | (refine nt ?_; first | assumption | omega) | (simp [*]; done))) | refine skip_then ?_ | refine AW_seq ?_ | refine AW_block ?_)
      refine step_tree ?_; (apply m_call (hs)); (· repeat (first | exact lends_nil | (refine lends_cons ?_ ?_; (· exact lend_v))))
      skip
      refine step_tree ?_; (apply m_call (ha)); (· repeat (first | exact lends_nil | (refine lends_cons ?_ ?_; (· (refine lend_agg ?_; first | rfl | assumption | (simp [plainV]; done))))))
      repeat (first | ((first | refine step_ops ?_ | refine step_tree ?_); (first | (refine m_mov (by conv => lhs; whnf) ?_) | (refine m_add rfl rfl ?_ ?_ ?_; (· omega); (· omega)) | (refine m_stall rfl rfl rfl ?_ ?_ ?_ ?_; (· first | rfl | (simp [*]; done)); (· first | rfl | (simp [*]; done)); (· first | rfl | (simp [cellOk, Value.oneCell']; done))))) | refine end_ops ?_ | refine AW_ops ?_ | refine end_tree ?_ | refine norm_then ?_ | refine norm_block ?_)
      refine next_round (k + 1) (by omega) (weak_st ?_ ?_ rfl rfl) ?_
      · (repeat' (first | exact trivial | refine And.intro ?_ ?_)) <;> (first | rfl | skip)
      · exact ⟨rfl, trivial⟩
      · omega
    · obtain rfl : k = g := by omega
      have ht := told_spec (meanOf k l k)
      unfold fracV at ht ⊢
      repeat (first | (refine step_ops ?_; (first | (refine m_lss rfl rfl ?_) | (refine m_ldall rfl rfl ?_ ?_; (· first | rfl | (simp; done) | (simp [*]; done))))) | refine end_ops ?_ | refine seq_ops ?_ | (refine cond_f rfl ?_ ?_; (· first | rfl | assumption | (refine decide_eq_false ?_; first | assumption | omega) | (refine nf ?_; first | assumption | omega) | (simp [*]; done))) | refine AW_seq ?_ | refine norm_then ?_ | refine exit_then ?_ | refine exit_round ?_ | refine AW_exit ?_ | refine exit_block ?_)
      refine step_ops ?_; (apply m_call (ht)); (· repeat (first | exact lends_nil | (refine lends_cons ?_ ?_; (· (refine lend_agg ?_; first | rfl | assumption | (simp [plainV]; done))))))
      repeat (first | (refine step_ops ?_; (first | (refine m_mov (by conv => lhs; whnf) ?_) | (refine m_ext rfl rfl ?_))) | refine end_ops ?_ | refine AW_ret ?_ | refine ret_done ?_)
      exact outs_tup3 (outs_i rfl) (outs_i rfl) (outs_b rfl)
  · have e : meanR g l = (0, 0) := if_neg h
    rw [e, decide_eq_false h]
    refine spec_of Try.func13 rfl cc13 rfl ?_
    unfold ac13
    by_cases h1 : 1 ≤ g ∧ g ≤ 12
    · have h2 : ¬ (0 ≤ l ∧ l ≤ g) := fun hh => h ⟨h1, hh⟩
      repeat (first | (refine step_ops ?_; (refine m_mov (by conv => lhs; whnf) ?_)) | refine end_ops ?_ | refine seq_ops ?_ | refine AW_seq ?_)
      refine step_ops ?_; (apply m_call (isGuestCount_spec _)); (· repeat (first | exact lends_nil | (refine lends_cons ?_ ?_; (· exact lend_v))))
      repeat (refine step_ops ?_; ((try (refine g_yes rfl ?_ ?_; (· first | rfl | assumption | (refine decide_eq_true ?_; first | assumption | omega) | (refine nt ?_; first | assumption | omega) | (simp [*]; done) | (refine decide_eq_false ?_; first | assumption | omega) | (refine nf ?_; first | assumption | omega)))); (first | (refine m_mov (by conv => lhs; whnf) ?_) | (refine m_not rfl ?_))))
      refine step_ops ?_; (refine g_yes rfl ?_ ?_; (· first | (first | rfl | assumption | (refine decide_eq_true ?_; first | assumption | omega) | (refine nt ?_; first | assumption | omega) | (simp [*]; done)) | (first | rfl | assumption | (refine decide_eq_false ?_; first | assumption | omega) | (refine nf ?_; first | assumption | omega) | (simp [*]; done))); (apply m_call (canLose_spec _ _))); (· repeat (first | exact lends_nil | (refine lends_cons ?_ ?_; (· exact lend_v))))
      repeat (first | (refine step_ops ?_; ((try (refine g_yes rfl ?_ ?_; (· first | rfl | assumption | (refine decide_eq_true ?_; first | assumption | omega) | (refine nt ?_; first | assumption | omega) | (simp [*]; done) | (refine decide_eq_false ?_; first | assumption | omega) | (refine nf ?_; first | assumption | omega)))); (first | (refine m_mov (by conv => lhs; whnf) ?_) | (refine m_not rfl ?_) | (refine m_pick_f rfl ?_ (by conv => lhs; whnf) ?_; (· first | rfl | assumption | (refine decide_eq_false ?_; first | assumption | omega) | (refine nf ?_; first | assumption | omega) | (simp [*]; done)))))) | refine end_ops ?_ | refine seq_ops ?_ | (refine cond_t rfl ?_ ?_; (· first | rfl | assumption | (refine decide_eq_true ?_; first | assumption | omega) | (refine nt ?_; first | assumption | omega) | (simp [*]; done))) | refine AW_ret ?_ | refine ret_done ?_ | refine ret_then ?_)
      exact outs_tup3 (outs_i rfl) (outs_i rfl) (outs_b rfl)
    · repeat (first | (refine step_ops ?_; (refine m_mov (by conv => lhs; whnf) ?_)) | refine end_ops ?_ | refine seq_ops ?_ | refine AW_seq ?_)
      refine step_ops ?_; (apply m_call (isGuestCount_spec _)); (· repeat (first | exact lends_nil | (refine lends_cons ?_ ?_; (· exact lend_v))))
      repeat (first | (refine step_ops ?_; (first | (first | (refine m_mov (by conv => lhs; whnf) ?_) | (refine m_not rfl ?_) | (refine m_pick_t rfl ?_ (by conv => lhs; whnf) ?_; (· first | rfl | assumption | (refine decide_eq_true ?_; first | assumption | omega) | (refine nt ?_; first | assumption | omega) | (simp [*]; done)))) | (refine g_noF rfl ?_ ?_; (· first | rfl | assumption | (refine decide_eq_true ?_; first | assumption | omega) | (refine nt ?_; first | assumption | omega) | (simp [*]; done))))) | refine end_ops ?_ | refine seq_ops ?_ | (refine cond_t rfl ?_ ?_; (· first | rfl | assumption | (refine decide_eq_true ?_; first | assumption | omega) | (refine nt ?_; first | assumption | omega) | (simp [*]; done))) | refine AW_ret ?_ | refine ret_done ?_ | refine ret_then ?_)
      exact outs_tup3 (outs_i rfl) (outs_i rfl) (outs_b rfl)
theorem specMeanOwnSeats_spec (g l : Int) : Sp Try.prog 19 [.i g, .i l] (meanTup g l) := by
  unfold meanTup
  by_cases h : SeOk 12 g l
  · have e : meanR g l = _ := if_pos h
    rw [e, decide_eq_true h]
    obtain ⟨⟨h1, h2⟩, h3, h4⟩ := h
    obtain ⟨g, rfl⟩ := Int.eq_ofNat_of_zero_le (show 0 ≤ g by omega)
    obtain ⟨l, rfl⟩ := Int.eq_ofNat_of_zero_le (show 0 ≤ l by omega)
    simp only [Int.toNat_natCast]
    refine spec_of Try.func19 rfl cc19 rfl ?_
    unfold ac19
    repeat (first | (refine step_ops ?_; (refine m_mov (by conv => lhs; whnf) ?_)) | refine end_ops ?_ | refine seq_ops ?_ | refine AW_seq ?_)
    (refine step_ops ?_); (apply m_call (seGuests_spec _ _ _)); (· repeat (first | exact lends_nil | (refine lends_cons ?_ ?_; (· exact lend_v))))
    repeat (first | (refine step_ops ?_; (first | (refine m_mov (by conv => lhs; whnf) ?_) | (refine m_not rfl ?_))) | refine end_ops ?_ | refine seq_ops ?_ | (refine cond_f rfl ?_ ?_; (· first | rfl | assumption | (refine decide_eq_false ?_; first | assumption | omega) | (refine nf ?_; first | assumption | omega) | (simp [*]; done))) | refine skip_then ?_ | refine AW_seq ?_ | refine AW_block ?_)
    refine AW_loop (α := Nat) (fun k => k ≤ g) (fun k => st [(0, .i g), (1, .i l), (7, .i (meanOf g l k).1), (8, .i (meanOf g l k).2), (9, .i k)] []) (fun k => g - k) 0 (by omega) (weak_st ?_ ?_ rfl rfl) ?_
    · (repeat' (first | exact trivial | refine And.intro ?_ ?_)) <;> (first | rfl | skip)
    · trivial
    intro k hk
    have hb := meanOf_le g (by omega) l (by omega) k (by omega)
    by_cases hc : k < g
    · have hb2 := chOwn_le g (by omega) l (by omega) k (by omega)
      have hs := specChanceOwnSeat_spec g l k
      have ho : OwnOk (g : Int) (l : Int) (k : Int) := ⟨⟨by omega, by omega⟩, by omega, by omega⟩
      have e1 : ownCh (g : Int) (l : Int) (k : Int) = chOwn g l k := by unfold ownCh; rw [if_pos ho]; rfl
      unfold ownTup at hs
      rw [e1, decide_eq_true ho] at hs
      have e2 : meanOf g l (k + 1) = addF (meanOf g l k) (chOwn g l k) := rfl
      unfold addF at e2
      generalize meanOf g l k = p at hb e2 ⊢
      generalize chOwn g l k = q at hb2 e2 hs
      have m1 : p.1 * q.2 ≤ 1000000000 * 100000000 := Nat.mul_le_mul hb.1 hb2.2.1
      have m2 : q.1 * p.2 ≤ 100000000 * 1000000000 := Nat.mul_le_mul hb2.1 hb.2.1
      have m3 : p.2 * q.2 ≤ 1000000000 * 100000000 := Nat.mul_le_mul hb.2.1 hb2.2.1
      have m4 : 1 * 1 ≤ p.2 * q.2 := Nat.mul_le_mul hb.2.2 hb2.2.2
      have c1 : (p.1 : Int) * (q.2 : Int) = ((p.1 * q.2 : Nat) : Int) := by simp
      have c2 : (q.1 : Int) * (p.2 : Int) = ((q.1 * p.2 : Nat) : Int) := by simp
      have c3 : (p.2 : Int) * (q.2 : Int) = ((p.2 * q.2 : Nat) : Int) := by simp
      have hlw := exLowN_spec (p.1 * q.2 + q.1 * p.2) (p.2 * q.2) (by omega) (by omega) (by omega)
      rw [← e2] at hlw
      generalize hr : meanOf g l (k + 1) = r at hlw
      rw [show ((p.1 * q.2 + q.1 * p.2 : Nat) : Int) = (p.1 : Int) * (q.2 : Int) + (q.1 : Int) * (p.2 : Int) by omega, ← c3] at hlw
      clear e2
      repeat (first | (refine step_ops ?_; (first | (refine m_mov (by conv => lhs; whnf) ?_) | (refine m_lss rfl rfl ?_))) | refine end_ops ?_ | refine seq_ops ?_ | (refine cond_t rfl ?_ ?_; (· first | rfl | assumption | (refine decide_eq_true ?_; first | assumption | omega) | (refine nt ?_; first | assumption | omega) | (simp [*]; done))) | refine skip_then ?_ | refine AW_seq ?_ | refine AW_block ?_)
      (refine step_ops ?_); (apply m_call (hs)); (· repeat (first | exact lends_nil | (refine lends_cons ?_ ?_; (· exact lend_v))))
      repeat (first | (refine step_ops ?_; (first | (refine m_mov (by conv => lhs; whnf) ?_) | (refine m_add rfl rfl ?_ ?_ ?_; (· omega); (· omega)) | (refine m_mul rfl rfl ?_ ?_ ?_; (· first | omega | (simp; done)); (· first | omega | (simp; done))) | (refine m_ext rfl rfl ?_))) | refine end_ops ?_ | refine AW_ops ?_)
      (refine step_ops ?_); (apply m_call (hlw)); (· repeat (first | exact lends_nil | (refine lends_cons ?_ ?_; (· exact lend_v))))
      repeat (first | (refine step_ops ?_; (first | (refine m_mov (by conv => lhs; whnf) ?_) | (refine m_add rfl rfl ?_ ?_ ?_; (· omega); (· omega)) | (refine m_ext rfl rfl ?_))) | refine end_ops ?_ | refine AW_ops ?_ | refine norm_then ?_ | refine norm_block ?_)
      refine next_round (k + 1) (by omega) (weak_st ?_ ?_ rfl rfl) ?_
      · rw [hr]
        (repeat' (first | exact trivial | refine And.intro ?_ ?_)) <;> (first | rfl | skip)
      · trivial
      · omega
    · obtain rfl : k = g := by omega
      repeat (first | (refine step_ops ?_; (first | (refine m_mov (by conv => lhs; whnf) ?_) | (refine m_lss rfl rfl ?_))) | refine end_ops ?_ | refine seq_ops ?_ | (refine cond_f rfl ?_ ?_; (· first | rfl | assumption | (refine decide_eq_false ?_; first | assumption | omega) | (refine nf ?_; first | assumption | omega) | (simp [*]; done))) | refine AW_seq ?_ | refine AW_ret ?_ | refine ret_done ?_ | refine norm_then ?_ | refine exit_then ?_ | refine exit_round ?_ | refine AW_exit ?_ | refine exit_block ?_)
      exact outs_tup3 (outs_i rfl) (outs_i rfl) (outs_b rfl)
  · have e : meanR g l = (0, 0) := if_neg h
    have h' : ¬ ((1 ≤ g ∧ g ≤ 12) ∧ 0 ≤ l ∧ l ≤ g) := h
    rw [e, decide_eq_false h]
    refine spec_of Try.func19 rfl cc19 rfl ?_
    unfold ac19
    repeat (first | (refine step_ops ?_; (refine m_mov (by conv => lhs; whnf) ?_)) | refine end_ops ?_ | refine seq_ops ?_ | refine AW_seq ?_)
    (refine step_ops ?_); (apply m_call (seGuests_spec _ _ _)); (· repeat (first | exact lends_nil | (refine lends_cons ?_ ?_; (· exact lend_v))))
    repeat (first | (refine step_ops ?_; (first | (refine m_mov (by conv => lhs; whnf) ?_) | (refine m_not rfl ?_))) | refine end_ops ?_ | refine seq_ops ?_ | (refine cond_t rfl ?_ ?_; (· first | rfl | assumption | (refine decide_eq_true ?_; first | assumption | omega) | (refine nt ?_; first | assumption | omega) | (simp [*]; done))) | refine AW_ret ?_ | refine ret_done ?_ | refine ret_then ?_)
    exact outs_tup3 (outs_i rfl) (outs_i rfl) (outs_b rfl)
/-- How many seatings, behind k more guests than lost tickets. -/
def cntS (l : Nat) : Nat → Int
  | 0 => fac l
  | k + 1 => cntS l k * ((l : Int) + 1)
theorem cntS_le : ∀ l < 13, ∀ k < 13 - l, 0 ≤ cntS l k ∧ cntS l k ≤ 1000000000 := by decide +kernel
def cntR (g l : Int) : Int := if SeOk 12 g l then cntS l.toNat (g.toNat - l.toNat) else 0
def cntTup (g l : Int) : AV := .tup [.i (cntR g l), .b (decide (SeOk 12 g l))]
theorem implCountSeatings_spec (g l : Int) : Sp Try.prog 12 [.i g, .i l] (cntTup g l) := by
  unfold cntTup
  by_cases h : SeOk 12 g l
  · have e : cntR g l = _ := if_pos h
    rw [e, decide_eq_true h]
    obtain ⟨⟨h1, h2⟩, h3, h4⟩ := h
    obtain ⟨g, rfl⟩ := Int.eq_ofNat_of_zero_le (show 0 ≤ g by omega)
    obtain ⟨l, rfl⟩ := Int.eq_ofNat_of_zero_le (show 0 ≤ l by omega)
    simp only [Int.toNat_natCast]
    refine spec_of Try.func12 rfl cc12 rfl ?_
    unfold ac12
    repeat (first | (refine step_ops ?_; (refine m_mov (by conv => lhs; whnf) ?_)) | refine end_ops ?_ | refine seq_ops ?_ | refine AW_seq ?_)
    (refine step_ops ?_); (apply m_call (isGuestCount_spec _)); (· repeat (first | exact lends_nil | (refine lends_cons ?_ ?_; (· exact lend_v))))
    repeat (refine step_ops ?_; ((try (refine g_yes rfl ?_ ?_; (· first | rfl | assumption | (refine decide_eq_true ?_; first | assumption | omega) | (refine nt ?_; first | assumption | omega) | (simp [*]; done) | (refine decide_eq_false ?_; first | assumption | omega) | (refine nf ?_; first | assumption | omega)))); (first | (refine m_mov (by conv => lhs; whnf) ?_) | (refine m_not rfl ?_))))
    (refine step_ops ?_); (refine g_yes rfl ?_ ?_; (· first | (first | rfl | assumption | (refine decide_eq_true ?_; first | assumption | omega) | (refine nt ?_; first | assumption | omega) | (simp [*]; done)) | (first | rfl | assumption | (refine decide_eq_false ?_; first | assumption | omega) | (refine nf ?_; first | assumption | omega) | (simp [*]; done))); (apply m_call (canLose_spec _ _))); (· repeat (first | exact lends_nil | (refine lends_cons ?_ ?_; (· exact lend_v))))
    repeat (first | (refine step_ops ?_; ((try (refine g_yes rfl ?_ ?_; (· first | rfl | assumption | (refine decide_eq_true ?_; first | assumption | omega) | (refine nt ?_; first | assumption | omega) | (simp [*]; done) | (refine decide_eq_false ?_; first | assumption | omega) | (refine nf ?_; first | assumption | omega)))); (first | (refine m_mov (by conv => lhs; whnf) ?_) | (refine m_not rfl ?_) | (refine m_pick_f rfl ?_ (by conv => lhs; whnf) ?_; (· first | rfl | assumption | (refine decide_eq_false ?_; first | assumption | omega) | (refine nf ?_; first | assumption | omega) | (simp [*]; done)))))) | refine end_ops ?_ | refine seq_ops ?_ | (refine cond_f rfl ?_ ?_; (· first | rfl | assumption | (refine decide_eq_false ?_; first | assumption | omega) | (refine nf ?_; first | assumption | omega) | (simp [*]; done))) | refine skip_then ?_)
    (refine step_ops ?_); (apply m_call (factorial_spec l (by omega))); (· repeat (first | exact lends_nil | (refine lends_cons ?_ ?_; (· exact lend_v))))
    repeat (first | (refine step_ops ?_; (first | (refine m_mov (by conv => lhs; whnf) ?_) | (refine m_sub rfl rfl ?_ ?_ ?_; (· omega); (· omega)))) | refine end_ops ?_ | refine seq_ops ?_ | refine AW_seq ?_ | refine AW_block ?_)
    refine AW_loop (α := Nat) (fun k => k ≤ g - l) (fun k => st [(1, .i l), (6, .i (cntS l k)), (20, .i ((g : Int) - l)), (21, .i k)] []) (fun k => g - l - k) 0 (by omega) (weak_st ?_ ?_ rfl rfl) ?_
    · (repeat' (first | exact trivial | refine And.intro ?_ ?_)) <;> (first | rfl | skip)
    · trivial
    intro k hk
    by_cases hc : k < g - l
    · have hb := cntS_le l (by omega) (k + 1) (by omega)
      have e2 : cntS l (k + 1) = cntS l k * ((l : Int) + 1) := rfl
      rw [e2] at hb
      repeat (first | (refine step_ops ?_; (first | (refine m_mov (by conv => lhs; whnf) ?_) | (refine m_lss rfl rfl ?_) | (refine m_add rfl rfl ?_ ?_ ?_; (· omega); (· omega)) | (refine m_mul rfl rfl ?_ ?_ ?_; (· first | omega | (simp; done)); (· first | omega | (simp; done))))) | refine end_ops ?_ | refine seq_ops ?_ | refine AW_ops ?_ | (refine cond_t rfl ?_ ?_; (· first | rfl | assumption | (refine decide_eq_true ?_; first | assumption | omega) | (refine nt ?_; first | assumption | omega) | (simp [*]; done))) | refine skip_then ?_ | refine AW_seq ?_ | refine norm_then ?_ | refine AW_block ?_ | refine norm_block ?_)
      refine next_round (k + 1) (by omega) (weak_st ?_ ?_ rfl rfl) ?_
      · (repeat' (first | exact trivial | refine And.intro ?_ ?_)) <;> (first | rfl | skip)
      · trivial
      · omega
    · obtain rfl : k = g - l := by omega
      repeat (first | (refine step_ops ?_; (first | (refine m_mov (by conv => lhs; whnf) ?_) | (refine m_lss rfl rfl ?_))) | refine end_ops ?_ | refine seq_ops ?_ | (refine cond_f rfl ?_ ?_; (· first | rfl | assumption | (refine decide_eq_false ?_; first | assumption | omega) | (refine nf ?_; first | assumption | omega) | (simp [*]; done))) | refine AW_seq ?_ | refine AW_ret ?_ | refine ret_done ?_ | refine norm_then ?_ | refine exit_then ?_ | refine exit_round ?_ | refine AW_exit ?_ | refine exit_block ?_)
      exact outs_tup2 (outs_i rfl) (outs_b rfl)
  · have e : cntR g l = 0 := if_neg h
    rw [e, decide_eq_false h]
    refine spec_of Try.func12 rfl cc12 rfl ?_
    unfold ac12
    by_cases h1 : 1 ≤ g ∧ g ≤ 12
    · have h2 : ¬ (0 ≤ l ∧ l ≤ g) := fun hh => h ⟨h1, hh⟩
      repeat (first | (refine step_ops ?_; (refine m_mov (by conv => lhs; whnf) ?_)) | refine end_ops ?_ | refine seq_ops ?_ | refine AW_seq ?_)
      (refine step_ops ?_); (apply m_call (isGuestCount_spec _)); (· repeat (first | exact lends_nil | (refine lends_cons ?_ ?_; (· exact lend_v))))
      repeat (refine step_ops ?_; ((try (refine g_yes rfl ?_ ?_; (· first | rfl | assumption | (refine decide_eq_true ?_; first | assumption | omega) | (refine nt ?_; first | assumption | omega) | (simp [*]; done) | (refine decide_eq_false ?_; first | assumption | omega) | (refine nf ?_; first | assumption | omega)))); (first | (refine m_mov (by conv => lhs; whnf) ?_) | (refine m_not rfl ?_))))
      (refine step_ops ?_); (refine g_yes rfl ?_ ?_; (· first | (first | rfl | assumption | (refine decide_eq_true ?_; first | assumption | omega) | (refine nt ?_; first | assumption | omega) | (simp [*]; done)) | (first | rfl | assumption | (refine decide_eq_false ?_; first | assumption | omega) | (refine nf ?_; first | assumption | omega) | (simp [*]; done))); (apply m_call (canLose_spec _ _))); (· repeat (first | exact lends_nil | (refine lends_cons ?_ ?_; (· exact lend_v))))
      repeat (first | (refine step_ops ?_; ((try (refine g_yes rfl ?_ ?_; (· first | rfl | assumption | (refine decide_eq_true ?_; first | assumption | omega) | (refine nt ?_; first | assumption | omega) | (simp [*]; done) | (refine decide_eq_false ?_; first | assumption | omega) | (refine nf ?_; first | assumption | omega)))); (first | (refine m_mov (by conv => lhs; whnf) ?_) | (refine m_not rfl ?_) | (refine m_pick_f rfl ?_ (by conv => lhs; whnf) ?_; (· first | rfl | assumption | (refine decide_eq_false ?_; first | assumption | omega) | (refine nf ?_; first | assumption | omega) | (simp [*]; done)))))) | refine end_ops ?_ | refine seq_ops ?_ | (refine cond_t rfl ?_ ?_; (· first | rfl | assumption | (refine decide_eq_true ?_; first | assumption | omega) | (refine nt ?_; first | assumption | omega) | (simp [*]; done))) | refine AW_ret ?_ | refine ret_done ?_ | refine ret_then ?_)
      exact outs_tup2 (outs_i rfl) (outs_b rfl)
    · repeat (first | (refine step_ops ?_; (refine m_mov (by conv => lhs; whnf) ?_)) | refine end_ops ?_ | refine seq_ops ?_ | refine AW_seq ?_)
      (refine step_ops ?_); (apply m_call (isGuestCount_spec _)); (· repeat (first | exact lends_nil | (refine lends_cons ?_ ?_; (· exact lend_v))))
      repeat (first | (refine step_ops ?_; (first | (first | (refine m_mov (by conv => lhs; whnf) ?_) | (refine m_not rfl ?_) | (refine m_pick_t rfl ?_ (by conv => lhs; whnf) ?_; (· first | rfl | assumption | (refine decide_eq_true ?_; first | assumption | omega) | (refine nt ?_; first | assumption | omega) | (simp [*]; done)))) | (refine g_noF rfl ?_ ?_; (· first | rfl | assumption | (refine decide_eq_true ?_; first | assumption | omega) | (refine nt ?_; first | assumption | omega) | (simp [*]; done))))) | refine end_ops ?_ | refine seq_ops ?_ | (refine cond_t rfl ?_ ?_; (· first | rfl | assumption | (refine decide_eq_true ?_; first | assumption | omega) | (refine nt ?_; first | assumption | omega) | (simp [*]; done))) | refine AW_ret ?_ | refine ret_done ?_ | refine ret_then ?_)
      exact outs_tup2 (outs_i rfl) (outs_b rfl)
theorem specCountSeatings_spec (g l : Int) : Sp Try.prog 18 [.i g, .i l] (cntTup g l) := by
  unfold cntTup
  by_cases h : SeOk 12 g l
  · have e : cntR g l = _ := if_pos h
    rw [e, decide_eq_true h]
    obtain ⟨⟨h1, h2⟩, h3, h4⟩ := h
    obtain ⟨g, rfl⟩ := Int.eq_ofNat_of_zero_le (show 0 ≤ g by omega)
    obtain ⟨l, rfl⟩ := Int.eq_ofNat_of_zero_le (show 0 ≤ l by omega)
    simp only [Int.toNat_natCast]
    refine spec_of Try.func18 rfl cc18 rfl ?_
    unfold ac18
    repeat (first | (refine step_ops ?_; (refine m_mov (by conv => lhs; whnf) ?_)) | refine end_ops ?_ | refine seq_ops ?_ | refine AW_seq ?_)
    (refine step_ops ?_); (apply m_call (seGuests_spec _ _ _)); (· repeat (first | exact lends_nil | (refine lends_cons ?_ ?_; (· exact lend_v))))
    repeat (first | (refine step_ops ?_; (first | (refine m_mov (by conv => lhs; whnf) ?_) | (refine m_not rfl ?_))) | refine end_ops ?_ | refine seq_ops ?_ | (refine cond_f rfl ?_ ?_; (· first | rfl | assumption | (refine decide_eq_false ?_; first | assumption | omega) | (refine nf ?_; first | assumption | omega) | (simp [*]; done))) | refine skip_then ?_)
    (refine step_ops ?_); (apply m_call (exTimes_spec l (by omega))); (· repeat (first | exact lends_nil | (refine lends_cons ?_ ?_; (· exact lend_v))))
    repeat (first | (refine step_ops ?_; (refine m_mov (by conv => lhs; whnf) ?_)) | refine end_ops ?_ | refine seq_ops ?_ | refine AW_seq ?_ | refine AW_block ?_)
    refine AW_loop (α := Nat) (fun k => k ≤ g - l) (fun k => st [(0, .i g), (1, .i l), (6, .i (cntS l k)), (7, .i ((l + k : Nat) : Int))] []) (fun k => g - l - k) 0 (by omega) (weak_st ?_ ?_ rfl rfl) ?_
    · (repeat' (first | exact trivial | refine And.intro ?_ ?_)) <;> (first | rfl | skip)
    · trivial
    intro k hk
    by_cases hc : k < g - l
    · have hb := cntS_le l (by omega) (k + 1) (by omega)
      have e2 : cntS l (k + 1) = cntS l k * ((l : Int) + 1) := rfl
      rw [e2] at hb
      repeat (first | (refine step_ops ?_; (first | (refine m_mov (by conv => lhs; whnf) ?_) | (refine m_lss rfl rfl ?_) | (refine m_add rfl rfl ?_ ?_ ?_; (· omega); (· omega)) | (refine m_mul rfl rfl ?_ ?_ ?_; (· first | omega | (simp; done)); (· first | omega | (simp; done))))) | refine end_ops ?_ | refine seq_ops ?_ | refine AW_ops ?_ | (refine cond_t rfl ?_ ?_; (· first | rfl | assumption | (refine decide_eq_true ?_; first | assumption | omega) | (refine nt ?_; first | assumption | omega) | (simp [*]; done))) | refine skip_then ?_ | refine AW_seq ?_ | refine norm_then ?_ | refine AW_block ?_ | refine norm_block ?_)
      refine next_round (k + 1) (by omega) (weak_st ?_ ?_ rfl rfl) ?_
      · (repeat' (first | exact trivial | refine And.intro ?_ ?_)) <;> (first | rfl | skip)
      · trivial
      · omega
    · obtain rfl : k = g - l := by omega
      repeat (first | (refine step_ops ?_; (first | (refine m_mov (by conv => lhs; whnf) ?_) | (refine m_lss rfl rfl ?_))) | refine end_ops ?_ | refine seq_ops ?_ | (refine cond_f rfl ?_ ?_; (· first | rfl | assumption | (refine decide_eq_false ?_; first | assumption | omega) | (refine nf ?_; first | assumption | omega) | (simp [*]; done))) | refine AW_seq ?_ | refine AW_ret ?_ | refine ret_done ?_ | refine norm_then ?_ | refine exit_then ?_ | refine exit_round ?_ | refine AW_exit ?_ | refine exit_block ?_)
      exact outs_tup2 (outs_i rfl) (outs_b rfl)
  · have e : cntR g l = 0 := if_neg h
    have h' : ¬ ((1 ≤ g ∧ g ≤ 12) ∧ 0 ≤ l ∧ l ≤ g) := h
    rw [e, decide_eq_false h]
    refine spec_of Try.func18 rfl cc18 rfl ?_
    unfold ac18
    repeat (first | (refine step_ops ?_; (refine m_mov (by conv => lhs; whnf) ?_)) | refine end_ops ?_ | refine seq_ops ?_ | refine AW_seq ?_)
    (refine step_ops ?_); (apply m_call (seGuests_spec _ _ _)); (· repeat (first | exact lends_nil | (refine lends_cons ?_ ?_; (· exact lend_v))))
    repeat (first | (refine step_ops ?_; (first | (refine m_mov (by conv => lhs; whnf) ?_) | (refine m_not rfl ?_))) | refine end_ops ?_ | refine seq_ops ?_ | (refine cond_t rfl ?_ ?_; (· first | rfl | assumption | (refine decide_eq_true ?_; first | assumption | omega) | (refine nt ?_; first | assumption | omega) | (simp [*]; done))) | refine AW_ret ?_ | refine ret_done ?_ | refine ret_then ?_)
    exact outs_tup2 (outs_i rfl) (outs_b rfl)
end Go.Proofs.Ytamgcjdmcmbffaa
namespace Go.Proofs.Ytamgcjdmcmbffaa
variable [Go.Am.CodeBlk]
open Go.Am
attribute [local irreducible] AW Outs Weak Lends Lend Sp aops atree aop1 Then Round InBlock Done
theorem l1Own_spec (L : List Int) (hL : L.length ≤ 1048576) : Sp Try.prog 56 [ints L] (newInts L) := by
  refine spec_of Try.func56 rfl cc56 rfl ?_
  unfold ac56
  repeat (first | (refine step_ops ?_; (first | (refine m_mov (by conv => lhs; whnf) ?_) | (refine m_nils ?_) | (refine m_bsl0 ?_) | (refine m_appro rfl (by decide) rfl (by first | rfl | (simp; done) | (simp [*]; done) | (simp; omega)) rfl (oks_ints _) ?_ (by decide) ?_; (· first | omega | (simp; omega))))) | refine end_ops ?_ | refine seq_ops ?_ | refine AW_ret ?_ | refine ret_done ?_)
  exact outs_ints rfl rfl (Nat.zero_add _)
theorem slicesClone_spec (L : List Int) (hL : L.length ≤ 1048576) (h1 : 1 ≤ L.length) : Sp Try.prog 83 [ints L] (newInts L) := by
  refine spec_of Try.func83 rfl cc83 rfl ?_
  unfold ac83
  repeat (first | (refine step_ops ?_; (first | (refine m_mov (by conv => lhs; whnf) ?_) | (refine m_isnil_ro rfl ?_ ?_; (· omega)) | (refine m_nils ?_) | (refine m_bsl0 ?_) | (refine m_appro rfl (by decide) rfl (by first | rfl | (simp; done) | (simp [*]; done) | (simp; omega)) rfl (oks_ints _) ?_ (by decide) ?_; (· first | omega | (simp; omega))))) | refine end_ops ?_ | refine seq_ops ?_ | (refine cond_f rfl ?_ ?_; (· first | rfl | assumption | (refine decide_eq_false ?_; first | assumption | omega) | (refine nf ?_; first | assumption | omega) | (simp [*]; done))) | refine skip_then ?_ | refine AW_seq ?_ | refine AW_ret ?_ | refine ret_done ?_)
  exact outs_ints rfl rfl (Nat.zero_add _)
end Go.Proofs.Ytamgcjdmcmbffaa
namespace Go.Proofs.Ytamgcjdmcmbffaa
variable [Go.Am.CodeBlk]
open Go.Am
attribute [local irreducible] AW Outs Weak Lends Lend Sp aops atree aop1 Then Round InBlock Done
/-- Where a coat is, or -1. -/
def whoIs (L : List Int) (c : Int) : Int := if c ∈ L then (L.idxOf c : Int) else -1
theorem whoIs_at {L : List Int} {c : Int} {k : Nat} (h : k < L.length) (he : c ∉ L.take k) (hx : L.getD k 0 = c) : whoIs L c = k := by
  have hm : c ∈ L := hx ▸ getD_mem h
  have h1 : L.idxOf c = k := by
    conv => lhs; rw [← List.take_append_drop k L]
    rw [List.idxOf_append, if_neg he, List.drop_eq_getElem_cons h]
    have : L[k] = c := by simpa [h] using hx
    rw [this, List.idxOf_cons_self, List.length_take]
    omega
  rw [whoIs, if_pos hm, h1]
theorem slicesIndex_spec (L : List Int) (c : Int) (hL : L.length ≤ 1048576) : Sp Try.prog 81 [ints L, .i c] (.i (whoIs L c)) := by
  refine spec_of Try.func81 rfl cc81 rfl ?_
  unfold ac81
  repeat (first | (refine step_ops ?_; (first | (refine m_mov (by conv => lhs; whnf) ?_) | (refine m_len_ro rfl ?_))) | refine end_ops ?_ | refine seq_ops ?_ | refine AW_seq ?_ | refine AW_block ?_)
  refine AW_loop (α := Nat) (fun k => k ≤ L.length ∧ c ∉ L.take k) (fun k => st [(0, ints L), (1, .i c), (7, .i L.length), (8, .i k)] []) (fun k => L.length - k) 0 (by simp) (weak_st ?_ ?_ rfl rfl) ?_
  · (repeat' (first | exact trivial | refine And.intro ?_ ?_)) <;> (first | rfl | skip)
  · trivial
  rintro k ⟨hk, he⟩
  by_cases h : k < L.length
  · by_cases hx : c = L.getD k 0
    · repeat (first | (refine step_ops ?_; (first | (refine m_mov (by conv => lhs; whnf) ?_) | (refine m_lss rfl rfl ?_) | (refine m_eql rfl rfl ?_) | (refine m_idx1_ro rfl rfl ?_ ?_; (· omega)) | (refine m_ld_rpi rfl ?_ ?_; (· omega)))) | refine end_ops ?_ | refine seq_ops ?_ | (refine cond_t rfl ?_ ?_; (· first | rfl | assumption | (refine decide_eq_true ?_; first | assumption | omega) | (refine nt ?_; first | assumption | omega) | (simp [*]; done))) | refine skip_then ?_ | refine AW_seq ?_ | refine AW_ret ?_ | refine ret_done ?_ | refine ret_then ?_ | refine AW_block ?_ | refine ret_block ?_ | refine ret_round ?_)
      exact outs_i (whoIs_at h he hx.symm).symm
    · repeat (first | (refine step_ops ?_; (first | (refine m_mov (by conv => lhs; whnf) ?_) | (refine m_lss rfl rfl ?_) | (refine m_eql rfl rfl ?_) | (refine m_add rfl rfl ?_ ?_ ?_; (· omega); (· omega)) | (refine m_idx1_ro rfl rfl ?_ ?_; (· omega)) | (refine m_ld_rpi rfl ?_ ?_; (· omega)))) | refine end_ops ?_ | refine seq_ops ?_ | refine AW_ops ?_ | (refine cond_t rfl ?_ ?_; (· first | rfl | assumption | (refine decide_eq_true ?_; first | assumption | omega) | (refine nt ?_; first | assumption | omega) | (simp [*]; done))) | (refine cond_f rfl ?_ ?_; (· first | rfl | assumption | (refine decide_eq_false ?_; first | assumption | omega) | (refine nf ?_; first | assumption | omega) | (simp [*]; done))) | refine skip_then ?_ | refine AW_seq ?_ | refine norm_then ?_ | refine AW_block ?_ | refine norm_block ?_ | refine AW_skip ?_)
      refine next_round (k + 1) ⟨by omega, ?_⟩ (weak_st ?_ ?_ rfl rfl) ?_
      · rw [take_snoc L k 0 h, List.mem_append, List.mem_singleton]
        rintro (h1 | h1)
        · exact he h1
        · exact hx h1
      · (repeat' (first | exact trivial | refine And.intro ?_ ?_)) <;> (first | rfl | skip)
      · trivial
      · omega
  · repeat (first | (refine step_ops ?_; (first | (refine m_mov (by conv => lhs; whnf) ?_) | (refine m_lss rfl rfl ?_))) | refine end_ops ?_ | refine seq_ops ?_ | (refine cond_f rfl ?_ ?_; (· first | rfl | assumption | (refine decide_eq_false ?_; first | assumption | omega) | (refine nf ?_; first | assumption | omega) | (simp [*]; done))) | refine AW_seq ?_ | refine AW_ret ?_ | refine ret_done ?_ | refine norm_then ?_ | refine exit_then ?_ | refine exit_round ?_ | refine AW_exit ?_ | refine exit_block ?_)
    refine outs_i ?_
    rw [List.take_of_length_le (by omega)] at he
    rw [whoIs, if_neg he]
end Go.Proofs.Ytamgcjdmcmbffaa
namespace Go.Am
variable [Go.Am.CodeBlk]
section
variable (fits : List Int → Nat → Bool) (n : Nat)
/-- All that go on from l by k more, in order. -/
def goOn : Nat → List Int → List (List Int)
  | 0, l => [l]
  | k + 1, l => ((List.range n).filter fun x => fits l x).flatMap fun (x : Nat) => goOn k (l ++ [(x : Int)])
/-- Those whose next is at least g. -/
def goFrom (l : List Int) (g : Nat) : List (List Int) := ((List.range n).filter fun x => decide (g ≤ x) && fits l x).flatMap fun (x : Nat) => goOn fits n (n - l.length - 1) (l ++ [(x : Int)])
/-- What comes behind all that go on from a list (which is told from its end). -/
def goBack : List Int → List (List Int)
  | [] => []
  | x :: r => goFrom fits n r.reverse (x.toNat + 1) ++ goBack r
/-- What a search finds that stands at a list and is to try g next. -/
def goAt (l : List Int) (g : Nat) : List (List Int) := (if l.length = n then [l] else goFrom fits n l g) ++ goBack fits n l.reverse
theorem range_split (p : Nat → Bool) (g : Nat) : ∀ n, g < n → (List.range n).filter (fun x => decide (g ≤ x) && p x) = (if p g then [g] else []) ++ (List.range n).filter (fun x => decide (g + 1 ≤ x) && p x)
  | 0, h => by omega
  | n + 1, h => by
    rw [List.range_succ, List.filter_append, List.filter_append]
    by_cases hg : g < n
    · rw [range_split p g n hg, List.append_assoc]
      congr 2
      have h1 : decide (g ≤ n) = true := decide_eq_true (by omega)
      have h2 : decide (g + 1 ≤ n) = true := decide_eq_true (by omega)
      simp only [List.filter_cons, List.filter_nil, h1, h2]
    · obtain rfl : g = n := by omega
      have e1 : (List.range g).filter (fun x => decide (g ≤ x) && p x) = [] := List.filter_eq_nil_iff.2 fun x hx => by have := List.mem_range.1 hx; simp; omega
      have e2 : (List.range g).filter (fun x => decide (g + 1 ≤ x) && p x) = [] := List.filter_eq_nil_iff.2 fun x hx => by have := List.mem_range.1 hx; simp; omega
      rw [e1, e2]
      have h2 : decide (g + 1 ≤ g) = false := decide_eq_false (by omega)
      have h1 : decide (g ≤ g) = true := decide_eq_true (by omega)
      simp only [List.filter_cons, List.filter_nil, List.nil_append, h1, h2]
      simp
theorem goFrom_step {l : List Int} {g : Nat} (hg : g < n) : goFrom fits n l g = (if fits l g then goOn fits n (n - l.length - 1) (l ++ [(g : Int)]) else []) ++ goFrom fits n l (g + 1) := by
  unfold goFrom
  rw [range_split (fits l) g n hg, List.flatMap_append]
  split <;> simp
theorem goFrom_end {l : List Int} {g : Nat} (hg : n ≤ g) : goFrom fits n l g = [] := by
  unfold goFrom
  rw [List.filter_eq_nil_iff.2 fun x hx => by have := List.mem_range.1 hx; simp; omega]
  rfl
theorem goOn_from {l : List Int} (h : l.length < n) : goOn fits n (n - l.length) l = goFrom fits n l 0 := by
  obtain ⟨k, hk⟩ : ∃ k, n - l.length = k + 1 := ⟨n - l.length - 1, by omega⟩
  unfold goFrom
  rw [hk]
  simp [goOn]
theorem goAt_full {l : List Int} {g : Nat} (h : l.length = n) : (goAt fits n l g).head? = some l := by
  simp [goAt, h]
theorem goAt_take {l : List Int} {g : Nat} (h : l.length < n) (hg : g < n) (hf : fits l g = true) : goAt fits n (l ++ [(g : Int)]) 0 = goAt fits n l g := by
  have hne : ¬ l.length = n := by omega
  unfold goAt
  rw [if_neg hne, goFrom_step fits n hg, if_pos hf, List.reverse_append, List.reverse_singleton, List.singleton_append, goBack, List.reverse_reverse, Int.toNat_natCast, List.append_assoc]
  congr 1
  by_cases h1 : l.length + 1 = n
  · have e : n - l.length - 1 = 0 := by omega
    rw [if_pos (by simpa using h1), e]
    rfl
  · have e : n - l.length - 1 = n - (l ++ [(g : Int)]).length := by simp; omega
    rw [if_neg (by simpa using h1), e, goOn_from fits n (by simp; omega)]
theorem goAt_skip {l : List Int} {g : Nat} (h : l.length < n) (hg : g < n) (hf : fits l g = false) : goAt fits n l (g + 1) = goAt fits n l g := by
  have hne : ¬ l.length = n := by omega
  unfold goAt
  rw [if_neg hne, if_neg hne, goFrom_step fits n hg, hf]
  simp
theorem goAt_none {g : Nat} (h : 0 < n) (hg : n ≤ g) : goAt fits n [] g = [] := by
  unfold goAt
  rw [if_neg (by simp; omega), goFrom_end fits n hg]
  rfl
theorem goAt_back {l : List Int} {x : Int} {g : Nat} (h : l.length + 1 < n) (hg : n ≤ g) : goAt fits n (l ++ [x]) g = goAt fits n l (x.toNat + 1) := by
  unfold goAt
  rw [if_neg (by simp; omega), if_neg (by omega), goFrom_end fits n hg, List.reverse_append, List.reverse_singleton, List.singleton_append, goBack, List.reverse_reverse]
  rfl
theorem goAt_start (h : 0 < n) : goAt fits n [] 0 = goOn fits n n [] := by
  have := goOn_from fits n (l := []) (by simpa using h)
  simp only [List.length_nil, Nat.sub_zero] at this
  unfold goAt
  rw [if_neg (by simp; omega), this]
  simp [goBack]
end
/-- How long a search may go on. -/
def goW (n : Nat) : Nat → Nat
  | 0 => 0
  | j + 1 => n * goW n j + 2
def goM (n : Nat) : List Int → Nat
  | [] => 0
  | x :: r => (n - (x.toNat + 1)) * goW n (n - r.length) + 1 + goM n r
def goMeas (n : Nat) (l : List Int) (g : Nat) : Nat := (n - g) * goW n (n - l.length) + goM n l.reverse
theorem goMeas_take {n : Nat} {l : List Int} {g : Nat} (h : l.length < n) (hg : g < n) : goMeas n (l ++ [(g : Int)]) 0 < goMeas n l g := by
  obtain ⟨k, hk⟩ : ∃ k, n - l.length = k + 1 := ⟨n - l.length - 1, by omega⟩
  have hk2 : n - (l ++ [(g : Int)]).length = k := by simp; omega
  obtain ⟨q, hq⟩ : ∃ q, n - g = q + 1 := ⟨n - g - 1, by omega⟩
  have hq2 : n - (g + 1) = q := by omega
  unfold goMeas
  rw [List.reverse_append, List.reverse_singleton, List.singleton_append, goM, List.length_reverse, Int.toNat_natCast, hk2, hk, hq, hq2, Nat.sub_zero, Nat.add_mul, Nat.one_mul]
  have : goW n (k + 1) = n * goW n k + 2 := rfl
  omega
theorem goMeas_skip {n : Nat} {l : List Int} {g : Nat} (h : l.length < n) (hg : g < n) : goMeas n l (g + 1) < goMeas n l g := by
  obtain ⟨k, hk⟩ : ∃ k, n - l.length = k + 1 := ⟨n - l.length - 1, by omega⟩
  obtain ⟨q, hq⟩ : ∃ q, n - g = q + 1 := ⟨n - g - 1, by omega⟩
  have hq2 : n - (g + 1) = q := by omega
  unfold goMeas
  rw [hk, hq, hq2, Nat.add_mul, Nat.one_mul]
  have : goW n (k + 1) = n * goW n k + 2 := rfl
  omega
theorem goMeas_back {n : Nat} {l : List Int} {x : Int} {g : Nat} (hg : n ≤ g) : goMeas n l (x.toNat + 1) < goMeas n (l ++ [x]) g := by
  have h0 : n - g = 0 := by omega
  unfold goMeas
  rw [List.reverse_append, List.reverse_singleton, List.singleton_append, goM, List.length_reverse, h0, Nat.zero_mul]
  omega
/-- Does a list come before another? -/
def comesB : List Int → List Int → Bool
  | [], _ => false
  | _ :: _, [] => false
  | a :: l, b :: m => if a = b then comesB l m else decide (a < b)
theorem comesB_append (p : List Int) (l m : List Int) : comesB (p ++ l) (p ++ m) = comesB l m := by
  induction p with
  | nil => rfl
  | cons a p ih => simp [comesB, ih]
theorem comesB_self (l : List Int) : comesB l l = false := by
  induction l with
  | nil => rfl
  | cons a l ih => simp [comesB, ih]
section
variable (fits : List Int → Nat → Bool) (n : Nat)
theorem goOn_shape : ∀ (k : Nat) (l x : List Int), x ∈ goOn fits n k l → ∃ m, x = l ++ m ∧ m.length = k
  | 0, l, x, h => ⟨[], by simpa [goOn] using h, rfl⟩
  | k + 1, l, x, h => by
    simp only [goOn, List.mem_flatMap] at h
    obtain ⟨y, _, hx⟩ := h
    obtain ⟨m, rfl, hm⟩ := goOn_shape k _ _ hx
    exact ⟨(y : Int) :: m, by simp, by simp [hm]⟩
/-- All that go on behind a lesser next come before; behind a greater one, behind. -/
theorem find_less {k : Nat} {l : List Int} {x : Nat} {b : Int} {t : List Int} (h : (x : Int) < b) : (goOn fits n k (l ++ [(x : Int)])).find? (fun m => comesB (l ++ b :: t) m) = none := by
  rw [List.find?_eq_none]
  intro m hm
  obtain ⟨r, rfl, _⟩ := goOn_shape fits n _ _ _ hm
  rw [List.append_assoc, comesB_append]
  have h1 : ¬ b = (x : Int) := by omega
  have h2 : ¬ b < (x : Int) := by omega
  simp [comesB, h1, h2]
theorem find_more {k : Nat} {l : List Int} {x : Nat} {b : Int} {t : List Int} (h : b < (x : Int)) : (goOn fits n k (l ++ [(x : Int)])).find? (fun m => comesB (l ++ b :: t) m) = (goOn fits n k (l ++ [(x : Int)])).head? := by
  have hall : ∀ m ∈ goOn fits n k (l ++ [(x : Int)]), comesB (l ++ b :: t) m = true := by
    intro m hm
    obtain ⟨r, rfl, _⟩ := goOn_shape fits n _ _ _ hm
    rw [List.append_assoc, comesB_append]
    have h1 : ¬ b = (x : Int) := by omega
    simp [comesB, h1, h]
  cases hg : goOn fits n k (l ++ [(x : Int)]) with
  | nil => rfl
  | cons m ms => simp [hall m (by rw [hg]; simp)]
end
theorem range_three (p : Nat → Bool) (g : Nat) : ∀ n, g < n → (List.range n).filter p = (List.range g).filter p ++ ((if p g then [g] else []) ++ (List.range n).filter (fun x => decide (g + 1 ≤ x) && p x))
  | 0, h => by omega
  | n + 1, h => by
    rw [List.range_succ, List.filter_append, List.filter_append]
    by_cases hg : g < n
    · rw [range_three p g n hg, List.append_assoc, List.append_assoc]
      congr 3
      have h2 : decide (g + 1 ≤ n) = true := decide_eq_true (by omega)
      simp only [List.filter_cons, List.filter_nil, h2, Bool.true_and]
    · obtain rfl : g = n := by omega
      have e2 : (List.range g).filter (fun x => decide (g + 1 ≤ x) && p x) = [] := List.filter_eq_nil_iff.2 fun x hx => by have := List.mem_range.1 hx; simp; omega
      have h2 : decide (g + 1 ≤ g) = false := decide_eq_false (by omega)
      rw [e2]
      simp only [List.filter_cons, List.filter_nil, List.nil_append, h2]
      simp
theorem findSome_congr {α β : Type} {f g : α → Option β} : ∀ {l : List α}, (∀ x ∈ l, f x = g x) → l.findSome? f = l.findSome? g
  | [], _ => rfl
  | a :: l, h => by
    simp only [List.findSome?_cons]
    rw [h a (by simp), findSome_congr fun x hx => h x (by simp [hx])]
section
variable (fits : List Int → Nat → Bool) (n : Nat)
theorem goFrom_head (l : List Int) (g : Nat) : (goFrom fits n l g).head? = ((List.range n).filter fun x => decide (g ≤ x) && fits l x).findSome? fun (x : Nat) => (goOn fits n (n - l.length - 1) (l ++ [(x : Int)])).head? := by
  unfold goFrom
  rw [List.head?_flatMap]
theorem find_next {k g : Nat} {l t : List Int} (hg : g < n) (hk : n - l.length = k + 1) : (goOn fits n (k + 1) l).find? (fun m => comesB (l ++ (g : Int) :: t) m) =
    (if fits l g then (goOn fits n k (l ++ [(g : Int)])).find? (fun m => comesB (l ++ (g : Int) :: t) m) else none).or (goFrom fits n l (g + 1)).head? := by
  have hk2 : n - l.length - 1 = k := by omega
  rw [goFrom_head, goOn, List.find?_flatMap, range_three _ g n hg, List.findSome?_append, List.findSome?_append, hk2]
  have e1 : ((List.range g).filter fun x => fits l x).findSome? (fun (x : Nat) => (goOn fits n k (l ++ [(x : Int)])).find? fun m => comesB (l ++ (g : Int) :: t) m) = none := by
    rw [List.findSome?_eq_none_iff]
    intro x hx
    have := List.mem_range.1 (List.mem_filter.1 hx).1
    exact find_less fits n (by omega)
  rw [e1, Option.none_or]
  congr 1
  · split <;> simp
  · refine findSome_congr fun x hx => ?_
    have := (List.mem_filter.1 hx).2
    simp only [Bool.and_eq_true, decide_eq_true_eq] at this
    exact find_more fits n (by omega)
/-- The first that comes behind a list: where its own beginning goes no further, a search that begins there finds it. -/
theorem find_behind {L : List Int} (hL : L.length = n) (hb : ∀ i < n, ∃ g : Nat, L.getD i 0 = g ∧ g < n) {kept : Nat} (hk : kept < n) (hf : ∀ i < kept, fits (L.take i) (L.getD i 0).toNat = true)
    (he : fits (L.take kept) (L.getD kept 0).toNat = false ∨ kept + 1 = n) : (goOn fits n n []).find? (fun m => comesB L m) = (goAt fits n (L.take kept) ((L.getD kept 0).toNat + 1)).head? := by
  have step : ∀ i, i < n → (goOn fits n (n - i) (L.take i)).find? (fun m => comesB L m) =
      (if fits (L.take i) (L.getD i 0).toNat then (goOn fits n (n - (i + 1)) (L.take (i + 1))).find? (fun m => comesB L m) else none).or (goFrom fits n (L.take i) ((L.getD i 0).toNat + 1)).head? := by
    intro i hi
    obtain ⟨g, hg, hgn⟩ := hb i hi
    have hlen : (L.take i).length = i := List.length_take_of_le (by omega)
    have hsp : L = L.take i ++ (g : Int) :: L.drop (i + 1) := by
      have h1 := take_snoc L i 0 (by omega)
      have h2 := List.take_append_drop (i + 1) L
      rw [h1, hg, List.append_assoc] at h2
      exact h2.symm
    have h1 := find_next fits n (k := n - (i + 1)) (g := g) (l := L.take i) (t := L.drop (i + 1)) hgn (by omega)
    rw [← hsp] at h1
    have e : n - (i + 1) + 1 = n - i := by omega
    rw [e] at h1
    rw [take_snoc L i 0 (by omega), hg, Int.toNat_natCast]
    exact h1
  have key : ∀ i, i ≤ kept → (goOn fits n n []).find? (fun m => comesB L m) = ((goOn fits n (n - i) (L.take i)).find? (fun m => comesB L m)).or (goBack fits n (L.take i).reverse).head? := by
    intro i
    induction i with
    | zero => intro _; simp [goBack]
    | succ i ih =>
      intro hi
      have h1 := hf i (by omega)
      rw [ih (by omega), step i (by omega), if_pos h1, Option.or_assoc]
      congr 1
      rw [take_snoc L i 0 (by omega), List.reverse_append, List.reverse_singleton, List.singleton_append, goBack, List.reverse_reverse, List.head?_append]
  have hlen : (L.take kept).length = kept := List.length_take_of_le (by omega)
  have hnone : (if fits (L.take kept) (L.getD kept 0).toNat then (goOn fits n (n - (kept + 1)) (L.take (kept + 1))).find? (fun m => comesB L m) else none) = none := by
    split
    · rename_i hh
      rcases he with he | he
      · rw [he] at hh; cases hh
      · have e : n - (kept + 1) = 0 := by omega
        rw [e, List.take_of_length_le (by omega)]
        simp [goOn, comesB_self]
    · rfl
  have hne : ¬ (L.take kept).length = n := by omega
  rw [key kept (Nat.le_refl _), step kept hk, hnone, Option.none_or, goAt, if_neg hne, List.head?_append]
end
end Go.Am
namespace Go.Am
variable [Go.Am.CodeBlk]
variable {P : Program} {N : Nat}
/-- Where such a call begins. -/
def enterH (asx : List AV) (hin : Hp) : AS := ⟨fun t => (asx[t]?).getD .any, hin⟩
theorem enterH_sim {w : World} {phi : Nat → Option Nat} {asx : List AV} {hin : Hp} {vs : Array Value} {n : Nat} (hg : GoodW w) (hgb : ∀ r b, (hin r).isSome = true → phi r = some b → b ∉ goodB) (hpb : ∀ r, (hin r).isSome = true → pbase ≤ r) (hinj : Inj hin phi) (hregs : Regs (ctxE w phi hin) hin)
    (hs : SimL asx (ctxE w phi hin) vs.toList) (hl : vs.size = asx.length) :
    Sim w (fun r => if (hin r).isSome then phi r else none) (min n pbase) (enterH asx hin) (vs ++ Array.replicate (n - vs.size) undef) w phi (ctxE w phi hin).ro where
  os := rfl
  tape := rfl
  output := rfl
  size := Nat.le_refl _
  kept := fun _ _ _ => rfl
  shp := fun b cur e f hb => ⟨cur, hb, rfl⟩
  npb := Nat.min_le_right _ _
  gd := ⟨hg, fun r b h => by split at h; exact hgb r b ‹_› h; cases h⟩
  rob := fun _ hb => hb.1
  inj := fun r r' b h1 h2 h3 h4 => hinj r r' b h1 h2 h3 h4
  liv := fun r c hc => by
    have hr : (hin r).isSome = true := by have h1 : hin r = some c := hc
                                          rw [h1]; rfl
    rcases hregs r c hc with ⟨h1, h2⟩ | ⟨b, cur, e, h1, h2, h3⟩ | ⟨b, o, h0, h1, h2, h3⟩
    · refine .inl ⟨h1, h2, fun _ => ?_⟩
      rw [if_pos hr]; exact h1
    · refine .inr (.inl ⟨b, cur, e, h1, h2, fun hb => hb.2 r hr h1, .inr ⟨hpb r hr, ?_⟩, h3⟩)
      rw [if_pos hr]; exact h1
    · refine .inr (.inr ⟨b, o, h0, h1, h2, h3, fun hb => hb.2 r hr h1, .inr ⟨hpb r hr, ?_⟩⟩)
      rw [if_pos hr]; exact h1
  tms := fun t => by
    simp only [enterH]
    cases hx : asx[t]? with
    | none => simp [SimV]
    | some x =>
      obtain ⟨y, hy, hsy⟩ := hs.get hx
      have hlt : t < vs.size := by
        have := (List.getElem?_eq_some_iff.1 hy).1
        simpa using this
      have hy' : vs[t] = y := by
        have := (List.getElem?_eq_some_iff.1 hy).2
        simpa using this
      have : (vs ++ Array.replicate (n - vs.size) undef).getD t undef = y := by
        simp [Array.getD_eq_getD_getElem?, Array.getElem?_append, hlt, hy']
      rw [this]
      exact hsy
  slots := by simp; omega
/-- What such a function owes at its end: s: names. -/
def DoneH (ts : List Nat) (res : AV) (hin hout : Hp) : Exit → AS → Prop
  | .normal, s | .ret, s => ∃ g : Nat → Nat, resAV s ts = renV g res ∧ (∀ r c, hout r = some c → ∃ c0, s.hp (g r) = some c0 ∧ (c0 = renR g c ∨ (c.2 = [] ∧ c0.2 = []))) ∧ (∀ r, (hin r).isSome = true → g r = r ∧ (hout r).isSome = true) ∧
      (∀ r, (hout r).isSome = true → hin r = none → g r < pbase) ∧ (∀ r r', (hout r).isSome = true → (hout r').isSome = true → g r = g r' → r = r')
  | _, _ => False
/-- What is asked of names and values alone. -/
structure Static (hin : Hp) (res : AV) (hout : Hp) : Prop where
  pb : ∀ r, (hin r).isSome = true → pbase ≤ r
  own : ∀ r c, hout r = some c → ownL false c.2 = true ∧ refsL (fun r => (hout r).isSome) c.2 = true
  res : ownV false res = true ∧ refsV (fun r => (hout r).isSome) res = true
/-- A block that is a region's own is new, if all that was lent is there still. -/
theorem Sim.mine_new {w0 w : World} {mu : Nat → Option Nat} {N : Nat} {s : AS} {tm : Array Value} {phi : Nat → Option Nat} {ro : Nat → Prop} (h : Sim w0 mu N s tm w phi ro) (hall : ∀ r b, mu r = some b → (s.hp r).isSome = true) {q b : Nat} (hq : (s.hp q).isSome = true) (hlt : q < pbase) (hp : phi q = some b) (hm : Mine w0 mu b) : w0.heap.size ≤ b := by
  rcases hm with h1 | ⟨r, hr, hmu⟩
  · exact h1
  exfalso
  have hs := hall r b hmu
  obtain ⟨c, hc⟩ := Option.isSome_iff_exists.1 hs
  have hge : pbase ≤ r := Nat.le_trans (by decide) hr
  have key : phi r = some b := by
    rcases h.liv r c hc with ⟨_, _, k3⟩ | ⟨b', _, _, k1, _, _, k4, _⟩ | ⟨b', _, _, k1, _, _, _, k4⟩
    · rw [k3 hge] at hmu; cases hmu
    · rcases k4 with k4 | k4
      · omega
      · rw [k4.2] at hmu; cases hmu; exact k1
    · rcases k4 with k4 | k4
      · omega
      · rw [k4.2] at hmu; cases hmu; exact k1
  have := h.inj q r b hq hs hp key
  omega
theorem specH_of {f : FuncId} {fn : Func} {code : Code} {ac : ACode} {ts : List Nat} {asx : List AV} {hin hout : Hp} {res : AV} (hf : P.funcs[f]? = some fn) (hb : fn.body = some code) (hc : ccode P (min fn.ntmps pbase) code = some ac) (hr : resTmps fn = some ts)
    (hst : Static hin res hout) (h : AW P (min fn.ntmps pbase) ac (enterH asx hin) (DoneH ts res hin hout)) : SpH P f asx hin res hout := by
  intro w vs phi hg hgb hinj hregs hs hl
  refine calls_of_wp hf hb (wp_mono (h code hc w _ _ w ⟨rfl, _, _, enterH_sim hg hgb hst.pb hinj hregs hs hl⟩) fun e a' w' hA => ?_)
  obtain ⟨s', h1, hf', phi', ro, hS⟩ := hA
  have fin : (∃ g : Nat → Nat, resAV s' ts = renV g res ∧ (∀ r c, hout r = some c → ∃ c0, s'.hp (g r) = some c0 ∧ (c0 = renR g c ∨ (c.2 = [] ∧ c0.2 = []))) ∧ (∀ r, (hin r).isSome = true → g r = r ∧ (hout r).isSome = true) ∧
      (∀ r, (hout r).isSome = true → hin r = none → g r < pbase) ∧ (∀ r r', (hout r).isSome = true → (hout r').isSome = true → g r = g r' → r = r')) → a'.defers = [] ∧ ∃ v, (results fn a'.tmps).run P w' = .ok v w' ∧
      ∃ v' phi', Ending.returned v = .returned v' ∧ w'.os = w.os ∧ w'.tape = w.tape ∧ w'.output = w.output ∧ w.heap.size ≤ w'.heap.size ∧
      (∀ r, (hin r).isSome = true → phi' r = phi r) ∧ (∀ b, b < w.heap.size → (∀ r, (hin r).isSome = true → phi r ≠ some b) → w'.heap[b]? = w.heap[b]?) ∧
      (∀ (b : Nat) (cur : Array Value) (e : TypeId) (f : Nat × Nat), w.heap[b]? = some (.cells cur e f) → ∃ cur' : Array Value, w'.heap[b]? = some (.cells cur' e f) ∧ cur'.size = cur.size) ∧
      Inj hout phi' ∧ (∀ r b, (hout r).isSome = true → hin r = none → phi' r = some b → w.heap.size ≤ b) ∧ Regs (ctxX w w' phi' hout) hout ∧ SimV res (ctxX w w' phi' hout) v' := by
    rintro ⟨g, hres, hhas, hstay, hfresh, hgi⟩
    have hlv : ∀ r, (hout r).isSome = true → (s'.hp (g r)).isSome = true := by
      intro r hr
      obtain ⟨c, hc⟩ := Option.isSome_iff_exists.1 hr
      obtain ⟨c0, h1, _⟩ := hhas r c hc
      rw [h1]; rfl
    have hall : ∀ r b, (if (hin r).isSome = true then phi r else none) = some b → (s'.hp r).isSome = true := by
      intro r b hb
      split at hb
      · rename_i hi
        have := hlv r (hstay r hi).2
        rw [(hstay r hi).1] at this
        exact this
      · cases hb
    have hvt : SimV (resAV s' ts) (ctx w w' ro phi' s') (resVal a'.tmps ts) := simv_res hS ts
    rw [hres] at hvt
    refine ⟨hf', _, run_results hr a'.tmps w' P, _, fun r => phi' (g r), rfl, hS.os, hS.tape, hS.output, hS.size, fun r hr => ?_, fun b hb hne => hS.kept b hb fun r hr => ?_, hS.shp, ?_, ?_, ?_, ?_⟩
    · obtain ⟨e1, e2⟩ := hstay r hr
      obtain ⟨c, hc⟩ := Option.isSome_iff_exists.1 e2
      obtain ⟨c0, hh, _⟩ := hhas r c hc
      rw [e1] at hh
      show phi' (g r) = phi r
      rw [e1]
      rcases hS.liv r _ hh with ⟨k1, _, k3⟩ | ⟨b, cur, e', k1, _, _, k4, _⟩ | ⟨b, o, _, k1, _, _, _, k4⟩
      case inr.inr =>
        rcases k4 with k4 | k4
        · have := hst.pb r hr; omega
        · have k5 := k4.2
          simp only [hr, if_true] at k5
          rw [k1, k5]
      · have k5 := k3 (hst.pb r hr)
        simp only [hr, if_true] at k5
        rw [k1, k5]
      · rcases k4 with k4 | k4
        · have := hst.pb r hr; omega
        · have k5 := k4.2
          simp only [hr, if_true] at k5
          rw [k1, k5]
    · split at hr
      · rename_i hrs; exact hne r hrs hr
      · cases hr
    · intro r r' b h1 h2 h3 h4
      exact hgi r r' h1 h2 (hS.inj _ _ b (hlv r h1) (hlv r' h2) h3 h4)
    · intro r b h1 h2 h3
      obtain ⟨c, hc⟩ := Option.isSome_iff_exists.1 h1
      have hlt := hfresh r h1 h2
      obtain ⟨c0, hh0, _⟩ := hhas r c hc
      rcases hS.liv _ _ hh0 with ⟨k1, _⟩ | ⟨b', _, _, k1, _, _, k4, _⟩ | ⟨b', _, _, k1, _, _, _, k4⟩
      · have h3' : phi' (g r) = some b := h3
        rw [k1] at h3'; cases h3'
      case inr.inr =>
        have h3' : phi' (g r) = some b := h3
        rw [k1] at h3'; cases h3'
        rcases k4 with k4 | k4
        · exact hS.mine_new hall (by rw [hh0]; rfl) k4.1 k1 k4.2
        · omega
      · have h3' : phi' (g r) = some b := h3
        rw [k1] at h3'; cases h3'
        rcases k4 with k4 | k4
        · exact hS.mine_new hall (by rw [hh0]; rfl) k4.1 k1 k4.2
        · omega
    · intro r c hc
      obtain ⟨ho, hrf⟩ := hst.own r c hc
      obtain ⟨c0, hh0, hc0⟩ := hhas r c hc
      rcases hS.liv _ _ hh0 with ⟨k1, k2, _⟩ | ⟨b, cur, e', k1, k2, _, _, k5⟩ | ⟨b, o, h0, k1, k2, k3, _⟩
      case inr.inr =>
        rcases hc0 with rfl | hc0
        · exact .inr (.inr ⟨b, o, renR_ob h0, k1, k2, k3⟩)
        · rw [h0] at hc0; simp at hc0
      · refine .inl ⟨k1, ?_⟩
        rcases hc0 with rfl | hc0
        · obtain ⟨fl, cs⟩ := c
          simp only [renR, renL_map] at k2
          exact List.map_eq_nil_iff.1 k2
        · exact hc0.1
      · rcases hc0 with rfl | hc0
        case inr => exact .inr (.inl ⟨b, cur, e', k1, k2, by unfold SimR; rw [hc0.1]; simp [SimL]⟩)
        refine .inr (.inl ?_)
        exact ⟨b, cur, e', k1, k2, simR_in (q := false) (C := ctxX w w' (fun r => phi' (g r)) hout) (D := ctx w w' ro phi' s') rfl (fun e => by cases e) (fun _ => rfl) (fun _ r _ => rfl) ho hrf k5⟩
    · exact simV_in false g (ctxX w w' (fun r => phi' (g r)) hout) (ctx w w' ro phi' s') rfl (fun e => by cases e) (fun _ => rfl) (fun _ r _ => rfl) res _ hst.res.1 hst.res.2 hvt
  cases e with
  | normal => exact fin h1
  | ret => exact fin h1
  | exit id => exact h1.elim
  | goto l => exact h1.elim
  | panic c => exact h1.elim
  | outgrown => exact h1.elim
/-- With an open end. -/
def DoneX (ts : List Nat) {ι : Type} (ok : ι → Prop) (res : ι → AV) (hin : Hp) (hout : ι → Hp) (e : Exit) (s : AS) : Prop := ∃ i, ok i ∧ DoneH ts (res i) hin (hout i) e s
theorem specX_of {f : FuncId} {fn : Func} {code : Code} {ac : ACode} {ts : List Nat} {asx : List AV} {hin : Hp} {ι : Type} {ok : ι → Prop} {res : ι → AV} {hout : ι → Hp} (hf : P.funcs[f]? = some fn) (hb : fn.body = some code) (hc : ccode P (min fn.ntmps pbase) code = some ac) (hr : resTmps fn = some ts)
    (hpb : ∀ r, (hin r).isSome = true → pbase ≤ r) (hsta : ∀ i, ok i → Static hin (res i) (hout i)) (h : AW P (min fn.ntmps pbase) ac (enterH asx hin) (DoneX ts ok res hin hout)) : SpX P f asx hin ok res hout := by
  intro w vs phi hg hgb hinj hregs hs hl
  refine calls_of_wp hf hb (wp_mono (h code hc w _ _ w ⟨rfl, _, _, enterH_sim hg hgb hpb hinj hregs hs hl⟩) fun e a' w' hA => ?_)
  obtain ⟨s', h0, hf', phi', ro, hS⟩ := hA
  obtain ⟨i, hi, h1⟩ : ∃ i, ok i ∧ DoneH ts (res i) hin (hout i) e s' := h0
  have hst := hsta i hi
  clear h hsta
  have fin : (∃ g : Nat → Nat, resAV s' ts = renV g (res i) ∧ (∀ r c, hout i r = some c → ∃ c0, s'.hp (g r) = some c0 ∧ (c0 = renR g c ∨ (c.2 = [] ∧ c0.2 = []))) ∧ (∀ r, (hin r).isSome = true → g r = r ∧ (hout i r).isSome = true) ∧
      (∀ r, (hout i r).isSome = true → hin r = none → g r < pbase) ∧ (∀ r r', (hout i r).isSome = true → (hout i r').isSome = true → g r = g r' → r = r')) → a'.defers = [] ∧ ∃ v, (results fn a'.tmps).run P w' = .ok v w' ∧ ∃ i, ok i ∧
      ∃ v' phi', Ending.returned v = .returned v' ∧ w'.os = w.os ∧ w'.tape = w.tape ∧ w'.output = w.output ∧ w.heap.size ≤ w'.heap.size ∧
      (∀ r, (hin r).isSome = true → phi' r = phi r) ∧ (∀ b, b < w.heap.size → (∀ r, (hin r).isSome = true → phi r ≠ some b) → w'.heap[b]? = w.heap[b]?) ∧
      (∀ (b : Nat) (cur : Array Value) (e : TypeId) (f : Nat × Nat), w.heap[b]? = some (.cells cur e f) → ∃ cur' : Array Value, w'.heap[b]? = some (.cells cur' e f) ∧ cur'.size = cur.size) ∧
      Inj (hout i) phi' ∧ (∀ r b, (hout i r).isSome = true → hin r = none → phi' r = some b → w.heap.size ≤ b) ∧ Regs (ctxX w w' phi' (hout i)) (hout i) ∧ SimV (res i) (ctxX w w' phi' (hout i)) v' := by
    rintro ⟨g, hres, hhas, hstay, hfresh, hgi⟩
    have hlv : ∀ r, (hout i r).isSome = true → (s'.hp (g r)).isSome = true := by
      intro r hr
      obtain ⟨c, hc⟩ := Option.isSome_iff_exists.1 hr
      obtain ⟨c0, h1, _⟩ := hhas r c hc
      rw [h1]; rfl
    have hall : ∀ r b, (if (hin r).isSome = true then phi r else none) = some b → (s'.hp r).isSome = true := by
      intro r b hb
      split at hb
      · rename_i hi
        have := hlv r (hstay r hi).2
        rw [(hstay r hi).1] at this
        exact this
      · cases hb
    have hvt : SimV (resAV s' ts) (ctx w w' ro phi' s') (resVal a'.tmps ts) := simv_res hS ts
    rw [hres] at hvt
    refine ⟨hf', _, run_results hr a'.tmps w' P, i, hi, _, fun r => phi' (g r), rfl, hS.os, hS.tape, hS.output, hS.size, fun r hr => ?_, fun b hb hne => hS.kept b hb fun r hr => ?_, hS.shp, ?_, ?_, ?_, ?_⟩
    · obtain ⟨e1, e2⟩ := hstay r hr
      obtain ⟨c, hc⟩ := Option.isSome_iff_exists.1 e2
      obtain ⟨c0, hh, _⟩ := hhas r c hc
      rw [e1] at hh
      show phi' (g r) = phi r
      rw [e1]
      rcases hS.liv r _ hh with ⟨k1, _, k3⟩ | ⟨b, cur, e', k1, _, _, k4, _⟩ | ⟨b, o, _, k1, _, _, _, k4⟩
      case inr.inr =>
        rcases k4 with k4 | k4
        · have := hst.pb r hr; omega
        · have k5 := k4.2
          simp only [hr, if_true] at k5
          rw [k1, k5]
      · have k5 := k3 (hst.pb r hr)
        simp only [hr, if_true] at k5
        rw [k1, k5]
      · rcases k4 with k4 | k4
        · have := hst.pb r hr; omega
        · have k5 := k4.2
          simp only [hr, if_true] at k5
          rw [k1, k5]
    · split at hr
      · rename_i hrs; exact hne r hrs hr
      · cases hr
    · intro r r' b h1 h2 h3 h4
      exact hgi r r' h1 h2 (hS.inj _ _ b (hlv r h1) (hlv r' h2) h3 h4)
    · intro r b h1 h2 h3
      obtain ⟨c, hc⟩ := Option.isSome_iff_exists.1 h1
      have hlt := hfresh r h1 h2
      obtain ⟨c0, hh0, _⟩ := hhas r c hc
      rcases hS.liv _ _ hh0 with ⟨k1, _⟩ | ⟨b', _, _, k1, _, _, k4, _⟩ | ⟨b', _, _, k1, _, _, _, k4⟩
      · have h3' : phi' (g r) = some b := h3
        rw [k1] at h3'; cases h3'
      case inr.inr =>
        have h3' : phi' (g r) = some b := h3
        rw [k1] at h3'; cases h3'
        rcases k4 with k4 | k4
        · exact hS.mine_new hall (by rw [hh0]; rfl) k4.1 k1 k4.2
        · omega
      · have h3' : phi' (g r) = some b := h3
        rw [k1] at h3'; cases h3'
        rcases k4 with k4 | k4
        · exact hS.mine_new hall (by rw [hh0]; rfl) k4.1 k1 k4.2
        · omega
    · intro r c hc
      obtain ⟨ho, hrf⟩ := hst.own r c hc
      obtain ⟨c0, hh0, hc0⟩ := hhas r c hc
      rcases hS.liv _ _ hh0 with ⟨k1, k2, _⟩ | ⟨b, cur, e', k1, k2, _, _, k5⟩ | ⟨b, o, h0, k1, k2, k3, _⟩
      case inr.inr =>
        rcases hc0 with rfl | hc0
        · exact .inr (.inr ⟨b, o, renR_ob h0, k1, k2, k3⟩)
        · rw [h0] at hc0; simp at hc0
      · refine .inl ⟨k1, ?_⟩
        rcases hc0 with rfl | hc0
        · obtain ⟨fl, cs⟩ := c
          simp only [renR, renL_map] at k2
          exact List.map_eq_nil_iff.1 k2
        · exact hc0.1
      · rcases hc0 with rfl | hc0
        case inr => exact .inr (.inl ⟨b, cur, e', k1, k2, by unfold SimR; rw [hc0.1]; simp [SimL]⟩)
        refine .inr (.inl ?_)
        exact ⟨b, cur, e', k1, k2, simR_in (q := false) (C := ctxX w w' (fun r => phi' (g r)) (hout i)) (D := ctx w w' ro phi' s') rfl (fun e => by cases e) (fun _ => rfl) (fun _ r _ => rfl) ho hrf k5⟩
    · exact simV_in false g (ctxX w w' (fun r => phi' (g r)) (hout i)) (ctx w w' ro phi' s') rfl (fun e => by cases e) (fun _ => rfl) (fun _ r _ => rfl) (res i) _ hst.res.1 hst.res.2 hvt
  cases e with
  | normal => exact fin h1
  | ret => exact fin h1
  | exit id => exact h1.elim
  | goto l => exact h1.elim
  | panic c => exact h1.elim
  | outgrown => exact h1.elim
theorem ret_doneh {s : AS} {ts : List Nat} {res : AV} {hin hout : Hp} (g : Nat → Nat) (h1 : resAV s ts = renV g res) (h2 : ∀ r c, hout r = some c → ∃ c0, s.hp (g r) = some c0 ∧ (c0 = renR g c ∨ (c.2 = [] ∧ c0.2 = []))) (h3 : ∀ r, (hin r).isSome = true → g r = r ∧ (hout r).isSome = true)
    (h4 : ∀ r, (hout r).isSome = true → hin r = none → g r < pbase) (h5 : ∀ r r', (hout r).isSome = true → (hout r').isSome = true → g r = g r' → r = r') : DoneH ts res hin hout .ret s := ⟨g, h1, h2, h3, h4, h5⟩
/-- A call that is lent regions. -/
theorem m_callh {s : AS} {K : AS → Prop} {d : Option Nat} {f : FuncId} {args : List Opd} {asx : List AV} {hin hout hp' : Hp} {res : AV} (g : Nat → Nat) (hs : SpH P f asx hin res hout) (ha : LendsH s.hp g hin (args.map s.ev) asx) (hL : Lent s g hin hout hp' res)
    (k : K (AS.put ⟨s.tm, hp'⟩ d (renV g res))) : aop1 P true ⟨d, .call f args, none⟩ s K := .inr (.inr (.inl ⟨rfl, asx, hin, Unit, fun _ => True, fun _ => res, fun _ => hout, g, fun _ => hp', hs.toX, ha, ⟨(), trivial⟩, fun _ _ => ⟨hL, k⟩⟩))
/-- One with an open end. -/
theorem m_callx {s : AS} {K : AS → Prop} {d : Option Nat} {f : FuncId} {args : List Opd} {asx : List AV} {hin : Hp} {ι : Type} {ok : ι → Prop} {res : ι → AV} {hout hp' : ι → Hp} (g : Nat → Nat) (hs : SpX P f asx hin ok res hout) (ha : LendsH s.hp g hin (args.map s.ev) asx) (hne : ∃ i, ok i)
    (k : ∀ i, ok i → Lent s g hin (hout i) (hp' i) (res i) ∧ K (AS.put ⟨s.tm, hp' i⟩ d (renV g (res i)))) : aop1 P true ⟨d, .call f args, none⟩ s K := .inr (.inr (.inl ⟨rfl, asx, hin, ι, ok, res, hout, g, hp', hs, ha, hne, k⟩))
theorem entry_leE (w : World) (phi : Nat → Option Nat) : Ctx.Le { heap := w.heap, ro := fun b => b < w.heap.size, base := w.heap.size, phi := fun _ => none, live := fun _ => false, loc := false } (ctxE w phi fun _ => none) :=
  ⟨fun b hb => ⟨⟨hb, fun r hr => by simp at hr⟩, rfl⟩, Nat.le_refl _, fun e => by simp at e, fun e => by simp at e, fun e => by simp at e⟩
/-- Nothing is lent but to be read. -/
theorem lendsH_none {hp : Hp} {f : Nat → Nat} {xs asx : List AV} (h : Lends hp xs asx) : LendsH hp f (fun _ => none) xs asx := by
  intro w0 mu N tm w phi ro vs hS hs hl
  obtain ⟨h1, h2⟩ := h w0 mu N tm w phi ro vs hS hs hl
  exact ⟨SimL.mono _ _ _ _ (entry_leE w _) h1, h2⟩
/-- A function that is lent nothing, its result read asx new memory. -/
theorem spH_sp {f : FuncId} {asx : List AV} {res res' : AV} {hout : Hp} (h : SpH P f asx (fun _ => none) res hout)
    (hr : ∀ w w' phi v, (∀ r b, (hout r).isSome = true → phi r = some b → w.heap.size ≤ b) → Regs (ctxX w w' phi hout) hout → SimV res (ctxX w w' phi hout) v → SimV res' (fresh w w') v) : Sp P f asx res' := by
  intro w vs hg hent
  refine (h w vs (fun _ => none) hg (fun r b hr => by simp at hr) (fun r r' b hr => by simp at hr) (fun r c hc => by simp at hc) (SimL.mono _ _ _ _ (entry_leE w _) hent.1) (by simpa using hent.2)).mono fun x w' hpost => ?_
  obtain ⟨v, phi', rfl, hos, htape, hout', hsize, _, hkept, _, _, hnew, hregs, hres⟩ := hpost
  exact ⟨v, rfl, ⟨hos, htape, hout', hsize, fun b hb => hkept b hb fun r hr => by simp at hr⟩, hr w w' phi' v (fun r b h1 h2 => hnew r b h1 rfl h2) hregs hres⟩
end Go.Am
namespace Go.Am
variable [Go.Am.CodeBlk]
variable {P : Program} {own : Bool} {N : Nat} {s : AS} {K : AS → Prop} {d : Option Nat}
mutual
/-- Read under other names. -/
theorem simV_ren (f : Nat → Nat) (C D : Ctx) (h1 : C.heap = D.heap) (h2 : C.ro = D.ro) (hb : C.base = D.base) (h3 : C.loc = D.loc) (h4 : ∀ r, C.live r = true → C.phi r = D.phi (f r)) :
    ∀ (x : AV) (y : Value), refsV C.live x = true → SimV (renV f x) D y → SimV x C y
  | .any, _, _, _ => by simp [SimV]
  | .v x, _, _, h => by simpa [SimV, renV] using h
  | .ro fr z cs n, y, _, h => by
    simp only [SimV, renV] at h ⊢
    rw [h1, h2, hb]
    refine h.imp_right fun ⟨b, o, cap, cur, e, fz, k1, k2, k3, k4, k5, k6, k7⟩ => ⟨b, o, cap, cur, e, fz, k1, k2, k3, k4, k5, k6, ?_⟩
    exact SimL.mono _ _ _ _ ⟨fun b hb => ⟨by rw [show C.out.ro = C.ro from rfl, h2]; exact hb, by show C.heap[b]? = D.heap[b]?; rw [h1]⟩, by show C.base ≤ D.base; omega, fun e => by simp [Ctx.out] at e, fun e => by simp [Ctx.out] at e, fun e => by simp [Ctx.out] at e⟩ k7
  | .rp cs, y, _, h => by
    simp only [SimV, renV] at h ⊢
    rw [h1, h2]
    obtain ⟨b, o, cur, e, fz, k1, k2, k3, k4⟩ := h
    refine ⟨b, o, cur, e, fz, k1, k2, k3, ?_⟩
    exact SimL.mono _ _ _ _ ⟨fun b hb => ⟨by rw [show C.out.ro = C.ro from rfl, h2]; exact hb, by show C.heap[b]? = D.heap[b]?; rw [h1]⟩, by show C.base ≤ D.base; omega, fun e => by simp [Ctx.out] at e, fun e => by simp [Ctx.out] at e, fun e => by simp [Ctx.out] at e⟩ k4
  | .sl r z off n, y, hr, h => by
    simp only [SimV, renV, refsV] at h hr ⊢
    obtain ⟨k1, k2, k3⟩ := h
    refine ⟨h3.trans k1, hr, ?_⟩
    rw [h4 r hr, h1]
    exact k3
  | .pt r off, y, hr, h => by
    simp only [SimV, renV, refsV] at h hr ⊢
    obtain ⟨k1, k2, b, k3, k4⟩ := h
    exact ⟨h3.trans k1, hr, b, by rw [h4 r hr]; exact k3, by rw [h1]; exact k4⟩
  | .mp r, y, hr, h => by
    simp only [SimV, renV, refsV] at h hr ⊢
    obtain ⟨k1, k2, b, k3, k4⟩ := h
    exact ⟨h3.trans k1, hr, b, by rw [h4 r hr]; exact k3, k4⟩
  | .itr r, y, hr, h => by
    simp only [SimV, renV, refsV] at h hr ⊢
    obtain ⟨k1, k2, b, k3, k4⟩ := h
    exact ⟨h3.trans k1, hr, b, by rw [h4 r hr]; exact k3, k4⟩
  | .ob o, y, _, h => by simp [SimV, renV] at h
  | .fn g l k, y, hr, h => by
    simp only [SimV, renV, refsV] at h hr ⊢
    obtain ⟨a, b, k1, k2, k3, k4⟩ := h
    rw [renL_map, List.length_map] at k3
    exact ⟨a, b, k1, k2, k3, simL_ren f C D h1 h2 hb h3 h4 l _ hr k4⟩
  | .fu z cs n, y, _, h => by
    simp only [SimV, renV] at h ⊢
    rw [h1, h2]
    refine h.imp_right fun ⟨b, o, cur, e, fz, k1, k2, k3, k4, k5⟩ => ⟨b, o, cur, e, fz, k1, k2, k3, k4, ?_⟩
    exact SimL.mono _ _ _ _ ⟨fun b hb => ⟨by rw [show C.out.ro = C.ro from rfl, h2]; exact hb, by show C.heap[b]? = D.heap[b]?; rw [h1]⟩, by show C.base ≤ D.base; omega, fun e => by simp [Ctx.out] at e, fun e => by simp [Ctx.out] at e, fun e => by simp [Ctx.out] at e⟩ k5
  | .mit r m bm es ck, y, hr, h => by
    simp only [SimV, renV, refsV, Bool.and_eq_true] at h hr ⊢
    obtain ⟨k1, k2, ⟨b, k3, k4⟩, k5⟩ := h
    refine ⟨h3.trans k1, hr.1, ⟨b, by rw [h4 r hr.1]; exact k3, k4⟩, ?_⟩
    rcases k5 with ⟨q, hq, k6, k7⟩ | ⟨hm, k6, k7⟩
    · obtain ⟨q0, rfl, rfl⟩ := Option.map_eq_some_iff.1 hq
      have hl : C.live q0 = true := by simpa using hr.2
      exact .inl ⟨q0, rfl, hl, by rw [h4 q0 hl]; exact k7⟩
    · exact .inr ⟨by simpa using hm, by rw [h2]; exact k6, by rw [h1]; exact k7⟩
  | .rmp fr es clock, y, _, h => by
    simp only [SimV, renV] at h ⊢
    obtain ⟨b, k1, k2, k3, k4⟩ := h
    exact ⟨b, k1, by rw [h1]; exact k2, by rw [h2]; exact k3, fun e => by rw [hb]; exact k4 e⟩
  | .agg l, y, hr, h => by
    simp only [SimV, renV, refsV] at h hr ⊢
    obtain ⟨a, k1, k2, k3⟩ := h
    rw [renL_map, List.length_map] at k2
    exact ⟨a, k1, k2, simL_ren f C D h1 h2 hb h3 h4 l _ hr k3⟩
  | .tup l, y, hr, h => by
    simp only [SimV, renV, refsV] at h hr ⊢
    obtain ⟨a, k1, k2, k3⟩ := h
    rw [renL_map, List.length_map] at k2
    exact ⟨a, k1, k2, simL_ren f C D h1 h2 hb h3 h4 l _ hr k3⟩
theorem simL_ren (f : Nat → Nat) (C D : Ctx) (h1 : C.heap = D.heap) (h2 : C.ro = D.ro) (hb : C.base = D.base) (h3 : C.loc = D.loc) (h4 : ∀ r, C.live r = true → C.phi r = D.phi (f r)) :
    ∀ (l : List AV) (ys : List Value), refsL C.live l = true → SimL (renL f l) D ys → SimL l C ys
  | [], _, _, _ => by simp [SimL]
  | _ :: _, [], _, h => by simp [SimL, renL] at h
  | a :: l, y :: ys, hr, h => by
    simp only [SimL, renL, refsL, Bool.and_eq_true] at h hr ⊢
    exact ⟨simV_ren f C D h1 h2 hb h3 h4 a y hr.1 h.1, simL_ren f C D h1 h2 hb h3 h4 l ys hr.2 h.2⟩
end
theorem simL_out_any (C D : Ctx) (h1 : C.heap = D.heap) (h2 : C.ro = D.ro) (hb : C.base = D.base) (l : List AV) (ys : List Value) (h : SimL l C.out ys) : SimL l D.out ys :=
  SimL.mono _ _ _ _ ⟨fun b hb' => ⟨by rw [show D.out.ro = D.ro from rfl, ← h2]; exact hb', by show D.heap[b]? = C.heap[b]?; rw [h1]⟩, by show D.base ≤ C.base; omega, fun e => by simp [Ctx.out] at e, fun e => by simp [Ctx.out] at e, fun e => by simp [Ctx.out] at e⟩ h
/-- A region's cells under other names; one whose cells lead nowhere may be told asx one whose cells may. -/
def cellsRen (f : Nat → Nat) (c c' : Bool × List AV) : Prop := (c'.1 = true ∧ c = (true, c'.2)) ∨ (c'.1 = false ∧ (c = (false, renL f c'.2) ∨ (c'.2 = [] ∧ c.2 = []) ∨ (c = (true, c'.2) ∧ c'.2.all plainV = true)))
/-- THE RULE OF FORGETTING: the state s' tells no more than s, under the names f. -/
theorem weak_ren {s s' : AS} (f : Nat → Nat) (htm : ∀ t, s'.tm t = .any ∨ s.tm t = renV f (s'.tm t)) (hhp : ∀ r c', s'.hp r = some c' → ∃ c, s.hp (f r) = some c ∧ cellsRen f c c')
    (hinj : ∀ r r', (s'.hp r).isSome = true → (s'.hp r').isSome = true → f r = f r' → r = r') (hpb : ∀ r, (s'.hp r).isSome = true → (r < pbase ∧ f r < pbase) ∨ (pbase ≤ r ∧ f r = r))
    (href : ∀ t, refsV (fun r => (s'.hp r).isSome) (s'.tm t) = true) (hrefh : ∀ r cs, s'.hp r = some (false, cs) → refsL (fun r => (s'.hp r).isSome) cs = true) : Weak s s' := by
  intro w0 mu N a w hS
  obtain ⟨hf, phi, ro, hS⟩ := hS
  have hlive : ∀ r, (s'.hp r).isSome = true → (s.hp (f r)).isSome = true := by
    intro r hr
    obtain ⟨c, hc⟩ := Option.isSome_iff_exists.1 hr
    obtain ⟨c0, h1, _⟩ := hhp r c hc
    rw [h1]; rfl
  refine ⟨hf, fun r => phi (f r), ro, { hS with
    inj := fun r r' b h1 h2 h3 h4 => hinj r r' h1 h2 (hS.inj _ _ b (hlive r h1) (hlive r' h2) h3 h4)
    liv := fun r c hc => ?_
    tms := fun t => ?_ }⟩
  · obtain ⟨c0, h1, h2⟩ := hhp r c hc
    have hp := hpb r (by rw [hc]; rfl)
    rcases hS.liv _ _ h1 with ⟨k1, k2, k3⟩ | ⟨b, cur, e, k1, k2, k3, k4, k5⟩ | ⟨b, o, rfl, k1, k2, k0, k3, k4⟩
    case inr.inr =>
      refine .inr (.inr ⟨b, o, ?_, k1, k2, k0, k3, ?_⟩)
      · obtain ⟨fl, cs⟩ := c
        rcases h2 with ⟨h3, h4⟩ | ⟨h3, h4⟩
        · simp only at h3 h4
          rw [h3]; exact h4.symm
        · simp only at h3
          rcases h4 with h4 | ⟨_, h4⟩ | ⟨h4, h5⟩
          · cases h4
          · simp at h4
          · simp only [Prod.mk.injEq, true_and] at h4
            rw [← h4] at h5
            simp [plainV] at h5
      · rcases hp with ⟨h3, h4⟩ | ⟨h3, h4⟩
        · rcases k4 with k4 | k4
          · exact .inl ⟨h3, k4.2⟩
          · omega
        · rcases k4 with k4 | k4
          · omega
          · exact .inr ⟨h3, by rw [← h4]; exact k4.2⟩
    · refine .inl ⟨k1, ?_, fun hge => ?_⟩
      · rcases h2 with ⟨_, rfl⟩ | ⟨_, rfl | ⟨h3, _⟩ | ⟨rfl, _⟩⟩
        · exact k2
        · simp only [renL_map] at k2
          exact List.map_eq_nil_iff.1 k2
        · exact h3
        · exact k2
      · rcases hp with ⟨h3, _⟩ | ⟨_, h3⟩
        · omega
        · rw [h3] at k3; exact k3 hge
    · refine .inr (.inl ⟨b, cur, e, k1, k2, k3, ?_, ?_⟩)
      · rcases hp with ⟨h3, h4⟩ | ⟨h3, h4⟩
        · rcases k4 with k4 | k4
          · exact .inl ⟨h3, k4.2⟩
          · omega
        · rcases k4 with k4 | k4
          · omega
          · exact .inr ⟨h3, by rw [← h4]; exact k4.2⟩
      · obtain ⟨fl, cs⟩ := c
        rcases h2 with ⟨h3, h4⟩ | ⟨h3, h4⟩
        · simp only at h3 h4
          subst h3; subst h4
          simp only [SimR, if_true] at k5 ⊢
          exact simL_out_any (ctx w0 w ro phi s) (ctx w0 w ro (fun r => phi (f r)) s') rfl rfl rfl _ _ k5
        · simp only at h3 h4
          subst h3
          simp only [SimR, Bool.false_eq_true, if_false]
          rcases h4 with rfl | ⟨h5, h6⟩ | ⟨rfl, h5⟩
          · simp only [SimR, Bool.false_eq_true, if_false] at k5
            exact simL_ren f (ctx w0 w ro (fun r => phi (f r)) s') (ctx w0 w ro phi s) rfl rfl rfl rfl (fun _ _ => rfl) cs _ (hrefh r cs hc) k5
          · rw [h5]; simp [SimL]
          · simp only [SimR, if_true] at k5
            exact simL_allv h5 k5
  · rcases htm t with h1 | h1
    · rw [h1]; simp [SimV]
    · have h2 := hS.tms t
      rw [h1] at h2
      exact simV_ren f (ctx w0 w ro (fun r => phi (f r)) s') (ctx w0 w ro phi s) rfl rfl rfl rfl (fun _ _ => rfl) _ _ (href t) h2
/-- The rows of a matrix, seen from the outer slice: regions b, b + 1, .. -/
def rowsC (b : Nat) : List (List Int) → List AV
  | [] => []
  | l :: rs => .sl b 1 0 l.length :: rowsC (b + 1) rs
theorem rowsC_len (b : Nat) (rows : List (List Int)) : (rowsC b rows).length = rows.length := by
  induction rows generalizing b with
  | nil => rfl
  | cons l rs ih => simp [rowsC, ih]
theorem rowsC_get (b : Nat) (rows : List (List Int)) (j : Nat) (hj : j < rows.length) : (rowsC b rows)[j]? = some (.sl (b + j) 1 0 (rows.getD j []).length) := by
  induction rows generalizing b j with
  | nil => simp at hj
  | cons l rs ih =>
    cases j with
    | zero => simp [rowsC]
    | succ j =>
      simp only [rowsC, List.getElem?_cons_succ]
      rw [ih (b + 1) j (by simpa using hj)]
      simp; omega
theorem rowsC_snoc (b : Nat) (rows : List (List Int)) (l : List Int) : rowsC b (rows ++ [l]) = rowsC b rows ++ [.sl (b + rows.length) 1 0 l.length] := by
  induction rows generalizing b with
  | nil => simp [rowsC]
  | cons r rs ih => simp only [List.cons_append, rowsC, ih]; congr 4; simp; omega
theorem rowsC_kill (r b : Nat) (rows : List (List Int)) (h : r < b) : killL r (rowsC b rows) = rowsC b rows := by
  induction rows generalizing b with
  | nil => rfl
  | cons l rs ih =>
    have : ¬ b = r := by omega
    simp only [rowsC, killL, killV, this, if_false]
    rw [ih (b + 1) (by omega)]
theorem rowsC_ren (f : Nat → Nat) (b b' : Nat) (rows : List (List Int)) (h : ∀ j, j < rows.length → f (b + j) = b' + j) : renL f (rowsC b rows) = rowsC b' rows := by
  induction rows generalizing b b' with
  | nil => rfl
  | cons l rs ih =>
    simp only [rowsC, renL, renV]
    have h0 := h 0 (by simp)
    rw [Nat.add_zero, Nat.add_zero] at h0
    rw [h0, ih (b + 1) (b' + 1) fun j hj => by
      have := h (j + 1) (by simpa using hj)
      rw [show b + 1 + j = b + (j + 1) by omega, this]; omega]
theorem rowsC_refs (keep : Nat → Bool) (b : Nat) (rows : List (List Int)) (h : ∀ j, j < rows.length → keep (b + j) = true) : refsL keep (rowsC b rows) = true := by
  induction rows generalizing b with
  | nil => rfl
  | cons l rs ih =>
    simp only [rowsC, refsL, refsV, Bool.and_eq_true]
    refine ⟨by have := h 0 (by simp); simpa using this, ih (b + 1) fun j hj => ?_⟩
    have := h (j + 1) (by simpa using hj)
    rw [show b + 1 + j = b + (j + 1) by omega]; exact this
theorem rowsC_own (b : Nat) (rows : List (List Int)) (q : Bool) : ownL q (rowsC b rows) = true := by
  induction rows generalizing b with
  | nil => rfl
  | cons l rs ih => simp only [rowsC, ownL, ownV, Bool.true_and]; exact ih _
/-- Regions: those of h, and the rows. -/
def famH (h : Hp) (b : Nat) (rows : List (List Int)) : Hp := fun r => match h r with
  | some c => some c
  | none => if b ≤ r ∧ r < b + rows.length then some (true, (rows.getD (r - b) []).map AV.i) else none
theorem famH_row {h : Hp} {b : Nat} {rows : List (List Int)} {j : Nat} (hn : h (b + j) = none) (hj : j < rows.length) : famH h b rows (b + j) = some (true, (rows.getD j []).map AV.i) := by
  unfold famH
  rw [hn]
  simp only
  rw [if_pos ⟨by omega, by omega⟩, Nat.add_sub_cancel_left]
theorem famH_some {h : Hp} {b : Nat} {rows : List (List Int)} {r : Nat} {c : Bool × List AV} (e : famH h b rows r = some c) : h r = some c ∨ (h r = none ∧ ∃ j, j < rows.length ∧ r = b + j ∧ c = (true, (rows.getD j []).map AV.i)) := by
  unfold famH at e
  cases hr : h r with
  | some c' => rw [hr] at e; exact .inl e
  | none =>
    rw [hr] at e
    simp only at e
    split at e
    · rename_i hh
      cases e
      exact .inr ⟨rfl, r - b, by omega, by omega, rfl⟩
    · cases e
/-- A state with a matrix: the outer slice lies in region r0, its rows in regions b, b + 1, .. -/
def stM (l : List (Nat × AV)) (h : List (Nat × (Bool × List AV))) (r0 b : Nat) (rows : List (List Int)) : AS :=
  ⟨fun t => (look l t).getD .any, famH (look ((r0, (false, rowsC b rows)) :: h)) b rows⟩
theorem look_none {β : Type} {l : List (Nat × β)} {t : Nat} (h : ∀ p ∈ l, p.1 < t) : look l t = none := by
  induction l with
  | nil => rfl
  | cons p l ih =>
    have h1 := h p (List.mem_cons_self ..)
    have : ¬ t = p.1 := by omega
    obtain ⟨k, x⟩ := p
    simp only [look]
    rw [if_neg this]
    exact ih fun q hq => h q (List.mem_cons_of_mem _ hq)
theorem look_mem {β : Type} {l : List (Nat × β)} {t : Nat} {x : β} (h : look l t = some x) : (t, x) ∈ l := by
  induction l with
  | nil => simp [look] at h
  | cons p l ih =>
    obtain ⟨k, y⟩ := p
    simp only [look] at h
    split at h
    · rename_i e; subst e; cases h; exact List.mem_cons_self ..
    · exact List.mem_cons_of_mem _ (ih h)
theorem stM_row {l : List (Nat × AV)} {h : List (Nat × (Bool × List AV))} {r0 b : Nat} {rows : List (List Int)} (hk : ((r0, (false, rowsC b rows)) :: h).all (fun p => decide (p.1 < b)) = true) {j : Nat} (hj : j < rows.length) :
    (stM l h r0 b rows).hp (b + j) = some (true, (rows.getD j []).map AV.i) :=
  famH_row (look_none fun p hp => by have := List.all_eq_true.1 hk p hp; have := of_decide_eq_true this; omega) hj
def HasF (s : AS) (f : Nat → Nat) : List (Nat × AV) → Prop
  | [] => True
  | (t, x) :: l => s.tm t = renV f x ∧ HasF s f l
def HasRF (s : AS) (f : Nat → Nat) : List (Nat × (Bool × List AV)) → Prop
  | [] => True
  | (r, c) :: l => s.hp (f r) = some c ∧ HasRF s f l
theorem look_hasF {s : AS} {f : Nat → Nat} : ∀ {l : List (Nat × AV)} {t : Nat} {x : AV}, HasF s f l → look l t = some x → s.tm t = renV f x
  | [], _, _, _, h => by simp [look] at h
  | (k, y) :: l, t, x, h, e => by
    simp only [look] at e
    split at e
    · rename_i hk; subst hk; cases e; exact h.1
    · exact look_hasF h.2 e
theorem look_hasRF {s : AS} {f : Nat → Nat} : ∀ {l : List (Nat × (Bool × List AV))} {r : Nat} {c : Bool × List AV}, HasRF s f l → look l r = some c → s.hp (f r) = some c
  | [], _, _, _, h => by simp [look] at h
  | (k, y) :: l, t, x, h, e => by
    simp only [look] at e
    split at e
    · rename_i hk; subst hk; cases e; exact h.1
    · exact look_hasRF h.2 e
def nodupB : List Nat → Bool
  | [] => true
  | x :: l => !(l.contains x) && nodupB l
theorem nodupB_spec : ∀ {l : List Nat}, nodupB l = true → l.Nodup
  | [], _ => by simp
  | x :: l, h => by
    simp only [nodupB, Bool.and_eq_true, Bool.not_eq_true'] at h
    rw [List.nodup_cons]
    exact ⟨fun hm => by rw [List.contains_iff_mem.2 hm] at h; simp at h, nodupB_spec h.2⟩
/-- The names of a state that tells a matrix: f0 below b; the rows asx g says. -/
def nmF (b : Nat) (f0 g : Nat → Nat) : Nat → Nat := fun r => if r < b then f0 r else g (r - b)
/-- A state with a matrix whose outer slice has the cells cs. -/
def stC (l : List (Nat × AV)) (h : List (Nat × (Bool × List AV))) (r0 : Nat) (cs : List AV) (b : Nat) (rows : List (List Int)) : AS :=
  ⟨fun t => (look l t).getD .any, famH (look ((r0, (false, cs)) :: h)) b rows⟩
theorem stC_row {l : List (Nat × AV)} {h : List (Nat × (Bool × List AV))} {r0 b : Nat} {cs : List AV} {rows : List (List Int)} (hk : ((r0, (false, cs)) :: h).all (fun p => decide (p.1 < b)) = true) {j : Nat} (hj : j < rows.length) :
    (stC l h r0 cs b rows).hp (b + j) = some (true, (rows.getD j []).map AV.i) :=
  famH_row (look_none fun p hp => by have := List.all_eq_true.1 hk p hp; have := of_decide_eq_true this; omega) hj
/-- Forgetting, to a state with a matrix whose rows are known under the names g. -/
theorem weak_matC {s : AS} {l : List (Nat × AV)} {h : List (Nat × (Bool × List AV))} {r0 b : Nat} {cs : List AV} {rows : List (List Int)} (f0 g : Nat → Nat)
    (hl : HasF s (nmF b f0 g) l) (hh : HasRF s (nmF b f0 g) h) (hflat : (h.all fun p => p.2.1) = true) (hk : (r0 :: h.map (·.1)).all (fun r => decide (r < b ∧ f0 r < b)) = true) (hpk : (r0 :: h.map (·.1)).all (fun r => decide ((r < pbase ∧ f0 r < pbase) ∨ (pbase ≤ r ∧ f0 r = r))) = true) (hpr : ∀ j, j < rows.length → (b + j < pbase ∧ g j < pbase) ∨ (pbase ≤ b + j ∧ g j = b + j)) (hr : refsT (fun r => (r0 :: h.map (·.1)).contains r) l = true)
    (h0 : ∃ c, s.hp (f0 r0) = some c ∧ cellsRen (nmF b f0 g) c (false, cs)) (hrefc : ∀ keep : Nat → Bool, (∀ j, j < rows.length → keep (b + j) = true) → refsL keep cs = true)
    (hrow : ∀ j, j < rows.length → s.hp (g j) = some (true, (rows.getD j []).map AV.i))
    (hndB : nodupB ((r0 :: h.map (·.1)).map f0) = true) (hg : ∀ j, j < rows.length → ∀ r ∈ (r0 :: h.map (·.1)), f0 r ≠ g j) (hgi : ∀ j j', j < rows.length → j' < rows.length → g j = g j' → j = j') : Weak s (stC l h r0 cs b rows) := by
  have hnd := nodupB_spec hndB
  have hkey : ∀ r c, look ((r0, (false, cs)) :: h) r = some c → r ∈ (r0 :: h.map (·.1)) := by
    intro r c hc
    have h1 : r ∈ ((r0, (false, cs)) :: h).map (·.1) := List.mem_map.2 ⟨(r, c), look_mem hc, rfl⟩
    simpa using h1
  have hklt : ∀ r ∈ (r0 :: h.map (·.1)), r < b ∧ f0 r < b := fun r hr => of_decide_eq_true (List.all_eq_true.1 hk r hr)
  have hall : ((r0, (false, cs)) :: h).all (fun p => decide (p.1 < b)) = true := by
    rw [List.all_eq_true]
    intro p hp
    exact decide_eq_true (hklt p.1 (List.mem_map.2 ⟨p, hp, rfl⟩)).1
  have hinj0 : ∀ r ∈ (r0 :: h.map (·.1)), ∀ r' ∈ (r0 :: h.map (·.1)), f0 r = f0 r' → r = r' := by
    generalize r0 :: h.map (·.1) = ks at hnd
    clear hkey hklt hg hr hk hpk hndB
    induction ks with
    | nil => intro r hr; simp at hr
    | cons k ks ih =>
      rw [List.map_cons, List.nodup_cons] at hnd
      intro r hr r' hr' e
      rcases List.mem_cons.1 hr with h1 | h1
      · rcases List.mem_cons.1 hr' with h2 | h2
        · rw [h1, h2]
        · rw [h1] at e
          exact absurd (List.mem_map.2 ⟨r', h2, e.symm⟩) hnd.1
      · rcases List.mem_cons.1 hr' with h2 | h2
        · rw [h2] at e
          exact absurd (List.mem_map.2 ⟨r, h1, e⟩) hnd.1
        · exact ih hnd.2 r h1 r' h2 e
  have hsome : ∀ r, ((stC l h r0 cs b rows).hp r).isSome = true → (r ∈ (r0 :: h.map (·.1)) ∧ nmF b f0 g r = f0 r) ∨ ∃ j, j < rows.length ∧ r = b + j ∧ nmF b f0 g r = g j := by
    intro r hr
    obtain ⟨c, hc⟩ := Option.isSome_iff_exists.1 hr
    rcases famH_some hc with h1 | ⟨_, j, hj, rfl, _⟩
    · have hm := hkey r c h1
      exact .inl ⟨hm, by unfold nmF; rw [if_pos (hklt r hm).1]⟩
    · exact .inr ⟨j, hj, rfl, by unfold nmF; rw [if_neg (by omega), Nat.add_sub_cancel_left]⟩
  have hlive : ∀ r, r ∈ (r0 :: h.map (·.1)) → ((stC l h r0 cs b rows).hp r).isSome = true := by
    intro r hr
    show (famH (look ((r0, (false, cs)) :: h)) b rows r).isSome = true
    have : ∃ c, look ((r0, (false, cs)) :: h) r = some c := by
      have key : ∀ l : List (Nat × (Bool × List AV)), r ∈ l.map (·.1) → ∃ c, look l r = some c := by
        intro l
        induction l with
        | nil => intro h; simp at h
        | cons p l ih =>
          intro h
          obtain ⟨k, y⟩ := p
          simp only [look]
          by_cases e : r = k
          · exact ⟨y, if_pos e⟩
          · rw [if_neg e]
            rw [List.map_cons, List.mem_cons] at h
            exact ih (h.resolve_left e)
      exact key _ (by simpa using hr)
    obtain ⟨c, hc⟩ := this
    unfold famH
    rw [hc]; rfl
  have hliveR : ∀ j, j < rows.length → ((stC l h r0 cs b rows).hp (b + j)).isSome = true := fun j hj => by rw [stC_row hall hj]; rfl
  refine weak_ren (nmF b f0 g) (fun t => ?_) (fun r c' hc => ?_) (fun r r' h1 h2 h3 => ?_) (fun r h1 => ?_) (fun t => ?_) (fun r cs' hc => ?_)
  · show (look l t).getD .any = .any ∨ s.tm t = renV _ ((look l t).getD .any)
    cases hx : look l t with
    | none => exact .inl rfl
    | some x => exact .inr (look_hasF hl hx)
  · rcases famH_some hc with h1 | ⟨h1, j, hj, rfl, rfl⟩
    · have hm := hkey r c' h1
      have hnm : nmF b f0 g r = f0 r := by unfold nmF; rw [if_pos (hklt r hm).1]
      simp only [look] at h1
      split at h1
      · rename_i e
        cases h1
        rw [hnm, e]
        exact h0
      · refine ⟨_, look_hasRF hh h1, .inl ⟨?_, ?_⟩⟩
        · exact List.all_eq_true.1 hflat _ (look_mem h1)
        · have := List.all_eq_true.1 hflat _ (look_mem h1)
          obtain ⟨fl, cs⟩ := c'
          simp only at this
          subst this; rfl
    · refine ⟨_, ?_, .inl ⟨rfl, rfl⟩⟩
      unfold nmF
      rw [if_neg (by omega), Nat.add_sub_cancel_left]
      exact hrow j hj
  · rcases hsome r h1 with ⟨m1, e1⟩ | ⟨j, hj, rfl, e1⟩
    · rcases hsome r' h2 with ⟨m2, e2⟩ | ⟨j', hj', rfl, e2⟩
      · rw [e1, e2] at h3
        exact hinj0 r m1 r' m2 h3
      · rw [e1, e2] at h3
        exact absurd h3 (hg j' hj' r m1)
    · rcases hsome r' h2 with ⟨m2, e2⟩ | ⟨j', hj', rfl, e2⟩
      · rw [e1, e2] at h3
        exact absurd h3.symm (hg j hj r' m2)
      · rw [e1, e2] at h3
        rw [hgi j j' hj hj' h3]
  · rcases hsome r h1 with ⟨m1, e1⟩ | ⟨j, hj, rfl, e1⟩
    · have := of_decide_eq_true (List.all_eq_true.1 hpk r m1)
      rw [e1]; exact this
    · rw [e1]; exact hpr j hj
  · show refsV _ ((look l t).getD .any) = true
    cases hx : look l t with
    | none => rfl
    | some x =>
      have h1 := look_refs hr hx
      have key := AV.rec_1 (motive_1 := fun x => refsV (fun r => (r0 :: h.map (·.1)).contains r) x = true → refsV (fun r => ((stC l h r0 cs b rows).hp r).isSome) x = true) (motive_2 := fun l' => refsL (fun r => (r0 :: h.map (·.1)).contains r) l' = true → refsL (fun r => ((stC l h r0 cs b rows).hp r).isSome) l' = true)
        (by simp [refsV]) (by simp [refsV]) (by intros; simp [refsV]) (by intros; simp [refsV]) (fun q _ _ _ hq => by simp only [refsV] at hq ⊢; exact hlive q (List.contains_iff_mem.1 hq))
        (fun q _ hq => by simp only [refsV] at hq ⊢; exact hlive q (List.contains_iff_mem.1 hq)) (fun l hl hq => by simp only [refsV] at hq ⊢; exact hl hq) (fun l hl hq => by simp only [refsV] at hq ⊢; exact hl hq)
        (fun q hq => by simp only [refsV] at hq ⊢; exact hlive q (List.contains_iff_mem.1 hq)) (fun q hq => by simp only [refsV] at hq ⊢; exact hlive q (List.contains_iff_mem.1 hq)) (by intros; simp [refsV]) (fun f l k hl hq => by simp only [refsV] at hq ⊢; exact hl hq) (by intros; simp [refsV]) (by intros; simp [refsV]) (fun q m _ _ _ hq => by
          simp only [refsV, Bool.and_eq_true] at hq ⊢
          refine ⟨hlive q (List.contains_iff_mem.1 hq.1), ?_⟩
          cases m with
          | none => rfl
          | some k => exact hlive k (List.contains_iff_mem.1 (by simpa using hq.2)))
        (by simp [refsL]) (fun a l ha hl hq => by simp only [refsL, Bool.and_eq_true] at hq ⊢; exact ⟨ha hq.1, hl hq.2⟩) [x]
      have := key (by simp only [refsL, Bool.and_eq_true, and_true]; exact h1)
      simp only [refsL, Bool.and_eq_true, and_true] at this
      exact this
  · rcases famH_some hc with h1 | ⟨_, j, _, _, h2⟩
    · simp only [look] at h1
      split at h1
      · cases h1
        exact hrefc _ hliveR
      · have := List.all_eq_true.1 hflat _ (look_mem h1)
        simp at this
    · cases h2
/-- Forgetting, to a state with a matrix whose rows are known under the names g. -/
theorem weak_mat {s : AS} {l : List (Nat × AV)} {h : List (Nat × (Bool × List AV))} {r0 b : Nat} {rows : List (List Int)} (f0 g : Nat → Nat)
    (hl : HasF s (nmF b f0 g) l) (hh : HasRF s (nmF b f0 g) h) (hflat : (h.all fun p => p.2.1) = true) (hk : (r0 :: h.map (·.1)).all (fun r => decide (r < b ∧ f0 r < b)) = true) (hpk : (r0 :: h.map (·.1)).all (fun r => decide ((r < pbase ∧ f0 r < pbase) ∨ (pbase ≤ r ∧ f0 r = r))) = true) (hpr : ∀ j, j < rows.length → (b + j < pbase ∧ g j < pbase) ∨ (pbase ≤ b + j ∧ g j = b + j)) (hr : refsT (fun r => (r0 :: h.map (·.1)).contains r) l = true)
    (h0 : ∃ fl cs, s.hp (f0 r0) = some (fl, cs) ∧ (fl = false ∧ cs = renL (nmF b f0 g) (rowsC b rows) ∨ rows = [] ∧ cs = []))
    (hrow : ∀ j, j < rows.length → s.hp (g j) = some (true, (rows.getD j []).map AV.i))
    (hndB : nodupB ((r0 :: h.map (·.1)).map f0) = true) (hg : ∀ j, j < rows.length → ∀ r ∈ (r0 :: h.map (·.1)), f0 r ≠ g j) (hgi : ∀ j j', j < rows.length → j' < rows.length → g j = g j' → j = j') : Weak s (stM l h r0 b rows) := by
  obtain ⟨fl, cs, h1, h2⟩ := h0
  refine weak_matC (cs := rowsC b rows) f0 g hl hh hflat hk hpk hpr hr ⟨_, h1, .inr ⟨rfl, ?_⟩⟩ (fun keep hkp => rowsC_refs _ _ _ hkp) hrow hndB hg hgi
  rcases h2 with ⟨rfl, rfl⟩ | ⟨h3, h4⟩
  · exact .inl rfl
  · exact .inr (.inl ⟨by show rowsC b rows = []; rw [h3]; rfl, h4⟩)
/-- Forgetting, the matrix being what it was. -/
theorem weak_keep {s : AS} {l : List (Nat × AV)} {h : List (Nat × (Bool × List AV))} {r0 b : Nat} {rows : List (List Int)} (f0 : Nat → Nat)
    (hl : HasF s (nmF b f0 fun j => b + j) l) (hh : HasRF s (nmF b f0 fun j => b + j) h) (hflat : (h.all fun p => p.2.1) = true) (hk : (r0 :: h.map (·.1)).all (fun r => decide (r < b ∧ f0 r < b)) = true)
    (hpk : (r0 :: h.map (·.1)).all (fun r => decide ((r < pbase ∧ f0 r < pbase) ∨ (pbase ≤ r ∧ f0 r = r))) = true) (hb : b + rows.length ≤ pbase ∨ pbase ≤ b) (hr : refsT (fun r => (r0 :: h.map (·.1)).contains r) l = true) (hndB : nodupB ((r0 :: h.map (·.1)).map f0) = true)
    {fl : Bool} {cs : List AV} (h0 : s.hp (f0 r0) = some (fl, cs)) (hcs : fl = false ∧ cs = rowsC b rows ∨ rows = [] ∧ cs = [])
    (hrow : ∀ j, j < rows.length → s.hp (b + j) = some (true, (rows.getD j []).map AV.i)) : Weak s (stM l h r0 b rows) := by
  refine weak_mat f0 (fun j => b + j) hl hh hflat hk hpk (fun j hj => by rcases hb with hb | hb; exact .inl ⟨by omega, by omega⟩; exact .inr ⟨by omega, rfl⟩) hr ⟨fl, cs, h0, ?_⟩ hrow hndB (fun j hj r hr => ?_) (fun j j' _ _ e => by omega)
  · rcases hcs with ⟨h1, h2⟩ | h1
    · exact .inl ⟨h1, by rw [h2, rowsC_ren _ b b]; intro j _; unfold nmF; rw [if_neg (by omega), Nat.add_sub_cancel_left]⟩
    · exact .inr h1
  · have := of_decide_eq_true (List.all_eq_true.1 hk r hr)
    omega
def gpush (b m q : Nat) : Nat → Nat := fun j => if j < m then b + j else q
theorem renL_append (f : Nat → Nat) (l m : List AV) : renL f (l ++ m) = renL f l ++ renL f m := by rw [renL_map, renL_map, renL_map, List.map_append]
/-- Forgetting, a region having become a row. -/
theorem weak_push {s : AS} {l : List (Nat × AV)} {h : List (Nat × (Bool × List AV))} {r0 b : Nat} {rows : List (List Int)} {row : List Int} (f0 : Nat → Nat) (q : Nat)
    (hl : HasF s (nmF b f0 (gpush b rows.length q)) l) (hh : HasRF s (nmF b f0 (gpush b rows.length q)) h) (hflat : (h.all fun p => p.2.1) = true) (hk : (r0 :: h.map (·.1)).all (fun r => decide (r < b ∧ f0 r < b)) = true)
    (hpk : (r0 :: h.map (·.1)).all (fun r => decide ((r < pbase ∧ f0 r < pbase) ∨ (pbase ≤ r ∧ f0 r = r))) = true) (hb : b + rows.length + 1 ≤ pbase) (hr : refsT (fun r => (r0 :: h.map (·.1)).contains r) l = true) (hndB : nodupB ((r0 :: h.map (·.1)).map f0) = true)
    (hqb : q < b) (hqn : ((r0 :: h.map (·.1)).map f0).contains q = false)
    {cs : List AV} (h0 : s.hp (f0 r0) = some (false, cs)) (hcs : cs = rowsC b rows ++ [.sl q 1 0 row.length]) (hq : s.hp q = some (true, row.map AV.i))
    (hrow : ∀ j, j < rows.length → s.hp (b + j) = some (true, (rows.getD j []).map AV.i)) : Weak s (stM l h r0 b (rows ++ [row])) := by
  have hlen : (rows ++ [row]).length = rows.length + 1 := by simp
  refine weak_mat f0 (gpush b rows.length q) hl hh hflat hk hpk (fun j hj => .inl ⟨by omega, by unfold gpush; split <;> omega⟩) hr ⟨false, cs, h0, .inl ⟨rfl, ?_⟩⟩ (fun j hj => ?_) hndB (fun j hj r hr => ?_) (fun j j' h1 h2 e => ?_)
  · rw [hcs, rowsC_snoc, renL_append, rowsC_ren _ b b]
    · simp only [renL, renV]
      unfold nmF gpush
      rw [if_neg (by omega), Nat.add_sub_cancel_left, if_neg (by omega)]
    · intro j hj
      unfold nmF gpush
      rw [if_neg (by omega), Nat.add_sub_cancel_left, if_pos hj]
  · unfold gpush
    by_cases hj' : j < rows.length
    · rw [if_pos hj', hrow j hj']
      simp [List.getElem?_append, hj']
    · have : j = rows.length := by omega
      subst this
      rw [if_neg hj', hq]
      simp
  · have := of_decide_eq_true (List.all_eq_true.1 hk r hr)
    unfold gpush
    split
    · omega
    · intro e
      have hm : q ∈ (r0 :: h.map (·.1)).map f0 := List.mem_map.2 ⟨r, hr, e⟩
      have := List.contains_iff_mem.2 hm
      rw [hqn] at this; cases this
  · unfold gpush at e
    split at e <;> split at e <;> omega
theorem hp_put (s : AS) (d : Option Nat) (x : AV) : (s.put d x).hp = s.hp := by cases d <;> rfl
theorem hp_mem_ne {s : AS} {q r : Nat} {c : Bool × List AV} (h : r ≠ q) : (s.mem q c).hp r = s.hp r := by simp [AS.mem, h]
theorem hp_kill_ne {s : AS} {q r : Nat} (h : r ≠ q) : (s.kill q).hp r = (s.hp r).map (killR q) := by simp [AS.kill, h]
end Go.Am
namespace Go.Am
variable [Go.Am.CodeBlk]
variable {P : Program} {own : Bool} {N : Nat} {s : AS} {K : AS → Prop} {d : Option Nat}
def nbase : Nat := 8000000
/-- A matrix asx regions: the outer slice in r0, its rows in b, b + 1, .. -/
def matH (r0 b : Nat) (rows : List (List Int)) : Hp := famH (fun r => if r = r0 then some (false, rowsC b rows) else none) b rows
theorem matH_some {r0 b r : Nat} {rows : List (List Int)} {c : Bool × List AV} (h : matH r0 b rows r = some c) : (r = r0 ∧ c = (false, rowsC b rows)) ∨ ∃ j, j < rows.length ∧ r = b + j ∧ c = (true, (rows.getD j []).map AV.i) := by
  rcases famH_some h with h1 | ⟨_, h1⟩
  · split at h1
    · rename_i e; cases h1; exact .inl ⟨e, rfl⟩
    · cases h1
  · exact .inr h1
theorem matH_outer (r0 b : Nat) (rows : List (List Int)) : matH r0 b rows r0 = some (false, rowsC b rows) := by simp [matH, famH]
theorem matH_row {r0 b : Nat} {rows : List (List Int)} {j : Nat} (h : r0 < b) (hj : j < rows.length) : matH r0 b rows (b + j) = some (true, (rows.getD j []).map AV.i) :=
  famH_row (by have : ¬ b + j = r0 := by omega
               simp [this]) hj
theorem renL_ints (f : Nat → Nat) (l : List Int) : renL f (l.map AV.i) = l.map AV.i := by
  induction l with
  | nil => rfl
  | cons x l ih => simp only [List.map_cons, renL, renV, ih]
theorem ownL_ints (q : Bool) (l : List Int) : ownL q (l.map AV.i) = true := by
  induction l with
  | nil => rfl
  | cons x l ih => simp only [List.map_cons, ownL, ownV, ih, Bool.and_self]
theorem refsL_ints (keep : Nat → Bool) (l : List Int) : refsL keep (l.map AV.i) = true := by
  induction l with
  | nil => rfl
  | cons x l ih => simp only [List.map_cons, refsL, refsV, ih, Bool.and_self]
theorem matH_own {r0 b : Nat} {rows : List (List Int)} (h : r0 < b) (r : Nat) (c : Bool × List AV) (hc : matH r0 b rows r = some c) : ownL false c.2 = true ∧ refsL (fun r => (matH r0 b rows r).isSome) c.2 = true := by
  rcases matH_some hc with ⟨rfl, rfl⟩ | ⟨j, hj, rfl, rfl⟩
  · exact ⟨rowsC_own _ _ _, rowsC_refs _ _ _ fun j hj => by rw [matH_row h hj]; rfl⟩
  · exact ⟨ownL_ints _ _, refsL_ints _ _⟩
/-- The names of a matrix handed out. -/
def gnm (q b : Nat) : Nat → Nat := fun r => if r = nbase then q else b + (r - (nbase + 1))
theorem gnm_outer (q b : Nat) : gnm q b nbase = q := if_pos rfl
theorem gnm_row (q b j : Nat) : gnm q b (nbase + 1 + j) = b + j := by
  unfold gnm
  rw [if_neg (by omega), Nat.add_sub_cancel_left]
theorem gnm_inj {q b : Nat} (hq : q < b) {rows : List (List Int)} {r r' : Nat} (h1 : (matH nbase (nbase + 1) rows r).isSome = true) (h2 : (matH nbase (nbase + 1) rows r').isSome = true) (e : gnm q b r = gnm q b r') : r = r' := by
  obtain ⟨c, hc⟩ := Option.isSome_iff_exists.1 h1
  obtain ⟨c', hc'⟩ := Option.isSome_iff_exists.1 h2
  rcases matH_some hc with ⟨rfl, _⟩ | ⟨j, hj, rfl, _⟩
  · rcases matH_some hc' with ⟨rfl, _⟩ | ⟨j', hj', rfl, _⟩
    · rfl
    · rw [gnm_outer, gnm_row] at e; omega
  · rcases matH_some hc' with ⟨rfl, _⟩ | ⟨j', hj', rfl, _⟩
    · rw [gnm_outer, gnm_row] at e; omega
    · rw [gnm_row, gnm_row] at e; omega
theorem gnm_cells (q b : Nat) (rows : List (List Int)) : renL (gnm q b) (rowsC (nbase + 1) rows) = rowsC b rows := rowsC_ren _ _ _ _ fun j _ => gnm_row q b j
theorem gnm_hp {q b : Nat} {rows : List (List Int)} {hp : Hp} (h0 : hp q = some (false, rowsC b rows)) (hr : ∀ j, j < rows.length → hp (b + j) = some (true, (rows.getD j []).map AV.i)) (r : Nat) (c : Bool × List AV) (hc : matH nbase (nbase + 1) rows r = some c) :
    hp (gnm q b r) = some (renR (gnm q b) c) := by
  rcases matH_some hc with ⟨rfl, rfl⟩ | ⟨j, hj, rfl, rfl⟩
  · rw [gnm_outer, h0]
    simp only [renR]
    rw [gnm_cells]
  · rw [gnm_row, hr j hj]
    simp only [renR]
    rw [renL_ints]
abbrev matO (rows : List (List Int)) : Hp := matH nbase (nbase + 1) rows
theorem static_mat1 (rows : List (List Int)) : Static (fun _ => none) (.sl nbase 1 0 rows.length) (matO rows) :=
  ⟨fun r h => by simp at h, matH_own (by omega), by simp [ownV], by simp [refsV, matO, matH_outer]⟩
theorem static_mat2 (rows : List (List Int)) (x : Value) : Static (fun _ => none) (.tup [.sl nbase 1 0 rows.length, .v x]) (matO rows) :=
  ⟨fun r h => by simp at h, matH_own (by omega), by simp [ownV, ownL], by simp [refsV, refsL, matO, matH_outer]⟩
/-- A matrix is handed out. -/
theorem ret_mat {r0 b : Nat} {rows : List (List Int)} {ts : List Nat} {res : AV} (hr0 : r0 < b) (hpb : r0 < pbase) (hb : b + rows.length ≤ pbase)
    (h1 : resAV s ts = renV (gnm r0 b) res) (h0 : s.hp r0 = some (false, rowsC b rows)) (hrow : ∀ j, j < rows.length → s.hp (b + j) = some (true, (rows.getD j []).map AV.i)) : DoneH ts res (fun _ => none) (matO rows) .ret s := by
  refine ret_doneh (gnm r0 b) h1 (fun r c hc => ⟨_, gnm_hp h0 hrow r c hc, .inl rfl⟩) (fun r hr => by simp at hr) (fun r hr _ => ?_) fun r r' h2 h3 e => gnm_inj hr0 h2 h3 e
  obtain ⟨c, hc⟩ := Option.isSome_iff_exists.1 hr
  rcases matH_some hc with ⟨rfl, _⟩ | ⟨j, hj, rfl, _⟩
  · rw [gnm_outer]; exact hpb
  · rw [gnm_row]; omega
/-- A matrix comes in: its outer slice is region q, its rows are b, b + 1, .. -/
def AS.addM (s : AS) (q b : Nat) (rows : List (List Int)) : AS := ⟨s.tm, famH (fun r => if r = q then some (false, rowsC b rows) else s.hp r) b rows⟩
theorem addM_row {s : AS} {q b : Nat} {rows : List (List Int)} {j : Nat} (hq : q < b) (hn : s.hp (b + j) = none) (hj : j < rows.length) : (s.addM q b rows).hp (b + j) = some (true, (rows.getD j []).map AV.i) :=
  famH_row (h := fun r => if r = q then some (false, rowsC b rows) else s.hp r) (by
    show (if b + j = q then some (false, rowsC b rows) else s.hp (b + j)) = none
    rw [if_neg (by omega)]; exact hn) hj
/-- A call that hands out a matrix: its outer slice is taken asx region q, its rows asx b, b + 1, .. -/
theorem m_callM {f : FuncId} {args : List Opd} {asx : List AV} {rows : List (List Int)} {res : AV} (q b : Nat) (hs : SpH P f asx (fun _ => none) res (matO rows)) (hl : Lends s.hp (args.map s.ev) asx) (hor : ownV false res = true) (hqb : q < b) (hqp : q < pbase) (hb : b + rows.length ≤ pbase)
    (hq : s.hp q = none) (hrow : ∀ j, j < rows.length → s.hp (b + j) = none)
    (k : K (AS.put (s.addM q b rows) d (renV (gnm q b) res))) : aop1 P true ⟨d, .call f args, none⟩ s K := by
  refine m_callh (gnm q b) hs (lendsH_none hl) ⟨fun r c h => by simp at h, fun r r' h1 h2 e => gnm_inj hqb h1 h2 e, fun r h => by simp at h, fun r hr _ => ?_, gnm_hp ?_ fun j hj => ?_, fun p hp => ?_, fun r c h => by simp at h, fun r c hc => (matH_own (by omega) r c hc).1, hor⟩ k
  · obtain ⟨c, hc⟩ := Option.isSome_iff_exists.1 hr
    rcases matH_some hc with ⟨rfl, _⟩ | ⟨j, hj, rfl, _⟩
    · rw [gnm_outer]; exact ⟨hq, hqp⟩
    · rw [gnm_row]; exact ⟨hrow j hj, by omega⟩
  · simp [famH]
  · exact famH_row (by have : ¬ b + j = q := by omega
                       simp only [this, if_false]; exact hrow j hj) hj
  · have h1 : p ≠ q := fun e => hp nbase (by rw [matO, matH_outer]; rfl) (by rw [gnm_outer]; exact e.symm)
    unfold famH
    simp only [h1, if_false]
    cases hh : s.hp p with
    | some c => rfl
    | none =>
      simp only
      rw [if_neg]
      rintro ⟨h2, h3⟩
      refine hp (nbase + 1 + (p - b)) ?_ ?_
      · rw [matO, matH_row (by omega) (by omega)]; rfl
      · rw [gnm_row]; omega
abbrev roF (rows : List (List Int)) : AV := .ro true 1 (rows.map newInts) rows.length
theorem ob_ints {G : Prop} {l : List Int} {o : Obj} (h : ((true, l.map AV.i) : Bool × List AV) = (true, [.ob o])) : G := by
  simp only [Prod.mk.injEq, true_and] at h
  cases l with
  | nil => simp at h
  | cons x l => simp at h
/-- A matrix handed out, read. -/
theorem simv_roF {w w' : World} {phi : Nat → Option Nat} {rows : List (List Int)} {v : Value} (h1 : ∀ r b, (matO rows r).isSome = true → phi r = some b → w.heap.size ≤ b) (h2 : Regs (ctxX w w' phi (matO rows)) (matO rows)) (h3 : SimV (.sl nbase 1 0 rows.length) (ctxX w w' phi (matO rows)) v) : SimV (roF rows) (fresh w w') v := by
  simp only [SimV] at h3 ⊢
  rcases h3.2.2 with ⟨k1, _, k3, k4⟩ | ⟨b', o, cap, cur, e, k1, k2, k3, k4, k5, k6, k7⟩
  · have : rows = [] := List.eq_nil_of_length_eq_zero k3
    subst this
    exact .inl ⟨rfl, rfl, none, 0, by simpa using k4, by simp⟩
  · have ho : o = 0 := by
      rcases k4 with k4 | k4
      · exact k4
      · omega
    subst ho
    have hb := h1 nbase b' (by rw [matO, matH_outer]; rfl) k1
    have k3' : w'.heap[b']? = some (.cells cur e (0, 0)) := k3
    refine .inr ⟨b', 0, cap, cur, e, (0, 0), k2, k3', ⟨hb, lt_of_get k3'⟩, by simp, k5, fun _ => ⟨hb, rfl, rfl, k6, by omega⟩, ?_⟩
    rcases h2 nbase _ (matH_outer _ _ _) with ⟨g1, _⟩ | ⟨b2, cur2, e2, g1, g2, g3⟩ | ⟨b2, o2, h0, _⟩
    case inr.inr => cases h0
    · have : phi nbase = some b' := k1
      have g1' : phi nbase = none := g1
      rw [g1'] at this; cases this
    · have g1' : phi nbase = some b2 := g1
      have k1' : phi nbase = some b' := k1
      rw [g1'] at k1'
      cases k1'
      have g2' : w'.heap[b']? = some (.cells cur2 e2 (0, 0)) := g2
      rw [k3'] at g2'
      cases g2'
      simp only [SimR, Bool.false_eq_true, if_false] at g3
      rw [List.drop_zero]
      refine SimL.of_get fun j x hj => ?_
      rw [List.getElem?_map, Option.map_eq_some_iff] at hj
      obtain ⟨l, hl, rfl⟩ := hj
      have hjl := (List.getElem?_eq_some_iff.1 hl).1
      have e1 : rows.getD j [] = l := by rw [List.getD_eq_getElem?_getD, hl]; rfl
      obtain ⟨y, m1, m2⟩ := g3.get (rowsC_get (nbase + 1) rows j hjl)
      refine ⟨y, m1, ?_⟩
      rw [e1] at m2
      simp only [SimV] at m2 ⊢
      rcases m2.2.2 with ⟨n1, _, n3, n4⟩ | ⟨b3, o3, cap3, cur3, e3, n1, n2, n3, n4, n5, n6, n7⟩
      · have : l = [] := List.eq_nil_of_length_eq_zero n3
        subst this
        exact .inl ⟨rfl, rfl, none, 0, by simpa using n4, by simp⟩
      · have ho3 : o3 = 0 := by
          rcases n4 with n4 | n4
          · exact n4
          · omega
        subst ho3
        have hrow := matH_row (r0 := nbase) (b := nbase + 1) (rows := rows) (by omega) hjl
        have hb3 := h1 (nbase + 1 + j) b3 (by rw [matO, hrow]; rfl) n1
        have n3' : w'.heap[b3]? = some (.cells cur3 e3 (0, 0)) := n3
        refine .inr ⟨b3, 0, cap3, cur3, e3, (0, 0), n2, n3', ⟨hb3, lt_of_get n3'⟩, by simp, n5, fun _ => ⟨hb3, rfl, rfl, n6, by omega⟩, ?_⟩
        rcases h2 _ _ hrow with ⟨g4, _⟩ | ⟨b4, cur4, e4, g4, g5, g6⟩ | ⟨b4, o4, h0, _⟩
        case inr.inr => exact ob_ints h0
        · have n1' : phi (nbase + 1 + j) = some b3 := n1
          have g4' : phi (nbase + 1 + j) = none := g4
          rw [g4'] at n1'; cases n1'
        · have g4' : phi (nbase + 1 + j) = some b4 := g4
          have n1' : phi (nbase + 1 + j) = some b3 := n1
          rw [g4'] at n1'
          cases n1'
          have g5' : w'.heap[b3]? = some (.cells cur4 e4 (0, 0)) := g5
          rw [n3'] at g5'
          cases g5'
          simp only [SimR, if_true] at g6
          rw [e1] at g6
          rw [List.drop_zero]
          exact simL_allv (allv_ints l) g6
theorem sp_mat1 {f : FuncId} {asx : List AV} {rows : List (List Int)} (h : SpH P f asx (fun _ => none) (.sl nbase 1 0 rows.length) (matO rows)) : Sp P f asx (roF rows) :=
  spH_sp h fun _ _ _ _ h1 h2 h3 => simv_roF h1 h2 h3
end Go.Am
namespace Go.Am
variable [Go.Am.CodeBlk]
variable {s : AS}
theorem mem_self {r : Nat} {c : Bool × List AV} (hr : s.hp r = some c) : s.mem r c = s := by
  obtain ⟨tm, hp⟩ := s
  simp only [AS.mem, AS.mk.injEq, true_and]
  funext q
  by_cases h : q = r
  · subst h; simp only [if_true]; exact hr.symm
  · simp [h]
/-- A region's last cells are forgotten. -/
theorem weak_shrink (r n : Nat) {cs : List AV} (hr : s.hp r = some (true, cs)) (hpl : cs.all plainV = true) : Weak s (s.mem r (true, cs.take n)) := by
  intro w0 mu N a w hS
  obtain ⟨hf, phi, ro, hS⟩ := hS
  rcases hS.liv r _ hr with ⟨_, h2, _⟩ | ⟨b, cur, e, h1, h2, h3, h4, h5⟩ | ⟨b, o, h0, _⟩
  · simp only at h2
    subst h2
    rw [List.take_nil, mem_self hr]
    exact ⟨hf, phi, ro, hS⟩
  · refine ⟨hf, _, ro, hS.write hr h1 h2 h2 rfl (fun _ _ _ => rfl) rfl rfl rfl (Nat.le_refl _) ?_⟩
    simp only [SimR, if_true] at h5 ⊢
    exact h5.take n
  · cases h0
    simp [plainV] at hpl
end Go.Am
namespace Go.Am
variable [Go.Am.CodeBlk]
/-- A function value bears its first arguments; what it bears, a callee may read asx it is. -/
def Bears (fl : List AV) : Prop := ∀ hp, ∀ x ∈ fl, Lend hp x x
theorem lends_bears {fl : List AV} (h : Bears fl) (hp : Hp) {xs ys : List AV} (k : Lends hp xs ys) : Lends hp (fl ++ xs) (fl ++ ys) := by
  induction fl with
  | nil => exact k
  | cons a l ih => exact lends_cons (h hp a (by simp)) (ih fun hp x hx => h hp x (by simp [hx]))
theorem lend_fn {hp : Hp} {f : FuncId} {l m : List AV} {k : Nat} (h : Lends hp l m) : Lend hp (.fn f l k) (.fn f m k) := by
  intro w0 mu N tm w phi ro v hS hv
  simp only [SimV] at hv ⊢
  obtain ⟨a, b, h1, h2, h3, h4⟩ := hv
  obtain ⟨h5, h6⟩ := h w0 mu N tm w phi ro (a.toList ++ b.toList) hS h4 (by simpa using h3)
  exact ⟨a, b, h1, h2, by simpa using h6, h5⟩
theorem lend_bears {hp : Hp} {f : FuncId} {fl : List AV} {k : Nat} (h : Bears fl) : Lend hp (.fn f fl k) (.fn f fl k) := by
  have := lends_bears h hp lends_nil
  simp only [List.append_nil] at this
  exact lend_fn this
section
variable {s : AS}
theorem tm_put_ne' {d t : Nat} {x : AV} (h : t ≠ d) : (s.put (some d) x).tm t = s.tm t := by simp [AS.put, h]
theorem tm_put_none {t : Nat} {x : AV} : (s.put none x).tm t = s.tm t := rfl
theorem tm_mem {r t : Nat} {c : Bool × List AV} : (s.mem r c).tm t = s.tm t := rfl
theorem tm_kill {r t : Nat} : (s.kill r).tm t = killV r (s.tm t) := rfl
theorem tm_mv {r q t : Nat} {c : List AV} : (s.mv r q c).tm t = mvV r q (s.tm t) := rfl
theorem tm_st {l : List (Nat × AV)} {h : List (Nat × (Bool × List AV))} {t : Nat} : (st l h).tm t = (look l t).getD .any := rfl
theorem tm_en0 {a : AV} {l : List AV} : (enter0 (a :: l)).tm 0 = a := rfl
theorem tm_en1 {a b : AV} {l : List AV} : (enter0 (a :: b :: l)).tm 1 = b := rfl
theorem tm_en2 {a b c : AV} {l : List AV} : (enter0 (a :: b :: c :: l)).tm 2 = c := rfl
theorem tm_en3 {a b c d : AV} {l : List AV} : (enter0 (a :: b :: c :: d :: l)).tm 3 = d := rfl
theorem tm_en4 {a b c d e : AV} {l : List AV} : (enter0 (a :: b :: c :: d :: e :: l)).tm 4 = e := rfl
end
section
variable {f : FuncId} {fl : List AV} {k r q : Nat}
theorem kill_fn (h : ∀ r, killL r fl = fl) : killV r (.fn f fl k) = .fn f fl k := by simp only [killV, h]
theorem mv_fn (h : ∀ r, killL r fl = fl) : mvV r q (.fn f fl k) = .fn f fl k := by simp only [mvV, killV, h]
end
theorem lends_self {fl : List AV} (h : Bears fl) (hp : Hp) : Lends hp fl fl := by
  have := lends_bears h hp lends_nil
  simpa only [List.append_nil] using this
/-- A pointer to memory that nobody writes. -/
theorem lend_rp {hp : Hp} {cs : List AV} (hall : cs.all plainV = true) : Lend hp (.rp cs) (.rp cs) := by
  intro w0 mu N tm w phi ro v hS hv
  simp only [SimV] at hv ⊢
  obtain ⟨b, o, cur, e, fz, h1, h2, h3, h4⟩ := hv
  exact ⟨b, o, cur, e, fz, h1, h2, lt_of_get h2, simL_allv hall h4⟩
theorem bears_rp {cs : List AV} (h : cs.all plainV = true) : Bears [.rp cs] := by
  intro hp x hx
  rw [List.mem_singleton.1 hx]
  exact lend_rp h
/-- A pointer to a region of my own: the callee reads it. -/
theorem lend_pt {hp : Hp} {r off : Nat} {cs : List AV} (hr : hp r = some (true, cs)) (hall : cs.all plainV = true) : Lend hp (.pt r off) (.rp (cs.drop off)) := by
  intro w0 mu N tm w phi ro v hS hv
  simp only [SimV] at hv ⊢
  obtain ⟨_, _, b, h1, h2, cur, e, h3⟩ := hv
  refine ⟨b, off, cur, e, (0, 0), h2, h3, lt_of_get h3, ?_⟩
  rcases hS.liv r _ hr with ⟨k1, _⟩ | ⟨b', cur', e', k1, k2, k3, k4, k5⟩ | ⟨b', o, k0, _⟩
  · have h1' : phi r = some b := h1
    rw [k1] at h1'; cases h1'
  · have h1' : phi r = some b := h1
    rw [k1] at h1'; cases h1'
    have h3' : w.heap[b]? = some (.cells cur e (0, 0)) := h3
    rw [k2] at h3'; cases h3'
    simp only [SimR, if_true] at k5
    exact (simL_allv hall k5).drop off
  · cases k0; simp [plainV] at hall
/- Boards asx texts. -/
end Go.Am
namespace Go.Am
variable [Go.Am.CodeBlk]
variable {P : Program} {own : Bool} {d : Option Nat} {s : AS} {K : AS → Prop} {N : Nat}
/-- An operation, something being forgotten first. -/
theorem step_opsW {o : AOper} {l : List AOper} {s' : AS} {Q : AS → Prop} (hw : Weak s s') (h : aop1 P own o s' fun s' => aops P own l s' Q) : aops P own (o :: l) s Q := ⟨s', hw, h⟩

/- Results of which some lie in cells. -/
end Go.Am
namespace Go.Am
variable [Go.Am.CodeBlk]
variable {P : Program} {own : Bool} {N : Nat} {s : AS} {K : AS → Prop} {d : Option Nat}
/-- A nil slice in a slot is a slice of an empty region. -/
theorem weak_nilslot (t q z : Nat) (fl : Bool) (ht : s.tm t = .v (.slice none 0 0)) (hq : s.hp q = none) (hqp : q < pbase) : Weak s ((s.mem q (fl, [])).put (some t) (.sl q z 0 0)) := by
  intro w0 mu N a w hS
  obtain ⟨hf, phi, ro, hS⟩ := hS
  have hS1 := hS.born hq hqp (fl, []) none rfl
  refine ⟨hf, _, ro, { hS1 with tms := fun t' => ?_ }⟩
  by_cases e : t' = t
  · subst e
    have h := hS.tms t'
    rw [ht] at h
    simp only [SimV] at h
    show SimV (if t' = t' then .sl q z 0 0 else _) _ _
    rw [if_pos rfl]
    simp only [SimV]
    exact ⟨rfl, by simp [ctx, AS.mem, AS.put], .inl ⟨by simp [ctx], trivial, trivial, h⟩⟩
  · show SimV (if t' = t then .sl q z 0 0 else (s.mem q (fl, [])).tm t') _ _
    rw [if_neg e]
    exact hS1.tms t'
theorem look_isSome {β : Type} {l : List (Nat × β)} {t : Nat} : (look l t).isSome = true ↔ t ∈ l.map (·.1) := by
  induction l with
  | nil => simp [look]
  | cons p l ih =>
    obtain ⟨k, x⟩ := p
    simp only [look, List.map_cons, List.mem_cons]
    by_cases e : t = k
    · simp [e]
    · rw [if_neg e, ih]; simp [e]
theorem look_inj {g : Nat → Nat} : ∀ {l : List (Nat × (Bool × List AV))} {r r' : Nat}, (l.map fun p => g p.1).Nodup → r ∈ l.map (·.1) → r' ∈ l.map (·.1) → g r = g r' → r = r'
  | [], _, _, _, h, _, _ => by simp at h
  | (k, x) :: l, r, r', hn, h1, h2, e => by
    simp only [List.map_cons, List.nodup_cons, List.mem_cons] at hn h1 h2
    have key : ∀ q, q ∈ l.map (·.1) → g q ∈ l.map fun p => g p.1 := fun q hq => by
      obtain ⟨p, hp, rfl⟩ := List.mem_map.1 hq
      exact List.mem_map.2 ⟨p, hp, rfl⟩
    rcases h1 with rfl | h1
    · rcases h2 with rfl | h2
      · rfl
      · exact absurd (e ▸ key _ h2) hn.1
    · rcases h2 with rfl | h2
      · exact absurd (e ▸ key _ h1) hn.1
      · exact look_inj hn.2 h1 h2 e
/-- Each region of a list is there, under its name. -/
def HasI (s : AS) (g : Nat → Nat) : List (Nat × (Bool × List AV)) → Prop
  | [] => True
  | (r, c) :: l => s.hp (g r) = some (renR g c) ∧ HasI s g l
def HasO (s : AS) (g : Nat → Nat) : List (Nat × (Bool × List AV)) → Prop
  | [] => True
  | (r, c) :: l => (∃ c0, s.hp (g r) = some c0 ∧ (c0 = renR g c ∨ (c.2 = [] ∧ c0.2 = []))) ∧ HasO s g l
theorem HasI.all {g : Nat → Nat} : ∀ {l : List (Nat × (Bool × List AV))}, HasI s g l → ∀ p ∈ l, s.hp (g p.1) = some (renR g p.2)
  | [], _, _, hp => by simp at hp
  | _ :: _, h, p, hp => by
    rcases List.mem_cons.1 hp with rfl | hp
    · exact h.1
    · exact HasI.all h.2 p hp
theorem HasO.all {g : Nat → Nat} : ∀ {l : List (Nat × (Bool × List AV))}, HasO s g l → ∀ p ∈ l, ∃ c0, s.hp (g p.1) = some c0 ∧ (c0 = renR g p.2 ∨ (p.2.2 = [] ∧ c0.2 = []))
  | [], _, _, hp => by simp at hp
  | _ :: _, h, p, hp => by
    rcases List.mem_cons.1 hp with rfl | hp
    · exact h.1
    · exact HasO.all h.2 p hp
/-- What is asked of such lists. -/
theorem static_R {hl ho : List (Nat × (Bool × List AV))} {res : AV} (h1 : ∀ p ∈ hl, pbase ≤ p.1) (h2 : ∀ p ∈ ho, ownL false p.2.2 = true ∧ refsL (fun r => (look ho r).isSome) p.2.2 = true) (h3 : ownV false res = true ∧ refsV (fun r => (look ho r).isSome) res = true) : Static (look hl) res (look ho) :=
  ⟨fun r hr => by
    obtain ⟨p, hp, rfl⟩ := List.mem_map.1 (look_isSome.1 hr)
    exact h1 p hp, fun r c hc => h2 _ (look_mem hc), h3⟩
/-- The end of such a function. -/
theorem ret_R {ts : List Nat} {res : AV} {hl ho : List (Nat × (Bool × List AV))} (g : Nat → Nat) (h1 : resAV s ts = renV g res) (hO : HasO s g ho) (h3 : ∀ p ∈ hl, g p.1 = p.1 ∧ p.1 ∈ ho.map (·.1))
    (h4 : ∀ p ∈ ho, p.1 ∈ hl.map (·.1) ∨ g p.1 < pbase) (h5 : (ho.map fun p => g p.1).Nodup) : DoneH ts res (look hl) (look ho) .ret s := by
  have h2 := hO.all
  refine ret_doneh g h1 (fun r c hc => h2 _ (look_mem hc)) (fun r hr => ?_) (fun r hr hn => ?_) fun r r' a b e => look_inj h5 (look_isSome.1 a) (look_isSome.1 b) e
  · obtain ⟨p, hp, rfl⟩ := List.mem_map.1 (look_isSome.1 hr)
    exact ⟨(h3 p hp).1, look_isSome.2 (h3 p hp).2⟩
  · obtain ⟨p, hp, rfl⟩ := List.mem_map.1 (look_isSome.1 hr)
    rcases h4 p hp with k | k
    · have := look_isSome.2 k
      rw [hn] at this
      cases this
    · exact k
/-- Regions under other names; cells that lead nowhere stay asx they are. -/
def HasJ (s : AS) (f : Nat → Nat) : List (Nat × (Bool × List AV)) → Prop
  | [] => True
  | (r, (true, cs)) :: l => s.hp (f r) = some (true, cs) ∧ HasJ s f l
  | (r, (false, cs)) :: l => s.hp (f r) = some (false, renL f cs) ∧ HasJ s f l
theorem HasJ.at {f : Nat → Nat} : ∀ {h : List (Nat × (Bool × List AV))} {r : Nat} {c : Bool × List AV}, HasJ s f h → (r, c) ∈ h → ∃ c0, s.hp (f r) = some c0 ∧ cellsRen f c0 c
  | [], _, _, _, hm => by simp at hm
  | (k, (true, cs)) :: l, r, c, h, hm => by
    rcases List.mem_cons.1 hm with e | hm
    · cases e; exact ⟨_, h.1, .inl ⟨rfl, rfl⟩⟩
    · exact HasJ.at h.2 hm
  | (k, (false, cs)) :: l, r, c, h, hm => by
    rcases List.mem_cons.1 hm with e | hm
    · cases e; exact ⟨_, h.1, .inr ⟨rfl, .inl rfl⟩⟩
    · exact HasJ.at h.2 hm
end Go.Am
namespace Go.Am
variable [Go.Am.CodeBlk]
/-- May a function value, of which the first k that it bears stand before the arguments and the others behind, be asked whether a guest fits behind a list? -/
structure AsksK (P : Program) (f : FuncId) (fl : List AV) (k : Nat) (n : Nat) (fits : List Int → Nat → Bool) : Prop where
  call : Callable P f
  bears : Bears fl
  norefs : ∀ keep, refsL keep fl = true
  nokill : ∀ r, killL r fl = fl
  spec : ∀ (M : List Int) (y : Nat), M.length < n → (∀ x ∈ M, 0 ≤ x ∧ x < n) → y < n → Sp P f (fl.take k ++ [ints M, .i y] ++ fl.drop k) (.b (fits M y))
theorem bears_sub {l m : List AV} (h : Bears m) (hs : ∀ x ∈ l, x ∈ m) : Bears l := fun hp x hx => h hp x (hs x hx)
theorem lends_app {hp : Hp} : ∀ {xs asx : List AV} {ys bs : List AV}, Lends hp xs asx → xs.length = asx.length → Lends hp ys bs → Lends hp (xs ++ ys) (asx ++ bs) := by
  intro xs asx ys bs h1 hl h2 w0 mu N tm w phi ro vs hS hs hlen
  have hsp : vs = vs.take xs.length ++ vs.drop xs.length := (List.take_append_drop _ _).symm
  have key : ∀ (xs ys : List AV) (C : Ctx) (us ws : List Value), us.length = xs.length → SimL (xs ++ ys) C (us ++ ws) → SimL xs C us ∧ SimL ys C ws := by
    intro xs
    induction xs with
    | nil => intro ys C us ws hl h; have : us = [] := List.eq_nil_of_length_eq_zero (by simpa using hl); subst this; exact ⟨by simp [SimL], h⟩
    | cons a l ih =>
      intro ys C us ws hl h
      match us with
      | [] => simp at hl
      | u :: us =>
        simp only [List.cons_append, SimL] at h ⊢
        obtain ⟨h3, h4⟩ := ih ys C us ws (by simpa using hl) h.2
        exact ⟨⟨h.1, h3⟩, h4⟩
  have key2 : ∀ (asx bs : List AV) (C : Ctx) (us ws : List Value), us.length = asx.length → SimL asx C us → SimL bs C ws → SimL (asx ++ bs) C (us ++ ws) := by
    intro asx
    induction asx with
    | nil => intro bs C us ws hl _ h; have : us = [] := List.eq_nil_of_length_eq_zero (by simpa using hl); subst this; exact h
    | cons a l ih =>
      intro bs C us ws hl h h2
      match us with
      | [] => simp at hl
      | u :: us =>
        simp only [List.cons_append, SimL] at h ⊢
        exact ⟨h.1, ih bs C us ws (by simpa using hl) h.2 h2⟩
  have hl1 : (vs.take xs.length).length = xs.length := by rw [List.length_take, hlen, List.length_append]; omega
  have hl2 : (vs.drop xs.length).length = ys.length := by rw [List.length_drop, hlen, List.length_append]; omega
  rw [hsp] at hs
  obtain ⟨h3, h4⟩ := key xs ys _ _ _ hl1 hs
  obtain ⟨h5, h6⟩ := h1 w0 mu N tm w phi ro _ hS h3 hl1
  obtain ⟨h7, h8⟩ := h2 w0 mu N tm w phi ro _ hS h4 hl2
  refine ⟨?_, by rw [List.length_append, ← h6, ← h8, ← List.length_append, ← hsp]⟩
  rw [hsp]
  exact key2 asx bs _ _ _ (by rw [hl1, hl]) h5 h7
theorem asksK_lend {s : AS} {fl : List AV} {k : Nat} {args : List Opd} {xs ys : List AV} (h : Bears fl) (he : args.map s.ev = xs) (hl : xs.length = ys.length) (kk : Lends s.hp xs ys) : Lends s.hp (fl.take k ++ args.map s.ev ++ fl.drop k) (fl.take k ++ ys ++ fl.drop k) := by
  rw [he]
  have h1 := bears_sub (l := fl.take k) h fun x hx => List.mem_of_mem_take hx
  have h2 := bears_sub (l := fl.drop k) h fun x hx => List.mem_of_mem_drop hx
  refine lends_app (lends_bears h1 _ kk) (by simp [hl]) (lends_self h2 _)
/-- A function value that captured one plain value is handed out. -/
theorem outs_fnp {s : AS} {f : FuncId} {r : Nat} {v : AV} (hr : s.hp r = some (true, [v])) (hv : plainV v = true) : Outs s (.fn f [.pt r 0] 0) (.fn f [.rp [v]] 0) := by
  intro w0 N tm w phi ro y hS hy
  simp only [SimV] at hy ⊢
  obtain ⟨a, b, h1, h2, h3, h4⟩ := hy
  refine ⟨a, b, h1, h2, h3, ?_⟩
  generalize a.toList ++ b.toList = l at h4
  match l with
  | [] => simp [SimL] at h4
  | x :: xs =>
    simp only [SimL, and_true, SimV] at h4 ⊢
    obtain ⟨_, _, b', k1, k2, cur, e, k3⟩ := h4
    refine ⟨b', 0, cur, e, (0, 0), k2, k3, ?_, ?_⟩
    · rcases hS.liv r _ hr with ⟨h8, _⟩ | ⟨b2, cur2, e2, h8, h9, h10, h11, h12⟩ | ⟨b2, o', h0, _⟩
      · have h8' : phi r = some b' := k1
        rw [h8] at h8'; cases h8'
      · have h8' : phi r = some b' := k1
        rw [h8] at h8'; cases h8'
        exact ⟨(h11.resolve_right fun h => by cases h.2).2.resolve_right (fun h => by obtain ⟨_, _, h⟩ := h; cases h), lt_of_get k3⟩
      · cases h0; simp [plainV] at hv
    · rcases hS.liv r _ hr with ⟨h8, _⟩ | ⟨b2, cur2, e2, h8, h9, h10, h11, h12⟩ | ⟨b2, o', h0, _⟩
      · have h8' : phi r = some b' := k1
        rw [h8] at h8'; cases h8'
      · have h8' : phi r = some b' := k1
        rw [h8] at h8'; cases h8'
        have k3' : w.heap[b']? = some (.cells cur e (0, 0)) := k3
        rw [h9] at k3'
        cases k3'
        simp only [SimR, if_true] at h12
        rw [List.drop_zero]
        exact simL_allv (by simp [hv]) h12
      · cases h0; simp [plainV] at hv
end Go.Am
namespace Go.Am
variable [Go.Am.CodeBlk]
theorem lend_nil {hp : Hp} : Lend hp (.v (.slice none 0 0)) (ints []) := by
  intro w0 mu N tm w phi ro v hS hv
  simp only [SimV] at hv ⊢
  exact .inl ⟨rfl, rfl, none, 0, hv, by simp⟩
/-- New memory that a callee made is handed on. -/
theorem outs_ro {s : AS} {z n : Nat} {cs : List AV} (hall : cs.all plainV = true) : Outs s (.ro true z cs n) (.ro true z cs n) := by
  intro w0 N tm w phi ro y hS h
  simp only [SimV] at h ⊢
  rcases h with h | ⟨b, o, cap, cur, e, fz, h1, h2, h3, h4, h5, h6, h7⟩
  · exact .inl h
  · obtain ⟨k1, k2⟩ := h6 trivial
    exact .inr ⟨b, o, cap, cur, e, fz, h1, h2, ⟨k1, lt_of_get h2⟩, h4, h5, fun _ => ⟨k1, k2⟩, simL_allv hall h7⟩
end Go.Am
namespace Go.Proofs.Ytamgcjdmcmbffaa
variable [Go.Am.CodeBlk]
open Go.Am
attribute [local irreducible] AW Outs Weak Lends Lend Sp aops atree aop1 Then Round InBlock Done
theorem slicesClone_nil_spec : Sp Try.prog 83 [ints []] (newInts []) := by
  refine spec_of Try.func83 rfl cc83 rfl ?_
  unfold ac83
  repeat (first | (refine step_ops ?_; (first | (refine m_mov (by conv => lhs; whnf) ?_) | (refine m_nils ?_))) | refine end_ops ?_ | refine seq_ops ?_ | refine AW_seq ?_)
  refine step_ops ?_
  refine m_isnil_ro0 rfl fun b => ?_
  cases b
  · repeat (first | (refine step_ops ?_; (first | (refine m_mov (by conv => lhs; whnf) ?_) | (refine m_bsl0 ?_))) | refine end_ops ?_ | refine seq_ops ?_ | (refine cond_f rfl ?_ ?_; (· first | rfl | assumption | (refine decide_eq_false ?_; first | assumption | omega) | (refine nf ?_; first | assumption | omega) | (simp [*]; done))) | refine skip_then ?_)
    refine step_ops ?_
    refine m_appro (ys := []) (cs := []) (m := 0) (n := 0) rfl (by decide) rfl rfl rfl rfl (by decide) (by decide) ?_
    repeat (first | (refine step_ops ?_; (refine m_mov (by conv => lhs; whnf) ?_)) | refine end_ops ?_ | refine AW_ret ?_ | refine ret_done ?_)
    exact outs_ints (cs := []) rfl rfl rfl
  · repeat (first | (refine step_ops ?_; (refine m_nils ?_)) | refine end_ops ?_ | refine seq_ops ?_ | (refine cond_t rfl ?_ ?_; (· first | rfl | assumption | (refine decide_eq_true ?_; first | assumption | omega) | (refine nt ?_; first | assumption | omega) | (simp [*]; done))) | refine AW_ret ?_ | refine ret_done ?_ | refine ret_then ?_)
    exact outs_ints (cs := []) rfl rfl rfl
theorem slicesClone0_spec (L : List Int) (hL : L.length ≤ 1048576) : Sp Try.prog 83 [ints L] (newInts L) := by
  by_cases h1 : 1 ≤ L.length
  · exact slicesClone_spec L hL h1
  · obtain rfl : L = [] := by
      cases L with
      | nil => rfl
      | cons a l => simp at h1
    exact slicesClone_nil_spec
/-- What a search finds. -/
def srchR (o : Option (List Int)) : AV := .tup [newInts (o.getD []), .b o.isSome]
theorem fittingFrom_spec {f : FuncId} {fl : List AV} {kk : Nat} {n : Nat} {fits : List Int → Nat → Bool} (A : AsksK Try.prog f fl kk n fits) (l : List Int) (g : Nat) (hn : n ≤ 1000) (hl : l.length < n) (hb : ∀ x ∈ l, 0 ≤ x ∧ x < n) (hg : g ≤ n) :
    Sp Try.prog 80 [.i n, ints l, .i g, .fn f fl kk] (srchR (goAt fits n l g).head?) := by
  unfold srchR
  refine spec_of Try.func80 rfl cc80 rfl ?_
  unfold ac80
  repeat (first | (refine step_ops ?_; (first | (refine m_mov (by conv => lhs; whnf) ?_) | (refine m_nils ?_))) | refine end_ops ?_ | refine seq_ops ?_)
  refine AW_scope (α := Unit) 0 (fun _ => False) (fun _ => st [] []) (fun _ => 0) rfl ?_ (fun _ hf => hf.elim)
  repeat (first | (refine step_ops ?_; (refine m_mov (by conv => lhs; whnf) ?_)) | refine seq_ops ?_)
  (refine step_ops ?_); (apply m_callo (slicesClone0_spec l (by omega))); (· repeat (first | exact lends_nil | (refine lends_cons ?_ ?_; (· (refine lend_ints ?_; first | rfl | omega))))); (· first | exact allv_ints _ | rfl | (simp; done))
  repeat (first | (refine step_ops ?_; (refine m_mov (by conv => lhs; whnf) ?_)) | refine end_ops ?_ | refine seq_ops ?_ | refine AW_seq ?_)
  refine AW_label ?_
  refine norm_then ?_
  repeat (first | refine AW_seq ?_ | refine AW_block ?_)
  refine AW_loop (α := List Int × Nat) (fun a => a.1.length ≤ n ∧ (∀ x ∈ a.1, 0 ≤ x ∧ x < n) ∧ a.2 ≤ n ∧ (goAt fits n a.1 a.2).head? = (goAt fits n l g).head?)
    (fun a => st [(0, .i n), (3, .fn f fl kk), (10, .sl 10 1 0 a.1.length), (11, .i a.2)] [(10, (true, a.1.map AV.i))]) (fun a => goMeas n a.1 a.2) (l, g) ⟨by show l.length ≤ n; omega, hb, hg, rfl⟩
    (Weak.trans (weak_move (r := 14) (q := 10) rfl (by decide) (by decide)) (weak_st ?_ ?_ ?_ rfl)) ?_
  · (repeat' (first | exact trivial | refine And.intro ?_ ?_)) <;> (first | rfl | skip)
    all_goals (simp (disch := decide) [tm_put_ne', tm_put_none, tm_mem, tm_kill, tm_mv, tm_st, tm_en0, tm_en1, tm_en2, tm_en3, tm_en4, Am.look, kill_fn A.nokill, mv_fn A.nokill])
  · exact ⟨rfl, trivial⟩
  · simp [refsT, refsV, A.norefs, Am.look]
  rintro ⟨M, y⟩ ⟨hM, hMb, hy, hres⟩
  dsimp only at hM hMb hy hres ⊢
  by_cases hfull : M.length = n
  · have hr1 : (goAt fits n l g).head? = some M := by rw [← hres]; exact goAt_full _ _ hfull
    repeat (first | (refine step_ops ?_; (first | (refine m_mov (by conv => lhs; whnf) ?_) | (refine m_eql rfl rfl ?_) | (refine m_len_sl rfl ?_))) | refine end_ops ?_ | refine seq_ops ?_ | (refine cond_t rfl ?_ ?_; (· first | rfl | assumption | (refine decide_eq_true ?_; first | assumption | omega) | (refine nt ?_; first | assumption | omega) | (simp [*]; done))) | refine AW_ret ?_ | refine ret_done ?_ | refine norm_then ?_ | refine AW_block ?_ | refine exit_round ?_ | refine AW_exit ?_ | refine exit_block ?_ | (refine exit_other ?_ ?_; (· decide)))
    rw [hr1]
    exact outs_tup2 (outs_ints rfl rfl rfl) (outs_b rfl)
  · have hMl : M.length < n := by omega
    by_cases hy2 : y < n
    · by_cases hf : fits M y = true
      · repeat (first | (refine step_ops ?_; ((try (refine g_yes rfl ?_ ?_; (· first | rfl | assumption | (refine decide_eq_true ?_; first | assumption | omega) | (refine nt ?_; first | assumption | omega) | (simp [*]; done) | (refine decide_eq_false ?_; first | assumption | omega) | (refine nf ?_; first | assumption | omega)))); (first | (refine m_mov (by conv => lhs; whnf) ?_) | (refine m_lss rfl rfl ?_) | (refine m_eql rfl rfl ?_) | (refine m_len_sl rfl ?_)))) | refine end_ops ?_ | refine seq_ops ?_ | (refine cond_f rfl ?_ ?_; (· first | rfl | assumption | (refine decide_eq_false ?_; first | assumption | omega) | (refine nf ?_; first | assumption | omega) | (simp [*]; done))) | refine AW_block ?_)
        refine step_ops ?_
        refine g_yes rfl ?_ ?_
        · first | rfl | assumption | (refine decide_eq_true ?_; first | assumption | omega) | (refine nt ?_; first | assumption | omega) | (simp [*]; done)
        refine m_callf rfl A.call (A.spec M y (by omega) hMb hy2) ?_ ?_
        · exact asksK_lend A.bears rfl rfl (lends_cons (lend_sli (by rfl) rfl) (lends_cons lend_v lends_nil))
        repeat (first | (refine step_ops ?_; (first | (refine m_mov (by conv => lhs; whnf) ?_) | (refine m_pick_t rfl ?_ (by conv => lhs; whnf) ?_; (· first | rfl | assumption | (refine decide_eq_true ?_; first | assumption | omega) | (refine nt ?_; first | assumption | omega) | (simp [*]; done))) | (refine m_bsl1 rfl rfl ?_) | (refine m_app1i rfl (by decide) (by rfl) (by first | rfl | omega | (simp; done)) rfl rfl ?_ (by decide) ?_; (· first | omega | (simp; omega))))) | refine end_ops ?_ | refine seq_ops ?_ | refine AW_ops ?_ | (refine cond_t rfl ?_ ?_; (· first | rfl | assumption | (refine decide_eq_true ?_; first | assumption | omega) | (refine nt ?_; first | assumption | omega) | (simp [*]; done))) | refine norm_block ?_)
        refine next_round (M ++ [(y : Int)], 0) ⟨by simp; omega, fun x hx => ?_, Nat.zero_le _, by rw [← hres]; exact congrArg _ (goAt_take _ _ hMl hy2 hf)⟩ (Weak.trans (weak_move (r := 45) (q := 10) rfl (by decide) (by decide)) (weak_st ?_ ?_ ?_ rfl)) ?_
        · rcases List.mem_append.1 hx with hx | hx
          · exact hMb x hx
          · rw [List.mem_singleton.1 hx]; omega
        · (repeat' (first | exact trivial | refine And.intro ?_ ?_)) <;> (first | rfl | skip)
          all_goals (simp (disch := decide) [tm_put_ne', tm_put_none, tm_mem, tm_kill, tm_mv, tm_st, tm_en0, tm_en1, tm_en2, tm_en3, tm_en4, Am.look, kill_fn A.nokill, mv_fn A.nokill])
        · exact ⟨rfl, trivial⟩
        · simp [refsT, refsV, A.norefs, Am.look]
        · exact goMeas_take hMl hy2
      · have hf : fits M y = false := by simpa using hf
        repeat (first | (refine step_ops ?_; ((try (refine g_yes rfl ?_ ?_; (· first | rfl | assumption | (refine decide_eq_true ?_; first | assumption | omega) | (refine nt ?_; first | assumption | omega) | (simp [*]; done) | (refine decide_eq_false ?_; first | assumption | omega) | (refine nf ?_; first | assumption | omega)))); (first | (refine m_mov (by conv => lhs; whnf) ?_) | (refine m_lss rfl rfl ?_) | (refine m_eql rfl rfl ?_) | (refine m_len_sl rfl ?_)))) | refine end_ops ?_ | refine seq_ops ?_ | (refine cond_f rfl ?_ ?_; (· first | rfl | assumption | (refine decide_eq_false ?_; first | assumption | omega) | (refine nf ?_; first | assumption | omega) | (simp [*]; done))) | refine AW_block ?_)
        refine step_ops ?_
        refine g_yes rfl ?_ ?_
        · first | rfl | assumption | (refine decide_eq_true ?_; first | assumption | omega) | (refine nt ?_; first | assumption | omega) | (simp [*]; done)
        refine m_callf rfl A.call (A.spec M y (by omega) hMb hy2) ?_ ?_
        · exact asksK_lend A.bears rfl rfl (lends_cons (lend_sli (by rfl) rfl) (lends_cons lend_v lends_nil))
        repeat (first | (refine step_ops ?_; (first | (refine m_mov (by conv => lhs; whnf) ?_) | (refine m_lss rfl rfl ?_) | (refine m_add rfl rfl ?_ ?_ ?_; (· omega); (· omega)) | (refine m_pick_t rfl ?_ (by conv => lhs; whnf) ?_; (· first | rfl | assumption | (refine decide_eq_true ?_; first | assumption | omega) | (refine nt ?_; first | assumption | omega) | (simp [*]; done))))) | refine end_ops ?_ | refine seq_ops ?_ | refine AW_ops ?_ | (refine cond_t rfl ?_ ?_; (· first | rfl | assumption | (refine decide_eq_true ?_; first | assumption | omega) | (refine nt ?_; first | assumption | omega) | (simp [*]; done))) | (refine cond_f rfl ?_ ?_; (· first | rfl | assumption | (refine decide_eq_false ?_; first | assumption | omega) | (refine nf ?_; first | assumption | omega) | (simp [*]; done))) | refine norm_block ?_)
        refine next_round (M, y + 1) ⟨hM, hMb, hy2, by rw [← hres]; exact congrArg _ (goAt_skip _ _ hMl hy2 hf)⟩ (weak_st ?_ ?_ ?_ rfl) ?_
        · (repeat' (first | exact trivial | refine And.intro ?_ ?_)) <;> (first | rfl | skip)
          all_goals (simp (disch := decide) [tm_put_ne', tm_put_none, tm_mem, tm_kill, tm_mv, tm_st, tm_en0, tm_en1, tm_en2, tm_en3, tm_en4, Am.look, kill_fn A.nokill, mv_fn A.nokill])
        · exact ⟨rfl, trivial⟩
        · simp [refsT, refsV, A.norefs, Am.look]
        · exact goMeas_skip hMl hy2
    · by_cases hM0 : M.length = 0
      · have hr1 : (goAt fits n l g).head? = none := by
          rw [← hres, List.length_eq_zero_iff.1 hM0, goAt_none _ _ (by omega) (by omega)]; rfl
        repeat (first | (refine step_ops ?_; (first | (first | (refine m_mov (by conv => lhs; whnf) ?_) | (refine m_lss rfl rfl ?_) | (refine m_eql rfl rfl ?_) | (refine m_len_sl rfl ?_) | (refine m_pick_f rfl ?_ (by conv => lhs; whnf) ?_; (· first | rfl | assumption | (refine decide_eq_false ?_; first | assumption | omega) | (refine nf ?_; first | assumption | omega) | (simp [*]; done))) | (refine m_nils ?_)) | (refine g_noT rfl ?_ ?_; (· first | rfl | assumption | (refine decide_eq_false ?_; first | assumption | omega) | (refine nf ?_; first | assumption | omega) | (simp [*]; done))))) | refine end_ops ?_ | refine seq_ops ?_ | (refine cond_t rfl ?_ ?_; (· first | rfl | assumption | (refine decide_eq_true ?_; first | assumption | omega) | (refine nt ?_; first | assumption | omega) | (simp [*]; done))) | (refine cond_f rfl ?_ ?_; (· first | rfl | assumption | (refine decide_eq_false ?_; first | assumption | omega) | (refine nf ?_; first | assumption | omega) | (simp [*]; done))) | refine AW_ret ?_ | refine ret_done ?_ | refine ret_then ?_ | refine AW_block ?_ | refine ret_block ?_ | refine ret_round ?_)
        rw [hr1]
        exact outs_tup2 (outs_ints rfl rfl rfl) (outs_b rfl)
      · obtain ⟨q, hq⟩ : ∃ q, M.length = q + 1 := ⟨M.length - 1, by omega⟩
        have hx := hMb _ (getD_mem (show q < M.length by omega))
        obtain ⟨k, hk⟩ := Int.eq_ofNat_of_zero_le hx.1
        have hlen : (M.take q).length = q := List.length_take_of_le (by omega)
        have hsp : M = M.take q ++ [(k : Int)] := by
          have h1 := take_snoc M q 0 (by omega)
          rw [List.take_of_length_le (by omega), hk] at h1
          exact h1
        have hgo : goAt fits n M y = goAt fits n (M.take q) (k + 1) := by
          conv => lhs; rw [hsp]
          rw [goAt_back _ _ (by omega) (by omega), Int.toNat_natCast]
        have hms : goMeas n (M.take q) (k + 1) < goMeas n M y := by
          have := goMeas_back (n := n) (l := M.take q) (x := (k : Int)) (g := y) (by omega)
          rw [← hsp, Int.toNat_natCast] at this
          exact this
        clear hsp
        repeat (first | (refine step_ops ?_; (first | (first | (refine m_mov (by conv => lhs; whnf) ?_) | (refine m_lss rfl rfl ?_) | (refine m_eql rfl rfl ?_) | (refine m_sub rfl rfl ?_ ?_ ?_; (· omega); (· omega)) | (refine m_len_sl rfl ?_) | (refine m_idx_sl rfl rfl ?_ ?_ ?_; (· omega); (· omega)) | (refine m_ld_pti rfl (by rfl) ?_ ?_; (· first | omega | (simp; omega))) | (refine m_pick_f rfl ?_ (by conv => lhs; whnf) ?_; (· first | rfl | assumption | (refine decide_eq_false ?_; first | assumption | omega) | (refine nf ?_; first | assumption | omega) | (simp [*]; done)))) | (refine g_noT rfl ?_ ?_; (· first | rfl | assumption | (refine decide_eq_false ?_; first | assumption | omega) | (refine nf ?_; first | assumption | omega) | (simp [*]; done))))) | refine end_ops ?_ | refine seq_ops ?_ | (refine cond_f rfl ?_ ?_; (· first | rfl | assumption | (refine decide_eq_false ?_; first | assumption | omega) | (refine nf ?_; first | assumption | omega) | (simp [*]; done))) | refine AW_block ?_)
        rw [show (M.length : Int) - 1 = (q : Int) by omega]
        skip
        rw [show M.getD (0 + (q : Int).toNat * 1) 0 = (k : Int) by rw [Int.toNat_natCast, Nat.zero_add, Nat.mul_one]; exact hk]
        repeat (first | (refine step_ops ?_; (first | (refine m_mov (by conv => lhs; whnf) ?_) | (refine m_add rfl rfl ?_ ?_ ?_; (· omega); (· omega)))) | refine end_ops ?_ | refine AW_ops ?_)
        refine step_ops ?_
        refine m_cut_sl (l := 0) (h := q) rfl rfl ⟨_, rfl⟩ (Nat.zero_le _) (by omega) ?_
        repeat (first | (refine step_ops ?_; (refine m_mov (by conv => lhs; whnf) ?_)) | refine end_ops ?_ | refine norm_block ?_)
        refine next_round (M.take q, k + 1) ⟨by show (M.take q).length ≤ _; omega, fun x hx => hMb x (List.mem_of_mem_take hx), by show k + 1 ≤ n; omega, by rw [← hres]; exact congrArg _ hgo.symm⟩ (Weak.trans (weak_shrink 10 q rfl (allv_ints _)) (weak_st ?_ ?_ ?_ rfl)) hms
        · rw [hlen]
          (repeat' (first | exact trivial | refine And.intro ?_ ?_)) <;> (first | rfl | skip)
          all_goals (simp (disch := decide) [tm_put_ne', tm_put_none, tm_mem, tm_kill, tm_mv, tm_st, tm_en0, tm_en1, tm_en2, tm_en3, tm_en4, Am.look, kill_fn A.nokill, mv_fn A.nokill])
        · rw [List.map_take]
          exact ⟨rfl, trivial⟩
        · simp [refsT, refsV, A.norefs, Am.look]
theorem firstFitting_spec {f : FuncId} {fl : List AV} {kk : Nat} {n : Nat} {fits : List Int → Nat → Bool} (A : AsksK Try.prog f fl kk n fits) (hn : n ≤ 1000) (h1 : 1 ≤ n) :
    Sp Try.prog 75 [.i n, .fn f fl kk] (srchR (goOn fits n n []).head?) := by
  have hs := fittingFrom_spec A [] 0 hn h1 (fun x hx => by simp at hx) (Nat.zero_le _)
  rw [goAt_start _ _ h1] at hs
  unfold srchR at hs ⊢
  generalize hsr : (goOn fits n n []).head? = sr at hs ⊢
  refine spec_of Try.func75 rfl cc75 rfl ?_
  unfold ac75
  repeat (first | (refine step_ops ?_; (first | (refine m_mov (by conv => lhs; whnf) ?_) | (refine m_nils ?_))) | refine end_ops ?_ | refine seq_ops ?_)
  refine step_ops ?_
  refine m_callt hs ?_ (allv_ints _) rfl ?_
  · refine lends_cons lend_v (lends_cons lend_nil (lends_cons lend_v (lends_cons ?_ lends_nil)))
    rw [show AS.ev _ (.t 7) = AV.fn f fl kk by (show killV 4 (AV.fn f fl kk) = _; exact kill_fn A.nokill)]
    exact lend_bears A.bears
  repeat (first | (refine step_ops ?_; (first | (refine m_mov (by conv => lhs; whnf) ?_) | (refine m_ext rfl rfl ?_))) | refine end_ops ?_ | refine AW_ret ?_ | refine ret_done ?_)
  exact outs_tup2 (outs_ints rfl rfl rfl) (outs_b rfl)
theorem nextFitting_spec {f : FuncId} {fl : List AV} {kk : Nat} {n : Nat} {fits : List Int → Nat → Bool} (A : AsksK Try.prog f fl kk n fits) (hn : n ≤ 1000) (h1 : 1 ≤ n) (L : List Int) (hL : L.length = n) (hb : ∀ x ∈ L, 0 ≤ x ∧ x < n) :
    Sp Try.prog 76 [ints L, .fn f fl kk] (srchR ((goOn fits n n []).find? (fun m => comesB L m))) := by
  have hbb : ∀ i < n, ∃ g : Nat, L.getD i 0 = g ∧ g < n := fun i hi => by
    have hr := hb _ (getD_mem (show i < L.length by omega))
    obtain ⟨q, hq⟩ := Int.eq_ofNat_of_zero_le hr.1
    exact ⟨q, hq, by omega⟩
  unfold srchR
  refine spec_of Try.func76 rfl cc76 rfl ?_
  unfold ac76
  repeat (first | (refine step_ops ?_; (first | (refine m_mov (by conv => lhs; whnf) ?_) | (refine m_nils ?_))) | refine end_ops ?_ | refine seq_ops ?_ | refine AW_seq ?_ | refine AW_block ?_)
  refine AW_loop (α := Nat) (fun k => k < n ∧ ∀ i < k, fits (L.take i) (L.getD i 0).toNat = true) (fun k => st [(0, ints L), (1, .fn f fl kk), (6, .i k)] []) (fun k => n - k) 0 ⟨by omega, fun i hi => by omega⟩ (weak_st ?_ ?_ ?_ rfl) ?_
  · (repeat' (first | exact trivial | refine And.intro ?_ ?_)) <;> (first | rfl | skip)
    all_goals (simp (disch := decide) [tm_put_ne', tm_put_none, tm_mem, tm_kill, tm_mv, tm_st, tm_en0, tm_en1, tm_en2, tm_en3, tm_en4, Am.look, kill_fn A.nokill, mv_fn A.nokill])
  · exact trivial
  · simp [refsT, refsV, A.norefs, Am.look]
  rintro k ⟨hk, ha⟩
  obtain ⟨j, hj, hjn⟩ := hbb k hk
  have hlt : (L.take k).length = k := List.length_take_of_le (by omega)
  have hend : fits (L.take k) (L.getD k 0).toNat = false ∨ k + 1 = n → Sp Try.prog 80 [.i n, ints (L.take k), .i (j + 1), .fn f fl kk] (srchR ((goOn fits n n []).find? (fun m => comesB L m))) := by
    intro he
    rw [find_behind fits n hL hbb hk ha he, hj, Int.toNat_natCast]
    exact fittingFrom_spec A (L.take k) (j + 1) hn (by omega) (fun x hx => hb x (List.mem_of_mem_take hx)) (by omega)
  unfold srchR at hend
  generalize hsr : (goOn fits n n []).find? (fun m => comesB L m) = sr at hend ⊢
  by_cases hc : (k : Int) < L.length - 1
  · have hsp := A.spec (L.take k) j (by omega) (fun x hx => hb x (List.mem_of_mem_take hx)) hjn
    by_cases hf : fits (L.take k) j = true
    · repeat (first | (refine step_tree ?_; ((try (refine g_yes rfl ?_ ?_; (· first | rfl | assumption | (refine decide_eq_true ?_; first | assumption | omega) | (refine nt ?_; first | assumption | omega) | (simp [*]; done) | (refine decide_eq_false ?_; first | assumption | omega) | (refine nf ?_; first | assumption | omega)))); (first | (refine m_mov (by conv => lhs; whnf) ?_) | (refine m_lss rfl rfl ?_) | (refine m_sub rfl rfl ?_ ?_ ?_; (· omega); (· omega)) | (refine m_len_ro rfl ?_) | (refine m_idx1_ro rfl rfl ?_ ?_; (· omega)) | (refine m_ld_rpi rfl ?_ ?_; (· omega)) | (refine m_cut_hi rfl rfl ?_ ?_ ?_; (· first | rfl | omega | simp); (· first | omega | (simp; omega)))))) | refine seq_tree ?_ | refine AW_seq ?_)
      rw [hj]
      skip
      refine step_tree ?_
      refine g_yes rfl ?_ ?_
      · first | rfl | assumption | (refine decide_eq_true ?_; first | assumption | omega) | (refine nt ?_; first | assumption | omega) | (simp [*]; done)
      refine m_callf rfl A.call hsp ?_ ?_
      · exact asksK_lend A.bears rfl rfl (lends_cons (lend_ints rfl) (lends_cons lend_v lends_nil))
      repeat (first | ((first | refine step_ops ?_ | refine step_tree ?_); (first | (refine m_mov (by conv => lhs; whnf) ?_) | (refine m_add rfl rfl ?_ ?_ ?_; (· omega); (· omega)) | (refine m_pick_t rfl ?_ (by conv => lhs; whnf) ?_; (· first | rfl | assumption | (refine decide_eq_true ?_; first | assumption | omega) | (refine nt ?_; first | assumption | omega) | (simp [*]; done))))) | refine end_ops ?_ | refine AW_ops ?_ | refine end_tree ?_ | (refine cond_t rfl ?_ ?_; (· first | rfl | assumption | (refine decide_eq_true ?_; first | assumption | omega) | (refine nt ?_; first | assumption | omega) | (simp [*]; done))) | refine skip_then ?_ | refine AW_block ?_ | refine norm_block ?_)
      refine next_round (k + 1) ⟨by omega, fun i hi => ?_⟩ (weak_st ?_ ?_ ?_ rfl) ?_
      · by_cases hik : i = k
        · subst hik; rw [hj, Int.toNat_natCast]; exact hf
        · exact ha i (by omega)
      · (repeat' (first | exact trivial | refine And.intro ?_ ?_)) <;> (first | rfl | skip)
        all_goals (simp (disch := decide) [tm_put_ne', tm_put_none, tm_mem, tm_kill, tm_mv, tm_st, tm_en0, tm_en1, tm_en2, tm_en3, tm_en4, Am.look, kill_fn A.nokill, mv_fn A.nokill])
      · exact trivial
      · simp [refsT, refsV, A.norefs, Am.look]
      · omega
    · have hf : fits (L.take k) j = false := by simpa using hf
      have hs := hend (.inl (by rw [hj, Int.toNat_natCast]; exact hf))
      repeat (first | (refine step_tree ?_; ((try (refine g_yes rfl ?_ ?_; (· first | rfl | assumption | (refine decide_eq_true ?_; first | assumption | omega) | (refine nt ?_; first | assumption | omega) | (simp [*]; done) | (refine decide_eq_false ?_; first | assumption | omega) | (refine nf ?_; first | assumption | omega)))); (first | (refine m_mov (by conv => lhs; whnf) ?_) | (refine m_lss rfl rfl ?_) | (refine m_sub rfl rfl ?_ ?_ ?_; (· omega); (· omega)) | (refine m_len_ro rfl ?_) | (refine m_idx1_ro rfl rfl ?_ ?_; (· omega)) | (refine m_ld_rpi rfl ?_ ?_; (· omega)) | (refine m_cut_hi rfl rfl ?_ ?_ ?_; (· first | rfl | omega | simp); (· first | omega | (simp; omega)))))) | refine seq_tree ?_ | refine AW_seq ?_)
      rw [hj]
      skip
      refine step_tree ?_
      refine g_yes rfl ?_ ?_
      · first | rfl | assumption | (refine decide_eq_true ?_; first | assumption | omega) | (refine nt ?_; first | assumption | omega) | (simp [*]; done)
      refine m_callf rfl A.call hsp ?_ ?_
      · exact asksK_lend A.bears rfl rfl (lends_cons (lend_ints rfl) (lends_cons lend_v lends_nil))
      repeat (first | (refine step_tree ?_; (first | (refine m_mov (by conv => lhs; whnf) ?_) | (refine m_add rfl rfl ?_ ?_ ?_; (· omega); (· omega)) | (refine m_len_ro rfl ?_) | (refine m_idx1_ro rfl rfl ?_ ?_; (· omega)) | (refine m_ld_rpi rfl ?_ ?_; (· omega)) | (refine m_pick_t rfl ?_ (by conv => lhs; whnf) ?_; (· first | rfl | assumption | (refine decide_eq_true ?_; first | assumption | omega) | (refine nt ?_; first | assumption | omega) | (simp [*]; done))) | (refine m_cut_hi rfl rfl ?_ ?_ ?_; (· first | rfl | omega | simp); (· first | omega | (simp; omega))))) | refine end_tree ?_ | refine seq_tree ?_ | (refine cond_f rfl ?_ ?_; (· first | rfl | assumption | (refine decide_eq_false ?_; first | assumption | omega) | (refine nf ?_; first | assumption | omega) | (simp [*]; done))) | refine norm_then ?_ | refine exit_then ?_ | refine exit_round ?_ | refine AW_exit ?_ | refine exit_block ?_)
      rw [hj]
      skip
      refine step_tree ?_
      refine m_call hs ?_ ?_
      · rw [← hL]
        exact lends_cons lend_v (lends_cons (lend_ints rfl) (lends_cons lend_v (lends_cons (lend_bears A.bears) lends_nil)))
      repeat (first | (refine step_tree ?_; (first | (refine m_mov (by conv => lhs; whnf) ?_) | (refine m_ext rfl rfl ?_))) | refine end_tree ?_ | refine AW_ret ?_ | refine ret_done ?_)
      exact outs_tup2 (outs_ro (allv_ints _)) (outs_b rfl)
  · have hs := hend (.inr (by omega))
    repeat (first | (refine step_tree ?_; (first | (first | (refine m_mov (by conv => lhs; whnf) ?_) | (refine m_lss rfl rfl ?_) | (refine m_add rfl rfl ?_ ?_ ?_; (· omega); (· omega)) | (refine m_sub rfl rfl ?_ ?_ ?_; (· omega); (· omega)) | (refine m_len_ro rfl ?_) | (refine m_idx1_ro rfl rfl ?_ ?_; (· omega)) | (refine m_ld_rpi rfl ?_ ?_; (· omega)) | (refine m_pick_f rfl ?_ (by conv => lhs; whnf) ?_; (· first | rfl | assumption | (refine decide_eq_false ?_; first | assumption | omega) | (refine nf ?_; first | assumption | omega) | (simp [*]; done))) | (refine m_cut_hi rfl rfl ?_ ?_ ?_; (· first | rfl | omega | simp); (· first | omega | (simp; omega)))) | (refine g_noT rfl ?_ ?_; (· first | rfl | assumption | (refine decide_eq_false ?_; first | assumption | omega) | (refine nf ?_; first | assumption | omega) | (simp [*]; done))))) | refine end_tree ?_ | refine seq_tree ?_ | (refine cond_f rfl ?_ ?_; (· first | rfl | assumption | (refine decide_eq_false ?_; first | assumption | omega) | (refine nf ?_; first | assumption | omega) | (simp [*]; done))) | refine AW_seq ?_ | refine norm_then ?_ | refine exit_then ?_ | refine exit_round ?_ | refine AW_exit ?_ | refine exit_block ?_)
    rw [hj]
    skip
    refine step_tree ?_
    refine m_call hs ?_ ?_
    · rw [← hL]
      exact lends_cons lend_v (lends_cons (lend_ints rfl) (lends_cons lend_v (lends_cons (lend_bears A.bears) lends_nil)))
    repeat (first | (refine step_tree ?_; (first | (refine m_mov (by conv => lhs; whnf) ?_) | (refine m_ext rfl rfl ?_))) | refine end_tree ?_ | refine AW_ret ?_ | refine ret_done ?_)
    exact outs_tup2 (outs_ro (allv_ints _)) (outs_b rfl)
end Go.Proofs.Ytamgcjdmcmbffaa
namespace Go.Am
variable [Go.Am.CodeBlk]
theorem g_un0 {P : Program} {own : Bool} {s : AS} {K : AS → Prop} {d : Option Nat} {op : AOp} {t : Nat} {w : Bool} (h : s.tm t = .v undef) (k : K (s.put d (.v undef))) : aop1 P own ⟨d, op, some (t, w)⟩ s K := .inr ⟨h, k⟩
/-- Does the guest behind those of a list choose a seat? -/
def chsE (l : Int) (M : List Int) : Bool := decide ((M.length : Int) < l) || decide ((M.length : Int) ∈ M)
/-- May that guest get a seat? -/
def fitsS (l : Int) (M : List Int) (y : Int) : Bool := !decide (y ∈ M) && (decide (y = (M.length : Int)) || chsE l M)
/-- The product of the numbers of free seats for the first k guests who choose. -/
def prodS (l : Int) (L : List Int) : Nat → Nat
  | 0 => 1
  | k + 1 => if chsE l (L.take k) then prodS l L k * (L.length - k) else prodS l L k
theorem prodS_le (l : Int) (L : List Int) (hL : L.length ≤ 12) : ∀ k, k ≤ L.length → 1 ≤ prodS l L k ∧ prodS l L k ≤ 12 ^ k
  | 0, _ => by simp [prodS]
  | k + 1, h => by
    obtain ⟨h1, h2⟩ := prodS_le l L hL k (by omega)
    have e : (12 : Nat) ^ (k + 1) = 12 ^ k * 12 := rfl
    simp only [prodS]
    split
    · have m1 : prodS l L k * (L.length - k) ≤ 12 ^ k * 12 := Nat.mul_le_mul h2 (by omega)
      have m2 : 1 * 1 ≤ prodS l L k * (L.length - k) := Nat.mul_le_mul h1 (by omega)
      omega
    · omega
theorem prodS_bound (l : Int) (L : List Int) (hL : L.length ≤ 12) (k : Nat) (h : k ≤ L.length) : 1 ≤ prodS l L k ∧ prodS l L k ≤ 10000000000000 := by
  obtain ⟨h1, h2⟩ := prodS_le l L hL k h
  have : (12 : Nat) ^ k ≤ 12 ^ 12 := Nat.pow_le_pow_right (by decide) (by omega)
  have : (12 : Nat) ^ 12 ≤ 10000000000000 := by decide
  omega
/-- Can the first k guests of a seating come so? -/
def comeK (l : Int) (L : List Int) (k : Nat) : Prop := ∀ j < k, chsE l (L.take j) = true ∨ L.getD j 0 = (j : Int)
instance (l : Int) (L : List Int) (k : Nat) : Decidable (comeK l L k) := inferInstanceAs (Decidable (∀ j < k, _))
theorem comeK_succ {l : Int} {L : List Int} {k : Nat} (h : comeK l L k) (h1 : chsE l (L.take k) = true ∨ L.getD k 0 = (k : Int)) : comeK l L (k + 1) := by
  intro j hj
  rcases Nat.lt_or_ge j k with h2 | h2
  · exact h j h2
  · obtain rfl : j = k := by omega
    exact h1
/-- The displaced ones of the first k guests. -/
def disp (L : List Int) (k : Nat) : List Int := ((List.range k).filter fun (i : Nat) => decide (L.getD i 0 ≠ i)).map fun (i : Nat) => (i : Int)
theorem disp_yes {L : List Int} {k : Nat} (h : L.getD k 0 ≠ k) : disp L (k + 1) = disp L k ++ [(k : Int)] := by
  unfold disp; rw [List.range_succ, List.filter_append, List.map_append, List.filter_cons_of_pos (p := fun (i : Nat) => decide (L.getD i 0 ≠ (i : Int))) (a := k) (decide_eq_true h)]; rfl
theorem disp_no {L : List Int} {k : Nat} (h : L.getD k 0 = k) : disp L (k + 1) = disp L k := by
  unfold disp; rw [List.range_succ, List.filter_append, List.map_append, List.filter_cons_of_neg (p := fun (i : Nat) => decide (L.getD i 0 ≠ (i : Int))) (a := k) (fun e => (of_decide_eq_true e) h)]; simp
theorem disp_le (L : List Int) (k : Nat) : (disp L k).length ≤ k := by
  unfold disp; rw [List.length_map]; exact Nat.le_trans (List.length_filter_le ..) (by simp)
end Go.Am
namespace Go.Proofs.Ytamgcjdmcmbffaa
variable [Go.Am.CodeBlk]
open Go.Am
attribute [local irreducible] AW Outs Weak Lends Lend Sp aops atree aop1 Then Round InBlock Done
theorem seContains_spec (L : List Int) (c : Int) (hL : L.length ≤ 1048576) : Sp Try.prog 78 [ints L, .i c] (.b (decide (c ∈ L))) := by
  refine spec_of Try.func78 rfl cc78 rfl ?_
  unfold ac78
  repeat (first | (refine step_ops ?_; (refine m_mov (by conv => lhs; whnf) ?_)) | refine end_ops ?_ | refine seq_ops ?_)
  (refine step_ops ?_); (apply m_call (slicesIndex_spec _ _ hL)); (· repeat (first | exact lends_nil | (refine lends_cons ?_ ?_; (· (first | exact lend_v | (refine lend_ints ?_; first | rfl | omega))))))
  repeat (first | (refine step_ops ?_; (first | (refine m_mov (by conv => lhs; whnf) ?_) | (refine m_geq rfl rfl ?_))) | refine end_ops ?_ | refine AW_ret ?_ | refine ret_done ?_)
  refine outs_b ?_
  refine decide_eq_decide.2 ?_
  unfold whoIs
  by_cases h : c ∈ L
  · simp [h]
  · simp [h]
theorem seChooses_spec (l : Int) (M : List Int) (hM : M.length ≤ 1048576) : Sp Try.prog 57 [ints M, .i l] (.b (chsE l M)) := by
  unfold chsE
  refine spec_of Try.func57 rfl cc57 rfl ?_
  unfold ac57
  by_cases h : (M.length : Int) < l
  · repeat (first | (refine step_ops ?_; (first | (first | (refine m_mov (by conv => lhs; whnf) ?_) | (refine m_lss rfl rfl ?_) | (refine m_len_ro rfl ?_) | (refine m_pick_t rfl ?_ (by conv => lhs; whnf) ?_; (· first | rfl | assumption | (refine decide_eq_true ?_; first | assumption | omega) | (refine nt ?_; first | assumption | omega) | (simp [*]; done)))) | (refine g_noF rfl ?_ ?_; (· first | rfl | assumption | (refine decide_eq_true ?_; first | assumption | omega) | (refine nt ?_; first | assumption | omega) | (simp [*]; done))))) | refine end_ops ?_ | refine seq_ops ?_ | refine AW_ret ?_ | refine ret_done ?_)
    exact outs_b (by simp [h])
  · repeat (first | (refine step_ops ?_; ((try (refine g_yes rfl ?_ ?_; (· first | rfl | assumption | (refine decide_eq_true ?_; first | assumption | omega) | (refine nt ?_; first | assumption | omega) | (simp [*]; done) | (refine decide_eq_false ?_; first | assumption | omega) | (refine nf ?_; first | assumption | omega)))); (first | (refine m_mov (by conv => lhs; whnf) ?_) | (refine m_lss rfl rfl ?_) | (refine m_len_ro rfl ?_)))) | refine end_ops ?_ | refine seq_ops ?_)
    (refine step_ops ?_); (refine g_yes rfl ?_ ?_; (· first | (first | rfl | assumption | (refine decide_eq_true ?_; first | assumption | omega) | (refine nt ?_; first | assumption | omega) | (simp [*]; done)) | (first | rfl | assumption | (refine decide_eq_false ?_; first | assumption | omega) | (refine nf ?_; first | assumption | omega) | (simp [*]; done))); (apply m_call (l1Has_spec M _ hM))); (· repeat (first | exact lends_nil | (refine lends_cons ?_ ?_; (· (first | exact lend_v | (refine lend_ints ?_; first | rfl | omega))))))
    repeat (first | (refine step_ops ?_; (first | (refine m_mov (by conv => lhs; whnf) ?_) | (refine m_pick_f rfl ?_ (by conv => lhs; whnf) ?_; (· first | rfl | assumption | (refine decide_eq_false ?_; first | assumption | omega) | (refine nf ?_; first | assumption | omega) | (simp [*]; done))))) | refine end_ops ?_ | refine AW_ret ?_ | refine ret_done ?_)
    exact outs_b (by simp [h])
theorem hasToChoose_spec (l : Int) (M : List Int) (hM : M.length ≤ 1048576) : Sp Try.prog 71 [.i l, ints M] (.b (chsE l M)) := by
  unfold chsE
  refine spec_of Try.func71 rfl cc71 rfl ?_
  unfold ac71
  by_cases h : (M.length : Int) < l
  · repeat (first | (refine step_ops ?_; (first | (first | (refine m_mov (by conv => lhs; whnf) ?_) | (refine m_lss rfl rfl ?_) | (refine m_len_ro rfl ?_) | (refine m_pick_t rfl ?_ (by conv => lhs; whnf) ?_; (· first | rfl | assumption | (refine decide_eq_true ?_; first | assumption | omega) | (refine nt ?_; first | assumption | omega) | (simp [*]; done)))) | (refine g_noF rfl ?_ ?_; (· first | rfl | assumption | (refine decide_eq_true ?_; first | assumption | omega) | (refine nt ?_; first | assumption | omega) | (simp [*]; done))))) | refine end_ops ?_ | refine seq_ops ?_ | refine AW_ret ?_ | refine ret_done ?_)
    exact outs_b (by simp [h])
  · repeat (first | (refine step_ops ?_; ((try (refine g_yes rfl ?_ ?_; (· first | rfl | assumption | (refine decide_eq_true ?_; first | assumption | omega) | (refine nt ?_; first | assumption | omega) | (simp [*]; done) | (refine decide_eq_false ?_; first | assumption | omega) | (refine nf ?_; first | assumption | omega)))); (first | (refine m_mov (by conv => lhs; whnf) ?_) | (refine m_lss rfl rfl ?_) | (refine m_len_ro rfl ?_)))) | refine end_ops ?_ | refine seq_ops ?_)
    (refine step_ops ?_); (refine g_yes rfl ?_ ?_; (· first | (first | rfl | assumption | (refine decide_eq_true ?_; first | assumption | omega) | (refine nt ?_; first | assumption | omega) | (simp [*]; done)) | (first | rfl | assumption | (refine decide_eq_false ?_; first | assumption | omega) | (refine nf ?_; first | assumption | omega) | (simp [*]; done))); (apply m_call (seContains_spec M _ hM))); (· repeat (first | exact lends_nil | (refine lends_cons ?_ ?_; (· (first | exact lend_v | (refine lend_ints ?_; first | rfl | omega))))))
    repeat (first | (refine step_ops ?_; (first | (refine m_mov (by conv => lhs; whnf) ?_) | (refine m_pick_f rfl ?_ (by conv => lhs; whnf) ?_; (· first | rfl | assumption | (refine decide_eq_false ?_; first | assumption | omega) | (refine nf ?_; first | assumption | omega) | (simp [*]; done))))) | refine end_ops ?_ | refine AW_ret ?_ | refine ret_done ?_)
    exact outs_b (by simp [h])
theorem canSit_spec (l : Int) : Sp Try.prog 70 [.i l] (.fn 77 [.rp [.i l]] 0) := by
  refine spec_of Try.func70 rfl cc70 rfl ?_
  unfold ac70
  repeat (first | (refine step_ops ?_; (first | (refine m_mov (by conv => lhs; whnf) ?_) | (refine m_mkf ?_) | (refine m_box1 rfl rfl ?_))) | refine end_ops ?_ | refine seq_ops ?_ | refine AW_ret ?_ | refine ret_done ?_)
  exact outs_fnp rfl rfl
theorem canSitAsk_spec (l : Int) (M : List Int) (y : Int) (hM : M.length ≤ 1048576) : Sp Try.prog 77 [ints M, .i y, .rp [.i l]] (.b (fitsS l M y)) := by
  unfold fitsS
  refine spec_of Try.func77 rfl cc77 rfl ?_
  unfold ac77
  by_cases hm : y ∈ M
  · repeat (first | (refine step_ops ?_; (refine m_mov (by conv => lhs; whnf) ?_)) | refine end_ops ?_ | refine seq_ops ?_)
    (refine step_ops ?_); (apply m_call (seContains_spec M y hM)); (· repeat (first | exact lends_nil | (refine lends_cons ?_ ?_; (· (first | exact lend_v | (refine lend_ints ?_; first | rfl | omega))))))
    repeat (first | ((first | (refine step_ops ?_; (first | (first | (refine m_mov (by conv => lhs; whnf) ?_) | (refine m_not rfl ?_) | (refine m_pick_f rfl ?_ (by conv => lhs; whnf) ?_; (· first | rfl | assumption | (refine decide_eq_false ?_; first | assumption | omega) | (refine nf ?_; first | assumption | omega) | (simp [*]; done)))) | (refine g_noT rfl ?_ ?_; (· first | rfl | assumption | (refine decide_eq_false ?_; first | assumption | omega) | (refine nf ?_; first | assumption | omega) | (simp [*]; done))))) | refine end_ops ?_ | refine AW_ret ?_ | refine ret_done ?_)) | (refine step_ops ?_; refine g_un0 rfl ?_))
    refine outs_b ?_
    simp [hm]
  by_cases he : y = (M.length : Int)
  · have hm' : ¬ (M.length : Int) ∈ M := by rw [← he]; exact hm
    repeat (first | (refine step_ops ?_; (refine m_mov (by conv => lhs; whnf) ?_)) | refine end_ops ?_ | refine seq_ops ?_)
    (refine step_ops ?_); (apply m_call (seContains_spec M y hM)); (· repeat (first | exact lends_nil | (refine lends_cons ?_ ?_; (· (first | exact lend_v | (refine lend_ints ?_; first | rfl | omega))))))
    repeat (first | (refine step_ops ?_; (first | ((try (refine g_yes rfl ?_ ?_; (· first | rfl | assumption | (refine decide_eq_true ?_; first | assumption | omega) | (refine nt ?_; first | assumption | omega) | (simp [*]; done) | (refine decide_eq_false ?_; first | assumption | omega) | (refine nf ?_; first | assumption | omega)))); (first | (refine m_mov (by conv => lhs; whnf) ?_) | (refine m_eql rfl rfl ?_) | (refine m_not rfl ?_) | (refine m_len_ro rfl ?_) | (refine m_pick_t rfl ?_ (by conv => lhs; whnf) ?_; (· first | rfl | assumption | (refine decide_eq_true ?_; first | assumption | omega) | (refine nt ?_; first | assumption | omega) | (simp [*]; done))))) | (refine g_noF rfl ?_ ?_; (· first | rfl | assumption | (refine decide_eq_true ?_; first | assumption | omega) | (refine nt ?_; first | assumption | omega) | (simp [*]; done))))) | refine end_ops ?_ | refine AW_ret ?_ | refine ret_done ?_)
    refine outs_b ?_
    simp [hm', he]
  · repeat (first | (refine step_ops ?_; (refine m_mov (by conv => lhs; whnf) ?_)) | refine end_ops ?_ | refine seq_ops ?_)
    (refine step_ops ?_); (apply m_call (seContains_spec M y hM)); (· repeat (first | exact lends_nil | (refine lends_cons ?_ ?_; (· (first | exact lend_v | (refine lend_ints ?_; first | rfl | omega))))))
    repeat (refine step_ops ?_; ((try (refine g_yes rfl ?_ ?_; (· first | rfl | assumption | (refine decide_eq_true ?_; first | assumption | omega) | (refine nt ?_; first | assumption | omega) | (simp [*]; done) | (refine decide_eq_false ?_; first | assumption | omega) | (refine nf ?_; first | assumption | omega)))); (first | (refine m_mov (by conv => lhs; whnf) ?_) | (refine m_eql rfl rfl ?_) | (refine m_not rfl ?_) | (refine m_len_ro rfl ?_) | (apply m_ld_rp; (· rfl); (· rfl)))))
    (refine step_ops ?_); (refine g_yes rfl ?_ ?_; (· first | (first | rfl | assumption | (refine decide_eq_true ?_; first | assumption | omega) | (refine nt ?_; first | assumption | omega) | (simp [*]; done)) | (first | rfl | assumption | (refine decide_eq_false ?_; first | assumption | omega) | (refine nf ?_; first | assumption | omega) | (simp [*]; done))); (apply m_call (hasToChoose_spec l M hM))); (· repeat (first | exact lends_nil | (refine lends_cons ?_ ?_; (· (first | exact lend_v | (refine lend_ints ?_; first | rfl | omega))))))
    repeat (first | (refine step_ops ?_; ((try (refine g_yes rfl ?_ ?_; (· first | rfl | assumption | (refine decide_eq_true ?_; first | assumption | omega) | (refine nt ?_; first | assumption | omega) | (simp [*]; done) | (refine decide_eq_false ?_; first | assumption | omega) | (refine nf ?_; first | assumption | omega)))); (first | (refine m_mov (by conv => lhs; whnf) ?_) | (refine m_pick_t rfl ?_ (by conv => lhs; whnf) ?_; (· first | rfl | assumption | (refine decide_eq_true ?_; first | assumption | omega) | (refine nt ?_; first | assumption | omega) | (simp [*]; done))) | (refine m_pick_f rfl ?_ (by conv => lhs; whnf) ?_; (· first | rfl | assumption | (refine decide_eq_false ?_; first | assumption | omega) | (refine nf ?_; first | assumption | omega) | (simp [*]; done)))))) | refine end_ops ?_ | refine AW_ret ?_ | refine ret_done ?_)
    refine outs_b ?_
    simp [hm, he]
theorem seCan_spec (l : Int) (L : List Int) (hL : L.length ≤ 12) : Sp Try.prog 38 [.i l, ints L] (.tup [.b (decide (comeK l L L.length)), .i (if comeK l L L.length then prodS l L L.length else 0 : Nat)]) := by
  refine spec_of Try.func38 rfl cc38 rfl ?_
  unfold ac38
  repeat (first | (refine step_ops ?_; (first | (refine m_mov (by conv => lhs; whnf) ?_) | (refine m_len_ro rfl ?_))) | refine end_ops ?_ | refine seq_ops ?_ | refine AW_seq ?_ | refine AW_block ?_)
  refine AW_loop (α := Nat) (fun k => k ≤ L.length ∧ comeK l L k) (fun k => st [(0, .i l), (1, ints L), (6, .i (prodS l L k)), (10, ints L), (11, .i L.length), (12, .i k)] []) (fun k => L.length - k) 0 ⟨by omega, fun j hj => by omega⟩ (weak_st ?_ ?_ rfl rfl) ?_
  · (repeat' (first | exact trivial | refine And.intro ?_ ?_)) <;> (first | rfl | skip)
  · trivial
  rintro k ⟨hk, hcm⟩
  by_cases h : k < L.length
  · have hlt : (L.take k).length ≤ 1048576 := by simp; omega
    have hb := prodS_bound l L hL (k + 1) (by omega)
    have hb0 := prodS_bound l L hL k (by omega)
    by_cases hc : chsE l (L.take k) = true
    · have e : prodS l L (k + 1) = prodS l L k * (L.length - k) := if_pos hc
      rw [e] at hb
      have c1 : ((prodS l L k : Nat) : Int) * ((L.length : Int) - (k : Int)) = ((prodS l L k * (L.length - k) : Nat) : Int) := by
        rw [show (L.length : Int) - (k : Int) = ((L.length - k : Nat) : Int) by omega]; simp
      repeat (first | (refine step_ops ?_; (first | (refine m_mov (by conv => lhs; whnf) ?_) | (refine m_lss rfl rfl ?_) | (refine m_idx1_ro rfl rfl ?_ ?_; (· omega)) | (refine m_ld_rpi rfl ?_ ?_; (· omega)) | (refine m_cut_hi rfl rfl ?_ ?_ ?_; (· first | rfl | omega | simp); (· first | omega | (simp; omega))))) | refine end_ops ?_ | refine seq_ops ?_ | (refine cond_t rfl ?_ ?_; (· first | rfl | assumption | (refine decide_eq_true ?_; first | assumption | omega) | (refine nt ?_; first | assumption | omega) | (simp [*]; done))) | refine skip_then ?_ | refine AW_seq ?_ | refine AW_block ?_)
      (refine step_ops ?_); (apply m_call (seChooses_spec l (L.take k) hlt)); (· repeat (first | exact lends_nil | (refine lends_cons ?_ ?_; (· (first | exact lend_v | (refine lend_ints ?_; first | rfl | omega))))))
      repeat (first | (refine step_ops ?_; (first | (refine m_mov (by conv => lhs; whnf) ?_) | (refine m_add rfl rfl ?_ ?_ ?_; (· omega); (· omega)) | (refine m_sub rfl rfl ?_ ?_ ?_; (· omega); (· omega)) | (refine m_mul rfl rfl ?_ ?_ ?_; (· first | omega | (simp; done)); (· first | omega | (simp; done))) | (refine m_len_ro rfl ?_))) | refine end_ops ?_ | refine AW_ops ?_ | (refine cond_t rfl ?_ ?_; (· first | rfl | assumption | (refine decide_eq_true ?_; first | assumption | omega) | (refine nt ?_; first | assumption | omega) | (simp [*]; done))) | refine norm_then ?_ | refine norm_block ?_)
      refine next_round (k + 1) ⟨by omega, comeK_succ hcm (.inl hc)⟩ (weak_st ?_ ?_ rfl rfl) ?_
      · rw [e, ← c1]
        (repeat' (first | exact trivial | refine And.intro ?_ ?_)) <;> (first | rfl | skip)
      · trivial
      · omega
    · have e : prodS l L (k + 1) = prodS l L k := if_neg hc
      have hcf : chsE l (L.take k) = false := by simpa using hc
      by_cases hx : L.getD k 0 = (k : Int)
      · repeat (first | (refine step_ops ?_; (first | (refine m_mov (by conv => lhs; whnf) ?_) | (refine m_lss rfl rfl ?_) | (refine m_idx1_ro rfl rfl ?_ ?_; (· omega)) | (refine m_ld_rpi rfl ?_ ?_; (· omega)) | (refine m_cut_hi rfl rfl ?_ ?_ ?_; (· first | rfl | omega | simp); (· first | omega | (simp; omega))))) | refine end_ops ?_ | refine seq_ops ?_ | (refine cond_t rfl ?_ ?_; (· first | rfl | assumption | (refine decide_eq_true ?_; first | assumption | omega) | (refine nt ?_; first | assumption | omega) | (simp [*]; done))) | refine skip_then ?_ | refine AW_seq ?_ | refine AW_block ?_)
        (refine step_ops ?_); (apply m_call (seChooses_spec l (L.take k) hlt)); (· repeat (first | exact lends_nil | (refine lends_cons ?_ ?_; (· (first | exact lend_v | (refine lend_ints ?_; first | rfl | omega))))))
        repeat (first | (refine step_ops ?_; (first | (refine m_mov (by conv => lhs; whnf) ?_) | (refine m_neq rfl rfl ?_) | (refine m_add rfl rfl ?_ ?_ ?_; (· omega); (· omega)))) | refine end_ops ?_ | refine seq_ops ?_ | refine AW_ops ?_ | (refine cond_f rfl ?_ ?_; (· first | rfl | assumption | (refine decide_eq_false ?_; first | assumption | omega) | (refine nf ?_; first | assumption | omega) | (simp [*]; done))) | refine norm_then ?_ | refine norm_block ?_ | refine AW_skip ?_)
        refine next_round (k + 1) ⟨by omega, comeK_succ hcm (.inr hx)⟩ (weak_st ?_ ?_ rfl rfl) ?_
        · rw [e]
          (repeat' (first | exact trivial | refine And.intro ?_ ?_)) <;> (first | rfl | skip)
        · trivial
        · omega
      · repeat (first | (refine step_ops ?_; (first | (refine m_mov (by conv => lhs; whnf) ?_) | (refine m_lss rfl rfl ?_) | (refine m_idx1_ro rfl rfl ?_ ?_; (· omega)) | (refine m_ld_rpi rfl ?_ ?_; (· omega)) | (refine m_cut_hi rfl rfl ?_ ?_ ?_; (· first | rfl | omega | simp); (· first | omega | (simp; omega))))) | refine end_ops ?_ | refine seq_ops ?_ | (refine cond_t rfl ?_ ?_; (· first | rfl | assumption | (refine decide_eq_true ?_; first | assumption | omega) | (refine nt ?_; first | assumption | omega) | (simp [*]; done))) | refine skip_then ?_ | refine AW_seq ?_ | refine AW_block ?_)
        (refine step_ops ?_); (apply m_call (seChooses_spec l (L.take k) hlt)); (· repeat (first | exact lends_nil | (refine lends_cons ?_ ?_; (· (first | exact lend_v | (refine lend_ints ?_; first | rfl | omega))))))
        repeat (first | (refine step_ops ?_; (first | (refine m_mov (by conv => lhs; whnf) ?_) | (refine m_neq rfl rfl ?_))) | refine end_ops ?_ | refine seq_ops ?_ | (refine cond_t rfl ?_ ?_; (· first | rfl | assumption | (refine decide_eq_true ?_; first | assumption | omega) | (refine nt ?_; first | assumption | omega) | (simp [*]; done))) | (refine cond_f rfl ?_ ?_; (· first | rfl | assumption | (refine decide_eq_false ?_; first | assumption | omega) | (refine nf ?_; first | assumption | omega) | (simp [*]; done))) | refine AW_ret ?_ | refine ret_done ?_ | refine ret_then ?_ | refine ret_block ?_ | refine ret_round ?_)
        have hno : ¬ comeK l L L.length := fun hh => by
          rcases hh k h with h1 | h1
          · exact hc h1
          · exact hx h1
        refine outs_tup2 (outs_b (decide_eq_false hno).symm) (outs_i ?_)
        rw [if_neg hno]; rfl
  · obtain rfl : k = L.length := by omega
    repeat (first | (refine step_ops ?_; (first | (refine m_mov (by conv => lhs; whnf) ?_) | (refine m_lss rfl rfl ?_))) | refine end_ops ?_ | refine seq_ops ?_ | (refine cond_f rfl ?_ ?_; (· first | rfl | assumption | (refine decide_eq_false ?_; first | assumption | omega) | (refine nf ?_; first | assumption | omega) | (simp [*]; done))) | refine AW_seq ?_ | refine AW_ret ?_ | refine ret_done ?_ | refine norm_then ?_ | refine exit_then ?_ | refine exit_round ?_ | refine AW_exit ?_ | refine exit_block ?_)
    refine outs_tup2 (outs_b (decide_eq_true hcm).symm) (outs_i ?_)
    rw [if_pos hcm]
theorem countChosen_spec (l : Int) (L : List Int) (hL : L.length ≤ 12) : Sp Try.prog 55 [.i l, ints L] (.i (prodS l L L.length)) := by
  refine spec_of Try.func55 rfl cc55 rfl ?_
  unfold ac55
  repeat (first | (refine step_ops ?_; (first | (refine m_mov (by conv => lhs; whnf) ?_) | (refine m_len_ro rfl ?_))) | refine end_ops ?_ | refine seq_ops ?_ | refine AW_seq ?_ | refine AW_block ?_)
  refine AW_loop (α := Nat) (fun k => k ≤ L.length) (fun k => st [(0, .i l), (1, ints L), (5, .i (prodS l L k)), (8, .i L.length), (9, .i k)] []) (fun k => L.length - k) 0 (by omega) (weak_st ?_ ?_ rfl rfl) ?_
  · (repeat' (first | exact trivial | refine And.intro ?_ ?_)) <;> (first | rfl | skip)
  · trivial
  intro k hk
  by_cases h : k < L.length
  · have hlt : (L.take k).length ≤ 1048576 := by simp; omega
    have hb := prodS_bound l L hL (k + 1) (by omega)
    have hb0 := prodS_bound l L hL k (by omega)
    by_cases hc : chsE l (L.take k) = true
    · have e : prodS l L (k + 1) = prodS l L k * (L.length - k) := if_pos hc
      rw [e] at hb
      have c1 : ((prodS l L k : Nat) : Int) * ((L.length : Int) - (k : Int)) = ((prodS l L k * (L.length - k) : Nat) : Int) := by
        rw [show (L.length : Int) - (k : Int) = ((L.length - k : Nat) : Int) by omega]; simp
      repeat (first | (refine step_ops ?_; (first | (refine m_mov (by conv => lhs; whnf) ?_) | (refine m_lss rfl rfl ?_) | (refine m_cut_hi rfl rfl ?_ ?_ ?_; (· first | rfl | omega | simp); (· first | omega | (simp; omega))))) | refine end_ops ?_ | refine seq_ops ?_ | (refine cond_t rfl ?_ ?_; (· first | rfl | assumption | (refine decide_eq_true ?_; first | assumption | omega) | (refine nt ?_; first | assumption | omega) | (simp [*]; done))) | refine skip_then ?_ | refine AW_seq ?_ | refine AW_block ?_)
      (refine step_ops ?_); (apply m_call (hasToChoose_spec l (L.take k) hlt)); (· repeat (first | exact lends_nil | (refine lends_cons ?_ ?_; (· (first | exact lend_v | (refine lend_ints ?_; first | rfl | omega))))))
      repeat (first | (refine step_ops ?_; (first | (refine m_mov (by conv => lhs; whnf) ?_) | (refine m_add rfl rfl ?_ ?_ ?_; (· omega); (· omega)) | (refine m_sub rfl rfl ?_ ?_ ?_; (· omega); (· omega)) | (refine m_mul rfl rfl ?_ ?_ ?_; (· first | omega | (simp; done)); (· first | omega | (simp; done))) | (refine m_len_ro rfl ?_))) | refine end_ops ?_ | refine AW_ops ?_ | (refine cond_t rfl ?_ ?_; (· first | rfl | assumption | (refine decide_eq_true ?_; first | assumption | omega) | (refine nt ?_; first | assumption | omega) | (simp [*]; done))) | refine norm_then ?_ | refine norm_block ?_)
      refine next_round (k + 1) (by omega) (weak_st ?_ ?_ rfl rfl) ?_
      · rw [e, ← c1]
        (repeat' (first | exact trivial | refine And.intro ?_ ?_)) <;> (first | rfl | skip)
      · trivial
      · omega
    · have e : prodS l L (k + 1) = prodS l L k := if_neg hc
      have hcf : chsE l (L.take k) = false := by simpa using hc
      repeat (first | (refine step_ops ?_; (first | (refine m_mov (by conv => lhs; whnf) ?_) | (refine m_lss rfl rfl ?_) | (refine m_cut_hi rfl rfl ?_ ?_ ?_; (· first | rfl | omega | simp); (· first | omega | (simp; omega))))) | refine end_ops ?_ | refine seq_ops ?_ | (refine cond_t rfl ?_ ?_; (· first | rfl | assumption | (refine decide_eq_true ?_; first | assumption | omega) | (refine nt ?_; first | assumption | omega) | (simp [*]; done))) | refine skip_then ?_ | refine AW_seq ?_ | refine AW_block ?_)
      (refine step_ops ?_); (apply m_call (hasToChoose_spec l (L.take k) hlt)); (· repeat (first | exact lends_nil | (refine lends_cons ?_ ?_; (· (first | exact lend_v | (refine lend_ints ?_; first | rfl | omega))))))
      repeat (first | (refine step_ops ?_; (first | (refine m_mov (by conv => lhs; whnf) ?_) | (refine m_add rfl rfl ?_ ?_ ?_; (· omega); (· omega)))) | refine end_ops ?_ | refine AW_ops ?_ | (refine cond_f rfl ?_ ?_; (· first | rfl | assumption | (refine decide_eq_false ?_; first | assumption | omega) | (refine nf ?_; first | assumption | omega) | (simp [*]; done))) | refine norm_then ?_ | refine norm_block ?_ | refine AW_skip ?_)
      refine next_round (k + 1) (by omega) (weak_st ?_ ?_ rfl rfl) ?_
      · rw [e]
        (repeat' (first | exact trivial | refine And.intro ?_ ?_)) <;> (first | rfl | skip)
      · trivial
      · omega
  · obtain rfl : k = L.length := by omega
    repeat (first | (refine step_ops ?_; (first | (refine m_mov (by conv => lhs; whnf) ?_) | (refine m_lss rfl rfl ?_))) | refine end_ops ?_ | refine seq_ops ?_ | (refine cond_f rfl ?_ ?_; (· first | rfl | assumption | (refine decide_eq_false ?_; first | assumption | omega) | (refine nf ?_; first | assumption | omega) | (simp [*]; done))) | refine AW_seq ?_ | refine AW_ret ?_ | refine ret_done ?_ | refine norm_then ?_ | refine exit_then ?_ | refine exit_round ?_ | refine AW_exit ?_ | refine exit_block ?_)
    exact outs_i rfl
theorem displacedIn_spec (L : List Int) (hL : L.length ≤ 1048576) : Sp Try.prog 49 [ints L] (newInts (disp L L.length)) := by
  refine spec_of Try.func49 rfl cc49 rfl ?_
  unfold ac49
  repeat (first | (refine step_ops ?_; (first | (refine m_mov (by conv => lhs; whnf) ?_) | (refine m_len_ro rfl ?_) | (refine m_nils ?_))) | refine end_ops ?_ | refine seq_ops ?_ | refine AW_seq ?_ | refine AW_block ?_)
  refine AW_loop (α := Nat × Nat) (fun a => a.1 ≤ L.length ∧ (a.2 = 3 ∨ a.2 = 19)) (fun a => st [(6, ints L), (7, .i L.length), (8, .i a.1), (3, .sl a.2 1 0 (disp L a.1).length)] [(a.2, (true, (disp L a.1).map AV.i))]) (fun a => L.length - a.1) (0, 3) (by simp) (weak_st ?_ ?_ rfl rfl) ?_
  · (repeat' (first | exact trivial | refine And.intro ?_ ?_)) <;> (first | rfl | skip)
  · exact ⟨rfl, trivial⟩
  rintro ⟨k, r⟩ ⟨hk, hr⟩
  have hn := disp_le L k
  simp only at hk hr
  rcases hr with rfl | rfl
  all_goals
    dsimp only
    by_cases h : k < L.length
    · by_cases hx : L.getD k 0 = k
      · repeat (first | (refine step_ops ?_; (first | (refine m_mov (by conv => lhs; whnf) ?_) | (refine m_lss rfl rfl ?_) | (refine m_neq rfl rfl ?_) | (refine m_add rfl rfl ?_ ?_ ?_; (· omega); (· omega)) | (refine m_idx1_ro rfl rfl ?_ ?_; (· omega)) | (refine m_ld_rpi rfl ?_ ?_; (· omega)))) | refine end_ops ?_ | refine seq_ops ?_ | refine AW_ops ?_ | (refine cond_t rfl ?_ ?_; (· first | rfl | assumption | (refine decide_eq_true ?_; first | assumption | omega) | (refine nt ?_; first | assumption | omega) | (simp [*]; done))) | (refine cond_f rfl ?_ ?_; (· first | rfl | assumption | (refine decide_eq_false ?_; first | assumption | omega) | (refine nf ?_; first | assumption | omega) | (simp [*]; done))) | refine skip_then ?_ | refine AW_seq ?_ | refine norm_then ?_ | refine AW_block ?_ | refine norm_block ?_ | refine AW_skip ?_)
        first
        | (refine next_round (k + 1, 3) ⟨by omega, .inl rfl⟩ (weak_st ?_ ?_ rfl rfl) ?_
           · exact ⟨rfl, rfl, rfl, by show _ = AV.sl 3 1 0 (disp L (k + 1)).length; rw [disp_no hx]; rfl, trivial⟩
           · exact ⟨by show _ = some (true, (disp L (k + 1)).map AV.i); rw [disp_no hx]; rfl, trivial⟩
           · omega)
        | (refine next_round (k + 1, 19) ⟨by omega, .inr rfl⟩ (weak_st ?_ ?_ rfl rfl) ?_
           · exact ⟨rfl, rfl, rfl, by show _ = AV.sl 19 1 0 (disp L (k + 1)).length; rw [disp_no hx]; rfl, trivial⟩
           · exact ⟨by show _ = some (true, (disp L (k + 1)).map AV.i); rw [disp_no hx]; rfl, trivial⟩
           · omega)
      · repeat (first | (refine step_ops ?_; (first | (refine m_mov (by conv => lhs; whnf) ?_) | (refine m_lss rfl rfl ?_) | (refine m_neq rfl rfl ?_) | (refine m_add rfl rfl ?_ ?_ ?_; (· omega); (· omega)) | (refine m_idx1_ro rfl rfl ?_ ?_; (· omega)) | (refine m_ld_rpi rfl ?_ ?_; (· omega)) | (refine m_bsl1 rfl rfl ?_) | (refine m_app1i rfl (by decide) (by rfl) (by first | rfl | omega | (simp; done)) rfl rfl ?_ (by decide) ?_; (· first | omega | (simp; omega))))) | refine end_ops ?_ | refine seq_ops ?_ | refine AW_ops ?_ | (refine cond_t rfl ?_ ?_; (· first | rfl | assumption | (refine decide_eq_true ?_; first | assumption | omega) | (refine nt ?_; first | assumption | omega) | (simp [*]; done))) | refine skip_then ?_ | refine AW_seq ?_ | refine norm_then ?_ | refine AW_block ?_ | refine norm_block ?_)
        refine next_round (k + 1, 19) ⟨by omega, .inr rfl⟩ (weak_st ?_ ?_ rfl rfl) ?_
        · refine ⟨rfl, rfl, rfl, ?_, trivial⟩
          show AV.sl 19 1 0 (disp L k ++ [(k : Int)]).length = AV.sl 19 1 0 (disp L (k + 1)).length
          rw [disp_yes hx]
        · refine ⟨?_, trivial⟩
          show some (true, (disp L k ++ [(k : Int)]).map AV.i) = some (true, (disp L (k + 1)).map AV.i)
          rw [disp_yes hx]
        · omega
    · repeat (first | (refine step_ops ?_; (first | (refine m_mov (by conv => lhs; whnf) ?_) | (refine m_lss rfl rfl ?_))) | refine end_ops ?_ | refine seq_ops ?_ | (refine cond_f rfl ?_ ?_; (· first | rfl | assumption | (refine decide_eq_false ?_; first | assumption | omega) | (refine nf ?_; first | assumption | omega) | (simp [*]; done))) | refine AW_seq ?_ | refine AW_ret ?_ | refine ret_done ?_ | refine norm_then ?_ | refine exit_then ?_ | refine exit_round ?_ | refine AW_exit ?_ | refine exit_block ?_)
      obtain rfl : k = L.length := by omega
      exact outs_ints rfl rfl rfl
end Go.Proofs.Ytamgcjdmcmbffaa
namespace Go.Am
variable [Go.Am.CodeBlk]
/-- May the guest behind those of a list get a seat? -/
def fitsN (l : Int) (M : List Int) (y : Nat) : Bool := fitsS l M (y : Int)
/-- The seats that are free. -/
def freeN (n : Nat) (M : List Int) : List Nat := (List.range n).filter fun (x : Nat) => !decide ((x : Int) ∈ M)
theorem range_one (n g : Nat) (h : g < n) (p : Nat → Bool) (hp : ∀ x, p x = decide (x = g)) : (List.range n).filter p = [g] := by
  induction n with
  | zero => omega
  | succ n ih =>
    rw [List.range_succ, List.filter_append]
    by_cases hg : g < n
    · rw [ih hg, List.filter_cons_of_neg (by rw [hp]; simp; omega)]; rfl
    · obtain rfl : g = n := by omega
      rw [List.filter_eq_nil_iff.2 fun x hx => by have := List.mem_range.1 hx; rw [hp]; simp; omega, List.filter_cons_of_pos (by rw [hp]; simp)]; rfl
theorem goOn_forced {l : Int} {n k : Nat} {M : List Int} (hM : M.length < n) (hc : chsE l M = false) : goOn (fitsN l) n (k + 1) M = goOn (fitsN l) n k (M ++ [(M.length : Int)]) := by
  have hc2 := hc
  unfold chsE at hc2
  simp only [Bool.or_eq_false_iff, decide_eq_false_iff_not] at hc2
  rw [goOn, range_one n M.length hM]
  · simp
  · intro x
    unfold fitsN fitsS
    rw [hc, Bool.or_false]
    by_cases hx : x = M.length
    · subst hx; simp [hc2.2]
    · have : ¬ (x : Int) = (M.length : Int) := by omega
      simp [this, hx]
theorem goOn_free {l : Int} {n k : Nat} {M : List Int} (hc : chsE l M = true) : goOn (fitsN l) n (k + 1) M = (freeN n M).flatMap fun (x : Nat) => goOn (fitsN l) n k (M ++ [(x : Int)]) := by
  rw [goOn]
  congr 1
  unfold freeN
  refine List.filter_congr fun x _ => ?_
  unfold fitsN fitsS
  rw [hc, Bool.or_true, Bool.and_true]
/-- A beginning of a seating: all on other seats. -/
def IsBeg (n : Nat) (M : List Int) : Prop := M.Nodup ∧ ∀ x ∈ M, 0 ≤ x ∧ x < (n : Int)
theorem beg_nil (n : Nat) : IsBeg n [] := ⟨List.nodup_nil, fun x hx => by simp at hx⟩
theorem beg_snoc {n : Nat} {M : List Int} {x : Nat} (h : IsBeg n M) (hx : x < n) (hn : (x : Int) ∉ M) : IsBeg n (M ++ [(x : Int)]) := by
  refine ⟨?_, fun y hy => ?_⟩
  · rw [List.nodup_append]
    exact ⟨h.1, by simp, fun a ha b hb e => hn (by rw [List.mem_singleton] at hb; rw [← hb, ← e]; exact ha)⟩
  · rcases List.mem_append.1 hy with hy | hy
    · exact h.2 y hy
    · rw [List.mem_singleton] at hy; subst hy; omega
theorem cnt_ne (a : Nat) (p : Nat → Bool) (hp : p a = true) : ∀ R : List Nat, R.Nodup → a ∈ R → (R.filter fun x => p x && decide (x ≠ a)).length + 1 = (R.filter p).length
  | [], _, h => by simp at h
  | b :: R, hn, h => by
    rw [List.nodup_cons] at hn
    by_cases hb : b = a
    · subst hb
      have e : R.filter (fun x => p x && decide (x ≠ b)) = R.filter p := List.filter_congr fun x hx => by
        have : x ≠ b := fun e => hn.1 (e ▸ hx)
        simp [this]
      rw [List.filter_cons_of_neg (by simp), List.filter_cons_of_pos hp, e]; rfl
    · have hm : a ∈ R := by
        rcases List.mem_cons.1 h with h | h
        · exact absurd h.symm hb
        · exact h
      have ih := cnt_ne a p hp R hn.2 hm
      by_cases hq : p b = true
      · rw [List.filter_cons_of_pos (by simp [hq, hb]), List.filter_cons_of_pos hq]
        simp only [List.length_cons]; omega
      · rw [List.filter_cons_of_neg (by simp [hq]), List.filter_cons_of_neg hq]
        exact ih
theorem free_len (n : Nat) : ∀ M : List Int, IsBeg n M → (freeN n M).length + M.length = n
  | [], _ => by
    have : freeN n [] = List.range n := List.filter_eq_self.2 fun x _ => by simp
    rw [this]; simp
  | a :: M, h => by
    obtain ⟨h1, h2⟩ := h
    rw [List.nodup_cons] at h1
    have ih := free_len n M ⟨h1.2, fun x hx => h2 x (List.mem_cons_of_mem _ hx)⟩
    have ha := h2 a (List.mem_cons_self ..)
    obtain ⟨b, rfl⟩ := Int.eq_ofNat_of_zero_le ha.1
    have hb : b < n := by omega
    have hc := cnt_ne b (fun x : Nat => !decide ((x : Int) ∈ M)) (by simp [h1.1]) (List.range n) List.nodup_range (List.mem_range.2 hb)
    have e : freeN n ((b : Int) :: M) = (List.range n).filter fun (x : Nat) => (!decide ((x : Int) ∈ M)) && decide (x ≠ b) := by
      unfold freeN
      refine List.filter_congr fun x _ => ?_
      by_cases hx : x = b
      · subst hx; simp
      · have : ¬ (x : Int) = (b : Int) := by omega
        simp [this, hx]
    have e2 : freeN n M = (List.range n).filter fun (x : Nat) => !decide ((x : Int) ∈ M) := rfl
    rw [e2] at ih
    rw [e, List.length_cons]
    omega
def fct : Nat → Nat
  | 0 => 1
  | k + 1 => (k + 1) * fct k
theorem fct_pos : ∀ k, 1 ≤ fct k
  | 0 => Nat.le_refl _
  | k + 1 => Nat.mul_le_mul (show 1 ≤ k + 1 by omega) (fct_pos k)
theorem flatMap_le {α : Type} (f : α → List (List Int)) (m : Nat) : ∀ l : List α, (∀ x ∈ l, (f x).length ≤ m) → (l.flatMap f).length ≤ l.length * m
  | [], _ => by simp
  | a :: l, h => by
    have h1 := h a (List.mem_cons_self ..)
    have h2 := flatMap_le f m l fun x hx => h x (List.mem_cons_of_mem _ hx)
    rw [List.flatMap_cons, List.length_append, List.length_cons, Nat.add_mul, Nat.one_mul]
    omega
theorem goOn_count (l : Int) (n : Nat) : ∀ (k : Nat) (M : List Int), IsBeg n M → M.length + k = n → (goOn (fitsN l) n k M).length ≤ fct k
  | 0, M, _, _ => by simp [goOn, fct]
  | k + 1, M, h, hl => by
    by_cases hc : chsE l M = true
    · rw [goOn_free hc]
      have hf := free_len n M h
      have h1 := flatMap_le (fun (x : Nat) => goOn (fitsN l) n k (M ++ [(x : Int)])) (fct k) (freeN n M) fun x hx => by
        unfold freeN at hx
        obtain ⟨hx1, hx2⟩ := List.mem_filter.1 hx
        refine goOn_count l n k _ (beg_snoc h (List.mem_range.1 hx1) (by simpa using hx2)) (by simp; omega)
      have e : (freeN n M).length = k + 1 := by omega
      rw [e] at h1
      exact h1
    · have hc' : chsE l M = false := by simpa using hc
      have hnm : (M.length : Int) ∉ M := by
        unfold chsE at hc'
        simp only [Bool.or_eq_false_iff, decide_eq_false_iff_not] at hc'
        exact hc'.2
      rw [goOn_forced (by omega) hc']
      have h1 := goOn_count l n k _ (beg_snoc h (by omega) hnm) (by simp; omega)
      refine Nat.le_trans h1 ?_
      show fct k ≤ (k + 1) * fct k
      exact Nat.le_mul_of_pos_left _ (by omega)
theorem fct_le : ∀ k < 8, fct k ≤ 5040 := by decide +kernel
/-- All that are listed are beginnings, of full length. -/
theorem goOn_beg (l : Int) (n : Nat) : ∀ (k : Nat) (M : List Int), IsBeg n M → ∀ x ∈ goOn (fitsN l) n k M, IsBeg n x ∧ x.length = M.length + k
  | 0, M, h, x, hx => by
    simp [goOn] at hx
    subst hx
    exact ⟨h, by simp⟩
  | k + 1, M, h, x, hx => by
    simp only [goOn, List.mem_flatMap] at hx
    obtain ⟨y, hy, hx⟩ := hx
    obtain ⟨hy1, hy2⟩ := List.mem_filter.1 hy
    have hnm : (y : Int) ∉ M := by
      unfold fitsN fitsS at hy2
      simp only [Bool.and_eq_true, Bool.not_eq_true', decide_eq_false_iff_not] at hy2
      exact hy2.1
    obtain ⟨h1, h2⟩ := goOn_beg l n k _ (beg_snoc h (List.mem_range.1 hy1) hnm) x hx
    exact ⟨h1, by rw [h2]; simp; omega⟩
theorem comesB_asymm : ∀ a b : List Int, comesB a b = true → comesB b a = false
  | [], _, h => by simp [comesB] at h
  | _ :: _, [], h => by simp [comesB] at h
  | a :: l, b :: m, h => by
    simp only [comesB] at h ⊢
    by_cases e : a = b
    · subst e
      simp only [if_true] at h ⊢
      exact comesB_asymm l m h
    · rw [if_neg e] at h
      rw [if_neg fun hh => e hh.symm]
      have := of_decide_eq_true h
      exact decide_eq_false (by omega)
theorem goOn_sorted (fits : List Int → Nat → Bool) (n : Nat) : ∀ (k : Nat) (l : List Int), (goOn fits n k l).Pairwise fun a b => comesB a b = true
  | 0, l => by simp [goOn]
  | k + 1, l => by
    rw [goOn, List.pairwise_flatMap]
    refine ⟨fun x _ => goOn_sorted fits n k _, ?_⟩
    refine List.Pairwise.filter _ (List.Pairwise.imp ?_ List.pairwise_lt_range)
    intro a b hab x hx y hy
    obtain ⟨r, rfl, _⟩ := goOn_shape fits n _ _ _ hx
    obtain ⟨t, rfl, _⟩ := goOn_shape fits n _ _ _ hy
    rw [List.append_assoc, List.append_assoc, comesB_append]
    have h1 : ¬ (a : Int) = (b : Int) := by omega
    simp only [List.singleton_append, comesB, if_neg h1]
    exact decide_eq_true (by omega)
/-- In a sorted list the first behind the one at j is the next one. -/
theorem find_sorted {A : List (List Int)} (h : A.Pairwise fun a b => comesB a b = true) {j : Nat} (hj : j < A.length) : A.find? (fun m => comesB (A.getD j []) m) = A[j + 1]? := by
  have hs : A = A.take (j + 1) ++ A.drop (j + 1) := (List.take_append_drop _ _).symm
  have hg : A.getD j [] = A[j] := by simp [hj]
  have hpw := List.pairwise_iff_getElem.1 h
  have h1 : (A.take (j + 1)).find? (fun m => comesB (A.getD j []) m) = none := by
    rw [List.find?_eq_none]
    intro m hm
    obtain ⟨i, hi, rfl⟩ := List.mem_iff_getElem.1 hm
    rw [List.length_take] at hi
    rw [List.getElem_take, hg]
    by_cases e : i = j
    · subst e; rw [comesB_self]; simp
    · rw [comesB_asymm _ _ (hpw i j (by omega) hj (by omega))]; simp
  have h2 : (A.drop (j + 1)).find? (fun m => comesB (A.getD j []) m) = A[j + 1]? := by
    by_cases e : j + 1 < A.length
    · rw [List.drop_eq_getElem_cons e, List.find?_cons_of_pos (by rw [hg]; exact hpw j (j + 1) hj e (by omega))]
      simp [e]
    · rw [List.drop_eq_nil_of_le (by omega), List.getElem?_eq_none (by omega)]; rfl
  generalize A.getD j [] = B at h1 h2 ⊢
  have h3 : (A.take (j + 1) ++ A.drop (j + 1)).find? (fun m => comesB B m) = A[j + 1]? := by rw [List.find?_append, h1, Option.none_or, h2]
  rw [← hs] at h3
  exact h3
end Go.Am
namespace Go.Am
variable [Go.Am.CodeBlk]
def lowN (a b : Nat) : Nat × Nat := (a / Nat.gcd a b, b / Nat.gcd a b)
/-- The product of the numbers of all seats that were free for the first k. -/
def downTo (n : Nat) : Nat → Nat
  | 0 => 1
  | k + 1 => downTo n k * (n - k)
theorem downTo_fct (n : Nat) : ∀ k, k ≤ n → downTo n k * fct (n - k) = fct n
  | 0, _ => by simp [downTo]
  | k + 1, h => by
    have ih := downTo_fct n k (by omega)
    obtain ⟨m, hm⟩ : ∃ m, n - k = m + 1 := ⟨n - k - 1, by omega⟩
    have e : n - (k + 1) = m := by omega
    rw [← ih, downTo, e, hm]
    show downTo n k * (m + 1) * fct m = downTo n k * ((m + 1) * fct m)
    rw [Nat.mul_assoc]
theorem prodS_dvd (l : Int) (L : List Int) : ∀ k, prodS l L k ∣ downTo L.length k
  | 0 => Nat.dvd_refl _
  | k + 1 => by
    have ih := prodS_dvd l L k
    simp only [prodS, downTo]
    split
    · exact Nat.mul_dvd_mul_right ih _
    · exact Nat.dvd_trans ih (Nat.dvd_mul_right _ _)
theorem prodS_fct (l : Int) (L : List Int) : prodS l L L.length ∣ fct L.length := by
  have h := downTo_fct L.length L.length (Nat.le_refl _)
  rw [Nat.sub_self] at h
  have := prodS_dvd l L L.length
  rw [← h]
  exact Nat.dvd_trans this (Nat.dvd_mul_right _ _)
/-- The sum with one more chance. -/
def addC (p : Nat × Nat) (c : Nat) : Nat × Nat := lowN (p.1 * c + 1 * p.2) (p.2 * c)
/-- What is kept of a sum of j chances whose denominators divide D. -/
def SumOk (D j : Nat) (p : Nat × Nat) : Prop := 1 ≤ p.2 ∧ p.2 ∣ D ∧ p.1 ≤ j * p.2
theorem addC_ok {D j : Nat} {p : Nat × Nat} {c : Nat} (hp : SumOk D j p) (hc : c ∣ D) (h1 : 1 ≤ c) : SumOk D (j + 1) (addC p c) := by
  obtain ⟨a, b⟩ := p
  obtain ⟨hb, hbD, ha⟩ := hp
  simp only at hb hbD ha
  unfold addC lowN SumOk
  simp only [Nat.one_mul]
  have hbc : 0 < b * c := Nat.mul_pos hb h1
  have hg : 0 < Nat.gcd (a * c + b) (b * c) := Nat.gcd_pos_of_pos_right _ hbc
  obtain ⟨u, hu⟩ := Nat.gcd_dvd_left (a * c + b) (b * c)
  obtain ⟨v, hv⟩ := Nat.gcd_dvd_right (a * c + b) (b * c)
  have hcop : Nat.gcd ((a * c + b) / Nat.gcd (a * c + b) (b * c)) ((b * c) / Nat.gcd (a * c + b) (b * c)) = 1 := Nat.gcd_div_gcd_div_gcd_of_pos_right hbc
  generalize hG : Nat.gcd (a * c + b) (b * c) = g at *
  have e1 : (a * c + b) / g = u := by rw [hu]; exact Nat.mul_div_cancel_left _ hg
  have e2 : (b * c) / g = v := by rw [hv]; exact Nat.mul_div_cancel_left _ hg
  rw [e1, e2] at hcop ⊢
  obtain ⟨x, hx⟩ := hbD
  obtain ⟨y, hy⟩ := hc
  refine ⟨?_, ?_, ?_⟩
  · rcases Nat.eq_zero_or_pos v with h | h
    · rw [h] at hv; omega
    · exact h
  · have k1 : (a * c + b) * D = (a * x + y) * (b * c) := by
      have h1 : a * c * D = a * x * (b * c) := by
        rw [hx]; ac_rfl
      have h2 : b * D = y * (b * c) := by
        rw [hy]; ac_rfl
      rw [Nat.add_mul, Nat.add_mul, h1, h2]
    rw [hu, hv] at k1
    have k2 : u * D = (a * x + y) * v := by
      have : g * (u * D) = g * ((a * x + y) * v) := by
        rw [← Nat.mul_assoc, k1]; ac_rfl
      exact Nat.eq_of_mul_eq_mul_left hg this
    have k3 : v ∣ u * D := by rw [k2]; exact Nat.dvd_mul_left _ _
    exact (Nat.Coprime.symm hcop).dvd_of_dvd_mul_left k3
  · have k1 : a * c + b ≤ (j + 1) * (b * c) := by
      have h2 : a * c ≤ j * b * c := Nat.mul_le_mul_right c ha
      have h3 : b * 1 ≤ b * c := Nat.mul_le_mul_left b h1
      rw [Nat.add_mul, Nat.one_mul]
      have : j * b * c = j * (b * c) := Nat.mul_assoc ..
      omega
    rw [hu, hv] at k1
    have : g * u ≤ g * ((j + 1) * v) := by
      refine Nat.le_trans k1 ?_
      refine Nat.le_of_eq ?_
      ac_rfl
    exact Nat.le_of_mul_le_mul_left this hg
/-- The sum of the chances of some seatings. -/
def sumC (l : Int) (R : List (List Int)) : Nat × Nat := R.foldl (fun p M => addC p (prodS l M M.length)) (0, 1)
theorem sumC_snoc (l : Int) (R : List (List Int)) (M : List Int) : sumC l (R ++ [M]) = addC (sumC l R) (prodS l M M.length) := by
  unfold sumC; rw [List.foldl_append]; rfl
theorem foldl_ok (l : Int) (n : Nat) : ∀ (R : List (List Int)) (j : Nat) (p : Nat × Nat), (∀ M ∈ R, M.length = n ∧ n ≤ 12) → SumOk (fct n) j p → SumOk (fct n) (j + R.length) (R.foldl (fun p M => addC p (prodS l M M.length)) p)
  | [], j, p, _, h => h
  | M :: R, j, p, hR, h => by
    obtain ⟨h1, h2⟩ := hR M (List.mem_cons_self ..)
    have hd := prodS_fct l M
    rw [List.foldl_cons, List.length_cons, show j + (R.length + 1) = j + 1 + R.length by omega]
    have hpb := (prodS_bound l M (by omega) M.length (Nat.le_refl _)).1
    refine foldl_ok l n R (j + 1) _ (fun M hM => hR M (List.mem_cons_of_mem _ hM)) (addC_ok h ?_ hpb)
    rw [← h1]; exact hd
theorem sumC_ok (l : Int) (n : Nat) (hn : n ≤ 7) (R : List (List Int)) (hR : ∀ M ∈ R, M.length = n) (hl : R.length ≤ 5040) : (sumC l R).1 ≤ 1000000000 ∧ (sumC l R).2 ≤ 1000000000 ∧ 1 ≤ (sumC l R).2 := by
  obtain ⟨h1, h2, h3⟩ := foldl_ok l n R 0 (0, 1) (fun M hM => ⟨hR M hM, by omega⟩) ⟨Nat.le_refl _, Nat.one_dvd _, by simp⟩
  rw [Nat.zero_add] at h3
  have h4 := Nat.le_of_dvd (fct_pos n) h2
  have h5 := fct_le n (by omega)
  have h6 : (sumC l R).2 ≤ 5040 := Nat.le_trans h4 h5
  refine ⟨?_, by omega, h1⟩
  have h7 : R.length * (sumC l R).2 ≤ 5040 * 5040 := Nat.mul_le_mul hl h6
  have h8 : (sumC l R).1 ≤ R.length * (sumC l R).2 := h3
  omega
theorem prodS_small (l : Int) (M : List Int) (h : M.length ≤ 7) : 1 ≤ prodS l M M.length ∧ prodS l M M.length ≤ 5040 :=
  ⟨(prodS_bound l M (by omega) M.length (Nat.le_refl _)).1, Nat.le_trans (Nat.le_of_dvd (fct_pos _) (prodS_fct l M)) (fct_le _ (by omega))⟩
/-- All that are listed can come. -/
theorem come_snoc {l : Int} {M : List Int} {y : Nat} (h : comeK l M M.length) (hf : fitsN l M y = true) : comeK l (M ++ [(y : Int)]) (M ++ [(y : Int)]).length := by
  intro j hj
  rw [List.length_append] at hj
  simp only [List.length_cons, List.length_nil] at hj
  by_cases e : j < M.length
  · rcases h j e with h1 | h1
    · left; rw [List.take_append_of_le_length (by omega)]; exact h1
    · right
      rw [List.getD_eq_getElem?_getD, List.getElem?_append_left e, ← List.getD_eq_getElem?_getD]; exact h1
  · obtain rfl : j = M.length := by omega
    unfold fitsN fitsS at hf
    simp only [Bool.and_eq_true, Bool.or_eq_true, decide_eq_true_eq] at hf
    rcases hf.2 with h1 | h1
    · right
      rw [List.getD_eq_getElem?_getD, List.getElem?_append_right (Nat.le_refl _)]; simpa using h1
    · left
      rw [List.take_append_of_le_length (Nat.le_refl _), List.take_length]; exact h1
theorem goOn_come (l : Int) (n : Nat) : ∀ (k : Nat) (M : List Int), comeK l M M.length → ∀ x ∈ goOn (fitsN l) n k M, comeK l x x.length
  | 0, M, h, x, hx => by
    simp [goOn] at hx
    subst hx
    exact h
  | k + 1, M, h, x, hx => by
    simp only [goOn, List.mem_flatMap] at hx
    obtain ⟨y, hy, hx⟩ := hx
    exact goOn_come l n k _ (come_snoc h (List.mem_filter.1 hy).2) x hx
end Go.Am
namespace Go.Am
variable [Go.Am.CodeBlk]
/-- May a function value be asked of a whole seating? -/
structure Keeps (P : Program) (f : FuncId) (fl : List AV) (k : Nat) (n : Nat) (keep : List Int → Bool) : Prop where
  call : Callable P f
  bears : Bears fl
  norefs : ∀ keep, refsL keep fl = true
  nokill : ∀ r, killL r fl = fl
  spec : ∀ (M : List Int), M.length = n → Sp P f (fl.take k ++ [ints M] ++ fl.drop k) (.b (keep M))
mutual
theorem renV_none (f : Nat → Nat) : ∀ x : AV, refsV (fun _ => false) x = true → renV f x = x
  | .any, _ => rfl
  | .v _, _ => rfl
  | .ro _ _ _ _, _ => rfl
  | .rp _, _ => rfl
  | .sl _ _ _ _, h => by simp [refsV] at h
  | .pt _ _, h => by simp [refsV] at h
  | .mp _, h => by simp [refsV] at h
  | .itr _, h => by simp [refsV] at h
  | .ob _, _ => rfl
  | .fn _ l _, h => by simp only [refsV] at h; simp only [renV, renL_none f l h]
  | .rmp _ _ _, _ => rfl
  | .fu _ _ _, _ => rfl
  | .agg l, h => by simp only [refsV] at h; simp only [renV, renL_none f l h]
  | .tup l, h => by simp only [refsV] at h; simp only [renV, renL_none f l h]
theorem renL_none (f : Nat → Nat) : ∀ l : List AV, refsL (fun _ => false) l = true → renL f l = l
  | [], _ => rfl
  | a :: l, h => by
    simp only [refsL, Bool.and_eq_true] at h
    simp only [renL, renV_none f a h.1, renL_none f l h.2]
end
theorem ren_fn {f : Nat → Nat} {g : FuncId} {fl : List AV} {k : Nat} (h : ∀ keep, refsL keep fl = true) : renV f (.fn g fl k) = .fn g fl k := by simp only [renV, renL_none f fl (h _)]
theorem tm_stM {l : List (Nat × AV)} {h : List (Nat × (Bool × List AV))} {r0 b t : Nat} {rows : List (List Int)} : (stM l h r0 b rows).tm t = (look l t).getD .any := rfl
theorem tm_eh2 {a b c : AV} {l : List AV} {hp : Hp} : (enterH (a :: b :: c :: l) hp).tm 2 = c := rfl
theorem srchA (A : List (List Int)) (j : Nat) : (AV.tup [newInts ((A[j]?).getD []), .b (A[j]?).isSome]) = .tup [newInts (A.getD j []), .b (decide (j < A.length))] := by
  have e : (A[j]?).isSome = decide (j < A.length) := by
    by_cases h : j < A.length
    · simp [h]
    · simp [h]
  rw [e, List.getD_eq_getElem?_getD]
end Go.Am
namespace Go.Proofs.Ytamgcjdmcmbffaa
variable [Go.Am.CodeBlk]
open Go.Am
attribute [local irreducible] AW Outs Weak Lends Lend Sp aops atree aop1 Then Round InBlock Done
attribute [local irreducible] SpH DoneH
theorem canSitAsks (l : Int) (n : Nat) (hn : n ≤ 1000) : AsksK Try.prog 77 [.rp [.i l]] 0 n (fitsN l) where
  call := ⟨_, Try.func77, by rfl, by rfl⟩
  bears := bears_rp rfl
  norefs := fun _ => rfl
  nokill := fun _ => rfl
  spec := fun M y h1 _ _ => canSitAsk_spec l M (y : Int) (by omega)
/-- All seatings of n guests. -/
def allS (l : Int) (n : Nat) : List (List Int) := goOn (fitsN l) n n []
theorem allS_len (l : Int) (n : Nat) (hn : n ≤ 7) : (allS l n).length ≤ 5040 :=
  Nat.le_trans (goOn_count l n n [] (beg_nil n) (by simp)) (fct_le n (by omega))
theorem allS_mem {l : Int} {n : Nat} {x : List Int} (h : x ∈ allS l n) : IsBeg n x ∧ x.length = n := by
  have := goOn_beg l n n [] (beg_nil n) x h
  simpa using this
end Go.Proofs.Ytamgcjdmcmbffaa
namespace Go.Am
variable [Go.Am.CodeBlk]
mutual
/-- Exact values, and slices and pointers that are read, all through. -/
def readV : AV → Bool
  | .v _ => true
  | .ro fr _ cs _ => !fr && readL cs
  | .rp cs => readL cs
  | .any => false
  | .sl _ _ _ _ => false
  | .pt _ _ => false
  | .agg _ => false
  | .tup _ => false
  | .mp _ => false
  | .itr _ => false
  | .ob _ => false
  | .fn _ _ _ => false
  | .rmp _ _ _ => false
  | .fu _ _ _ => false
  | .mit _ _ _ _ _ => false
def readL : List AV → Bool
  | [] => true
  | a :: l => readV a && readL l
end
mutual
theorem SimV.read : ∀ (x : AV) (C D : Ctx) (y : Value), readV x = true → D.heap = C.heap → (∀ b, C.ro b → D.ro b) → SimV x C y → SimV x D y
  | .v _, _, _, _, _, _, _, h => by simpa only [SimV] using h
  | .ro fr z cs n, C, D, y, hr, hh, hro, h => by
    simp only [readV, Bool.and_eq_true, Bool.not_eq_true'] at hr
    simp only [SimV] at h ⊢
    rcases h with h | ⟨b, o, cap, cur, e, fz, h1, h2, h3, h4, h5, h6, h7⟩
    · exact .inl h
    · exact .inr ⟨b, o, cap, cur, e, fz, h1, by rw [hh]; exact h2, hro b h3, h4, h5, (fun e => by rw [hr.1] at e; cases e), SimL.read cs C.out D.out _ hr.2 hh hro h7⟩
  | .rp cs, C, D, y, hr, hh, hro, h => by
    simp only [readV] at hr
    simp only [SimV] at h ⊢
    obtain ⟨b, o, cur, e, fz, h1, h2, h3, h4⟩ := h
    exact ⟨b, o, cur, e, fz, h1, by rw [hh]; exact h2, hro b h3, SimL.read cs C.out D.out _ hr hh hro h4⟩
  | .any, _, _, _, hr, _, _, _ => by simp [readV] at hr
  | .sl _ _ _ _, _, _, _, hr, _, _, _ => by simp [readV] at hr
  | .pt _ _, _, _, _, hr, _, _, _ => by simp [readV] at hr
  | .agg _, _, _, _, hr, _, _, _ => by simp [readV] at hr
  | .tup _, _, _, _, hr, _, _, _ => by simp [readV] at hr
  | .mp _, _, _, _, hr, _, _, _ => by simp [readV] at hr
  | .itr _, _, _, _, hr, _, _, _ => by simp [readV] at hr
  | .ob _, _, _, _, hr, _, _, _ => by simp [readV] at hr
  | .fn _ _ _, _, _, _, hr, _, _, _ => by simp [readV] at hr
  | .rmp _ _ _, _, _, _, hr, _, _, _ => by simp [readV] at hr
  | .fu _ _ _, _, _, _, hr, _, _, _ => by simp [readV] at hr
  | .mit _ _ _ _ _, _, _, _, hr, _, _, _ => by simp [readV] at hr
theorem SimL.read : ∀ (l : List AV) (C D : Ctx) (ys : List Value), readL l = true → D.heap = C.heap → (∀ b, C.ro b → D.ro b) → SimL l C ys → SimL l D ys
  | [], _, _, _, _, _, _, _ => by simp [SimL]
  | _ :: _, _, _, [], _, _, _, h => by simp [SimL] at h
  | a :: l, C, D, y :: ys, hr, hh, hro, h => by
    simp only [readL, Bool.and_eq_true] at hr
    simp only [SimL] at h ⊢
    exact ⟨SimV.read a C D y hr.1 hh hro h.1, SimL.read l C D ys hr.2 hh hro h.2⟩
end
end Go.Am
namespace Go.Am
variable [Go.Am.CodeBlk]
variable {P : Program} {own : Bool} {N : Nat} {s : AS} {K : AS → Prop} {d : Option Nat}
/-- What a value is to a callee that is lent regions under the names g. -/
def LendH1 (hp : Hp) (g : Nat → Nat) (hin : Hp) (x y : AV) : Prop := ∀ w0 mu N tm w phi ro v, Sim w0 mu N ⟨fun _ => .any, hp⟩ tm w phi ro → SimV x (ctx w0 w ro phi ⟨fun _ => .any, hp⟩) v → SimV y (ctxE w (fun r => phi (g r)) hin) v
theorem lendH_nil {hp : Hp} {g : Nat → Nat} {hin : Hp} : LendsH hp g hin [] [] := fun _ _ _ _ _ _ _ vs _ _ hl => ⟨by simp [SimL], hl⟩
theorem lendH_cons {hp : Hp} {g : Nat → Nat} {hin : Hp} {x y : AV} {xs ys : List AV} (h : LendH1 hp g hin x y) (hs : LendsH hp g hin xs ys) : LendsH hp g hin (x :: xs) (y :: ys) := by
  intro w0 mu N tm w phi ro vs hS hv hl
  cases vs with
  | nil => simp at hl
  | cons v vs =>
    simp only [SimL] at hv
    obtain ⟨h1, h2⟩ := hs w0 mu N tm w phi ro vs hS hv.2 (by simpa using hl)
    exact ⟨⟨h w0 mu N tm w phi ro v hS hv.1, h1⟩, by simpa using h2⟩
theorem lendH_v {hp : Hp} {g : Nat → Nat} {hin : Hp} {c : Value} : LendH1 hp g hin (.v c) (.v c) := fun _ _ _ _ _ _ _ _ _ h => by simpa [SimV] using h
/-- A block that somebody reads is not lent. -/
theorem not_lent {hp : Hp} {g : Nat → Nat} {hin : Hp} (hin1 : ∀ r c, hin r = some c → (hp (g r)).isSome = true) {w0 : World} {mu : Nat → Option Nat} {N : Nat} {tm : Array Value} {w : World} {phi : Nat → Option Nat} {ro : Nat → Prop} (hS : Sim w0 mu N ⟨fun _ => .any, hp⟩ tm w phi ro) {b : Nat} (hb : ro b) :
    b < w.heap.size ∧ ∀ r, (hin r).isSome = true → phi (g r) ≠ some b := by
  refine ⟨hS.rob b hb, fun r hr hp' => ?_⟩
  obtain ⟨c, hc⟩ := Option.isSome_iff_exists.1 hr
  obtain ⟨c', hc'⟩ := Option.isSome_iff_exists.1 (hin1 r c hc)
  rcases hS.liv _ _ hc' with ⟨h1, _⟩ | ⟨b', _, _, h1, _, h2, _⟩ | ⟨b', _, _, h1, _, _, h2, _⟩
  · rw [h1] at hp'; cases hp'
  · rw [h1] at hp'; cases hp'
    exact h2 hb
  · rw [h1] at hp'; cases hp'
    exact h2 hb
theorem lendH_ren {hp : Hp} {g : Nat → Nat} {hin : Hp} {x : AV} (hin1 : ∀ r c, hin r = some c → (hp (g r)).isSome = true) (ho : ownV true x = true) (hr : refsV (fun r => (hin r).isSome) x = true) : LendH1 hp g hin (renV g x) x := by
  intro w0 mu N tm w phi ro v hS hv
  exact simV_in true g (ctxE w (fun r => phi (g r)) hin) (ctx w0 w ro phi ⟨fun _ => .any, hp⟩) rfl (fun _ b hb => not_lent hin1 hS hb) (fun _ => rfl) (fun _ r _ => rfl) x v ho hr hv
/-- A region of mine that is not lent is read. -/
theorem lendH_sl {hp : Hp} {g : Nat → Nat} {hin : Hp} {q : Nat} {M : List Int} (hin1 : ∀ r c, hin r = some c → (hp (g r)).isSome = true) (hq : hp q = some (true, M.map AV.i)) (hne : ∀ r, (hin r).isSome = true → g r ≠ q) : LendH1 hp g hin (.sl q 1 0 M.length) (ints M) := by
  intro w0 mu N tm w phi ro v hS h
  simp only [SimV] at h ⊢
  rcases h.2.2 with ⟨h1, _, h3, h4⟩ | ⟨b, o, cap, cur, e, h1, h2, h3, h4, h5, h6, h7⟩
  · exact .inl ⟨h3, by rw [List.eq_nil_of_length_eq_zero h3]; rfl, none, 0, by rw [h4], by simp⟩
  · by_cases hn : M.length = 0
    · exact .inl ⟨hn, by rw [List.eq_nil_of_length_eq_zero hn]; rfl, some ⟨b, o, none⟩, cap, by rw [h2, hn], by simp⟩
    · have ho : o = 0 := by
        rcases h4 with h4 | h4
        · exact h4
        · exact absurd h4.1 hn
      subst ho
      have h1' : phi q = some b := h1
      have h3' : w.heap[b]? = some (.cells cur e (0, 0)) := h3
      rcases hS.liv q _ hq with ⟨h8, _⟩ | ⟨b', cur', e', h8, h9, h10, h11, h12⟩ | ⟨b', o', _, h8, h9, h10, _⟩
      · rw [h8] at h1'; cases h1'
      case inr.inr => exact ob_not_cells h8 h9 h10 h1 h3
      · rw [h8] at h1'
        cases h1'
        rw [h9] at h3'
        cases h3'
        refine .inr ⟨b, 0, cap, cur, e, (0, 0), h2, h9, ⟨lt_of_get h9, fun r hr hp' => ?_⟩, by simp, h5, by simp, ?_⟩
        · obtain ⟨c, hc⟩ := Option.isSome_iff_exists.1 hr
          exact hne r hr (hS.inj _ _ b (hin1 r c hc) (by show (hp q).isSome = true; rw [hq]; rfl) hp' h8)
        · simp only [SimR, if_true] at h12
          rw [List.drop_zero]
          exact simL_allv (allv_ints M) h12
end Go.Am
namespace Go.Am
variable [Go.Am.CodeBlk]
/-- May a function value be asked of each of some lists? -/
structure KeepsX (P : Program) (f : FuncId) (fl : List AV) (k : Nat) (A : List (List Int)) (keep : List Int → Bool) : Prop where
  call : Callable P f
  bears : Bears fl
  norefs : ∀ keep, refsL keep fl = true
  nokill : ∀ r, killL r fl = fl
  spec : ∀ M ∈ A, Sp P f (fl.take k ++ [ints M] ++ fl.drop k) (.b (keep M))
theorem tm_eh1 {a b : AV} {l : List AV} {hp : Hp} : (enterH (a :: b :: l) hp).tm 1 = b := rfl
theorem tm_eh0 {a : AV} {l : List AV} {hp : Hp} : (enterH (a :: l) hp).tm 0 = a := rfl
end Go.Am
namespace Go.Proofs.Ytamgcjdmcmbffaa
variable [Go.Am.CodeBlk]
open Go.Am
attribute [local irreducible] AW Outs Weak Lends Lend Sp aops atree aop1 Then Round InBlock Done
attribute [local irreducible] SpH DoneH
theorem fittingWhere_spec {f g : FuncId} {fl gl : List AV} {kk gk n : Nat} {fits : List Int → Nat → Bool} {keep : List Int → Bool} (hAs : AsksK Try.prog f fl kk n fits) (A : List (List Int)) (hA : goOn fits n n [] = A) (F : KeepsX Try.prog g gl gk A keep) (hn : n ≤ 12) (h1 : 1 ≤ n) (hal : A.length ≤ 5040) (hmem : ∀ x ∈ A, x.length = n ∧ ∀ y ∈ x, 0 ≤ y ∧ y < n) :
    SpH Try.prog 69 [.i n, .fn f fl kk, .fn g gl gk] (fun _ => none) (.sl nbase 1 0 (A.filter keep).length) (matO (A.filter keep)) := by
  have hpb : pbase = 4000000 := rfl
  have hf := firstFitting_spec hAs (by omega) h1
  have hsort : A.Pairwise fun a b => comesB a b = true := hA ▸ goOn_sorted _ _ _ _
  have hnx : ∀ j, j < A.length → Sp Try.prog 76 [ints (A.getD j []), .fn f fl kk] (.tup [newInts (A.getD (j + 1) []), .b (decide (j + 1 < A.length))]) := by
    intro j hj
    have hm := hmem _ (show A.getD j [] ∈ A by simp [hj])
    have := nextFitting_spec hAs (by omega) h1 _ hm.1 hm.2
    rw [hA, find_sorted hsort hj] at this
    unfold srchR at this
    rw [srchA] at this
    exact this
  rw [hA, List.head?_eq_getElem?] at hf
  unfold srchR at hf
  rw [srchA] at hf
  have hstat : Static (fun _ => none) (.sl nbase 1 0 (A.filter keep).length) (matO (A.filter keep)) := static_mat1 _
  clear hsort hA
  refine specH_of Try.func69 rfl cc69 rfl (by first | exact static_mat1 _ | exact static_mat2 _ _ | assumption) ?_
  unfold ac69
  repeat (first | (refine step_ops ?_; (first | (refine m_mov (by conv => lhs; whnf) ?_) | (refine m_nils ?_))) | refine end_ops ?_ | refine seq_ops ?_ | refine AW_seq ?_)
  refine step_ops ?_
  refine m_callt hf ?_ (allv_ints _) rfl ?_
  · refine lends_cons lend_v (lends_cons (lend_fn ?_) lends_nil)
    rw [hAs.nokill, hAs.nokill]
    exact lends_self hAs.bears _
  repeat (first | (refine step_ops ?_; (first | (refine m_mov (by conv => lhs; whnf) ?_) | (refine m_ext rfl rfl ?_))) | refine end_ops ?_ | refine AW_block ?_)
  refine AW_loop (α := Nat) (fun j => j ≤ A.length) (fun j => stM [(0, .i n), (1, .fn f fl kk), (2, .fn g gl gk), (7, .sl 7 1 0 ((A.take j).filter keep).length), (8, .sl 13 1 0 (A.getD j []).length), (9, .b (decide (j < A.length)))] [(13, (true, (A.getD j []).map AV.i))] 7 1000 ((A.take j).filter keep)) (fun j => A.length - j) 0 (by omega)
    (weak_keep id ?_ ?_ rfl rfl rfl (.inl (by simp [pbase])) ?_ rfl rfl (.inr ⟨rfl, rfl⟩) (fun j hj => by simp at hj)) ?_
  · (repeat' (first | exact trivial | refine And.intro ?_ ?_)) <;> (first | rfl | skip)
    all_goals simp (disch := decide) [tm_put_ne', tm_put_none, tm_mem, tm_kill, tm_stM, tm_eh0, tm_eh1, tm_eh2, Am.look, kill_fn F.nokill, ren_fn F.norefs, kill_fn hAs.nokill, ren_fn hAs.norefs]
  · (repeat' (first | exact trivial | refine And.intro ?_ ?_)) <;> (first | rfl | skip)
  · simp [refsT, refsV, refsL, F.norefs, hAs.norefs, Am.look]
  intro j hj
  have hrl := rowsC_len 1000 ((A.take j).filter keep)
  have hle : ((A.take j).filter keep).length ≤ j := Nat.le_trans (List.length_filter_le ..) (List.length_take_le _ _)
  by_cases hc : j < A.length
  · have hin : A.getD j [] ∈ A := by simp [hc]
    have hm := hmem _ hin
    have hnj := hnx j hc
    have hks := F.spec (A.getD j []) hin
    have hml : (A.getD j []).length ≤ 1048576 := by omega
    by_cases hk : keep (A.getD j []) = true
    · have es : (A.take (j + 1)).filter keep = (A.take j).filter keep ++ [A.getD j []] := by
        rw [take_snoc A j [] hc, List.filter_append, List.filter_cons_of_pos hk]; rfl
      rw [hk] at hks
      repeat (first | (refine step_ops ?_; (refine m_mov (by conv => lhs; whnf) ?_)) | refine end_ops ?_ | refine seq_ops ?_ | (refine cond_t rfl ?_ ?_; (· first | rfl | assumption | (refine decide_eq_true ?_; first | assumption | omega) | (refine nt ?_; first | assumption | omega) | (simp [*]; done))) | refine skip_then ?_ | refine AW_seq ?_ | refine AW_block ?_)
      refine step_ops ?_
      refine m_callf rfl F.call hks ?_ ?_
      · exact asksK_lend F.bears rfl rfl (lends_cons (lend_sli (by rfl) rfl) lends_nil)
      repeat (first | (refine step_ops ?_; (refine m_mov (by conv => lhs; whnf) ?_)) | refine end_ops ?_ | refine AW_ops ?_ | (refine cond_t rfl ?_ ?_; (· first | rfl | assumption | (refine decide_eq_true ?_; first | assumption | omega) | (refine nt ?_; first | assumption | omega) | (simp [*]; done))))
      refine step_ops ?_
      refine m_bsl1d rfl rfl ?_
      refine step_ops ?_
      refine m_app1d rfl (by decide) rfl ?_ rfl rfl rfl ?_ (by decide) ?_
      · simp [rowsC_kill, rowsC_len]
      · omega
      repeat (first | (refine step_ops ?_; (refine m_mov (by conv => lhs; whnf) ?_)) | refine end_ops ?_ | refine AW_ops ?_ | refine norm_then ?_ | refine norm_block ?_)
      refine step_ops ?_
      refine m_callt hnj ?_ (allv_ints _) rfl ?_
      · refine lends_cons (lend_sli (by rfl) rfl) (lends_cons (lend_fn ?_) lends_nil)
        simp only [hAs.nokill]
        exact lends_self hAs.bears _
      repeat (first | (refine step_ops ?_; (first | (refine m_mov (by conv => lhs; whnf) ?_) | (refine m_ext rfl rfl ?_))) | refine end_ops ?_)
      refine next_round (j + 1) (by omega) ?_ ?_
      · rw [es, List.length_append]
        refine weak_push (row := A.getD j []) (fun r => if r = 7 then 29 else if r = 13 then 20 else r) 13 ?_ ?_ rfl rfl rfl (by omega) ?_ rfl (by decide) rfl rfl ?_ ?_ ?_
        · (repeat' (first | exact trivial | refine And.intro ?_ ?_)) <;> (first | rfl | skip)
          all_goals simp (disch := decide) [tm_put_ne', tm_put_none, tm_mem, tm_kill, tm_stM, tm_eh0, tm_eh1, tm_eh2, Am.look, kill_fn F.nokill, ren_fn F.norefs, kill_fn hAs.nokill, ren_fn hAs.norefs]
        · (repeat' (first | exact trivial | refine And.intro ?_ ?_)) <;> (first | rfl | skip)
        · simp [refsT, refsV, refsL, F.norefs, hAs.norefs, Am.look]
        · simp [rowsC_kill, killL_append, killL]
          rfl
        · rfl
        · (intro j hj; simp (disch := first | omega | assumption) only [hp_put, hp_mem_ne, hp_kill_ne]; first | exact stM_row rfl hj | (rw [stM_row rfl hj]; rfl))
      · omega
    · have hkf : keep (A.getD j []) = false := by simpa using hk
      have es : (A.take (j + 1)).filter keep = (A.take j).filter keep := by
        rw [take_snoc A j [] hc, List.filter_append, List.filter_cons_of_neg hk]; simp
      rw [hkf] at hks
      repeat (first | (refine step_ops ?_; (refine m_mov (by conv => lhs; whnf) ?_)) | refine end_ops ?_ | refine seq_ops ?_ | (refine cond_t rfl ?_ ?_; (· first | rfl | assumption | (refine decide_eq_true ?_; first | assumption | omega) | (refine nt ?_; first | assumption | omega) | (simp [*]; done))) | refine skip_then ?_ | refine AW_seq ?_ | refine AW_block ?_)
      refine step_ops ?_
      refine m_callf rfl F.call hks ?_ ?_
      · exact asksK_lend F.bears rfl rfl (lends_cons (lend_sli (by rfl) rfl) lends_nil)
      repeat (first | (refine step_ops ?_; (refine m_mov (by conv => lhs; whnf) ?_)) | refine end_ops ?_ | refine AW_ops ?_ | (refine cond_f rfl ?_ ?_; (· first | rfl | assumption | (refine decide_eq_false ?_; first | assumption | omega) | (refine nf ?_; first | assumption | omega) | (simp [*]; done))) | refine norm_then ?_ | refine norm_block ?_ | refine AW_skip ?_)
      refine step_ops ?_
      refine m_callt hnj ?_ (allv_ints _) rfl ?_
      · refine lends_cons (lend_sli (by rfl) rfl) (lends_cons ?_ lends_nil)
        exact lend_bears hAs.bears
      repeat (first | (refine step_ops ?_; (first | (refine m_mov (by conv => lhs; whnf) ?_) | (refine m_ext rfl rfl ?_))) | refine end_ops ?_)
      refine next_round (j + 1) (by omega) ?_ ?_
      · rw [es]
        refine weak_keep (fun r => if r = 13 then 20 else r) ?_ ?_ rfl rfl rfl (.inl (by omega)) ?_ rfl rfl ?_ ?_
        · (repeat' (first | exact trivial | refine And.intro ?_ ?_)) <;> (first | rfl | skip)
          all_goals simp (disch := decide) [tm_put_ne', tm_put_none, tm_mem, tm_kill, tm_stM, tm_eh0, tm_eh1, tm_eh2, Am.look, kill_fn F.nokill, ren_fn F.norefs, kill_fn hAs.nokill, ren_fn hAs.norefs]
        · (repeat' (first | exact trivial | refine And.intro ?_ ?_)) <;> (first | rfl | skip)
        · simp [refsT, refsV, refsL, F.norefs, hAs.norefs, Am.look]
        · refine .inl ⟨rfl, ?_⟩
          simp [rowsC_kill]
        · (intro j hj; simp (disch := first | omega | assumption) only [hp_put, hp_mem_ne, hp_kill_ne]; first | exact stM_row rfl hj | (rw [stM_row rfl hj]; rfl))
      · omega
  · obtain rfl : j = A.length := by omega
    rw [List.take_length]
    rw [List.take_length] at hle hrl
    repeat (first | (refine step_ops ?_; (refine m_mov (by conv => lhs; whnf) ?_)) | refine end_ops ?_ | refine seq_ops ?_ | (refine cond_f rfl ?_ ?_; (· first | rfl | assumption | (refine decide_eq_false ?_; first | assumption | omega) | (refine nf ?_; first | assumption | omega) | (simp [*]; done))) | refine AW_seq ?_ | refine AW_ret ?_ | refine norm_then ?_ | refine exit_then ?_ | refine exit_round ?_ | refine AW_exit ?_ | refine exit_block ?_)
    refine ret_mat (r0 := 7) (b := 1000) (by omega) (by omega) (by omega) rfl rfl ?_
    (intro j hj; simp (disch := first | omega | assumption) only [hp_put, hp_mem_ne, hp_kill_ne]; first | exact stM_row rfl hj | (rw [stM_row rfl hj]; rfl))
end Go.Proofs.Ytamgcjdmcmbffaa
namespace Go.Proofs.Ytamgcjdmcmbffaa
variable [Go.Am.CodeBlk]
open Go.Am
attribute [local irreducible] AW Outs Weak Lends Lend Sp aops atree aop1 Then Round InBlock Done
attribute [local irreducible] SpH DoneH
theorem keepsX_of {f : FuncId} {fl : List AV} {k n : Nat} {keep : List Int → Bool} (F : Keeps Try.prog f fl k n keep) {A : List (List Int)} (h : ∀ x ∈ A, x.length = n) : KeepsX Try.prog f fl k A keep where
  call := F.call
  bears := F.bears
  norefs := F.norefs
  nokill := F.nokill
  spec := fun M hM => F.spec M (h M hM)
theorem seatingsWhere_spec {f : FuncId} {fl : List AV} {kk n : Nat} {keep : List Int → Bool} (l : Int) (F : Keeps Try.prog f fl kk n keep) (hn : n ≤ 7) (h1 : 1 ≤ n) :
    SpH Try.prog 53 [.i n, .i l, .fn f fl kk] (fun _ => none) (.sl nbase 1 0 ((allS l n).filter keep).length) (matO ((allS l n).filter keep)) := by
  have hpb : pbase = 4000000 := rfl
  have hAs := canSitAsks l n (by omega)
  have hal := allS_len l n hn
  have hfw := fittingWhere_spec hAs (allS l n) rfl (keepsX_of F fun x hx => (allS_mem hx).2) (by omega) h1 hal fun x hx => ⟨(allS_mem hx).2, (allS_mem hx).1.2⟩
  have hle : ((allS l n).filter keep).length ≤ (allS l n).length := List.length_filter_le ..
  have hstat : Static (fun _ => none) (.sl nbase 1 0 ((allS l n).filter keep).length) (matO ((allS l n).filter keep)) := static_mat1 _
  have hnk : ∀ r, killV r (.fn f fl kk) = .fn f fl kk := fun r => kill_fn F.nokill
  generalize (allS l n).filter keep = R at *
  refine specH_of Try.func53 rfl cc53 rfl (by first | exact static_mat1 _ | exact static_mat2 _ _ | assumption) ?_
  unfold ac53
  repeat (first | (refine step_ops ?_; (first | (refine m_mov (by conv => lhs; whnf) ?_) | (refine m_nils ?_))) | refine end_ops ?_ | refine seq_ops ?_)
  (refine step_ops ?_); (apply m_call (canSit_spec l)); (· repeat (first | exact lends_nil | (refine lends_cons ?_ ?_; (· exact lend_v))))
  repeat (refine step_ops ?_; (refine m_mov (by conv => lhs; whnf) ?_))
  refine step_ops ?_
  refine m_callM 11 1000 hfw ?_ rfl (by omega) (by omega) (by omega) rfl ?_ ?_
  · refine lends_cons lend_v (lends_cons (lend_bears (bears_rp rfl)) (lends_cons (lend_fn ?_) lends_nil))
    rw [F.nokill]
    exact lends_self F.bears _
  · intro j hj
    simp (disch := omega) only [hp_put, hp_mem_ne, hp_kill_ne]
    rfl
  repeat (first | (refine step_ops ?_; (refine m_mov (by conv => lhs; whnf) ?_)) | refine end_ops ?_ | refine AW_ret ?_)
  refine ret_mat (r0 := 11) (b := 1000) (by omega) (by omega) (by omega) rfl rfl ?_
  intro j hj
  simp only [hp_put]
  refine addM_row (by omega) ?_ hj
  simp (disch := omega) only [hp_put, hp_mem_ne, hp_kill_ne]
  rfl
end Go.Proofs.Ytamgcjdmcmbffaa
