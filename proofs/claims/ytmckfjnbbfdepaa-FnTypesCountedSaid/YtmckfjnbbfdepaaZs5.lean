/- The abstract machine, contracts: part 5 of what this claim needs. -/
import Derived.Test.YtmckfjnbbfdepaaZs4
set_option linter.unusedSectionVars false
namespace Go.Proofs.Ytmckfjnbbfdepaa
variable [Go.Am.CodeBlk]
open Go.Am
attribute [local irreducible] AW Outs Weak Lends Lend Sp aops atree aop1 Then Round InBlock Done
attribute [local irreducible] SpH DoneH
def clP (g m : Int) : Nat × Nat := if CbOk g m then low (chLongN g.toNat m).toNat (fac g.toNat).toNat else (0, 0)
def clTup (g m : Int) : AV := .tup [.i ((clP g m).1 : Nat), .i ((clP g m).2 : Nat), .b (decide (CbOk g m))]
theorem specChanceLongest_spec (g m : Int) : Sp Try.prog 30 [.i g, .i m] (clTup g m) := by
  unfold clTup
  refine spec_of Try.func30 rfl cc30 rfl ?_
  unfold ac30
  by_cases h1 : 1 ≤ g ∧ g ≤ 12
  · by_cases h2 : 0 ≤ m ∧ m ≤ g
    · have h : CbOk g m := ⟨h1, h2⟩
      have e : clP g m = _ := if_pos h
      rw [e, decide_eq_true h]
      obtain ⟨n, rfl⟩ := Int.eq_ofNat_of_zero_le (show 0 ≤ g by omega)
      rw [Int.toNat_natCast]
      have s1 := chLong_spec n (by omega) (by omega) m
      have s2 := exTimes_spec n (by omega)
      have b1 := tySum_bd (g := n) (by omega) (by omega) fun K => decide (K.getD 0 0 ≤ m)
      have b2 := fac_le n (by omega)
      unfold chLongN at *
      obtain ⟨A, hA⟩ := Int.eq_ofNat_of_zero_le b1.1
      obtain ⟨F, hF⟩ := Int.eq_ofNat_of_zero_le (show 0 ≤ fac n by omega)
      rw [hA] at s1 b1 ⊢
      rw [hF] at s2 b2 ⊢
      rw [Int.toNat_natCast, Int.toNat_natCast]
      have s3 := exLowN_spec A F (by omega) (by omega) (by omega)
      generalize low A F = p at *
      repeat (first | (refine step_ops ?_; (refine m_mov (by conv => lhs; whnf) ?_)) | refine end_ops ?_ | refine seq_ops ?_ | refine AW_seq ?_)
      (refine step_ops ?_); (apply m_call (exGuests_spec _)); (· repeat (first | exact lends_nil | (refine lends_cons ?_ ?_; (· exact lend_v))))
      repeat (refine step_ops ?_; ((try (refine g_yes rfl ?_ ?_; (· first | rfl | assumption | (refine decide_eq_true ?_; first | assumption | omega) | (refine nt ?_; first | assumption | omega) | (simp [*]; done) | (refine decide_eq_false ?_; first | assumption | omega) | (refine nf ?_; first | assumption | omega)))); (first | (refine m_mov (by conv => lhs; whnf) ?_) | (refine m_not rfl ?_))))
      (refine step_ops ?_); (refine g_yes rfl ?_ ?_; (· first | (first | rfl | assumption | (refine decide_eq_true ?_; first | assumption | omega) | (refine nt ?_; first | assumption | omega) | (simp [*]; done)) | (first | rfl | assumption | (refine decide_eq_false ?_; first | assumption | omega) | (refine nf ?_; first | assumption | omega) | (simp [*]; done))); (apply m_call (l1In_spec _ _ _))); (· repeat (first | exact lends_nil | (refine lends_cons ?_ ?_; (· exact lend_v))))
      repeat (first | (refine step_ops ?_; ((try (refine g_yes rfl ?_ ?_; (· first | rfl | assumption | (refine decide_eq_true ?_; first | assumption | omega) | (refine nt ?_; first | assumption | omega) | (simp [*]; done) | (refine decide_eq_false ?_; first | assumption | omega) | (refine nf ?_; first | assumption | omega)))); (first | (refine m_mov (by conv => lhs; whnf) ?_) | (refine m_not rfl ?_) | (refine m_pick_f rfl ?_ (by conv => lhs; whnf) ?_; (· first | rfl | assumption | (refine decide_eq_false ?_; first | assumption | omega) | (refine nf ?_; first | assumption | omega) | (simp [*]; done)))))) | refine end_ops ?_ | refine seq_ops ?_ | (refine cond_f rfl ?_ ?_; (· first | rfl | assumption | (refine decide_eq_false ?_; first | assumption | omega) | (refine nf ?_; first | assumption | omega) | (simp [*]; done))) | refine skip_then ?_)
      (refine step_ops ?_); (apply m_call (s1)); (· repeat (first | exact lends_nil | (refine lends_cons ?_ ?_; (· exact lend_v))))
      repeat (refine step_ops ?_; (refine m_mov (by conv => lhs; whnf) ?_))
      (refine step_ops ?_); (apply m_call (s2)); (· repeat (first | exact lends_nil | (refine lends_cons ?_ ?_; (· exact lend_v))))
      skip
      (refine step_ops ?_); (apply m_call (s3)); (· repeat (first | exact lends_nil | (refine lends_cons ?_ ?_; (· exact lend_v))))
      repeat (first | (refine step_ops ?_; (first | (refine m_mov (by conv => lhs; whnf) ?_) | (refine m_ext rfl rfl ?_))) | refine end_ops ?_ | refine seq_ops ?_ | refine AW_ret ?_ | refine ret_done ?_)
      exact outs_tup3 (outs_i rfl) (outs_i rfl) (outs_b rfl)
    · have h : ¬ CbOk g m := fun hh => h2 hh.2
      have e : clP g m = _ := if_neg h
      rw [e]
      repeat (first | (refine step_ops ?_; (refine m_mov (by conv => lhs; whnf) ?_)) | refine end_ops ?_ | refine seq_ops ?_ | refine AW_seq ?_)
      (refine step_ops ?_); (apply m_call (exGuests_spec _)); (· repeat (first | exact lends_nil | (refine lends_cons ?_ ?_; (· exact lend_v))))
      repeat (refine step_ops ?_; ((try (refine g_yes rfl ?_ ?_; (· first | rfl | assumption | (refine decide_eq_true ?_; first | assumption | omega) | (refine nt ?_; first | assumption | omega) | (simp [*]; done) | (refine decide_eq_false ?_; first | assumption | omega) | (refine nf ?_; first | assumption | omega)))); (first | (refine m_mov (by conv => lhs; whnf) ?_) | (refine m_not rfl ?_))))
      (refine step_ops ?_); (refine g_yes rfl ?_ ?_; (· first | (first | rfl | assumption | (refine decide_eq_true ?_; first | assumption | omega) | (refine nt ?_; first | assumption | omega) | (simp [*]; done)) | (first | rfl | assumption | (refine decide_eq_false ?_; first | assumption | omega) | (refine nf ?_; first | assumption | omega) | (simp [*]; done))); (apply m_call (l1In_spec _ _ _))); (· repeat (first | exact lends_nil | (refine lends_cons ?_ ?_; (· exact lend_v))))
      repeat (first | (refine step_ops ?_; ((try (refine g_yes rfl ?_ ?_; (· first | rfl | assumption | (refine decide_eq_true ?_; first | assumption | omega) | (refine nt ?_; first | assumption | omega) | (simp [*]; done) | (refine decide_eq_false ?_; first | assumption | omega) | (refine nf ?_; first | assumption | omega)))); (first | (refine m_mov (by conv => lhs; whnf) ?_) | (refine m_not rfl ?_) | (refine m_pick_f rfl ?_ (by conv => lhs; whnf) ?_; (· first | rfl | assumption | (refine decide_eq_false ?_; first | assumption | omega) | (refine nf ?_; first | assumption | omega) | (simp [*]; done)))))) | refine end_ops ?_ | refine seq_ops ?_ | (refine cond_t rfl ?_ ?_; (· first | rfl | assumption | (refine decide_eq_true ?_; first | assumption | omega) | (refine nt ?_; first | assumption | omega) | (simp [*]; done))) | refine AW_ret ?_ | refine ret_done ?_ | refine ret_then ?_)
      exact outs_tup3 (outs_i rfl) (outs_i rfl) (outs_b (decide_eq_false h).symm)
  · have h : ¬ CbOk g m := fun hh => h1 hh.1
    have e : clP g m = _ := if_neg h
    rw [e]
    repeat (first | (refine step_ops ?_; (refine m_mov (by conv => lhs; whnf) ?_)) | refine end_ops ?_ | refine seq_ops ?_ | refine AW_seq ?_)
    (refine step_ops ?_); (apply m_call (exGuests_spec _)); (· repeat (first | exact lends_nil | (refine lends_cons ?_ ?_; (· exact lend_v))))
    repeat (first | (refine step_ops ?_; (first | (first | (refine m_mov (by conv => lhs; whnf) ?_) | (refine m_not rfl ?_) | (refine m_pick_t rfl ?_ (by conv => lhs; whnf) ?_; (· first | rfl | assumption | (refine decide_eq_true ?_; first | assumption | omega) | (refine nt ?_; first | assumption | omega) | (simp [*]; done)))) | (refine g_noF rfl ?_ ?_; (· first | rfl | assumption | (refine decide_eq_true ?_; first | assumption | omega) | (refine nt ?_; first | assumption | omega) | (simp [*]; done))))) | refine end_ops ?_ | refine seq_ops ?_ | (refine cond_t rfl ?_ ?_; (· first | rfl | assumption | (refine decide_eq_true ?_; first | assumption | omega) | (refine nt ?_; first | assumption | omega) | (simp [*]; done))) | refine AW_ret ?_ | refine ret_done ?_ | refine ret_then ?_)
    exact outs_tup3 (outs_i rfl) (outs_i rfl) (outs_b (decide_eq_false h).symm)
end Go.Proofs.Ytmckfjnbbfdepaa
namespace Go.Proofs.Ytmckfjnbbfdepaa
variable [Go.Am.CodeBlk]
open Go.Am
attribute [local irreducible] AW Outs Weak Lends Lend Sp aops atree aop1 Then Round InBlock Done
attribute [local irreducible] SpH DoneH
theorem long_cnt : ∀ g < 13, 1 ≤ g → ∀ m < 13, chLongN g ((m : Nat) : Int) = cntN 1 m g := by decide +kernel
theorem implCountPairsAlone_spec (g : Int) : Sp Try.prog 11 [.i g] (paTup g) := by
  unfold paTup
  refine spec_of Try.func11 rfl cc11 rfl ?_
  unfold ac11
  by_cases h1 : 1 ≤ g ∧ g ≤ 12
  · have e : paR g = _ := if_pos h1
    rw [e]
    obtain ⟨n, rfl⟩ := Int.eq_ofNat_of_zero_le (show 0 ≤ g by omega)
    rw [Int.toNat_natCast]
    have hc : chLongN n 2 = cntN 1 2 n := long_cnt n (by omega) (by omega) 2 (by decide)
    rw [hc]
    have hs : Sp Try.prog 45 [.i n, .i 1, .i 2] (.i (cntN 1 2 n)) := countByLengths_spec n 1 2 (by omega) (by omega) (by omega) (by omega)
    repeat (first | (refine step_ops ?_; (refine m_mov (by conv => lhs; whnf) ?_)) | refine end_ops ?_ | refine seq_ops ?_ | refine AW_seq ?_)
    (refine step_ops ?_); (apply m_call (isGuestCount_spec _)); (· repeat (first | exact lends_nil | (refine lends_cons ?_ ?_; (· exact lend_v))))
    repeat (first | (refine step_ops ?_; (first | (refine m_mov (by conv => lhs; whnf) ?_) | (refine m_not rfl ?_))) | refine end_ops ?_ | refine seq_ops ?_ | (refine cond_f rfl ?_ ?_; (· first | rfl | assumption | (refine decide_eq_false ?_; first | assumption | omega) | (refine nf ?_; first | assumption | omega) | (simp [*]; done))) | refine skip_then ?_)
    (refine step_ops ?_); (apply m_call (hs)); (· repeat (first | exact lends_nil | (refine lends_cons ?_ ?_; (· exact lend_v))))
    repeat (first | (refine step_ops ?_; (refine m_mov (by conv => lhs; whnf) ?_)) | refine end_ops ?_ | refine AW_ret ?_ | refine ret_done ?_)
    exact outs_tup2 (outs_i rfl) (outs_b (decide_eq_true h1).symm)
  · have e : paR g = _ := if_neg h1
    rw [e]
    repeat (first | (refine step_ops ?_; (refine m_mov (by conv => lhs; whnf) ?_)) | refine end_ops ?_ | refine seq_ops ?_ | refine AW_seq ?_)
    (refine step_ops ?_); (apply m_call (isGuestCount_spec _)); (· repeat (first | exact lends_nil | (refine lends_cons ?_ ?_; (· exact lend_v))))
    repeat (first | (refine step_ops ?_; (first | (refine m_mov (by conv => lhs; whnf) ?_) | (refine m_not rfl ?_))) | refine end_ops ?_ | refine seq_ops ?_ | (refine cond_t rfl ?_ ?_; (· first | rfl | assumption | (refine decide_eq_true ?_; first | assumption | omega) | (refine nt ?_; first | assumption | omega) | (simp [*]; done))) | refine AW_ret ?_ | refine ret_done ?_ | refine ret_then ?_)
    exact outs_tup2 (outs_i rfl) (outs_b (decide_eq_false h1).symm)
theorem implChanceLongest_spec (g m : Int) : Sp Try.prog 29 [.i g, .i m] (clTup g m) := by
  unfold clTup
  by_cases h : CbOk g m
  · have e : clP g m = _ := if_pos h
    rw [e]
    obtain ⟨⟨h1, h2⟩, h3, h4⟩ := id h
    obtain ⟨n, rfl⟩ := Int.eq_ofNat_of_zero_le (show 0 ≤ g by omega)
    obtain ⟨k, rfl⟩ := Int.eq_ofNat_of_zero_le h3
    rw [Int.toNat_natCast, long_cnt n (by omega) (by omega) k (by omega)]
    have hcb := cntN_le 1 k n (Nat.le_refl 1) (by omega)
    have hfb := fac_le n (by omega)
    have hfp := fac_pos n
    have s1 : Sp Try.prog 45 [.i n, .i 1, .i k] (.i (cntN 1 k n)) := countByLengths_spec n 1 k (by omega) (by omega) (by omega) (by omega)
    have s2 := factorial_spec n (by omega)
    obtain ⟨A, hA⟩ := Int.eq_ofNat_of_zero_le hcb.1
    obtain ⟨F, hF⟩ := Int.eq_ofNat_of_zero_le (show 0 ≤ fac n by omega)
    rw [hA] at s1 hcb ⊢
    rw [hF] at s2 hfb hfp ⊢
    rw [Int.toNat_natCast, Int.toNat_natCast]
    have s3 := partOf_spec A F (by omega) (by omega) (by omega)
    have s4 := told_spec (low A F)
    generalize low A F = p at *
    unfold fracV at s3 s4
    have hg1 : ¬ (k : Int) < 0 := by omega
    have hg2 : ¬ (k : Int) > (n : Nat) := by omega
    refine spec_of Try.func29 rfl cc29 rfl ?_
    unfold ac29
    repeat (first | (refine step_ops ?_; (refine m_mov (by conv => lhs; whnf) ?_)) | refine end_ops ?_ | refine seq_ops ?_ | refine AW_seq ?_)
    (refine step_ops ?_); (apply m_call (isGuestCount_spec _)); (· repeat (first | exact lends_nil | (refine lends_cons ?_ ?_; (· exact lend_v))))
    repeat (first | (refine step_ops ?_; ((try (refine g_yes rfl ?_ ?_; (· first | rfl | assumption | (refine decide_eq_true ?_; first | assumption | omega) | (refine nt ?_; first | assumption | omega) | (simp [*]; done) | (refine decide_eq_false ?_; first | assumption | omega) | (refine nf ?_; first | assumption | omega)))); (first | (refine m_mov (by conv => lhs; whnf) ?_) | (refine m_lss rfl rfl ?_) | (refine m_gtr rfl rfl ?_) | (refine m_not rfl ?_) | (refine m_pick_f rfl ?_ (by conv => lhs; whnf) ?_; (· first | rfl | assumption | (refine decide_eq_false ?_; first | assumption | omega) | (refine nf ?_; first | assumption | omega) | (simp [*]; done)))))) | refine end_ops ?_ | refine seq_ops ?_ | (refine cond_f rfl ?_ ?_; (· first | rfl | assumption | (refine decide_eq_false ?_; first | assumption | omega) | (refine nf ?_; first | assumption | omega) | (simp [*]; done))) | refine skip_then ?_)
    (refine step_ops ?_); (apply m_call (s1)); (· repeat (first | exact lends_nil | (refine lends_cons ?_ ?_; (· exact lend_v))))
    repeat (refine step_ops ?_; (refine m_mov (by conv => lhs; whnf) ?_))
    (refine step_ops ?_); (apply m_call (s2)); (· repeat (first | exact lends_nil | (refine lends_cons ?_ ?_; (· exact lend_v))))
    skip
    (refine step_ops ?_); (apply m_call (s3)); (· repeat (first | exact lends_nil | (refine lends_cons ?_ ?_; (· exact lend_v))))
    skip
    (refine step_ops ?_); (apply m_call (s4)); (· repeat (first | exact lends_nil | (refine lends_cons ?_ ?_; (· (refine lend_agg ?_; first | rfl | assumption | (simp [plainV]; done))))))
    repeat (first | (refine step_ops ?_; (first | (refine m_mov (by conv => lhs; whnf) ?_) | (refine m_ext rfl rfl ?_))) | refine end_ops ?_ | refine AW_ret ?_ | refine ret_done ?_)
    exact outs_tup3 (outs_i rfl) (outs_i rfl) (outs_b (decide_eq_true h).symm)
  · have e : clP g m = (0, 0) := if_neg h
    rw [e]
    refine spec_of Try.func29 rfl cc29 rfl ?_
    unfold ac29
    by_cases h1 : 1 ≤ g ∧ g ≤ 12
    · by_cases h2 : m < 0
      · repeat (first | (refine step_ops ?_; (refine m_mov (by conv => lhs; whnf) ?_)) | refine end_ops ?_ | refine seq_ops ?_ | refine AW_seq ?_)
        (refine step_ops ?_); (apply m_call (isGuestCount_spec _)); (· repeat (first | exact lends_nil | (refine lends_cons ?_ ?_; (· exact lend_v))))
        repeat (first | (refine step_ops ?_; (first | ((try (refine g_yes rfl ?_ ?_; (· first | rfl | assumption | (refine decide_eq_true ?_; first | assumption | omega) | (refine nt ?_; first | assumption | omega) | (simp [*]; done) | (refine decide_eq_false ?_; first | assumption | omega) | (refine nf ?_; first | assumption | omega)))); (first | (refine m_mov (by conv => lhs; whnf) ?_) | (refine m_lss rfl rfl ?_) | (refine m_not rfl ?_) | (refine m_pick_t rfl ?_ (by conv => lhs; whnf) ?_; (· first | rfl | assumption | (refine decide_eq_true ?_; first | assumption | omega) | (refine nt ?_; first | assumption | omega) | (simp [*]; done))) | (refine m_pick_f rfl ?_ (by conv => lhs; whnf) ?_; (· first | rfl | assumption | (refine decide_eq_false ?_; first | assumption | omega) | (refine nf ?_; first | assumption | omega) | (simp [*]; done))))) | (refine g_noF rfl ?_ ?_; (· first | rfl | assumption | (refine decide_eq_true ?_; first | assumption | omega) | (refine nt ?_; first | assumption | omega) | (simp [*]; done))))) | refine end_ops ?_ | refine seq_ops ?_ | (refine cond_t rfl ?_ ?_; (· first | rfl | assumption | (refine decide_eq_true ?_; first | assumption | omega) | (refine nt ?_; first | assumption | omega) | (simp [*]; done))) | refine AW_ret ?_ | refine ret_done ?_ | refine ret_then ?_)
        exact outs_tup3 (outs_i rfl) (outs_i rfl) (outs_b (decide_eq_false h).symm)
      · have h3 : m > g := by
          rcases Int.lt_or_le g m with hh | hh
          · exact hh
          · exact absurd ⟨h1, by omega, hh⟩ h
        repeat (first | (refine step_ops ?_; (refine m_mov (by conv => lhs; whnf) ?_)) | refine end_ops ?_ | refine seq_ops ?_ | refine AW_seq ?_)
        (refine step_ops ?_); (apply m_call (isGuestCount_spec _)); (· repeat (first | exact lends_nil | (refine lends_cons ?_ ?_; (· exact lend_v))))
        repeat (first | (refine step_ops ?_; ((try (refine g_yes rfl ?_ ?_; (· first | rfl | assumption | (refine decide_eq_true ?_; first | assumption | omega) | (refine nt ?_; first | assumption | omega) | (simp [*]; done) | (refine decide_eq_false ?_; first | assumption | omega) | (refine nf ?_; first | assumption | omega)))); (first | (refine m_mov (by conv => lhs; whnf) ?_) | (refine m_lss rfl rfl ?_) | (refine m_gtr rfl rfl ?_) | (refine m_not rfl ?_) | (refine m_pick_f rfl ?_ (by conv => lhs; whnf) ?_; (· first | rfl | assumption | (refine decide_eq_false ?_; first | assumption | omega) | (refine nf ?_; first | assumption | omega) | (simp [*]; done)))))) | refine end_ops ?_ | refine seq_ops ?_ | (refine cond_t rfl ?_ ?_; (· first | rfl | assumption | (refine decide_eq_true ?_; first | assumption | omega) | (refine nt ?_; first | assumption | omega) | (simp [*]; done))) | refine AW_ret ?_ | refine ret_done ?_ | refine ret_then ?_)
        exact outs_tup3 (outs_i rfl) (outs_i rfl) (outs_b (decide_eq_false h).symm)
    · repeat (first | (refine step_ops ?_; (refine m_mov (by conv => lhs; whnf) ?_)) | refine end_ops ?_ | refine seq_ops ?_ | refine AW_seq ?_)
      (refine step_ops ?_); (apply m_call (isGuestCount_spec _)); (· repeat (first | exact lends_nil | (refine lends_cons ?_ ?_; (· exact lend_v))))
      repeat (first | (refine step_ops ?_; (first | (first | (refine m_mov (by conv => lhs; whnf) ?_) | (refine m_not rfl ?_) | (refine m_pick_t rfl ?_ (by conv => lhs; whnf) ?_; (· first | rfl | assumption | (refine decide_eq_true ?_; first | assumption | omega) | (refine nt ?_; first | assumption | omega) | (simp [*]; done)))) | (refine g_noF rfl ?_ ?_; (· first | rfl | assumption | (refine decide_eq_true ?_; first | assumption | omega) | (refine nt ?_; first | assumption | omega) | (simp [*]; done))))) | refine end_ops ?_ | refine seq_ops ?_ | (refine cond_t rfl ?_ ?_; (· first | rfl | assumption | (refine decide_eq_true ?_; first | assumption | omega) | (refine nt ?_; first | assumption | omega) | (simp [*]; done))) | refine AW_ret ?_ | refine ret_done ?_ | refine ret_then ?_)
      exact outs_tup3 (outs_i rfl) (outs_i rfl) (outs_b (decide_eq_false h).symm)
theorem low_one (k : Nat) : low 1 k = (1, k) := by simp [low]
theorem meanOfLength_spec (k : Nat) (h1 : 1 ≤ k) (h12 : k ≤ 12) : Sp Try.prog 42 [.i k] (.agg (fracV (1, k))) := by
  have hp : Sp Try.prog 40 [.i 1, .i k] (.agg (fracV (low 1 k))) := partOf_spec 1 k (by omega) (by omega) h1
  rw [low_one] at hp
  unfold fracV at hp ⊢
  refine specC_of Try.func42 rfl cc42 (by rfl) ?_
  unfold ac42
  repeat (first | (refine step_ops ?_; (first | (refine m_mov (by conv => lhs; whnf) ?_) | (refine m_alloc ?_))) | refine end_ops ?_ | refine seq_ops ?_)
  (refine step_ops ?_); (apply m_call (hp)); (· repeat (first | exact lends_nil | (refine lends_cons ?_ ?_; (· exact lend_v))))
  repeat (first | (refine step_ops ?_; (refine m_stall rfl rfl rfl ?_ ?_ ?_ ?_; (· first | rfl | (simp [*]; done)); (· first | rfl | (simp [*]; done)); (· first | rfl | (simp [cellOk, Value.oneCell']; done)))) | refine end_ops ?_ | refine AW_ret ?_)
  exact ret_donec rfl rfl rfl (outs_agg rfl)
theorem implMeanOfLength_spec (g m : Int) : Sp Try.prog 24 [.i g, .i m] (mlTup g m) := by
  unfold mlTup
  refine spec_of Try.func24 rfl cc24 rfl ?_
  unfold ac24
  by_cases h : LoOk g m
  · have e : mlR g m = _ := if_pos h
    rw [e]
    obtain ⟨⟨h1, h2⟩, h3, h4⟩ := id h
    obtain ⟨k, rfl⟩ := Int.eq_ofNat_of_zero_le (show 0 ≤ m by omega)
    have s1 := meanOfLength_spec k (by omega) (by omega)
    have s2 := told_spec (1, k)
    unfold fracV at s1 s2
    repeat (first | (refine step_ops ?_; (refine m_mov (by conv => lhs; whnf) ?_)) | refine end_ops ?_ | refine seq_ops ?_ | refine AW_seq ?_)
    (refine step_ops ?_); (apply m_call (canHaveLength_spec _ _)); (· repeat (first | exact lends_nil | (refine lends_cons ?_ ?_; (· exact lend_v))))
    repeat (first | (refine step_ops ?_; (first | (refine m_mov (by conv => lhs; whnf) ?_) | (refine m_not rfl ?_))) | refine end_ops ?_ | refine seq_ops ?_ | (refine cond_f rfl ?_ ?_; (· first | rfl | assumption | (refine decide_eq_false ?_; first | assumption | omega) | (refine nf ?_; first | assumption | omega) | (simp [*]; done))) | refine skip_then ?_)
    (refine step_ops ?_); (apply m_call (s1)); (· repeat (first | exact lends_nil | (refine lends_cons ?_ ?_; (· exact lend_v))))
    skip
    (refine step_ops ?_); (apply m_call (s2)); (· repeat (first | exact lends_nil | (refine lends_cons ?_ ?_; (· (refine lend_agg ?_; first | rfl | assumption | (simp [plainV]; done))))))
    repeat (first | (refine step_ops ?_; (first | (refine m_mov (by conv => lhs; whnf) ?_) | (refine m_ext rfl rfl ?_))) | refine end_ops ?_ | refine AW_ret ?_ | refine ret_done ?_)
    exact outs_tup3 (outs_i rfl) (outs_i rfl) (outs_b (decide_eq_true h).symm)
  · have e : mlR g m = _ := if_neg h
    rw [e]
    repeat (first | (refine step_ops ?_; (refine m_mov (by conv => lhs; whnf) ?_)) | refine end_ops ?_ | refine seq_ops ?_ | refine AW_seq ?_)
    (refine step_ops ?_); (apply m_call (canHaveLength_spec _ _)); (· repeat (first | exact lends_nil | (refine lends_cons ?_ ?_; (· exact lend_v))))
    repeat (first | (refine step_ops ?_; (first | (refine m_mov (by conv => lhs; whnf) ?_) | (refine m_not rfl ?_))) | refine end_ops ?_ | refine seq_ops ?_ | (refine cond_t rfl ?_ ?_; (· first | rfl | assumption | (refine decide_eq_true ?_; first | assumption | omega) | (refine nt ?_; first | assumption | omega) | (simp [*]; done))) | refine AW_ret ?_ | refine ret_done ?_ | refine ret_then ?_)
    exact outs_tup3 (outs_i rfl) (outs_i rfl) (outs_b (decide_eq_false h).symm)
theorem implMeanChains_spec (g : Int) : Sp Try.prog 9 [.i g] (meTup g) := by
  unfold meTup
  by_cases h : 1 ≤ g ∧ g ≤ 12
  · have e : meR g = _ := if_pos h
    rw [e, decide_eq_true h]
    obtain ⟨n, rfl⟩ := Int.eq_ofNat_of_zero_le (show 0 ≤ g by omega)
    rw [Int.toNat_natCast]
    have hp0 : Sp Try.prog 40 [.i 0, .i 1] (.agg [.i 0, .i 1]) := partOf_spec 0 1 (by omega) (by omega) (by omega)
    refine spec_of Try.func9 rfl cc9 rfl ?_
    unfold ac9
    repeat (first | (refine step_ops ?_; (refine m_mov (by conv => lhs; whnf) ?_)) | refine end_ops ?_ | refine seq_ops ?_ | refine AW_seq ?_)
    refine step_ops ?_; (apply m_call (isGuestCount_spec _)); (· repeat (first | exact lends_nil | (refine lends_cons ?_ ?_; (· exact lend_v))))
    repeat (first | (refine step_ops ?_; (refine m_not rfl ?_)) | refine end_ops ?_ | refine seq_ops ?_ | (refine cond_f rfl ?_ ?_; (· first | rfl | assumption | (refine decide_eq_false ?_; first | assumption | omega) | (refine nf ?_; first | assumption | omega) | (simp [*]; done))) | refine skip_then ?_)
    refine step_ops ?_; (apply m_call (hp0)); (· repeat (first | exact lends_nil | (refine lends_cons ?_ ?_; (· exact lend_v))))
    repeat (first | (refine step_ops ?_; (first | (refine m_mov (by conv => lhs; whnf) ?_) | (refine m_alloc ?_) | (refine m_stall rfl rfl rfl ?_ ?_ ?_ ?_; (· first | rfl | (simp [*]; done)); (· first | rfl | (simp [*]; done)); (· first | rfl | (simp [cellOk, Value.oneCell']; done))))) | refine end_ops ?_ | refine seq_ops ?_ | refine AW_seq ?_ | refine AW_block ?_)
    refine AW_loop (α := Nat) (fun k => k ≤ n) (fun k => st [(0, .i n), (5, .pt 5 0), (6, .i ((k + 1 : Nat) : Int))] [(5, (true, fracV (mcP k)))]) (fun k => n - k) 0 (by omega) (weak_st ?_ ?_ rfl rfl) ?_
    · (repeat' (first | exact trivial | refine And.intro ?_ ?_)) <;> (first | rfl | skip)
    · exact ⟨rfl, trivial⟩
    intro k hk
    have hb := mcP_bd k (by omega)
    by_cases hc : k < n
    · have hle : ((k + 1 : Nat) : Int) ≤ (n : Nat) := by omega
      have hs := meanOfLength_spec (k + 1) (by omega) (by omega)
      have ha := plus_spec (mcP k) (1, k + 1) (by omega) (by omega) (by dsimp only; omega) (by dsimp only; omega) hb.2.1 (by dsimp only; omega)
      have e2 : addF (mcP k) (1, k + 1) = mcP (k + 1) := by
        show low ((mcP k).1 * (k + 1) + 1 * (mcP k).2) ((mcP k).2 * (k + 1)) = low ((mcP k).1 * (k + 1) + (mcP k).2) ((mcP k).2 * (k + 1))
        rw [Nat.one_mul]
      rw [e2] at ha
      unfold fracV at hs ha ⊢
      repeat (first | ((first | refine step_ops ?_ | refine step_tree ?_); (first | (refine m_mov (by conv => lhs; whnf) ?_) | (refine m_leq rfl rfl ?_) | (refine m_ldall rfl rfl ?_ ?_; (· first | rfl | (simp; done) | (simp [*]; done))))) | refine end_ops ?_ | refine seq_ops ?_ | refine AW_tree ?_ | (refine cond_t rfl ?_ ?_; (· first | rfl | assumption | (refine decide_eq_true ?_; first | assumption | omega) | (refine nt ?_; first | assumption | omega) | (simp [*]; done))) | refine skip_then ?_ | refine AW_seq ?_ | refine AW_block ?_)
      refine step_tree ?_; (apply m_call (hs)); (· repeat (first | exact lends_nil | (refine lends_cons ?_ ?_; (· exact lend_v))))
      skip
      refine step_tree ?_; (apply m_call (ha)); (· repeat (first | exact lends_nil | (refine lends_cons ?_ ?_; (· (refine lend_agg ?_; first | rfl | assumption | (simp [plainV]; done))))))
      repeat (first | ((first | refine step_ops ?_ | refine step_tree ?_); (first | (refine m_mov (by conv => lhs; whnf) ?_) | (refine m_add rfl rfl ?_ ?_ ?_; (· omega); (· omega)) | (refine m_stall rfl rfl rfl ?_ ?_ ?_ ?_; (· first | rfl | (simp [*]; done)); (· first | rfl | (simp [*]; done)); (· first | rfl | (simp [cellOk, Value.oneCell']; done))))) | refine end_ops ?_ | refine AW_ops ?_ | refine end_tree ?_ | refine norm_then ?_ | refine norm_block ?_)
      refine next_round (k + 1) (by omega) (weak_st ?_ ?_ rfl rfl) ?_
      · (repeat' (first | exact trivial | refine And.intro ?_ ?_)) <;> (first | rfl | skip)
      · exact ⟨rfl, trivial⟩
      · omega
    · obtain rfl : k = n := by omega
      have hle : ¬ ((k + 1 : Nat) : Int) ≤ (k : Nat) := by omega
      have ht := told_spec (mcP k)
      unfold fracV at ht ⊢
      repeat (first | (refine step_ops ?_; (first | (refine m_mov (by conv => lhs; whnf) ?_) | (refine m_leq rfl rfl ?_) | (refine m_ldall rfl rfl ?_ ?_; (· first | rfl | (simp; done) | (simp [*]; done))))) | refine end_ops ?_ | refine seq_ops ?_ | (refine cond_f rfl ?_ ?_; (· first | rfl | assumption | (refine decide_eq_false ?_; first | assumption | omega) | (refine nf ?_; first | assumption | omega) | (simp [*]; done))) | refine AW_seq ?_ | refine norm_then ?_ | refine exit_then ?_ | refine exit_round ?_ | refine AW_exit ?_ | refine exit_block ?_)
      refine step_ops ?_; (apply m_call (ht)); (· repeat (first | exact lends_nil | (refine lends_cons ?_ ?_; (· (refine lend_agg ?_; first | rfl | assumption | (simp [plainV]; done))))))
      repeat (first | (refine step_ops ?_; (first | (refine m_mov (by conv => lhs; whnf) ?_) | (refine m_ext rfl rfl ?_))) | refine end_ops ?_ | refine AW_ret ?_ | refine ret_done ?_)
      exact outs_tup3 (outs_i rfl) (outs_i rfl) (outs_b rfl)
  · have e : meR g = (0, 0) := if_neg h
    rw [e, decide_eq_false h]
    refine spec_of Try.func9 rfl cc9 rfl ?_
    unfold ac9
    repeat (first | (refine step_ops ?_; (refine m_mov (by conv => lhs; whnf) ?_)) | refine end_ops ?_ | refine seq_ops ?_ | refine AW_seq ?_)
    refine step_ops ?_; (apply m_call (isGuestCount_spec _)); (· repeat (first | exact lends_nil | (refine lends_cons ?_ ?_; (· exact lend_v))))
    repeat (first | (refine step_ops ?_; (first | (refine m_mov (by conv => lhs; whnf) ?_) | (refine m_not rfl ?_))) | refine end_ops ?_ | refine seq_ops ?_ | (refine cond_t rfl ?_ ?_; (· first | rfl | assumption | (refine decide_eq_true ?_; first | assumption | omega) | (refine nt ?_; first | assumption | omega) | (simp [*]; done))) | refine AW_ret ?_ | refine ret_done ?_ | refine ret_then ?_)
    exact outs_tup3 (outs_i rfl) (outs_i rfl) (outs_b rfl)
end Go.Proofs.Ytmckfjnbbfdepaa
namespace Go.Proofs.Ytmckfjnbbfdepaa
variable [Go.Am.CodeBlk]
open Go.Am
attribute [local irreducible] AW Outs Weak Lends Lend Sp aops atree aop1 Then Round InBlock Done
/-- How many exchanges have a type of the first k ones, by a number that a type has. -/
def wL (R : List (List Int)) (q : List Int → Int) (g k : Nat) : List Int := (List.range (g + 1)).map fun m => tyS R (fun K => decide (q K = ((m : Nat) : Int))) k
theorem wL_len (R : List (List Int)) (q : List Int → Int) (g k : Nat) : (wL R q g k).length = g + 1 := by simp [wL]
theorem wL_get (R : List (List Int)) (q : List Int → Int) (g k : Nat) {m : Nat} (h : m < g + 1) : (wL R q g k).getD m 0 = tyS R (fun K => decide (q K = ((m : Nat) : Int))) k := by simp [wL, h]
theorem wL_zero (R : List (List Int)) (q : List Int → Int) (g : Nat) : wL R q g 0 = List.replicate (g + 1) 0 := by
  apply List.ext_getElem
  · simp [wL]
  · intro i h1 h2
    simp [wL, tyS]
theorem wL_set {R : List (List Int)} {q : List Int → Int} {g k a : Nat} (ha : q (R.getD k []) = ((a : Nat) : Int)) (h : a < g + 1) : (wL R q g k).set a ((wL R q g k).getD a 0 + tyCnt (R.getD k [])) = wL R q g (k + 1) := by
  rw [wL_get R q g k h]
  apply List.ext_getElem
  · simp [wL]
  · intro i h1 h2
    rw [List.getElem_set]
    simp only [wL, List.getElem_map, List.getElem_range, tyS]
    by_cases e : a = i
    · subst e
      rw [if_pos rfl, if_pos (decide_eq_true ha)]
    · have hne : ¬ decide (q (R.getD k []) = ((i : Nat) : Int)) = true := by
        rw [ha]
        intro h; have := of_decide_eq_true h; omega
      rw [if_neg e, if_neg hne, Int.add_zero]
theorem wL_bd {R : List (List Int)} (hR : ∀ K ∈ R, TyOk K) (q : List Int → Int) {g k m : Nat} (hk : k ≤ R.length) (h : m < g + 1) : 0 ≤ (wL R q g k).getD m 0 ∧ (wL R q g k).getD m 0 ≤ k * 479001600 := by
  rw [wL_get R q g k h]
  exact tyS_bd hR _ k hk
def chS (R : List (List Int)) : Nat → Int
  | 0 => 0
  | k + 1 => chS R k + tyCnt (R.getD k []) * ((R.getD k []).length : Nat)
theorem chT_bd {K : List Int} (h : TyOk K) : 0 ≤ tyCnt K * (K.length : Nat) ∧ tyCnt K * (K.length : Nat) ≤ 479001600 * 12 := by
  have h1 := tyCnt_bd h
  have h2 := h.2.1
  exact ⟨Int.mul_nonneg (by omega) (by omega), Int.mul_le_mul (by omega) (by omega) (by omega) (by omega)⟩
theorem chS_bd {R : List (List Int)} (hR : ∀ K ∈ R, TyOk K) : ∀ k, k ≤ R.length → 0 ≤ chS R k ∧ chS R k ≤ k * 5748019200
  | 0, _ => by simp [chS]
  | k + 1, h => by
    have h1 := chS_bd hR k (by omega)
    have h2 := chT_bd (hR _ (getD_memL (show k < R.length by omega) : R.getD k [] ∈ R))
    simp only [chS]
    omega
/-- How often a number stands among the first i of a list. -/
def numI (K : List Int) (m : Int) : Nat → Nat
  | 0 => 0
  | i + 1 => numI K m i + if K.getD i 0 = m then 1 else 0
theorem numI_le (K : List Int) (m : Int) : ∀ i, numI K m i ≤ i
  | 0 => Nat.le_refl _
  | i + 1 => by have := numI_le K m i; simp only [numI]; split <;> omega
def ofS (R : List (List Int)) (m : Int) : Nat → Int
  | 0 => 0
  | k + 1 => ofS R m k + (numI (R.getD k []) m (R.getD k []).length : Nat) * tyCnt (R.getD k [])
def oL (R : List (List Int)) (g k i : Nat) : List Int := (List.range (g + 1)).map fun m => ofS R ((m : Nat) : Int) k + (numI (R.getD k []) ((m : Nat) : Int) i : Nat) * tyCnt (R.getD k [])
theorem oL_len (R : List (List Int)) (g k i : Nat) : (oL R g k i).length = g + 1 := by simp [oL]
theorem oL_get (R : List (List Int)) (g k i : Nat) {m : Nat} (h : m < g + 1) : (oL R g k i).getD m 0 = ofS R ((m : Nat) : Int) k + (numI (R.getD k []) ((m : Nat) : Int) i : Nat) * tyCnt (R.getD k []) := by simp [oL, h]
theorem oL_zero (R : List (List Int)) (g : Nat) : oL R g 0 0 = List.replicate (g + 1) 0 := by
  apply List.ext_getElem
  · simp [oL]
  · intro i h1 h2
    simp [oL, ofS, numI]
theorem oL_next (R : List (List Int)) (g k : Nat) : oL R g k (R.getD k []).length = oL R g (k + 1) 0 := by
  refine List.map_congr_left fun m _ => ?_
  simp [ofS, numI]
theorem oL_set {R : List (List Int)} {g k i a : Nat} (ha : (R.getD k []).getD i 0 = ((a : Nat) : Int)) (h : a < g + 1) : (oL R g k i).set a ((oL R g k i).getD a 0 + tyCnt (R.getD k [])) = oL R g k (i + 1) := by
  rw [oL_get R g k i h]
  apply List.ext_getElem
  · simp [oL]
  · intro j h1 h2
    rw [List.getElem_set]
    simp only [oL, List.getElem_map, List.getElem_range, numI]
    by_cases e : a = j
    · subst e
      rw [if_pos rfl, if_pos ha, Int.natCast_add, Int.add_mul, Int.add_assoc]
      simp
    · rw [if_neg e, if_neg (by rw [ha]; omega), Nat.add_zero]
theorem numT_bd {K : List Int} (h : TyOk K) (m : Int) {i : Nat} (hi : i ≤ K.length) : 0 ≤ (numI K m i : Nat) * tyCnt K ∧ (numI K m i : Nat) * tyCnt K ≤ 12 * 479001600 := by
  have h1 := tyCnt_bd h
  have h2 := h.2.1
  have h3 := numI_le K m i
  exact ⟨Int.mul_nonneg (by omega) (by omega), Int.mul_le_mul (by omega) (by omega) (by omega) (by omega)⟩
theorem ofS_bd {R : List (List Int)} (hR : ∀ K ∈ R, TyOk K) (m : Int) : ∀ k, k ≤ R.length → 0 ≤ ofS R m k ∧ ofS R m k ≤ k * 5748019200
  | 0, _ => by simp [ofS]
  | k + 1, h => by
    have h1 := ofS_bd hR m k (by omega)
    have h2 := numT_bd (hR _ (getD_memL (show k < R.length by omega) : R.getD k [] ∈ R)) m (Nat.le_refl _)
    simp only [ofS]
    omega
theorem oL_bd {R : List (List Int)} (hR : ∀ K ∈ R, TyOk K) {g k i m : Nat} (hk : k < R.length) (hl : R.length ≤ 77) (hi : i ≤ (R.getD k []).length) (h : m < g + 1) : 0 ≤ (oL R g k i).getD m 0 ∧ (oL R g k i).getD m 0 ≤ 1000000000000 := by
  rw [oL_get R g k i h]
  have h1 := ofS_bd hR ((m : Nat) : Int) k (by omega)
  have h2 := numT_bd (hR _ (getD_memL hk : R.getD k [] ∈ R)) ((m : Nat) : Int) hi
  omega
/-- Which one of two lists comes first. -/
def lexL : List Int → List Int → Bool
  | [], b => decide (b ≠ [])
  | _ :: _, [] => false
  | x :: a, y :: b => if x ≠ y then decide (x < y) else lexL a b
theorem lex_step {a b : List Int} {i : Nat} (h1 : i < a.length) (h2 : i < b.length) : lexL (a.drop i) (b.drop i) = if a.getD i 0 ≠ b.getD i 0 then decide (a.getD i 0 < b.getD i 0) else lexL (a.drop (i + 1)) (b.drop (i + 1)) := by
  rw [List.drop_eq_getElem_cons h1, List.drop_eq_getElem_cons h2]
  simp [lexL, h1, h2]
theorem lex_end {a b : List Int} {i : Nat} (h : ¬ (i < a.length ∧ i < b.length)) (h1 : i ≤ a.length) (h2 : i ≤ b.length) : lexL (a.drop i) (b.drop i) = decide (a.length < b.length) := by
  by_cases e : i < a.length
  · have e2 : i = b.length := by omega
    rw [List.drop_eq_getElem_cons e, List.drop_of_length_le (by omega : b.length ≤ i)]
    simp [lexL]; omega
  · rw [List.drop_of_length_le (by omega : a.length ≤ i)]
    by_cases e2 : i < b.length
    · rw [List.drop_eq_getElem_cons e2]
      simp [lexL]; omega
    · rw [List.drop_of_length_le (by omega : b.length ≤ i)]
      simp [lexL]; omega
/-- What is seen of all types of up to 12 guests. -/
theorem tz_rows : ∀ g < 13, 1 ≤ g → (tyAll g g).all (fun K => decide (K.sum = ((g : Nat) : Int) ∧ 1 ≤ K.length ∧ K.length ≤ g ∧ ∀ x ∈ K, 1 ≤ x ∧ x ≤ ((g : Nat) : Int))) = true := by decide +kernel
theorem tz_lex : ∀ g < 13, (List.range ((tyAll g g).length - 1)).all (fun k => lexL ((tyAll g g).getD (k + 1) []) ((tyAll g g).getD k [])) = true := by decide +kernel
theorem tz_all : ∀ g < 13, 1 ≤ g → (tyAll g g).length ≤ 77 ∧ tyS (tyAll g g) (fun _ => true) (tyAll g g).length = fac g ∧ chS (tyAll g g) (tyAll g g).length * ((mcP g).2 : Nat) = ((mcP g).1 : Nat) * fac g := by decide +kernel
theorem tz_of : ∀ g < 13, 1 ≤ g → ∀ m < g + 1, 1 ≤ m → ofS (tyAll g g) ((m : Nat) : Int) (tyAll g g).length * ((m : Nat) : Int) = 1 * fac g := by decide +kernel
def ChOk (g m : Nat) : Prop := (fac g % ((low (chLongN g ((m : Nat) : Int)).toNat (fac g).toNat).2 : Nat) = 0 ∧ 1 ≤ (low (chLongN g ((m : Nat) : Int)).toNat (fac g).toNat).2) ∧
  (0 ≤ chLongN g ((m : Nat) : Int) ∧ chLongN g ((m : Nat) : Int) ≤ 479001600) ∧ (0 ≤ fac g / ((low (chLongN g ((m : Nat) : Int)).toNat (fac g).toNat).2 : Nat) ∧ fac g / ((low (chLongN g ((m : Nat) : Int)).toNat (fac g).toNat).2 : Nat) ≤ 479001600) ∧
  ((low (chLongN g ((m : Nat) : Int)).toNat (fac g).toNat).1 : Nat) * (fac g / ((low (chLongN g ((m : Nat) : Int)).toNat (fac g).toNat).2 : Nat)) = chLongN g ((m : Nat) : Int)
instance (g m : Nat) : Decidable (ChOk g m) := inferInstanceAs (Decidable ((_ ∧ _) ∧ (_ ∧ _) ∧ (_ ∧ _) ∧ _))
theorem tz_chance : ∀ g < 13, 1 ≤ g → ∀ m < g + 1, ChOk g m := by decide +kernel
end Go.Proofs.Ytmckfjnbbfdepaa
namespace Go.Proofs.Ytmckfjnbbfdepaa
variable [Go.Am.CodeBlk]
open Go.Am
attribute [local irreducible] AW Outs Weak Lends Lend Sp aops atree aop1 Then Round InBlock Done
theorem oSum_spec (K : List Int) (h12 : K.length ≤ 12) (h : ∀ x ∈ K, 1 ≤ x ∧ x ≤ 12) : Sp Try.prog 19 [ints K] (.i K.sum) := by
  refine spec_of Try.func19 rfl cc19 rfl ?_
  unfold ac19
  repeat (first | (refine step_ops ?_; (first | (refine m_mov (by conv => lhs; whnf) ?_) | (refine m_len_ro rfl ?_))) | refine end_ops ?_ | refine seq_ops ?_ | refine AW_seq ?_ | refine AW_block ?_)
  refine AW_loop (α := Nat) (fun k => k ≤ K.length) (fun k => st [(3, .i (K.take k).sum), (6, ints K), (7, .i K.length), (8, .i k)] []) (fun k => K.length - k) 0 (by omega) (weak_st ?_ ?_ rfl rfl) ?_
  · (repeat' (first | exact trivial | refine And.intro ?_ ?_)) <;> (first | rfl | skip)
  · trivial
  intro k hk
  have hb := take_bd h (k := k) (by omega)
  by_cases hc : k < K.length
  · have hx := h _ (getD_mem hc)
    have hs := sum_snoc' K k hc
    generalize (K.take k).sum = a at *
    repeat (first | (refine step_ops ?_; (first | (refine m_mov (by conv => lhs; whnf) ?_) | (refine m_lss rfl rfl ?_) | (refine m_add rfl rfl ?_ ?_ ?_; (· omega); (· omega)) | (refine m_idx1_ro rfl rfl ?_ ?_; (· omega)) | (refine m_ld_rpi rfl ?_ ?_; (· omega)))) | refine end_ops ?_ | refine seq_ops ?_ | refine AW_ops ?_ | (refine cond_t rfl ?_ ?_; (· first | rfl | assumption | (refine decide_eq_true ?_; first | assumption | omega) | (refine nt ?_; first | assumption | omega) | (simp [*]; done))) | refine skip_then ?_ | refine AW_seq ?_ | refine norm_then ?_ | refine AW_block ?_ | refine norm_block ?_)
    refine next_round (k + 1) (by omega) (weak_st ?_ ?_ rfl rfl) ?_
    · rw [hs]
      (repeat' (first | exact trivial | refine And.intro ?_ ?_)) <;> (first | rfl | skip)
    · trivial
    · omega
  · obtain rfl : k = K.length := by omega
    rw [List.take_length] at hb ⊢
    repeat (first | (refine step_ops ?_; (first | (refine m_mov (by conv => lhs; whnf) ?_) | (refine m_lss rfl rfl ?_))) | refine end_ops ?_ | refine seq_ops ?_ | (refine cond_f rfl ?_ ?_; (· first | rfl | assumption | (refine decide_eq_false ?_; first | assumption | omega) | (refine nf ?_; first | assumption | omega) | (simp [*]; done))) | refine AW_seq ?_ | refine AW_ret ?_ | refine ret_done ?_ | refine norm_then ?_ | refine exit_then ?_ | refine exit_round ?_ | refine AW_exit ?_ | refine exit_block ?_)
    exact outs_i rfl
theorem oTimes_spec (n : Nat) (h : n ≤ 12) : Sp Try.prog 16 [.i n] (.i (fac n)) := by
  refine spec_of Try.func16 rfl cc16 rfl ?_
  unfold ac16
  repeat (first | (refine step_ops ?_; (refine m_mov (by conv => lhs; whnf) ?_)) | refine end_ops ?_ | refine seq_ops ?_ | refine AW_seq ?_ | refine AW_block ?_)
  refine AW_loop (α := Nat) (fun j => j + 1 ≤ n ∨ j = 0) (fun j => st [(0, .i n), (3, .i (fac (j + 1))), (4, .i ((j : Int) + 2))] []) (fun j => n - j) 0 (.inr rfl) (weak_st ?_ ?_ rfl rfl) ?_
  · (repeat' (first | exact trivial | refine And.intro ?_ ?_)) <;> (first | rfl | skip)
  · trivial
  intro j hj
  by_cases hc : (j : Int) + 2 ≤ n
  · have hb := fac_le (j + 2) (by omega)
    have e : fac (j + 2) = fac (j + 1) * ((j : Int) + 2) := rfl
    rw [e] at hb
    repeat (first | (refine step_ops ?_; (first | (refine m_mov (by conv => lhs; whnf) ?_) | (refine m_leq rfl rfl ?_) | (refine m_add rfl rfl ?_ ?_ ?_; (· omega); (· omega)) | (refine m_mul rfl rfl ?_ ?_ ?_; (· first | omega | (simp; done)); (· first | omega | (simp; done))))) | refine end_ops ?_ | refine seq_ops ?_ | refine AW_ops ?_ | (refine cond_t rfl ?_ ?_; (· first | rfl | assumption | (refine decide_eq_true ?_; first | assumption | omega) | (refine nt ?_; first | assumption | omega) | (simp [*]; done))) | refine skip_then ?_ | refine AW_seq ?_ | refine norm_then ?_ | refine AW_block ?_ | refine norm_block ?_)
    refine next_round (j + 1) (by omega) (weak_st ?_ ?_ rfl rfl) ?_
    · (repeat' (first | exact trivial | refine And.intro ?_ ?_)) <;> (first | rfl | skip)
    · trivial
    · omega
  · repeat (first | (refine step_ops ?_; (first | (refine m_mov (by conv => lhs; whnf) ?_) | (refine m_leq rfl rfl ?_))) | refine end_ops ?_ | refine seq_ops ?_ | (refine cond_f rfl ?_ ?_; (· first | rfl | assumption | (refine decide_eq_false ?_; first | assumption | omega) | (refine nf ?_; first | assumption | omega) | (simp [*]; done))) | refine AW_seq ?_ | refine AW_ret ?_ | refine ret_done ?_ | refine norm_then ?_ | refine exit_then ?_ | refine exit_round ?_ | refine AW_exit ?_ | refine exit_block ?_)
    refine outs_i ?_
    rcases hj with hj | rfl
    · have : j + 1 = n := by omega
      rw [this]
    · have : n = 0 ∨ n = 1 := by omega
      rcases this with rfl | rfl <;> rfl
theorem oSame_self (L : List Int) (hL : L.length ≤ 1048576) : Sp Try.prog 50 [ints L, ints L] (.b true) := by
  refine spec_of Try.func50 rfl cc50 rfl ?_
  unfold ac50
  repeat (first | (refine step_ops ?_; (first | (refine m_mov (by conv => lhs; whnf) ?_) | (refine m_neq rfl rfl ?_) | (refine m_len_ro rfl ?_))) | refine end_ops ?_ | refine seq_ops ?_ | (refine cond_f rfl ?_ ?_; (· first | rfl | assumption | (refine decide_eq_false ?_; first | assumption | omega) | (refine nf ?_; first | assumption | omega) | (simp [*]; done))) | refine skip_then ?_ | refine AW_seq ?_ | refine AW_block ?_)
  refine AW_loop (α := Nat) (fun k => k ≤ L.length) (fun k => st [(0, ints L), (1, ints L), (12, .i L.length), (13, .i k)] []) (fun k => L.length - k) 0 (by omega) (weak_st ?_ ?_ rfl rfl) ?_
  · (repeat' (first | exact trivial | refine And.intro ?_ ?_)) <;> (first | rfl | skip)
  · trivial
  intro k hk
  by_cases hc : k < L.length
  · repeat (first | ((first | refine step_ops ?_ | refine step_tree ?_); (first | (refine m_mov (by conv => lhs; whnf) ?_) | (refine m_lss rfl rfl ?_) | (refine m_neq rfl rfl ?_) | (refine m_add rfl rfl ?_ ?_ ?_; (· omega); (· omega)) | (refine m_idx1_ro rfl rfl ?_ ?_; (· omega)) | (refine m_ld_rpi rfl ?_ ?_; (· omega)))) | refine end_ops ?_ | refine seq_ops ?_ | refine AW_ops ?_ | refine end_tree ?_ | refine seq_tree ?_ | (refine cond_t rfl ?_ ?_; (· first | rfl | assumption | (refine decide_eq_true ?_; first | assumption | omega) | (refine nt ?_; first | assumption | omega) | (simp [*]; done))) | (refine cond_f rfl ?_ ?_; (· first | rfl | assumption | (refine decide_eq_false ?_; first | assumption | omega) | (refine nf ?_; first | assumption | omega) | (simp [*]; done))) | refine skip_then ?_ | refine AW_seq ?_ | refine norm_then ?_ | refine AW_block ?_ | refine norm_block ?_ | refine AW_skip ?_)
    refine next_round (k + 1) (by omega) (weak_st ?_ ?_ rfl rfl) ?_
    · (repeat' (first | exact trivial | refine And.intro ?_ ?_)) <;> (first | rfl | skip)
    · trivial
    · omega
  · repeat (first | (refine step_ops ?_; (first | (refine m_mov (by conv => lhs; whnf) ?_) | (refine m_lss rfl rfl ?_))) | refine end_ops ?_ | refine seq_ops ?_ | (refine cond_f rfl ?_ ?_; (· first | rfl | assumption | (refine decide_eq_false ?_; first | assumption | omega) | (refine nf ?_; first | assumption | omega) | (simp [*]; done))) | refine AW_seq ?_ | refine AW_ret ?_ | refine ret_done ?_ | refine norm_then ?_ | refine exit_then ?_ | refine exit_round ?_ | refine AW_exit ?_ | refine exit_block ?_)
    exact outs_b rfl
theorem oRows_self (R : List (List Int)) (hR : R.length ≤ 1048576) (hr : ∀ r ∈ R, r.length ≤ 1048576) : Sp Try.prog 15 [roM R, roM R] (.b true) := by
  refine spec_of Try.func15 rfl cc15 rfl ?_
  unfold ac15
  repeat (first | (refine step_ops ?_; (first | (refine m_mov (by conv => lhs; whnf) ?_) | (refine m_neq rfl rfl ?_) | (refine m_len_ro rfl ?_))) | refine end_ops ?_ | refine seq_ops ?_ | (refine cond_f rfl ?_ ?_; (· first | rfl | assumption | (refine decide_eq_false ?_; first | assumption | omega) | (refine nf ?_; first | assumption | omega) | (simp [*]; done))) | refine skip_then ?_ | refine AW_seq ?_ | refine AW_block ?_)
  refine AW_loop (α := Nat) (fun k => k ≤ R.length) (fun k => st [(0, roM R), (1, roM R), (12, .i R.length), (13, .i k)] []) (fun k => R.length - k) 0 (by omega) (weak_st ?_ ?_ rfl rfl) ?_
  · (repeat' (first | exact trivial | refine And.intro ?_ ?_)) <;> (first | rfl | skip)
  · trivial
  intro k hk
  by_cases hc : k < R.length
  · have hl := hr _ (getD_memL hc : R.getD k [] ∈ R)
    have hs := oSame_self (R.getD k []) hl
    have hat : ((R.map ints).drop k)[0]? = some (ints (R.getD k [])) := by simp [hc]
    repeat (first | ((first | refine step_ops ?_ | refine step_tree ?_); (first | (refine m_mov (by conv => lhs; whnf) ?_) | (refine m_lss rfl rfl ?_) | (refine m_idx1_ro rfl rfl ?_ ?_; (· omega)))) | refine end_ops ?_ | refine seq_ops ?_ | refine seq_tree ?_ | (refine cond_t rfl ?_ ?_; (· first | rfl | assumption | (refine decide_eq_true ?_; first | assumption | omega) | (refine nt ?_; first | assumption | omega) | (simp [*]; done))) | refine skip_then ?_ | refine AW_seq ?_ | refine AW_block ?_)
    refine step_tree ?_
    refine m_ld_rp rfl hat ?_
    repeat (refine step_tree ?_; (first | (refine m_mov (by conv => lhs; whnf) ?_) | (refine m_idx1_ro rfl rfl ?_ ?_; (· omega))))
    refine step_tree ?_
    refine m_ld_rp rfl hat ?_
    skip
    refine step_tree ?_; (apply m_call (hs)); (· repeat (first | exact lends_nil | (refine lends_cons ?_ ?_; (· (refine lend_ints ?_; first | rfl | omega)))))
    repeat (first | ((first | refine step_ops ?_ | refine step_tree ?_); (first | (refine m_mov (by conv => lhs; whnf) ?_) | (refine m_add rfl rfl ?_ ?_ ?_; (· omega); (· omega)) | (refine m_not rfl ?_))) | refine end_ops ?_ | refine AW_ops ?_ | refine end_tree ?_ | (refine cond_f rfl ?_ ?_; (· first | rfl | assumption | (refine decide_eq_false ?_; first | assumption | omega) | (refine nf ?_; first | assumption | omega) | (simp [*]; done))) | refine norm_then ?_ | refine norm_block ?_ | refine AW_skip ?_)
    refine next_round (k + 1) (by omega) (weak_st ?_ ?_ rfl rfl) ?_
    · (repeat' (first | exact trivial | refine And.intro ?_ ?_)) <;> (first | rfl | skip)
    · trivial
    · omega
  · repeat (first | (refine step_ops ?_; (first | (refine m_mov (by conv => lhs; whnf) ?_) | (refine m_lss rfl rfl ?_))) | refine end_ops ?_ | refine seq_ops ?_ | (refine cond_f rfl ?_ ?_; (· first | rfl | assumption | (refine decide_eq_false ?_; first | assumption | omega) | (refine nf ?_; first | assumption | omega) | (simp [*]; done))) | refine AW_seq ?_ | refine AW_ret ?_ | refine ret_done ?_ | refine norm_then ?_ | refine exit_then ?_ | refine exit_round ?_ | refine AW_exit ?_ | refine exit_block ?_)
    exact outs_b rfl
theorem oLess_spec (a b : List Int) (ha : a.length ≤ 12) (hb : b.length ≤ 12) : Sp Try.prog 20 [ints a, ints b] (.b (lexL a b)) := by
  have h0 : lexL (a.drop 0) (b.drop 0) = lexL a b := rfl
  generalize lexL a b = T at h0 ⊢
  refine spec_of Try.func20 rfl cc20 rfl ?_
  unfold ac20
  repeat (first | (refine step_ops ?_; (refine m_mov (by conv => lhs; whnf) ?_)) | refine end_ops ?_ | refine seq_ops ?_ | refine AW_seq ?_ | refine AW_block ?_)
  refine AW_loop (α := Nat) (fun k => (k ≤ a.length ∧ k ≤ b.length) ∧ lexL (a.drop k) (b.drop k) = T) (fun k => st [(0, ints a), (1, ints b), (5, .i k)] []) (fun k => a.length - k) 0 ⟨⟨Nat.zero_le _, Nat.zero_le _⟩, h0⟩ (weak_st ?_ ?_ rfl rfl) ?_
  · (repeat' (first | exact trivial | refine And.intro ?_ ?_)) <;> (first | rfl | skip)
  · trivial
  rintro k ⟨⟨h1, h2⟩, he⟩
  by_cases hc : k < a.length
  · by_cases hc2 : k < b.length
    · rw [lex_step hc hc2] at he
      by_cases hn : a.getD k 0 = b.getD k 0
      · rw [if_neg (fun h => h hn)] at he
        repeat (first | ((first | refine step_ops ?_ | refine step_tree ?_); ((try (refine g_yes rfl ?_ ?_; (· first | rfl | assumption | (refine decide_eq_true ?_; first | assumption | omega) | (refine nt ?_; first | assumption | omega) | (simp [*]; done) | (refine decide_eq_false ?_; first | assumption | omega) | (refine nf ?_; first | assumption | omega)))); (first | (refine m_mov (by conv => lhs; whnf) ?_) | (refine m_lss rfl rfl ?_) | (refine m_neq rfl rfl ?_) | (refine m_add rfl rfl ?_ ?_ ?_; (· omega); (· omega)) | (refine m_len_ro rfl ?_) | (refine m_idx1_ro rfl rfl ?_ ?_; (· omega)) | (refine m_ld_rpi rfl ?_ ?_; (· omega)) | (refine m_pick_t rfl ?_ (by conv => lhs; whnf) ?_; (· first | rfl | assumption | (refine decide_eq_true ?_; first | assumption | omega) | (refine nt ?_; first | assumption | omega) | (simp [*]; done)))))) | refine end_ops ?_ | refine seq_ops ?_ | refine AW_ops ?_ | refine end_tree ?_ | refine seq_tree ?_ | (refine cond_t rfl ?_ ?_; (· first | rfl | assumption | (refine decide_eq_true ?_; first | assumption | omega) | (refine nt ?_; first | assumption | omega) | (simp [*]; done))) | (refine cond_f rfl ?_ ?_; (· first | rfl | assumption | (refine decide_eq_false ?_; first | assumption | omega) | (refine nf ?_; first | assumption | omega) | (simp [*]; done))) | refine skip_then ?_ | refine AW_seq ?_ | refine norm_then ?_ | refine AW_block ?_ | refine norm_block ?_ | refine AW_skip ?_)
        refine next_round (k + 1) ⟨⟨by omega, by omega⟩, he⟩ (weak_st ?_ ?_ rfl rfl) ?_
        · (repeat' (first | exact trivial | refine And.intro ?_ ?_)) <;> (first | rfl | skip)
        · trivial
        · omega
      · rw [if_pos hn] at he
        subst he
        repeat (first | ((first | refine step_ops ?_ | refine step_tree ?_); ((try (refine g_yes rfl ?_ ?_; (· first | rfl | assumption | (refine decide_eq_true ?_; first | assumption | omega) | (refine nt ?_; first | assumption | omega) | (simp [*]; done) | (refine decide_eq_false ?_; first | assumption | omega) | (refine nf ?_; first | assumption | omega)))); (first | (refine m_mov (by conv => lhs; whnf) ?_) | (refine m_lss rfl rfl ?_) | (refine m_neq rfl rfl ?_) | (refine m_len_ro rfl ?_) | (refine m_idx1_ro rfl rfl ?_ ?_; (· omega)) | (refine m_ld_rpi rfl ?_ ?_; (· omega)) | (refine m_pick_t rfl ?_ (by conv => lhs; whnf) ?_; (· first | rfl | assumption | (refine decide_eq_true ?_; first | assumption | omega) | (refine nt ?_; first | assumption | omega) | (simp [*]; done)))))) | refine end_ops ?_ | refine seq_ops ?_ | refine end_tree ?_ | refine seq_tree ?_ | (refine cond_t rfl ?_ ?_; (· first | rfl | assumption | (refine decide_eq_true ?_; first | assumption | omega) | (refine nt ?_; first | assumption | omega) | (simp [*]; done))) | refine skip_then ?_ | refine AW_seq ?_ | refine AW_ret ?_ | refine ret_done ?_ | refine ret_then ?_ | refine AW_block ?_ | refine ret_block ?_ | refine ret_round ?_)
        exact outs_b rfl
    · rw [lex_end (by omega) h1 h2] at he
      subst he
      repeat (first | (refine step_ops ?_; ((try (refine g_yes rfl ?_ ?_; (· first | rfl | assumption | (refine decide_eq_true ?_; first | assumption | omega) | (refine nt ?_; first | assumption | omega) | (simp [*]; done) | (refine decide_eq_false ?_; first | assumption | omega) | (refine nf ?_; first | assumption | omega)))); (first | (refine m_mov (by conv => lhs; whnf) ?_) | (refine m_lss rfl rfl ?_) | (refine m_len_ro rfl ?_) | (refine m_pick_t rfl ?_ (by conv => lhs; whnf) ?_; (· first | rfl | assumption | (refine decide_eq_true ?_; first | assumption | omega) | (refine nt ?_; first | assumption | omega) | (simp [*]; done)))))) | refine end_ops ?_ | refine seq_ops ?_ | (refine cond_f rfl ?_ ?_; (· first | rfl | assumption | (refine decide_eq_false ?_; first | assumption | omega) | (refine nf ?_; first | assumption | omega) | (simp [*]; done))) | refine AW_seq ?_ | refine AW_ret ?_ | refine ret_done ?_ | refine norm_then ?_ | refine exit_then ?_ | refine exit_round ?_ | refine AW_exit ?_ | refine exit_block ?_)
      exact outs_b (by simp)
  · rw [lex_end (by omega) h1 h2] at he
    subst he
    repeat (first | (refine step_ops ?_; (first | (first | (refine m_mov (by conv => lhs; whnf) ?_) | (refine m_lss rfl rfl ?_) | (refine m_len_ro rfl ?_) | (refine m_pick_f rfl ?_ (by conv => lhs; whnf) ?_; (· first | rfl | assumption | (refine decide_eq_false ?_; first | assumption | omega) | (refine nf ?_; first | assumption | omega) | (simp [*]; done)))) | (refine g_noT rfl ?_ ?_; (· first | rfl | assumption | (refine decide_eq_false ?_; first | assumption | omega) | (refine nf ?_; first | assumption | omega) | (simp [*]; done))))) | refine end_ops ?_ | refine seq_ops ?_ | (refine cond_f rfl ?_ ?_; (· first | rfl | assumption | (refine decide_eq_false ?_; first | assumption | omega) | (refine nf ?_; first | assumption | omega) | (simp [*]; done))) | refine AW_seq ?_ | refine AW_ret ?_ | refine ret_done ?_ | refine norm_then ?_ | refine exit_then ?_ | refine exit_round ?_ | refine AW_exit ?_ | refine exit_block ?_)
    exact outs_b (by simp)
end Go.Proofs.Ytmckfjnbbfdepaa
namespace Go.Am
variable [Go.Am.CodeBlk]
section
variable {P : Program} {own : Bool} {s : AS} {K : AS → Prop} {d : Option Nat} {x y : Opd}
theorem m_binv {op : BinOp} {a b r : Value} (hx : s.ev x = .v a) (hy : s.ev y = .v b) (h : pbin op a b = some r) (kk : K (s.put d (.v r))) : aop1 P own ⟨d, .bin op x y, none⟩ s K := ⟨_, _, _, hx, hy, h, kk⟩
theorem m_and255 {z : Int} (hx : s.ev x = .v (.int .u64 z)) (hy : s.ev y = .v (.int .u64 255)) (kk : ∀ m : Nat, m < 256 → K (s.put d (.v (.int .u64 (m : Nat))))) : aop1 P own ⟨d, .bin .and x y, none⟩ s K := by
  have hm : (BitVec.ofInt IntKind.u64.bits z &&& BitVec.ofInt IntKind.u64.bits 255).toNat ≤ 255 := by
    rw [BitVec.toNat_and]
    exact Nat.le_trans Nat.and_le_right (by decide)
  refine ⟨_, _, _, hx, hy, ?_, kk (BitVec.ofInt IntKind.u64.bits z &&& BitVec.ofInt IntKind.u64.bits 255).toNat (by omega)⟩
  show some (Value.int .u64 (IntKind.u64.wrap _)) = _
  rw [IntKind.wrap_u64]
  congr 2
  generalize (BitVec.ofInt IntKind.u64.bits z &&& BitVec.ofInt IntKind.u64.bits 255).toNat = m at *
  omega
theorem m_cvtu {m : Nat} (hx : s.ev x = .v (.int .u64 (m : Nat))) (hm : m < 256) (kk : K (s.put d (.i (m : Nat)))) : aop1 P own ⟨d, .pu (.cvt .i64) [x], none⟩ s K := by
  refine ⟨_, ⟨_, _, congrArg (fun a => [a]) hx, rfl⟩, ?_⟩
  have : IntKind.i64.wrap (m : Int) = m := by rw [IntKind.wrap_i64]; omega
  rw [this]
  exact kk
theorem m_cvtb {m : UInt8} (hx : s.ev x = .v (.int .u8 m.toNat)) (kk : ∀ k : Nat, k < 256 → K (s.put d (.i (k : Nat)))) : aop1 P own ⟨d, .pu (.cvt .i64) [x], none⟩ s K := by
  refine ⟨_, ⟨_, _, congrArg (fun a => [a]) hx, rfl⟩, ?_⟩
  have hm : m.toNat < 256 := m.toNat_lt
  have : IntKind.i64.wrap (m.toNat : Int) = m.toNat := by rw [IntKind.wrap_i64]; omega
  rw [this]
  exact kk m.toNat hm
end
/-- A cursor: the bytes, where it stands, and its seed. -/
abbrev curC (v : Value) (a : Nat) (z : Int) : List AV := [.v v, .i (a : Nat), .v (.int .u64 z)]
abbrev curH (v : Value) (a : Nat) (z : Int) : List (Nat × (Bool × List AV)) := [(pbase, (true, curC v a z))]
theorem curH_pb (v : Value) (a : Nat) (z : Int) : ∀ r, ((look (curH v a z)) r).isSome = true → pbase ≤ r := by
  intro r hr
  have := look_isSome.1 hr
  simp at this
  omega
theorem cur_static {v v' : Value} {a a' : Nat} {z z' : Int} {x : Value} : Static (look (curH v a z)) (.v x) (look (curH v' a' z')) :=
  static_R (by simp) (fun p hp => by rw [List.mem_singleton] at hp; subst hp; exact ⟨rfl, rfl⟩) ⟨rfl, rfl⟩
theorem curH_at {v : Value} {a : Nat} {z : Int} {r : Nat} {c : Bool × List AV} (h : look (curH v a z) r = some c) : r = pbase ∧ c = (true, curC v a z) := by
  have := look_mem h
  rw [List.mem_singleton] at this
  exact ⟨congrArg Prod.fst this, congrArg Prod.snd this⟩
theorem curH_is {v : Value} {a : Nat} {z : Int} {r : Nat} (h : (look (curH v a z) r).isSome = true) : r = pbase := by
  obtain ⟨c, hc⟩ := Option.isSome_iff_exists.1 h
  exact (curH_at hc).1
theorem lend_cur {s : AS} {r : Nat} {v : Value} {a : Nat} {z : Int} (hr : s.hp r = some (true, curC v a z)) : LendH1 s.hp (fun _ => r) (look (curH v a z)) (.pt r 0) (.pt pbase 0) :=
  lendH_ren (x := .pt pbase 0) (fun q c hq => by show (s.hp r).isSome = true; rw [hr]; rfl) rfl rfl
theorem lend_curl {s : AS} {r q : Nat} {v : Value} {a : Nat} {z : Int} {M : List Int} (hr : s.hp r = some (true, curC v a z)) (hq : s.hp q = some (true, M.map AV.i)) (hne : r ≠ q) : LendH1 s.hp (fun _ => r) (look (curH v a z)) (.sl q 1 0 M.length) (ints M) :=
  lendH_sl (fun p c hp => by show (s.hp r).isSome = true; rw [hr]; rfl) hq fun p _ => hne
/-- A call that moves a cursor and tells a plain value. -/
theorem m_cur {P : Program} {s : AS} {K : AS → Prop} {d : Option Nat} {f : FuncId} {args : List Opd} {asx : List AV} {r : Nat} {v : Value} {a : Nat} {z : Int} {ι : Type} {ok : ι → Prop} {res : ι → Value} {a' : ι → Nat} {z' : ι → Int}
    (hs : SpX P f asx (look (curH v a z)) ok (fun i => .v (res i)) (fun i => look (curH v (a' i) (z' i)))) (hr : s.hp r = some (true, curC v a z)) (hl : LendsH s.hp (fun _ => r) (look (curH v a z)) (args.map s.ev) asx) (hne : ∃ i, ok i)
    (k : ∀ i, ok i → K ((s.mem r (true, curC v (a' i) (z' i))).put d (.v (res i)))) : aop1 P true ⟨d, .call f args, none⟩ s K := by
  refine m_callx (hp' := fun i => fun q => if q = r then some (true, curC v (a' i) (z' i)) else s.hp q) (fun _ => r) hs hl hne fun i hi => ⟨⟨fun q c hc => ?_, fun q q' h1 h2 _ => ?_, fun q hq => ?_, fun q hq hn => ?_, fun q c hc => ?_, fun q hq => ?_, fun q c hc => ?_, fun q c hc => ?_, rfl⟩, k i hi⟩
  · obtain ⟨rfl, rfl⟩ := curH_at hc
    exact hr
  · rw [curH_is h1, curH_is h2]
  · rw [curH_is hq]; rfl
  · rw [curH_is hq] at hn; cases hn
  · obtain ⟨rfl, rfl⟩ := curH_at hc
    show (if r = r then _ else _) = _
    rw [if_pos rfl]; rfl
  · have := hq pbase rfl
    show (if q = r then _ else _) = _
    rw [if_neg fun e => this e.symm]
  · obtain ⟨rfl, rfl⟩ := curH_at hc
    exact ⟨rfl, rfl⟩
  · obtain ⟨rfl, rfl⟩ := curH_at hc
    rfl
theorem bys_cell {v : Value} {L : List UInt8} (hv : Bys v L) : v.oneCell' = true := by
  rcases hv with ⟨_, a, c, rfl⟩ | ⟨b, o, cap, cur, rfl, _⟩ <;> rfl
theorem m_bldC {P : Program} {own : Bool} {s : AS} {K : AS → Prop} {d : Option Nat} {x : Opd} {v : Value} (hv : v.oneCell' = true) (hx : s.ev x = .v v) (k : K (s.put d (.agg (curC v 0 0)))) :
    aop1 P own ⟨d, .pu (.bld [.slice none 0 0, .int .i64 0, .int .u64 0] [(0, 1)]) [x], none⟩ s K :=
  ⟨_, ⟨curC v 0 0, .inl ⟨rfl, (by decide : 0 < 3), (by rw [hx]; exact hv), (by rw [hx]; rfl)⟩, rfl⟩, k⟩
theorem m_boxC {P : Program} {own : Bool} {s : AS} {K : AS → Prop} {r : Nat} {x : Opd} {v : Value} (hv : v.oneCell' = true) (hx : s.ev x = .agg (curC v 0 0)) (k : K (((s.kill r).mem r (true, curC v 0 0)).put (some r) (.pt r 0))) :
    aop1 P own ⟨some r, .box 3 x, none⟩ s K :=
  ⟨r, true, rfl, .inr ⟨curC v 0 0, hx, (by show (v.oneCell' && _) = true; rw [hv]; rfl), k⟩⟩
end Go.Am
namespace Go.Proofs.Ytmckfjnbbfdepaa
variable [Go.Am.CodeBlk]
open Go.Am
attribute [local irreducible] AW Outs Weak Lends Lend Sp aops atree aop1 Then Round InBlock Done
attribute [local irreducible] SpH SpX DoneH
/-- The second part of a code. -/
def sndA : ACode → ACode
  | .seq _ y => y
  | c => c
def fstA : ACode → ACode
  | .seq x _ => x
  | c => c
/-- The next byte, or what stands in its place. -/
theorem curNext_spec {v : Value} {L : List UInt8} (hv : Bys v L) (hL : L.length ≤ 1048576) (a : Nat) (ha : a ≤ 1000000) (z : Int) :
    SpX Try.prog 74 [.pt pbase 0] (Am.look (curH v a z)) (ι := Nat × Int) (fun i => i.1 < 256) (fun i => .i (i.1 : Nat)) (fun i => Am.look (curH v (a + 1) i.2)) := by
  have hpb := curH_pb v a z
  have hsta : ∀ i : Nat × Int, i.1 < 256 → Static (Am.look (curH v a z)) (.i (i.1 : Nat)) (Am.look (curH v (a + 1) i.2)) := fun i _ => cur_static
  refine specX_of Try.func74 rfl cc74 rfl hpb hsta ?_
  unfold ac74
  clear hpb hsta
  have key : ∀ (k : Nat), k < 256 → AW Try.prog (min Try.f74.ntmps pbase) (sndA (sndA (sndA ac74))) (st [(0, .pt pbase 0), (3, .i (k : Nat))] (curH v a z)) (DoneX [2] (fun i : Nat × Int => i.1 < 256) (fun i => .i (i.1 : Nat)) (Am.look (curH v a z)) (fun i => Am.look (curH v (a + 1) i.2))) := by
    intro k hk
    unfold ac74
    simp only [sndA]
    repeat (first | (refine step_ops ?_; (first | (refine m_mov (by conv => lhs; whnf) ?_) | (refine m_add rfl rfl ?_ ?_ ?_; (· omega); (· omega)) | (apply m_ld_pt; (· rfl); (· rfl); (· rfl)) | (apply m_st; (· rfl); (· rfl); (· rfl); (· first | omega | (simp; done) | (simp; omega)); (· rfl)) | (refine m_nchk rfl ?_) | (refine m_fa rfl ?_))) | refine end_ops ?_ | refine seq_ops ?_)
    refine step_ops ?_
    refine m_binv rfl rfl rfl ?_
    repeat (refine step_ops ?_; (first | (refine m_mov (by conv => lhs; whnf) ?_) | (refine m_cvt rfl ?_)))
    refine step_ops ?_
    refine m_binv rfl rfl rfl ?_
    refine step_ops ?_
    refine m_binv rfl rfl rfl ?_
    repeat (first | ((first | refine step_ops ?_ | refine step_tree ?_); (first | (refine m_mov (by conv => lhs; whnf) ?_) | (apply m_ld_pt; (· rfl); (· rfl); (· rfl)) | (apply m_st; (· rfl); (· rfl); (· rfl); (· first | omega | (simp; done) | (simp; omega)); (· rfl)) | (refine m_nchk rfl ?_) | (refine m_fa rfl ?_))) | refine end_ops ?_ | refine seq_tree ?_ | refine AW_seq ?_)
    refine step_tree ?_
    refine m_len_bys rfl hv ?_
    by_cases hle : ((a : Nat) : Int) + 1 ≤ L.length
    · repeat (first | ((first | refine step_ops ?_ | refine step_tree ?_); (first | (refine m_mov (by conv => lhs; whnf) ?_) | (refine m_leq rfl rfl ?_))) | refine end_ops ?_ | refine seq_ops ?_ | refine end_tree ?_ | (refine cond_t rfl ?_ ?_; (· first | rfl | assumption | (refine decide_eq_true ?_; first | assumption | omega) | (refine nt ?_; first | assumption | omega) | (simp [*]; done))) | refine AW_ret ?_ | refine ret_then ?_)
      exact ⟨(k, _), hk, ret_R id (by rfl) ⟨⟨_, rfl, .inl rfl⟩, trivial⟩ (by simp) (by simp) (by simp)⟩
    · repeat (first | ((first | refine step_ops ?_ | refine step_tree ?_); (first | (refine m_mov (by conv => lhs; whnf) ?_) | (refine m_leq rfl rfl ?_) | (apply m_ld_pt; (· rfl); (· rfl); (· rfl)) | (refine m_nchk rfl ?_) | (refine m_fa rfl ?_))) | refine seq_ops ?_ | refine end_tree ?_ | (refine cond_f rfl ?_ ?_; (· first | rfl | assumption | (refine decide_eq_false ?_; first | assumption | omega) | (refine nf ?_; first | assumption | omega) | (simp [*]; done))) | refine skip_then ?_)
      refine step_ops ?_
      refine m_binv rfl rfl rfl ?_
      refine step_ops ?_
      refine m_and255 rfl rfl fun m hm => ?_
      refine step_ops ?_
      refine m_cvtu rfl hm ?_
      repeat (first | (refine step_ops ?_; (refine m_mov (by conv => lhs; whnf) ?_)) | refine end_ops ?_ | refine AW_ret ?_)
      exact ⟨(m, _), hm, ret_R id (by rfl) ⟨⟨_, rfl, .inl rfl⟩, trivial⟩ (by simp) (by simp) (by simp)⟩
  have hp : ac74 = .seq (fstA ac74) (.seq (fstA (sndA ac74)) (.seq (fstA (sndA (sndA ac74))) (sndA (sndA (sndA ac74))))) := rfl
  change AW _ _ ac74 _ _
  rw [hp]
  clear hp
  generalize sndA (sndA (sndA ac74)) = c4 at *
  unfold ac74
  simp only [sndA, fstA]
  repeat (first | ((first | refine step_ops ?_ | refine step_tree ?_); (first | (refine m_mov (by conv => lhs; whnf) ?_) | (apply m_ld_pt; (· rfl); (· rfl); (· rfl)) | (refine m_nchk rfl ?_) | (refine m_fa rfl ?_))) | refine end_ops ?_ | refine seq_ops ?_ | refine seq_tree ?_ | refine AW_seq ?_)
  refine step_tree ?_
  refine m_len_bys rfl hv ?_
  by_cases hlt : ((a : Nat) : Int) < L.length
  · repeat (first | (refine step_tree ?_; (first | (refine m_mov (by conv => lhs; whnf) ?_) | (refine m_lss rfl rfl ?_) | (apply m_ld_pt; (· rfl); (· rfl); (· rfl)) | (refine m_nchk rfl ?_) | (refine m_fa rfl ?_))) | refine end_tree ?_ | refine AW_tree ?_ | (refine cond_t rfl ?_ ?_; (· first | rfl | assumption | (refine decide_eq_true ?_; first | assumption | omega) | (refine nt ?_; first | assumption | omega) | (simp [*]; done))))
    refine step_tree ?_
    refine m_idx_bys (j := a) rfl rfl hv (by omega) ?_
    refine step_tree ?_
    refine m_ld_rp (c := .v (.int .u8 (L.getD a 0).toNat)) rfl ?_ ?_
    · simp [byteVs, show a < L.length by omega]
    refine step_tree ?_
    refine m_cvtb rfl fun k hk => ?_
    repeat (first | (refine step_tree ?_; (refine m_mov (by conv => lhs; whnf) ?_)) | refine end_tree ?_ | refine norm_then ?_)
    refine AW_weak (weak_st ?_ ?_ rfl rfl) (key k hk)
    · (repeat' (first | exact trivial | refine And.intro ?_ ?_)) <;> (first | rfl | skip)
    · (repeat' (first | exact trivial | refine And.intro ?_ ?_)) <;> (first | rfl | skip)
  · repeat (first | (refine step_tree ?_; (refine m_lss rfl rfl ?_)) | refine end_tree ?_ | (refine cond_f rfl ?_ ?_; (· first | rfl | assumption | (refine decide_eq_false ?_; first | assumption | omega) | (refine nf ?_; first | assumption | omega) | (simp [*]; done))) | refine skip_then ?_)
    refine AW_weak (weak_st ?_ ?_ rfl rfl) (key 0 (by omega))
    · (repeat' (first | exact trivial | refine And.intro ?_ ?_)) <;> (first | rfl | skip)
    · (repeat' (first | exact trivial | refine And.intro ?_ ?_)) <;> (first | rfl | skip)
end Go.Proofs.Ytmckfjnbbfdepaa
namespace Go.Proofs.Ytmckfjnbbfdepaa
variable [Go.Am.CodeBlk]
open Go.Am
attribute [local irreducible] AW Outs Weak Lends Lend Sp aops atree aop1 Then Round InBlock Done
attribute [local irreducible] SpH SpX DoneH
theorem doneC {s : AS} {v : Value} {a : Nat} {z : Int} {t : Nat} {ι : Type} {ok : ι → Prop} {res : ι → Value} {fa : ι → Nat} {fz : ι → Int} (i : ι) (hi : ok i) (h1 : resAV s [t] = .v (res i)) (h2 : s.hp pbase = some (true, curC v (fa i) (fz i))) :
    DoneX [t] ok (fun i => .v (res i)) (Am.look (curH v a z)) (fun i => Am.look (curH v (fa i) (fz i))) .ret s :=
  ⟨i, hi, ret_R (hl := curH v a z) (ho := curH v (fa i) (fz i)) id h1 ⟨⟨_, h2, .inl rfl⟩, trivial⟩ (by simp) (by simp) (by simp)⟩
theorem curPick_spec {v : Value} {L : List UInt8} (hv : Bys v L) (hL : L.length ≤ 1048576) (a : Nat) (ha : a ≤ 999999) (z : Int) (n : Nat) (hn : n ≤ 65536) :
    SpX Try.prog 73 [.pt pbase 0, .i (n : Nat)] (Am.look (curH v a z)) (ι := Nat × Nat × Int) (fun i => i.1 < max n 1 ∧ i.2.1 ≤ a + 2) (fun i => .i (i.1 : Nat)) (fun i => Am.look (curH v i.2.1 i.2.2)) := by
  have hpb := curH_pb v a z
  have hsta : ∀ i : Nat × Nat × Int, i.1 < max n 1 ∧ i.2.1 ≤ a + 2 → Static (Am.look (curH v a z)) (.i (i.1 : Nat)) (Am.look (curH v i.2.1 i.2.2)) := fun i _ => cur_static
  refine specX_of Try.func73 rfl cc73 rfl hpb hsta ?_
  unfold ac73
  clear hpb hsta
  by_cases h1 : n ≤ 1
  · repeat (first | (refine step_ops ?_; (first | (refine m_mov (by conv => lhs; whnf) ?_) | (refine m_leq rfl rfl ?_))) | refine end_ops ?_ | refine seq_ops ?_ | (refine cond_t rfl ?_ ?_; (· first | rfl | assumption | (refine decide_eq_true ?_; first | assumption | omega) | (refine nt ?_; first | assumption | omega) | (simp [*]; done))) | refine AW_seq ?_ | refine AW_ret ?_ | refine ret_then ?_)
    exact doneC (i := (0, a, z)) ⟨show 0 < max n 1 by omega, show a ≤ a + 2 by omega⟩ rfl rfl
  · repeat (first | (refine step_ops ?_; (first | (refine m_mov (by conv => lhs; whnf) ?_) | (refine m_leq rfl rfl ?_))) | refine end_ops ?_ | refine seq_ops ?_ | (refine cond_f rfl ?_ ?_; (· first | rfl | assumption | (refine decide_eq_false ?_; first | assumption | omega) | (refine nf ?_; first | assumption | omega) | (simp [*]; done))) | refine skip_then ?_ | refine AW_seq ?_)
    refine step_ops ?_
    refine m_cur (curNext_spec hv hL a (by omega) z) rfl (lendH_cons (lend_cur rfl) lendH_nil) ⟨(0, 0), by decide⟩ ?_
    rintro ⟨m, z1⟩ hm
    dsimp only at hm ⊢
    by_cases h2 : n > 200
    · repeat (first | (refine step_ops ?_; (first | (refine m_mov (by conv => lhs; whnf) ?_) | (refine m_gtr rfl rfl ?_) | (refine m_mul rfl rfl ?_ ?_ ?_; (· first | omega | (simp; done)); (· first | omega | (simp; done))))) | refine end_ops ?_ | refine seq_ops ?_ | refine AW_ops ?_ | (refine cond_t rfl ?_ ?_; (· first | rfl | assumption | (refine decide_eq_true ?_; first | assumption | omega) | (refine nt ?_; first | assumption | omega) | (simp [*]; done))) | refine AW_seq ?_)
      refine step_ops ?_
      refine m_cur (curNext_spec hv hL (a + 1) (by omega) z1) rfl (lendH_cons (lend_cur rfl) lendH_nil) ⟨(0, 0), by decide⟩ ?_
      rintro ⟨m2, z2⟩ hm2
      dsimp only at hm2 ⊢
      repeat (first | (refine step_ops ?_; (first | (refine m_mov (by conv => lhs; whnf) ?_) | (refine m_add rfl rfl ?_ ?_ ?_; (· omega); (· omega)) | (refine m_rem rfl rfl ?_ ?_ ?_; (· omega); (· omega)))) | refine end_ops ?_ | refine seq_ops ?_ | refine AW_ret ?_ | refine norm_then ?_)
      refine doneC (i := ((m * 256 + m2) % n, a + 1 + 1, z2)) ⟨?_, show a + 1 + 1 ≤ a + 2 by omega⟩ ?_ rfl
      · have := Nat.mod_lt (m * 256 + m2) (show 0 < n by omega)
        show (m * 256 + m2) % n < max n 1
        omega
      · show AV.i (((m : Int) * 256 + m2) % n) = AV.i (((m * 256 + m2) % n : Nat) : Int)
        exact congrArg AV.i (by have h : ((m * 256 + m2 : Nat) : Int) = (m : Int) * 256 + m2 := by omega
                                rw [← h]; exact (Int.natCast_emod _ _).symm)
    · repeat (first | (refine step_ops ?_; (first | (refine m_mov (by conv => lhs; whnf) ?_) | (refine m_gtr rfl rfl ?_) | (refine m_rem rfl rfl ?_ ?_ ?_; (· omega); (· omega)))) | refine end_ops ?_ | refine seq_ops ?_ | (refine cond_f rfl ?_ ?_; (· first | rfl | assumption | (refine decide_eq_false ?_; first | assumption | omega) | (refine nf ?_; first | assumption | omega) | (simp [*]; done))) | refine skip_then ?_ | refine AW_seq ?_ | refine AW_ret ?_)
      refine doneC (i := (m % n, a + 1, z1)) ⟨?_, show a + 1 ≤ a + 2 by omega⟩ ?_ rfl
      · have := Nat.mod_lt m (show 0 < n by omega)
        show m % n < max n 1
        omega
      · show AV.i ((m : Int) % n) = AV.i ((m % n : Nat) : Int)
        exact congrArg AV.i (by omega)
/-- An element of a list that is not empty. -/
theorem curAmong_spec {v : Value} {L : List UInt8} (hv : Bys v L) (hL : L.length ≤ 1048576) (a : Nat) (ha : a ≤ 999999) (z : Int) (M : List Int) (h1 : 1 ≤ M.length) (hM : M.length ≤ 1000) :
    SpX Try.prog 66 [.pt pbase 0, ints M] (Am.look (curH v a z)) (ι := Int × Nat × Int) (fun i => i.2.1 ≤ a + 2) (fun i => .i i.1) (fun i => Am.look (curH v i.2.1 i.2.2)) := by
  have hpb := curH_pb v a z
  have hsta : ∀ i : Int × Nat × Int, i.2.1 ≤ a + 2 → Static (Am.look (curH v a z)) (.i i.1) (Am.look (curH v i.2.1 i.2.2)) := fun i _ => cur_static
  refine specX_of Try.func66 rfl cc66 rfl hpb hsta ?_
  unfold ac66
  clear hpb hsta
  repeat (first | (refine step_ops ?_; (first | (refine m_mov (by conv => lhs; whnf) ?_) | (refine m_len_ro rfl ?_))) | refine end_ops ?_ | refine seq_ops ?_)
  refine step_ops ?_
  refine m_cur (curPick_spec hv hL a ha z M.length (by omega)) rfl (lendH_cons (lend_cur rfl) (lendH_cons lendH_v lendH_nil)) ⟨(0, a, z), show 0 < max M.length 1 by omega, show a ≤ a + 2 by omega⟩ ?_
  rintro ⟨m, a1, z1⟩ ⟨hm, ha1⟩
  dsimp only at hm ha1 ⊢
  have hml : m < M.length := by omega
  repeat (first | (refine step_ops ?_; (first | (refine m_mov (by conv => lhs; whnf) ?_) | (refine m_idx1_ro rfl rfl ?_ ?_; (· omega)) | (refine m_ld_rpi rfl ?_ ?_; (· omega)))) | refine end_ops ?_ | refine AW_ret ?_)
  exact doneC (i := (M.getD m 0, a1, z1)) ha1 rfl rfl
/-- A list that is written out. -/
def partsK : Nat → List Int → List (Nat × Opd)
  | _, [] => []
  | i, x :: M => (i, .c (.int .i64 x)) :: partsK (i + 1) M
theorem afill_ints (s : AS) : ∀ (M : List Int) (pre : List AV), afill s 1 true (pre ++ List.replicate M.length (AV.i 0)) (partsK pre.length M) (pre ++ M.map AV.i)
  | [], pre => by simp [afill, partsK]
  | x :: M, pre => by
    have h := afill_ints s M (pre ++ [AV.i x])
    have e : (pre ++ List.replicate (x :: M).length (AV.i 0)).set pre.length (AV.i x) = pre ++ [AV.i x] ++ List.replicate M.length (AV.i 0) := by
      rw [List.length_cons, List.replicate_succ, List.set_append_right _ _ (Nat.le_refl _), Nat.sub_self]
      simp
    simp only [partsK, afill]
    refine .inl ⟨trivial, by simp, rfl, ?_⟩
    show afill s 1 true ((pre ++ List.replicate (x :: M).length (AV.i 0)).set pre.length (AV.i x)) (partsK (pre.length + 1) M) (pre ++ (x :: M).map AV.i)
    have e4 : pre ++ (x :: M).map AV.i = pre ++ [AV.i x] ++ M.map AV.i := by simp
    rw [e, e4]
    rw [List.length_append] at h
    exact h
/-- A number of guests, or another number. -/
theorem curGuests_spec {v : Value} {L : List UInt8} (hv : Bys v L) (hL : L.length ≤ 1048576) (a : Nat) (ha : a ≤ 999999) (z : Int) :
    SpX Try.prog 65 [.pt pbase 0] (Am.look (curH v a z)) (ι := Int × Nat × Int) (fun i => i.2.1 ≤ a + 2) (fun i => .i i.1) (fun i => Am.look (curH v i.2.1 i.2.2)) := by
  have hpb := curH_pb v a z
  have hsta : ∀ i : Int × Nat × Int, i.2.1 ≤ a + 2 → Static (Am.look (curH v a z)) (.i i.1) (Am.look (curH v i.2.1 i.2.2)) := fun i _ => cur_static
  refine specX_of Try.func65 rfl cc65 rfl hpb hsta ?_
  unfold ac65
  clear hpb hsta
  repeat (first | (refine step_ops ?_; (refine m_mov (by conv => lhs; whnf) ?_)) | refine end_ops ?_ | refine seq_ops ?_)
  refine step_ops ?_
  refine m_bsl (fl := true) (out := [1, 2, 3, 4, 5, 6, 7, 8, 12, 13, 0, -1].map AV.i) (afill_ints _ [1, 2, 3, 4, 5, 6, 7, 8, 12, 13, 0, -1] []) ?_
  refine step_ops ?_
  refine m_cur (curAmong_spec hv hL a ha z [1, 2, 3, 4, 5, 6, 7, 8, 12, 13, 0, -1] (by decide) (by decide)) (r := pbase) rfl (lendH_cons (lend_cur rfl) (lendH_cons (lend_curl (M := [1, 2, 3, 4, 5, 6, 7, 8, 12, 13, 0, -1]) rfl rfl (by decide)) lendH_nil)) ⟨(0, a, z), show a ≤ a + 2 by omega⟩ ?_
  rintro ⟨m, a1, z1⟩ ha1
  dsimp only at ha1 ⊢
  repeat (first | (refine step_ops ?_; (refine m_mov (by conv => lhs; whnf) ?_)) | refine end_ops ?_ | refine AW_ret ?_)
  exact doneC (i := (m, a1, z1)) ha1 rfl rfl
end Go.Proofs.Ytmckfjnbbfdepaa
namespace Go.Am
variable [Go.Am.CodeBlk]
theorem g_unc {P : Program} {own : Bool} {s : AS} {K : AS → Prop} {d : Option Nat} {op : AOp} {t : Nat} {w : Bool} (h : s.tm t = .v undef) (k : K (s.put d (.v undef))) : aop1 P own ⟨d, op, some (t, w)⟩ s K := .inr ⟨h, k⟩
section
variable {P : Program} {s : AS} {K : AS → Prop} {d : Option Nat} {f : FuncId} {args : List Opd} {v : Value} {ι : Type} {ok : ι → Prop}
theorem draw_lends (ha : args.map s.ev = [.v v]) : LendsH s.hp (fun p => p) (look ([] : List (Nat × (Bool × List AV)))) (args.map s.ev) [.v v] := by
  rw [ha]; exact lendH_cons lendH_v lendH_nil
/-- A call that draws plain values. -/
theorem m_draw {res : ι → AV} (hs : SpX P f [.v v] (look ([] : List (Nat × (Bool × List AV)))) ok res (fun _ => look ([] : List (Nat × (Bool × List AV))))) (ha : args.map s.ev = [.v v]) (hne : ∃ i, ok i) (hr : ∀ i, ownV false (res i) = true ∧ renV (fun p => p) (res i) = res i)
    (k : ∀ i, ok i → K (s.put d (res i))) : aop1 P true ⟨d, .call f args, none⟩ s K := by
  refine m_callx (hp' := fun _ => s.hp) (fun p => p) hs (draw_lends ha) hne fun i hi => ⟨⟨fun q c hc => by simp [look] at hc, fun q q' h1 _ _ => by simp [look] at h1, fun q hq => by simp [look] at hq, fun q hq _ => by simp [look] at hq, fun q c hc => by simp [look] at hc, fun q _ => rfl, fun q c hc => by simp [look] at hc, fun q c hc => by simp [look] at hc, (hr i).1⟩, ?_⟩
  rw [(hr i).2]
  exact k i hi
end
end Go.Am
namespace Go.Proofs.Ytmckfjnbbfdepaa
variable [Go.Am.CodeBlk]
open Go.Am
attribute [local irreducible] AW Outs Weak Lends Lend Sp aops atree aop1 Then Round InBlock Done
attribute [local irreducible] SpH SpX DoneH
theorem big_spec {c m : Value} {C M : List UInt8} (hc : Bys c C) (hm : Bys m M) (hC : C.length ≤ 9223372036854775807) (hM : M.length ≤ 9223372036854775807) : Sp Try.prog 5 [.v c, .v m] (.b (decide (1048576 < C.length + M.length))) := by
  refine spec_of Try.func5 rfl cc5 rfl ?_
  unfold ac5
  by_cases h1 : ((C.length : Nat) : Int) > 1048576
  · have h2 : 1048576 < C.length + M.length := by omega
    repeat (first | (refine step_ops ?_; (refine m_mov (by conv => lhs; whnf) ?_)) | refine end_ops ?_ | refine seq_ops ?_)
    refine step_ops ?_
    refine m_len_bys rfl hc ?_
    repeat (first | ((first | (refine step_ops ?_; (first | (first | (refine m_mov (by conv => lhs; whnf) ?_) | (refine m_gtr rfl rfl ?_) | (refine m_pick_t rfl ?_ (by conv => lhs; whnf) ?_; (· first | rfl | assumption | (refine decide_eq_true ?_; first | assumption | omega) | (refine nt ?_; first | assumption | omega) | (simp [*]; done)))) | (refine g_noF rfl ?_ ?_; (· first | rfl | assumption | (refine decide_eq_true ?_; first | assumption | omega) | (refine nt ?_; first | assumption | omega) | (simp [*]; done))))) | refine end_ops ?_ | refine AW_ret ?_ | refine ret_done ?_)) | (refine step_ops ?_; refine g_unc rfl ?_))
    exact outs_b (decide_eq_true h2).symm
  · have h0 : decide ((1048576 : Int) < (C.length : Nat)) = false := decide_eq_false (by omega)
    by_cases h3 : ((M.length : Nat) : Int) > 1048576 - C.length
    · have h2 : 1048576 < C.length + M.length := by omega
      repeat (first | (refine step_ops ?_; (refine m_mov (by conv => lhs; whnf) ?_)) | refine end_ops ?_ | refine seq_ops ?_)
      refine step_ops ?_
      refine m_len_bys rfl hc ?_
      repeat (refine step_ops ?_; ((try (refine g_yes rfl ?_ ?_; (· first | rfl | assumption | (refine decide_eq_true ?_; first | assumption | omega) | (refine nt ?_; first | assumption | omega) | (simp [*]; done) | (refine decide_eq_false ?_; first | assumption | omega) | (refine nf ?_; first | assumption | omega)))); (first | (refine m_mov (by conv => lhs; whnf) ?_) | (refine m_gtr rfl rfl ?_))))
      refine step_ops ?_
      refine g_yes rfl h0 ?_
      refine m_len_bys rfl hm ?_
      repeat (refine step_ops ?_; ((try (refine g_yes rfl ?_ ?_; (· first | rfl | assumption | (refine decide_eq_true ?_; first | assumption | omega) | (refine nt ?_; first | assumption | omega) | (simp [*]; done) | (refine decide_eq_false ?_; first | assumption | omega) | (refine nf ?_; first | assumption | omega)))); (refine m_mov (by conv => lhs; whnf) ?_)))
      refine step_ops ?_
      refine g_yes rfl h0 ?_
      refine m_len_bys rfl hc ?_
      repeat (first | (refine step_ops ?_; ((try (refine g_yes rfl ?_ ?_; (· first | rfl | assumption | (refine decide_eq_true ?_; first | assumption | omega) | (refine nt ?_; first | assumption | omega) | (simp [*]; done) | (refine decide_eq_false ?_; first | assumption | omega) | (refine nf ?_; first | assumption | omega)))); (first | (refine m_mov (by conv => lhs; whnf) ?_) | (refine m_gtr rfl rfl ?_) | (refine m_sub rfl rfl ?_ ?_ ?_; (· omega); (· omega)) | (refine m_pick_f rfl ?_ (by conv => lhs; whnf) ?_; (· first | rfl | assumption | (refine decide_eq_false ?_; first | assumption | omega) | (refine nf ?_; first | assumption | omega) | (simp [*]; done)))))) | refine end_ops ?_ | refine AW_ret ?_ | refine ret_done ?_)
      exact outs_b (decide_eq_decide.2 ⟨fun _ => h2, fun _ => by omega⟩)
    · have h2 : ¬ 1048576 < C.length + M.length := by omega
      repeat (first | (refine step_ops ?_; (refine m_mov (by conv => lhs; whnf) ?_)) | refine end_ops ?_ | refine seq_ops ?_)
      refine step_ops ?_
      refine m_len_bys rfl hc ?_
      repeat (refine step_ops ?_; ((try (refine g_yes rfl ?_ ?_; (· first | rfl | assumption | (refine decide_eq_true ?_; first | assumption | omega) | (refine nt ?_; first | assumption | omega) | (simp [*]; done) | (refine decide_eq_false ?_; first | assumption | omega) | (refine nf ?_; first | assumption | omega)))); (first | (refine m_mov (by conv => lhs; whnf) ?_) | (refine m_gtr rfl rfl ?_))))
      refine step_ops ?_
      refine g_yes rfl h0 ?_
      refine m_len_bys rfl hm ?_
      repeat (refine step_ops ?_; ((try (refine g_yes rfl ?_ ?_; (· first | rfl | assumption | (refine decide_eq_true ?_; first | assumption | omega) | (refine nt ?_; first | assumption | omega) | (simp [*]; done) | (refine decide_eq_false ?_; first | assumption | omega) | (refine nf ?_; first | assumption | omega)))); (refine m_mov (by conv => lhs; whnf) ?_)))
      refine step_ops ?_
      refine g_yes rfl h0 ?_
      refine m_len_bys rfl hc ?_
      repeat (first | (refine step_ops ?_; ((try (refine g_yes rfl ?_ ?_; (· first | rfl | assumption | (refine decide_eq_true ?_; first | assumption | omega) | (refine nt ?_; first | assumption | omega) | (simp [*]; done) | (refine decide_eq_false ?_; first | assumption | omega) | (refine nf ?_; first | assumption | omega)))); (first | (refine m_mov (by conv => lhs; whnf) ?_) | (refine m_gtr rfl rfl ?_) | (refine m_sub rfl rfl ?_ ?_ ?_; (· omega); (· omega)) | (refine m_pick_f rfl ?_ (by conv => lhs; whnf) ?_; (· first | rfl | assumption | (refine decide_eq_false ?_; first | assumption | omega) | (refine nf ?_; first | assumption | omega) | (simp [*]; done)))))) | refine end_ops ?_ | refine AW_ret ?_ | refine ret_done ?_)
      exact outs_b (decide_eq_decide.2 ⟨fun _ => by omega, fun hh => absurd hh h2⟩)
end Go.Proofs.Ytmckfjnbbfdepaa
namespace Go.Proofs.Ytmckfjnbbfdepaa
variable [Go.Am.CodeBlk]
open Go.Am
attribute [local irreducible] AW Outs Weak Lends Lend Sp aops atree aop1 Then Round InBlock Done
attribute [local irreducible] SpH SpX DoneH
/-- Numbers that a law draws. -/
theorem drawNum_spec {v : Value} {L : List UInt8} (hv : Bys v L) (hL : L.length ≤ 1048576) :
    SpX Try.prog 35 [.v v] (Am.look []) (ι := Int) (fun _ => True) (fun m => .i m) (fun _ => Am.look []) := by
  have hpb : ∀ r, (Am.look ([] : List (Nat × (Bool × List AV))) r).isSome = true → pbase ≤ r := fun r hr => by simp [Am.look] at hr
  have hsta : ∀ m : Int, True → Static (Am.look []) (.i m) (Am.look []) := fun m _ => static_R (by simp) (by simp) ⟨rfl, rfl⟩
  refine specX_of Try.func35 rfl cc35 rfl hpb hsta ?_
  unfold ac35
  clear hpb hsta
  have hv1 := bys_cell hv
  have hc := curGuests_spec hv hL 0 (by omega) 0
  repeat (first | (refine step_ops ?_; (refine m_mov (by conv => lhs; whnf) ?_)) | refine end_ops ?_ | refine seq_ops ?_)
  refine step_ops ?_
  refine m_bldC hv1 rfl ?_
  refine step_ops ?_
  refine m_boxC hv1 rfl ?_
  repeat (first | (refine step_ops ?_; (refine m_mov (by conv => lhs; whnf) ?_)) | refine end_ops ?_ | refine seq_ops ?_)
  refine step_ops ?_
  refine m_cur (r := 6) hc rfl (lendH_cons (lend_cur rfl) lendH_nil) ⟨(0, 0, 0), show 0 ≤ 0 + 2 by omega⟩ ?_
  rintro ⟨m, a3, z3⟩ ha3
  dsimp only at ha3 ⊢
  repeat (first | (refine step_ops ?_; (refine m_mov (by conv => lhs; whnf) ?_)) | refine end_ops ?_ | refine AW_ret ?_)
  exact ⟨m, trivial, ret_R (hl := []) (ho := []) id rfl trivial (by simp) (by simp) (by simp)⟩
theorem drawTypes_spec {v : Value} {L : List UInt8} (hv : Bys v L) (hL : L.length ≤ 1048576) :
    SpX Try.prog 6 [.v v] (Am.look []) (ι := Int) (fun _ => True) (fun m => .i m) (fun _ => Am.look []) := by
  have hpb : ∀ r, (Am.look ([] : List (Nat × (Bool × List AV))) r).isSome = true → pbase ≤ r := fun r hr => by simp [Am.look] at hr
  have hsta : ∀ m : Int, True → Static (Am.look []) (.i m) (Am.look []) := fun m _ => static_R (by simp) (by simp) ⟨rfl, rfl⟩
  refine specX_of Try.func6 rfl cc6 rfl hpb hsta ?_
  unfold ac6
  clear hpb hsta
  repeat (first | (refine step_ops ?_; (refine m_mov (by conv => lhs; whnf) ?_)) | refine end_ops ?_ | refine seq_ops ?_)
  refine step_ops ?_
  refine m_draw (drawNum_spec hv hL) rfl ⟨0, trivial⟩ (fun m => ⟨rfl, rfl⟩) ?_
  intro m _
  repeat (first | (refine step_ops ?_; (refine m_mov (by conv => lhs; whnf) ?_)) | refine end_ops ?_ | refine AW_ret ?_)
  exact ⟨m, trivial, ret_R (hl := []) (ho := []) id rfl trivial (by simp) (by simp) (by simp)⟩
theorem drawChains_spec {v : Value} {L : List UInt8} (hv : Bys v L) (hL : L.length ≤ 1048576) :
    SpX Try.prog 60 [.v v] (Am.look []) (ι := Int × Int) (fun _ => True) (fun m => .tup [.i m.1, .i m.2]) (fun _ => Am.look []) := by
  have hpb : ∀ r, (Am.look ([] : List (Nat × (Bool × List AV))) r).isSome = true → pbase ≤ r := fun r hr => by simp [Am.look] at hr
  have hsta : ∀ m : Int × Int, True → Static (Am.look []) (.tup [.i m.1, .i m.2]) (Am.look []) := fun m _ => static_R (by simp) (by simp) ⟨rfl, rfl⟩
  refine specX_of Try.func60 rfl cc60 rfl hpb hsta ?_
  unfold ac60
  clear hpb hsta
  have hv1 := bys_cell hv
  have hc := curGuests_spec hv hL 0 (by omega) 0
  repeat (first | (refine step_ops ?_; (refine m_mov (by conv => lhs; whnf) ?_)) | refine end_ops ?_ | refine seq_ops ?_)
  refine step_ops ?_
  refine m_bldC hv1 rfl ?_
  refine step_ops ?_
  refine m_boxC hv1 rfl ?_
  repeat (first | (refine step_ops ?_; (refine m_mov (by conv => lhs; whnf) ?_)) | refine end_ops ?_ | refine seq_ops ?_)
  refine step_ops ?_
  refine m_cur (r := 7) hc rfl (lendH_cons (lend_cur rfl) lendH_nil) ⟨(0, 0, 0), show 0 ≤ 0 + 2 by omega⟩ ?_
  rintro ⟨m, a3, z3⟩ ha3
  dsimp only at ha3 ⊢
  repeat (refine step_ops ?_; (refine m_mov (by conv => lhs; whnf) ?_))
  refine step_ops ?_
  refine m_bsl (fl := true) (out := [0, 1, 2, 3, 4, 5, 12, 13, -1].map AV.i) (afill_ints _ [0, 1, 2, 3, 4, 5, 12, 13, -1] []) ?_
  refine step_ops ?_
  refine m_cur (r := 7) (curAmong_spec hv hL a3 (by omega) z3 [0, 1, 2, 3, 4, 5, 12, 13, -1] (by decide) (by decide)) rfl (lendH_cons (lend_cur rfl) (lendH_cons (lend_curl (M := [0, 1, 2, 3, 4, 5, 12, 13, -1]) rfl rfl (by decide)) lendH_nil)) ⟨(0, a3, z3), show a3 ≤ a3 + 2 by omega⟩ ?_
  rintro ⟨m2, a4, z4⟩ ha4
  dsimp only at ha4 ⊢
  repeat (first | (refine step_ops ?_; (refine m_mov (by conv => lhs; whnf) ?_)) | refine end_ops ?_ | refine AW_ret ?_)
  exact ⟨(m, m2), trivial, ret_R (hl := []) (ho := []) id rfl trivial (by simp) (by simp) (by simp)⟩
theorem drawLongest_spec {v : Value} {L : List UInt8} (hv : Bys v L) (hL : L.length ≤ 1048576) :
    SpX Try.prog 25 [.v v] (Am.look []) (ι := Int × Int) (fun _ => True) (fun m => .tup [.i m.1, .i m.2]) (fun _ => Am.look []) := by
  have hpb : ∀ r, (Am.look ([] : List (Nat × (Bool × List AV))) r).isSome = true → pbase ≤ r := fun r hr => by simp [Am.look] at hr
  have hsta : ∀ m : Int × Int, True → Static (Am.look []) (.tup [.i m.1, .i m.2]) (Am.look []) := fun m _ => static_R (by simp) (by simp) ⟨rfl, rfl⟩
  refine specX_of Try.func25 rfl cc25 rfl hpb hsta ?_
  unfold ac25
  clear hpb hsta
  repeat (first | (refine step_ops ?_; (refine m_mov (by conv => lhs; whnf) ?_)) | refine end_ops ?_ | refine seq_ops ?_)
  refine step_ops ?_
  refine m_draw (drawChains_spec hv hL) rfl ⟨(0, 0), trivial⟩ (fun m => ⟨rfl, rfl⟩) ?_
  intro m _
  repeat (first | (refine step_ops ?_; (first | (refine m_mov (by conv => lhs; whnf) ?_) | (refine m_ext rfl rfl ?_))) | refine end_ops ?_ | refine AW_ret ?_)
  exact ⟨m, trivial, ret_R (hl := []) (ho := []) id rfl trivial (by simp) (by simp) (by simp)⟩
theorem drawTimes_spec {v : Value} {L : List UInt8} (hv : Bys v L) (hL : L.length ≤ 1048576) :
    SpX Try.prog 32 [.v v] (Am.look []) (ι := Int × Int) (fun _ => True) (fun m => .tup [.i m.1, .i m.2]) (fun _ => Am.look []) := by
  have hpb : ∀ r, (Am.look ([] : List (Nat × (Bool × List AV))) r).isSome = true → pbase ≤ r := fun r hr => by simp [Am.look] at hr
  have hsta : ∀ m : Int × Int, True → Static (Am.look []) (.tup [.i m.1, .i m.2]) (Am.look []) := fun m _ => static_R (by simp) (by simp) ⟨rfl, rfl⟩
  refine specX_of Try.func32 rfl cc32 rfl hpb hsta ?_
  unfold ac32
  clear hpb hsta
  have hv1 := bys_cell hv
  have hc := curGuests_spec hv hL 0 (by omega) 0
  repeat (first | (refine step_ops ?_; (refine m_mov (by conv => lhs; whnf) ?_)) | refine end_ops ?_ | refine seq_ops ?_)
  refine step_ops ?_
  refine m_bldC hv1 rfl ?_
  refine step_ops ?_
  refine m_boxC hv1 rfl ?_
  repeat (first | (refine step_ops ?_; (refine m_mov (by conv => lhs; whnf) ?_)) | refine end_ops ?_ | refine seq_ops ?_)
  refine step_ops ?_
  refine m_cur (r := 7) hc rfl (lendH_cons (lend_cur rfl) lendH_nil) ⟨(0, 0, 0), show 0 ≤ 0 + 2 by omega⟩ ?_
  rintro ⟨m, a3, z3⟩ ha3
  dsimp only at ha3 ⊢
  repeat (refine step_ops ?_; (refine m_mov (by conv => lhs; whnf) ?_))
  refine step_ops ?_
  refine m_bsl (fl := true) (out := [1, 2, 3, 4, 6, 12, 60, 1000, 1001, 0].map AV.i) (afill_ints _ [1, 2, 3, 4, 6, 12, 60, 1000, 1001, 0] []) ?_
  refine step_ops ?_
  refine m_cur (r := 7) (curAmong_spec hv hL a3 (by omega) z3 [1, 2, 3, 4, 6, 12, 60, 1000, 1001, 0] (by decide) (by decide)) rfl (lendH_cons (lend_cur rfl) (lendH_cons (lend_curl (M := [1, 2, 3, 4, 6, 12, 60, 1000, 1001, 0]) rfl rfl (by decide)) lendH_nil)) ⟨(0, a3, z3), show a3 ≤ a3 + 2 by omega⟩ ?_
  rintro ⟨m2, a4, z4⟩ ha4
  dsimp only at ha4 ⊢
  repeat (first | (refine step_ops ?_; (refine m_mov (by conv => lhs; whnf) ?_)) | refine end_ops ?_ | refine AW_ret ?_)
  exact ⟨(m, m2), trivial, ret_R (hl := []) (ho := []) id rfl trivial (by simp) (by simp) (by simp)⟩
end Go.Proofs.Ytmckfjnbbfdepaa
namespace Go.Proofs.Ytmckfjnbbfdepaa
variable [Go.Am.CodeBlk]
open Go.Am
attribute [local irreducible] AW Outs Weak Lends Lend Sp aops atree aop1 Then Round InBlock Done
attribute [local irreducible] SpM DoneM SpH DoneH
/-- The second part of a code, and the first one. -/
def sndC : ACode → ACode
  | .seq _ y => y
  | c => c
def fstC : ACode → ACode
  | .seq x _ => x
  | c => c
/-- What comes behind the first eleven parts. -/
def tcRest : ACode := sndC (sndC (sndC (sndC (sndC (sndC (sndC (sndC (sndC (sndC (sndC (sndC (sndC ac3))))))))))))
theorem xor_self (b : Bool) : (true ^^ (b == b)) = false := by cases b <;> rfl
set_option maxHeartbeats 2000000 in
theorem tcSec1 (n k : Int) {mv : Value} {ML : List UInt8} (hm : Bys mv ML) (hML : ML.length ≤ 1048576) : AW Try.prog (min Try.f3.ntmps pbase) (sndC tcRest) (st [(51, .i n), (52, .i k), (1, .v mv)] []) (Done [4].reverse (.b true)) := by
  have a1 := implCountLongest_spec n k
  have a2 := specCountLongest_spec n k
  have a3 := implCountShortest_spec n k
  have a4 := specCountShortest_spec n k
  have a5 := implCountByChains_spec n k
  have a6 := specCountByChains_spec n k
  have a7 := implChanceLongest_spec n k
  have a8 := specChanceLongest_spec n k
  have a9 := implMeanOfLength_spec n k
  have a10 := specMeanOfLength_spec n k
  unfold loTup at a1 a2
  unfold csTup at a3 a4
  unfold cbTup at a5 a6
  unfold clTup at a7 a8
  unfold mlTup at a9 a10
  generalize hS : csR n k = S at *
  generalize hB : cbR n k = B at *
  generalize hM : mlR n k = M at *
  have x1 := xor_self (decide (LoOk n k))
  have x2 := xor_self (decide (CbOk n k))
  by_cases h : LoOk n k
  · have hcb : CbOk n k := ⟨h.1, by have := h.2; omega, h.2.2⟩
    have hcb1 : CbOk n (k - 1) := ⟨h.1, by have := h.2; omega, by have := h.2.2; omega⟩
    have h1 := h.1
    have h2 := h.2
    obtain ⟨N, rfl⟩ := Int.eq_ofNat_of_zero_le (show 0 ≤ n by omega)
    obtain ⟨K, rfl⟩ := Int.eq_ofNat_of_zero_le (show 0 ≤ k by omega)
    have hc1 := tz_chance N (by omega) (by omega) K (by omega)
    have hc2 := tz_chance N (by omega) (by omega) (K - 1) (by omega)
    have hK1 : ((K - 1 : Nat) : Int) = (K : Int) - 1 := by omega
    unfold ChOk at hc1 hc2
    rw [hK1] at hc2
    have a13 := implChanceLongest_spec (N : Int) ((K : Int) - 1)
    unfold clTup clP at a13
    rw [if_pos hcb1, decide_eq_true hcb1, Int.toNat_natCast] at a13
    unfold clP at a7 a8
    rw [if_pos hcb, Int.toNat_natCast] at a7 a8
    have hL : loR (N : Int) (K : Int) = chLongN N (K : Int) - chLongN N ((K : Int) - 1) := by
      unfold loR
      rw [if_pos h, Int.toNat_natCast]
    have a14 := oTimes_spec N (by omega)
    have hw := fac_le N (by omega)
    have hd : decide (LoOk (N : Int) (K : Int)) = true := decide_eq_true h
    have hd2 : decide (CbOk (N : Int) (K : Int)) = true := decide_eq_true hcb
    rw [hd] at a1 a2 a3 a4 a9 a10
    rw [hd2] at a5 a6 a7 a8
    generalize loR (N : Int) (K : Int) = L at *
    generalize low (chLongN N (K : Int)).toNat (fac N).toNat = P at *
    generalize low (chLongN N ((K : Int) - 1)).toNat (fac N).toNat = P2 at *
    generalize chLongN N (K : Int) = c1 at *
    generalize chLongN N ((K : Int) - 1) = c2 at *
    generalize fac N = w at *
    obtain ⟨⟨hm1, hp1⟩, hb1, hq1, he1⟩ := hc1
    obtain ⟨⟨hm2, hp2⟩, hb2, hq2, he2⟩ := hc2
    unfold tcRest
    unfold ac3
    simp only [sndC]
    repeat (first | (refine step_ops ?_; (refine m_mov (by conv => lhs; whnf) ?_)) | refine seq_ops ?_)
    refine step_ops ?_; (apply m_call (a1)); (· repeat (first | exact lends_nil | (refine lends_cons ?_ ?_; (· exact lend_v))))
    repeat (first | (refine step_ops ?_; (first | (refine m_mov (by conv => lhs; whnf) ?_) | (refine m_ext rfl rfl ?_))) | refine end_ops ?_ | refine seq_ops ?_)
    refine step_ops ?_; (apply m_call (a2)); (· repeat (first | exact lends_nil | (refine lends_cons ?_ ?_; (· exact lend_v))))
    repeat (first | (refine step_ops ?_; (first | (refine m_mov (by conv => lhs; whnf) ?_) | (refine m_ext rfl rfl ?_))) | refine end_ops ?_ | refine seq_ops ?_)
    refine step_ops ?_; (apply m_call (a3)); (· repeat (first | exact lends_nil | (refine lends_cons ?_ ?_; (· exact lend_v))))
    repeat (first | (refine step_ops ?_; (first | (refine m_mov (by conv => lhs; whnf) ?_) | (refine m_ext rfl rfl ?_))) | refine end_ops ?_ | refine seq_ops ?_)
    refine step_ops ?_; (apply m_call (a4)); (· repeat (first | exact lends_nil | (refine lends_cons ?_ ?_; (· exact lend_v))))
    repeat (first | (refine step_ops ?_; (first | (refine m_mov (by conv => lhs; whnf) ?_) | (refine m_ext rfl rfl ?_))) | refine end_ops ?_ | refine seq_ops ?_)
    refine step_ops ?_; (apply m_call (a5)); (· repeat (first | exact lends_nil | (refine lends_cons ?_ ?_; (· exact lend_v))))
    repeat (first | (refine step_ops ?_; (first | (refine m_mov (by conv => lhs; whnf) ?_) | (refine m_ext rfl rfl ?_))) | refine end_ops ?_ | refine seq_ops ?_)
    refine step_ops ?_; (apply m_call (a6)); (· repeat (first | exact lends_nil | (refine lends_cons ?_ ?_; (· exact lend_v))))
    repeat (first | (refine step_ops ?_; (first | (refine m_mov (by conv => lhs; whnf) ?_) | (refine m_ext rfl rfl ?_))) | refine end_ops ?_ | refine seq_ops ?_)
    refine step_ops ?_; (apply m_call (a7)); (· repeat (first | exact lends_nil | (refine lends_cons ?_ ?_; (· exact lend_v))))
    repeat (first | (refine step_ops ?_; (first | (refine m_mov (by conv => lhs; whnf) ?_) | (refine m_ext rfl rfl ?_))) | refine end_ops ?_ | refine seq_ops ?_)
    refine step_ops ?_; (apply m_call (a8)); (· repeat (first | exact lends_nil | (refine lends_cons ?_ ?_; (· exact lend_v))))
    repeat (first | (refine step_ops ?_; (first | (refine m_mov (by conv => lhs; whnf) ?_) | (refine m_ext rfl rfl ?_))) | refine end_ops ?_ | refine seq_ops ?_)
    refine step_ops ?_; (apply m_call (a9)); (· repeat (first | exact lends_nil | (refine lends_cons ?_ ?_; (· exact lend_v))))
    repeat (first | (refine step_ops ?_; (first | (refine m_mov (by conv => lhs; whnf) ?_) | (refine m_ext rfl rfl ?_))) | refine end_ops ?_ | refine seq_ops ?_)
    refine step_ops ?_; (apply m_call (a10)); (· repeat (first | exact lends_nil | (refine lends_cons ?_ ?_; (· exact lend_v))))
    repeat (first | (refine step_ops ?_; (first | (refine m_mov (by conv => lhs; whnf) ?_) | (refine m_ext rfl rfl ?_))) | refine end_ops ?_ | refine seq_ops ?_)
    refine step_ops ?_
    refine m_draw (drawTimes_spec hm hML) rfl ⟨(0, 0), trivial⟩ (fun m => ⟨rfl, rfl⟩) ?_
    rintro ⟨m, t⟩ _
    dsimp only
    have a11 := implCountByTimes_spec m t
    have a12 := specCountByTimes_spec m t
    unfold btTup at a11 a12
    generalize hT : btR m t = T at *
    generalize hb3 : decide (BtOk m t) = b3 at *
    have x3 := xor_self b3
    repeat (first | (refine step_ops ?_; (first | (refine m_mov (by conv => lhs; whnf) ?_) | (refine m_ext rfl rfl ?_))) | refine end_ops ?_ | refine seq_ops ?_)
    refine step_ops ?_; (apply m_call (a11)); (· repeat (first | exact lends_nil | (refine lends_cons ?_ ?_; (· exact lend_v))))
    repeat (first | (refine step_ops ?_; (first | (refine m_mov (by conv => lhs; whnf) ?_) | (refine m_ext rfl rfl ?_))) | refine end_ops ?_ | refine seq_ops ?_)
    refine step_ops ?_; (apply m_call (a12)); (· repeat (first | exact lends_nil | (refine lends_cons ?_ ?_; (· exact lend_v))))
    repeat (first | (refine step_ops ?_; ((try (refine g_yes rfl ?_ ?_; (· first | rfl | assumption | (refine decide_eq_true ?_; first | assumption | omega) | (refine nt ?_; first | assumption | omega) | (simp [*]; done) | (refine decide_eq_false ?_; first | assumption | omega) | (refine nf ?_; first | assumption | omega)))); (first | (refine m_mov (by conv => lhs; whnf) ?_) | (refine m_neq rfl rfl ?_) | (refine m_sub rfl rfl ?_ ?_ ?_; (· omega); (· omega)) | (refine m_beq rfl rfl ?_) | (refine m_pick_f rfl ?_ (by conv => lhs; whnf) ?_; (· first | rfl | assumption | (refine decide_eq_false ?_; first | assumption | omega) | (refine nf ?_; first | assumption | omega) | (simp [*]; done))) | (refine m_ext rfl rfl ?_)))) | refine end_ops ?_ | refine seq_ops ?_ | (refine cond_t rfl ?_ ?_; (· first | rfl | assumption | (refine decide_eq_true ?_; first | assumption | omega) | (refine nt ?_; first | assumption | omega) | (simp [*]; done))) | (refine cond_f rfl ?_ ?_; (· first | rfl | assumption | (refine decide_eq_false ?_; first | assumption | omega) | (refine nf ?_; first | assumption | omega) | (simp [*]; done))) | refine skip_then ?_ | refine AW_seq ?_)
    refine step_ops ?_; (apply m_call (a13)); (· repeat (first | exact lends_nil | (refine lends_cons ?_ ?_; (· exact lend_v))))
    repeat (first | (refine step_ops ?_; (first | (refine m_mov (by conv => lhs; whnf) ?_) | (refine m_ext rfl rfl ?_))) | refine end_ops ?_ | refine seq_ops ?_)
    refine step_ops ?_; (apply m_call (a14)); (· repeat (first | exact lends_nil | (refine lends_cons ?_ ?_; (· exact lend_v))))
    repeat (first | ((first | refine step_ops ?_ | refine step_tree ?_); ((try (refine g_yes rfl ?_ ?_; (· first | rfl | assumption | (refine decide_eq_true ?_; first | assumption | omega) | (refine nt ?_; first | assumption | omega) | (simp [*]; done) | (refine decide_eq_false ?_; first | assumption | omega) | (refine nf ?_; first | assumption | omega)))); (first | (refine m_mov (by conv => lhs; whnf) ?_) | (refine m_eql rfl rfl ?_) | (refine m_sub rfl rfl ?_ ?_ ?_; (· omega); (· omega)) | (refine m_mul rfl rfl ?_ ?_ ?_; (· first | omega | (simp; done)); (· first | omega | (simp; done))) | (refine m_pick_t rfl ?_ (by conv => lhs; whnf) ?_; (· first | rfl | assumption | (refine decide_eq_true ?_; first | assumption | omega) | (refine nt ?_; first | assumption | omega) | (simp [*]; done))) | (refine m_quo rfl rfl ?_ ?_ ?_ ?_; (· omega); (· omega); (· omega)) | (refine m_rem rfl rfl ?_ ?_ ?_; (· omega); (· omega))))) | refine end_ops ?_ | refine end_tree ?_ | refine seq_tree ?_ | refine AW_ret ?_ | refine ret_done ?_ | refine ret_then ?_)
    exact outs_b (by simp; omega)
  · generalize clP n k = C at *
    generalize loR n k = L at *
    generalize hb2 : decide (CbOk n k) = b2 at *
    have hd : decide (LoOk n k) = false := decide_eq_false h
    rw [hd] at a1 a2 a3 a4 a9 a10
    unfold tcRest
    unfold ac3
    simp only [sndC]
    repeat (first | (refine step_ops ?_; (refine m_mov (by conv => lhs; whnf) ?_)) | refine seq_ops ?_)
    refine step_ops ?_; (apply m_call (a1)); (· repeat (first | exact lends_nil | (refine lends_cons ?_ ?_; (· exact lend_v))))
    repeat (first | (refine step_ops ?_; (first | (refine m_mov (by conv => lhs; whnf) ?_) | (refine m_ext rfl rfl ?_))) | refine end_ops ?_ | refine seq_ops ?_)
    refine step_ops ?_; (apply m_call (a2)); (· repeat (first | exact lends_nil | (refine lends_cons ?_ ?_; (· exact lend_v))))
    repeat (first | (refine step_ops ?_; (first | (refine m_mov (by conv => lhs; whnf) ?_) | (refine m_ext rfl rfl ?_))) | refine end_ops ?_ | refine seq_ops ?_)
    refine step_ops ?_; (apply m_call (a3)); (· repeat (first | exact lends_nil | (refine lends_cons ?_ ?_; (· exact lend_v))))
    repeat (first | (refine step_ops ?_; (first | (refine m_mov (by conv => lhs; whnf) ?_) | (refine m_ext rfl rfl ?_))) | refine end_ops ?_ | refine seq_ops ?_)
    refine step_ops ?_; (apply m_call (a4)); (· repeat (first | exact lends_nil | (refine lends_cons ?_ ?_; (· exact lend_v))))
    repeat (first | (refine step_ops ?_; (first | (refine m_mov (by conv => lhs; whnf) ?_) | (refine m_ext rfl rfl ?_))) | refine end_ops ?_ | refine seq_ops ?_)
    refine step_ops ?_; (apply m_call (a5)); (· repeat (first | exact lends_nil | (refine lends_cons ?_ ?_; (· exact lend_v))))
    repeat (first | (refine step_ops ?_; (first | (refine m_mov (by conv => lhs; whnf) ?_) | (refine m_ext rfl rfl ?_))) | refine end_ops ?_ | refine seq_ops ?_)
    refine step_ops ?_; (apply m_call (a6)); (· repeat (first | exact lends_nil | (refine lends_cons ?_ ?_; (· exact lend_v))))
    repeat (first | (refine step_ops ?_; (first | (refine m_mov (by conv => lhs; whnf) ?_) | (refine m_ext rfl rfl ?_))) | refine end_ops ?_ | refine seq_ops ?_)
    refine step_ops ?_; (apply m_call (a7)); (· repeat (first | exact lends_nil | (refine lends_cons ?_ ?_; (· exact lend_v))))
    repeat (first | (refine step_ops ?_; (first | (refine m_mov (by conv => lhs; whnf) ?_) | (refine m_ext rfl rfl ?_))) | refine end_ops ?_ | refine seq_ops ?_)
    refine step_ops ?_; (apply m_call (a8)); (· repeat (first | exact lends_nil | (refine lends_cons ?_ ?_; (· exact lend_v))))
    repeat (first | (refine step_ops ?_; (first | (refine m_mov (by conv => lhs; whnf) ?_) | (refine m_ext rfl rfl ?_))) | refine end_ops ?_ | refine seq_ops ?_)
    refine step_ops ?_; (apply m_call (a9)); (· repeat (first | exact lends_nil | (refine lends_cons ?_ ?_; (· exact lend_v))))
    repeat (first | (refine step_ops ?_; (first | (refine m_mov (by conv => lhs; whnf) ?_) | (refine m_ext rfl rfl ?_))) | refine end_ops ?_ | refine seq_ops ?_)
    refine step_ops ?_; (apply m_call (a10)); (· repeat (first | exact lends_nil | (refine lends_cons ?_ ?_; (· exact lend_v))))
    repeat (first | (refine step_ops ?_; (first | (refine m_mov (by conv => lhs; whnf) ?_) | (refine m_ext rfl rfl ?_))) | refine end_ops ?_ | refine seq_ops ?_)
    refine step_ops ?_
    refine m_draw (drawTimes_spec hm hML) rfl ⟨(0, 0), trivial⟩ (fun m => ⟨rfl, rfl⟩) ?_
    rintro ⟨m, t⟩ _
    dsimp only
    have a11 := implCountByTimes_spec m t
    have a12 := specCountByTimes_spec m t
    unfold btTup at a11 a12
    generalize hT : btR m t = T at *
    generalize hb3 : decide (BtOk m t) = b3 at *
    have x3 := xor_self b3
    repeat (first | (refine step_ops ?_; (first | (refine m_mov (by conv => lhs; whnf) ?_) | (refine m_ext rfl rfl ?_))) | refine end_ops ?_ | refine seq_ops ?_)
    refine step_ops ?_; (apply m_call (a11)); (· repeat (first | exact lends_nil | (refine lends_cons ?_ ?_; (· exact lend_v))))
    repeat (first | (refine step_ops ?_; (first | (refine m_mov (by conv => lhs; whnf) ?_) | (refine m_ext rfl rfl ?_))) | refine end_ops ?_ | refine seq_ops ?_)
    refine step_ops ?_; (apply m_call (a12)); (· repeat (first | exact lends_nil | (refine lends_cons ?_ ?_; (· exact lend_v))))
    repeat (first | (refine step_ops ?_; ((try (refine g_yes rfl ?_ ?_; (· first | rfl | assumption | (refine decide_eq_true ?_; first | assumption | omega) | (refine nt ?_; first | assumption | omega) | (simp [*]; done) | (refine decide_eq_false ?_; first | assumption | omega) | (refine nf ?_; first | assumption | omega)))); (first | (refine m_mov (by conv => lhs; whnf) ?_) | (refine m_neq rfl rfl ?_) | (refine m_beq rfl rfl ?_) | (refine m_pick_f rfl ?_ (by conv => lhs; whnf) ?_; (· first | rfl | assumption | (refine decide_eq_false ?_; first | assumption | omega) | (refine nf ?_; first | assumption | omega) | (simp [*]; done))) | (refine m_ext rfl rfl ?_)))) | refine end_ops ?_ | refine seq_ops ?_ | (refine cond_f rfl ?_ ?_; (· first | rfl | assumption | (refine decide_eq_false ?_; first | assumption | omega) | (refine nf ?_; first | assumption | omega) | (simp [*]; done))) | refine skip_then ?_ | refine AW_seq ?_ | refine AW_ret ?_ | refine ret_done ?_)
    exact outs_b rfl
set_option maxHeartbeats 2000000 in
theorem tcSecond {mv : Value} {ML : List UInt8} (hm : Bys mv ML) (hML : ML.length ≤ 1048576) : AW Try.prog (min Try.f3.ntmps pbase) tcRest (st [(1, .v mv)] []) (Done [4].reverse (.b true)) := by
  have key := fun (n k : Int) => tcSec1 n k hm hML
  have hp : tcRest = .seq (fstC tcRest) (sndC tcRest) := rfl
  rw [hp]
  clear hp
  generalize sndC tcRest = cR at *
  unfold tcRest
  unfold ac3
  simp only [sndC, fstC]
  repeat (first | (refine step_ops ?_; (refine m_mov (by conv => lhs; whnf) ?_)) | refine seq_ops ?_)
  refine step_ops ?_
  refine m_draw (drawLongest_spec hm hML) rfl ⟨(0, 0), trivial⟩ (fun m => ⟨rfl, rfl⟩) ?_
  rintro ⟨n, k⟩ _
  dsimp only
  repeat (first | (refine step_ops ?_; (first | (refine m_mov (by conv => lhs; whnf) ?_) | (refine m_ext rfl rfl ?_))) | refine end_ops ?_)
  refine AW_weak (weak_st ?_ ?_ rfl rfl) (key n k)
  · (repeat' (first | exact trivial | refine And.intro ?_ ?_)) <;> (first | rfl | skip)
  · trivial
end Go.Proofs.Ytmckfjnbbfdepaa
namespace Go.Proofs.Ytmckfjnbbfdepaa
variable [Go.Am.CodeBlk]
open Go.Am
attribute [local irreducible] AW Outs Weak Lends Lend Sp aops atree aop1 Then Round InBlock Done
attribute [local irreducible] SpM DoneM SpH DoneH
def pA : List Int → Bool := fun _ => true
def pS : List Int → Bool := fun K => decide (K.getD 0 0 ≤ 2)
def qN : List Int → Int := fun K => ((K.length : Nat) : Int)
def qF : List Int → Int := fun K => K.getD 0 0
def qE : List Int → Int := fun K => K.getD (K.length - 1) 0
/-- What is done of two. -/
def cndC : ACode → ACode
  | .cond _ x _ => x
  | c => c
/-- The block of all types, and its loops. -/
def tcAll : ACode := fstC (sndC (sndC (sndC (sndC (sndC (sndC (sndC (sndC (sndC (sndC (sndC (sndC ac3))))))))))))
def tcOne : ACode := fstC (sndC (sndC (sndC (sndC (sndC (sndC (cndC (sndC tcAll))))))))
def tcTwo : ACode := sndC (sndC (sndC (sndC (sndC (sndC (sndC (cndC (sndC tcAll))))))))
/-- What is known of all types of so many guests. -/
structure TcF (G : Nat) (R : List (List Int)) (PQ : Nat × Nat) (w : Int) : Prop where
  g1 : 1 ≤ G
  g12 : G ≤ 12
  ty : ∀ K ∈ R, TyOk K
  len : R.length ≤ 77
  row : ∀ K ∈ R, K.sum = ((G : Nat) : Int) ∧ 1 ≤ K.length ∧ K.length ≤ G ∧ ∀ x ∈ K, 1 ≤ x ∧ x ≤ ((G : Nat) : Int)
  lex : ∀ k, k + 1 < R.length → lexL (R.getD (k + 1) []) (R.getD k []) = true
  all : tyS R pA R.length = w
  chs : chS R R.length * ((PQ.2 : Nat) : Int) = ((PQ.1 : Nat) : Int) * w
  pq : PQ.1 ≤ 1000000 ∧ 1 ≤ PQ.2 ∧ PQ.2 ≤ 1000000
  w1 : 1 ≤ w ∧ w ≤ 479001600
  cb : ∀ j, j ≤ G → cbTup ((G : Nat) : Int) ((j : Nat) : Int) = .tup [.i ((wL R qN G R.length).getD j 0), .b true]
  lo : ∀ j, 1 ≤ j → j ≤ G → loTup ((G : Nat) : Int) ((j : Nat) : Int) = .tup [.i ((wL R qF G R.length).getD j 0), .b true]
  cs : ∀ j, 1 ≤ j → j ≤ G → csTup ((G : Nat) : Int) ((j : Nat) : Int) = .tup [.i ((wL R qE G R.length).getD j 0), .b true]
  ml : ∀ j, 1 ≤ j → j ≤ G → mlTup ((G : Nat) : Int) ((j : Nat) : Int) = .tup [.i 1, .i ((j : Nat) : Int), .b true]
  off : ∀ j, 1 ≤ j → j ≤ G → (oL R G R.length 0).getD j 0 * ((j : Nat) : Int) = 1 * w
theorem tcFacts (G : Nat) (h1 : 1 ≤ G) (h12 : G ≤ 12) : TcF G (tyAll G G) (mcP G) (fac G) where
  g1 := h1
  g12 := h12
  ty := tyAll_ty h1 h12
  len := tyAll_len h12 h12
  row := fun K hK => of_decide_eq_true (List.all_eq_true.1 (tz_rows G (by omega) h1) K hK)
  lex := fun k hk => List.all_eq_true.1 (tz_lex G (by omega)) k (List.mem_range.2 (by omega))
  all := (tz_all G (by omega) h1).2.1
  chs := (tz_all G (by omega) h1).2.2
  pq := mcP_bd G (by omega)
  w1 := fac_le G (by omega)
  cb := fun j hj => by
    have h : CbOk ((G : Nat) : Int) ((j : Nat) : Int) := ⟨⟨by omega, by omega⟩, by omega, by omega⟩
    unfold cbTup cbR
    rw [if_pos h, decide_eq_true h, wL_get _ _ _ _ (by omega), Int.toNat_natCast]
    rfl
  lo := fun j hj1 hj => by
    have h : LoOk ((G : Nat) : Int) ((j : Nat) : Int) := ⟨⟨by omega, by omega⟩, by omega, by omega⟩
    unfold loTup loR
    rw [if_pos h, decide_eq_true h, wL_get _ _ _ _ (by omega), Int.toNat_natCast, longest_cnt G (by omega) h1 j (by omega) hj1]
    rfl
  cs := fun j hj1 hj => by
    have h : LoOk ((G : Nat) : Int) ((j : Nat) : Int) := ⟨⟨by omega, by omega⟩, by omega, by omega⟩
    unfold csTup csR
    rw [if_pos h, decide_eq_true h, wL_get _ _ _ _ (by omega), Int.toNat_natCast]
    rfl
  ml := fun j hj1 hj => by
    have h : LoOk ((G : Nat) : Int) ((j : Nat) : Int) := ⟨⟨by omega, by omega⟩, by omega, by omega⟩
    unfold mlTup mlR
    rw [if_pos h, decide_eq_true h]
  off := fun j hj1 hj => by
    rw [oL_get _ _ _ _ (by omega)]
    have := tz_of G (by omega) h1 j (by omega) hj1
    simpa [numI] using this
set_option maxHeartbeats 4000000 in
theorem tcRound (mv : Value) (G : Nat) (R : List (List Int)) (PQ : Nat × Nat) (w : Int) (F : TcF G R PQ w) (Q : Exit → AS → Prop)
    (hQ : ∀ s', Weak s' (st [(5, .i G), (1, .v mv), (6, roF R), (10, .i ((PQ.1 : Nat) : Int)), (11, .i ((PQ.2 : Nat) : Int)), (16, .i (tyS R pS R.length)), (20, .i (gtM R R.length)), (24, .i w), (25, .i (tyS R pA R.length)), (26, .i (chS R R.length)), (27, .i (tyS R pS R.length)), (28, .i (gtM R R.length)), (29, .sl 198 1 0 (G + 1)), (30, .sl 201 1 0 (G + 1)), (31, .sl 204 1 0 (G + 1)), (32, .sl 207 1 0 (G + 1))] [(198, (true, (wL R qN G R.length).map AV.i)), (201, (true, (wL R qF G R.length).map AV.i)), (204, (true, (wL R qE G R.length).map AV.i)), (207, (true, (oL R G R.length 0).map AV.i))]) → Q .normal s') :
    AW Try.prog (min Try.f3.ntmps pbase) (sndC tcOne) (st [(5, .i G), (1, .v mv), (6, roF R), (10, .i ((PQ.1 : Nat) : Int)), (11, .i ((PQ.2 : Nat) : Int)), (16, .i (tyS R pS R.length)), (20, .i (gtM R R.length)), (24, .i w), (25, .i (tyS R pA 0)), (26, .i (chS R 0)), (27, .i (tyS R pS 0)), (28, .i (gtM R 0)), (29, .sl 198 1 0 (G + 1)), (30, .sl 201 1 0 (G + 1)), (31, .sl 204 1 0 (G + 1)), (32, .sl 207 1 0 (G + 1)), (208, roF R), (209, .i R.length), (210, .i ((0 : Nat) : Int))] [(198, (true, (wL R qN G 0).map AV.i)), (201, (true, (wL R qF G 0).map AV.i)), (204, (true, (wL R qE G 0).map AV.i)), (207, (true, (oL R G 0 0).map AV.i))]) Q := by
  have hty := F.ty
  have hlen := F.len
  have g1 := F.g1
  have g12 := F.g12
  unfold tcOne tcAll
  unfold ac3
  simp only [sndC, fstC, cndC]
  repeat refine AW_block ?_
  refine AW_loop (α := Nat) (fun kk => kk ≤ R.length) (fun kk => st [(5, .i G), (1, .v mv), (6, roF R), (10, .i ((PQ.1 : Nat) : Int)), (11, .i ((PQ.2 : Nat) : Int)), (16, .i (tyS R pS R.length)), (20, .i (gtM R R.length)), (24, .i w), (25, .i (tyS R pA kk)), (26, .i (chS R kk)), (27, .i (tyS R pS kk)), (28, .i (gtM R kk)), (29, .sl 198 1 0 (G + 1)), (30, .sl 201 1 0 (G + 1)), (31, .sl 204 1 0 (G + 1)), (32, .sl 207 1 0 (G + 1)), (208, roF R), (209, .i R.length), (210, .i ((kk : Nat) : Int))] [(198, (true, (wL R qN G kk).map AV.i)), (201, (true, (wL R qF G kk).map AV.i)), (204, (true, (wL R qE G kk).map AV.i)), (207, (true, (oL R G kk 0).map AV.i))]) (fun kk => R.length - kk) 0 (Nat.zero_le _) (Weak.refl _) ?_
  intro kk hk
  by_cases hc : kk < R.length
  · obtain ⟨row, hrw⟩ : ∃ row, row = R.getD kk [] := ⟨_, rfl⟩
    have hmem : row ∈ R := by rw [hrw]; exact getD_memL hc
    have hok := hty row hmem
    have hr := F.row row hmem
    have hl12 := hok.2.1
    have hsum := hr.1
    have hr1 := hr.2.1
    have hr2 := hr.2.2.1
    have hnat : ∀ i, i < row.length → ∃ c : Nat, row.getD i 0 = ((c : Nat) : Int) ∧ c < G + 1 := fun i hi => by
      have h := hr.2.2.2 _ (getD_mem hi)
      obtain ⟨c, hc⟩ := Int.eq_ofNat_of_zero_le (show 0 ≤ row.getD i 0 by omega)
      exact ⟨c, hc, by omega⟩
    obtain ⟨a, ha, ha1⟩ := hnat 0 (by omega)
    obtain ⟨e, he, he1⟩ := hnat (row.length - 1) (by omega)
    have he2 : row.getD (Int.toNat (((row.length : Nat) : Int) - 1) * 1) 0 = ((e : Nat) : Int) := by
      rw [show Int.toNat (((row.length : Nat) : Int) - 1) * 1 = row.length - 1 by omega, he]
    obtain ⟨b, hb0⟩ : ∃ b, b = tyCnt row := ⟨_, rfl⟩
    have hbb := tyCnt_bd hok
    have hbc := chT_bd hok
    have c15 := implCountType_spec row (by omega)
    have c16 := implTimesOfType_spec row (by omega)
    have c17 := oSum_spec row hl12 hok.2.2.1
    unfold ctTup ctR at c15
    rw [if_pos hok, decide_eq_true hok, ← hb0] at c15
    unfold toTup toR at c16
    rw [if_pos hok, decide_eq_true hok] at c16
    rw [hsum] at c17
    rw [← hb0] at hbb hbc
    have wN := wL_set (R := R) (q := qN) (g := G) (k := kk) (a := row.length) (by rw [← hrw]; rfl) (by omega)
    have wF := wL_set (R := R) (q := qF) (g := G) (k := kk) (a := a) (by rw [← hrw]; exact ha) ha1
    have wE := wL_set (R := R) (q := qE) (g := G) (k := kk) (a := e) (by rw [← hrw]; exact he) he1
    rw [← hrw, ← hb0] at wN wF wE
    have bN := wL_bd hty qN hk (show row.length < G + 1 by omega)
    have bF := wL_bd hty qF hk ha1
    have bE := wL_bd hty qE hk he1
    have lN := wL_len R qN G kk
    have lF := wL_len R qF G kk
    have lE := wL_len R qE G kk
    have sA : tyS R pA (kk + 1) = tyS R pA kk + b := by
      show tyS R pA kk + (if pA (R.getD kk []) = true then tyCnt (R.getD kk []) else 0) = _
      rw [← hrw, ← hb0, if_pos (show pA row = true from rfl)]
    have sC : chS R (kk + 1) = chS R kk + b * ((row.length : Nat) : Int) := by
      show chS R kk + tyCnt (R.getD kk []) * ((R.getD kk []).length : Nat) = _
      rw [← hrw, ← hb0]
    have bA := tyS_bd hty pA kk hk
    have bS := tyS_bd hty pS kk hk
    have bC := chS_bd hty kk hk
    obtain ⟨lc, hlc⟩ : ∃ lc, lc = lcT row row.length := ⟨_, rfl⟩
    rw [← hlc] at c16
    have sG : gtM R (kk + 1) = max (gtM R kk) ((lc : Nat) : Int) := by
      show max (gtM R kk) (lcT (R.getD kk []) (R.getD kk []).length : Nat) = _
      rw [← hrw, ← hlc]
    repeat (first | (refine step_ops ?_; (first | (refine m_mov (by conv => lhs; whnf) ?_) | (refine m_lss rfl rfl ?_) | (refine m_idx1_ro rfl rfl ?_ ?_; (· omega)))) | refine end_ops ?_ | refine seq_ops ?_ | (refine cond_t rfl ?_ ?_; (· first | rfl | assumption | (refine decide_eq_true ?_; first | assumption | omega) | (refine nt ?_; first | assumption | omega) | (simp [*]; done))) | refine skip_then ?_ | refine AW_seq ?_ | refine AW_block ?_)
    refine step_ops ?_
    refine m_ld_rp rfl (rowT_at hc) ?_
    rw [← hrw]
    repeat (first | (refine step_ops ?_; (refine m_mov (by conv => lhs; whnf) ?_)) | refine end_ops ?_ | refine seq_ops ?_)
    refine step_ops ?_; (apply m_call (c15)); (· repeat (first | exact lends_nil | (refine lends_cons ?_ ?_; (· (refine lend_ints ?_; first | rfl | omega)))))
    repeat (first | (refine step_ops ?_; (first | (refine m_mov (by conv => lhs; whnf) ?_) | (refine m_ext rfl rfl ?_))) | refine end_ops ?_ | refine seq_ops ?_)
    refine step_ops ?_; (apply m_call (c16)); (· repeat (first | exact lends_nil | (refine lends_cons ?_ ?_; (· (refine lend_ints ?_; first | rfl | omega)))))
    repeat (first | (refine step_ops ?_; ((try (refine g_yes rfl ?_ ?_; (· first | rfl | assumption | (refine decide_eq_true ?_; first | assumption | omega) | (refine nt ?_; first | assumption | omega) | (simp [*]; done) | (refine decide_eq_false ?_; first | assumption | omega) | (refine nf ?_; first | assumption | omega)))); (first | (refine m_mov (by conv => lhs; whnf) ?_) | (refine m_not rfl ?_) | (refine m_pick_f rfl ?_ (by conv => lhs; whnf) ?_; (· first | rfl | assumption | (refine decide_eq_false ?_; first | assumption | omega) | (refine nf ?_; first | assumption | omega) | (simp [*]; done))) | (refine m_ext rfl rfl ?_)))) | refine end_ops ?_ | refine seq_ops ?_ | refine AW_seq ?_)
    refine step_ops ?_; (refine g_yes rfl ?_ ?_; (· first | (first | rfl | assumption | (refine decide_eq_true ?_; first | assumption | omega) | (refine nt ?_; first | assumption | omega) | (simp [*]; done)) | (first | rfl | assumption | (refine decide_eq_false ?_; first | assumption | omega) | (refine nf ?_; first | assumption | omega) | (simp [*]; done))); (apply m_call (c17))); (· repeat (first | exact lends_nil | (refine lends_cons ?_ ?_; (· (refine lend_ints ?_; first | rfl | omega)))))
    by_cases hk0 : kk = 0
    · repeat (first | (refine step_ops ?_; (first | ((try (refine g_yes rfl ?_ ?_; (· first | rfl | assumption | (refine decide_eq_true ?_; first | assumption | omega) | (refine nt ?_; first | assumption | omega) | (simp [*]; done) | (refine decide_eq_false ?_; first | assumption | omega) | (refine nf ?_; first | assumption | omega)))); (first | (refine m_mov (by conv => lhs; whnf) ?_) | (refine m_gtr rfl rfl ?_) | (refine m_neq rfl rfl ?_) | (refine m_add rfl rfl ?_ ?_ ?_; (· omega); (· omega)) | (refine m_sub rfl rfl ?_ ?_ ?_; (· omega); (· omega)) | (refine m_mul rfl rfl ?_ ?_ ?_; (· first | omega | (simp; done)); (· first | omega | (simp; done))) | (refine m_len_ro rfl ?_) | (refine m_idx1_sl rfl rfl ?_ ?_; (· omega)) | (apply m_idx1_slj; (· rfl); (· rfl); (· assumption); (· omega)) | (refine m_idx_ro rfl rfl ?_ ?_ ?_; (· omega); (· omega)) | (refine m_ld_rpi rfl ?_ ?_; (· omega)) | (refine m_ld_pti rfl (by rfl) ?_ ?_; (· first | omega | (simp; omega))) | (apply m_st; (· rfl); (· rfl); (· rfl); (· first | omega | (simp; done) | (simp; omega)); (· rfl)) | (refine m_pick_f rfl ?_ (by conv => lhs; whnf) ?_; (· first | rfl | assumption | (refine decide_eq_false ?_; first | assumption | omega) | (refine nf ?_; first | assumption | omega) | (simp [*]; done))))) | (refine g_noT rfl ?_ ?_; (· first | rfl | assumption | (refine decide_eq_false ?_; first | assumption | omega) | (refine nf ?_; first | assumption | omega) | (simp [*]; done))))) | refine end_ops ?_ | refine seq_ops ?_ | (refine cond_f rfl ?_ ?_; (· first | rfl | assumption | (refine decide_eq_false ?_; first | assumption | omega) | (refine nf ?_; first | assumption | omega) | (simp [*]; done))) | refine skip_then ?_ | refine AW_seq ?_ | refine AW_block ?_)
      refine AW_loop (α := Nat) (fun i => i ≤ row.length) (fun i => st [(5, .i G), (1, .v mv), (6, roF R), (10, .i ((PQ.1 : Nat) : Int)), (11, .i ((PQ.2 : Nat) : Int)), (16, .i (tyS R pS R.length)), (20, .i (gtM R R.length)), (24, .i w), (25, .i (tyS R pA (kk + 1))), (26, .i (chS R (kk + 1))), (27, .i (tyS R pS kk)), (28, .i (gtM R kk)), (29, .sl 198 1 0 (G + 1)), (30, .sl 201 1 0 (G + 1)), (31, .sl 204 1 0 (G + 1)), (32, .sl 207 1 0 (G + 1)), (208, roF R), (209, .i R.length), (210, .i ((kk : Nat) : Int)), (34, newInts row), (35, .i b), (37, .i ((lc : Nat) : Int)), (289, newInts row), (290, .i row.length), (291, .i ((i : Nat) : Int))] [(198, (true, (wL R qN G (kk + 1)).map AV.i)), (201, (true, (wL R qF G (kk + 1)).map AV.i)), (204, (true, (wL R qE G (kk + 1)).map AV.i)), (207, (true, (oL R G kk i).map AV.i))]) (fun i => row.length - i) 0 (Nat.zero_le _) (weak_st ?_ ?_ rfl rfl) ?_
      · rw [sA, sC]
        (repeat' (first | exact trivial | refine And.intro ?_ ?_)) <;> (first | rfl | skip)
      · refine ⟨?_, ?_, ?_, rfl, trivial⟩
        · rw [← wN, List.map_set]; rfl
        · rw [← wF, List.map_set]; rfl
        · rw [← wE, List.map_set]; rfl
      intro i hi
      by_cases hci : i < row.length
      · obtain ⟨c, hce, hc1⟩ := hnat i hci
        have hob := oL_bd hty hc hlen (show i ≤ (R.getD kk []).length by rw [← hrw]; omega) hc1
        have hos := oL_set (R := R) (g := G) (k := kk) (i := i) (a := c) (by rw [← hrw]; exact hce) hc1
        have hol := oL_len R G kk i
        rw [← hrw, ← hb0] at hos
        repeat (first | (refine step_ops ?_; (first | (refine m_mov (by conv => lhs; whnf) ?_) | (refine m_lss rfl rfl ?_) | (refine m_add rfl rfl ?_ ?_ ?_; (· omega); (· omega)) | (refine m_idx1_ro rfl rfl ?_ ?_; (· omega)) | (apply m_idx1_slj; (· rfl); (· rfl); (· assumption); (· omega)) | (refine m_ld_rpi rfl ?_ ?_; (· omega)) | (refine m_ld_pti rfl (by rfl) ?_ ?_; (· first | omega | (simp; omega))) | (apply m_st; (· rfl); (· rfl); (· rfl); (· first | omega | (simp; done) | (simp; omega)); (· rfl)))) | refine end_ops ?_ | refine seq_ops ?_ | refine AW_ops ?_ | (refine cond_t rfl ?_ ?_; (· first | rfl | assumption | (refine decide_eq_true ?_; first | assumption | omega) | (refine nt ?_; first | assumption | omega) | (simp [*]; done))) | refine skip_then ?_ | refine AW_seq ?_ | refine norm_then ?_ | refine AW_block ?_ | refine norm_block ?_)
        refine next_round (i + 1) (by omega) (weak_st ?_ ?_ rfl rfl) ?_
        · (repeat' (first | exact trivial | refine And.intro ?_ ?_)) <;> (first | rfl | skip)
        · refine ⟨rfl, rfl, rfl, ?_, trivial⟩
          rw [← hos, List.map_set]; rfl
        · omega
      · obtain rfl : i = row.length := by omega
        have hnx := oL_next R G kk
        rw [← hrw] at hnx
        rw [hnx]
        by_cases hsm : row.getD 0 0 ≤ 2
        · have sS : tyS R pS (kk + 1) = tyS R pS kk + b := by
            show tyS R pS kk + (if pS (R.getD kk []) = true then tyCnt (R.getD kk []) else 0) = _
            rw [← hrw, ← hb0, if_pos (show pS row = true from decide_eq_true hsm)]
          by_cases hgt : ((lc : Nat) : Int) > gtM R kk
          · rw [show max (gtM R kk) ((lc : Nat) : Int) = ((lc : Nat) : Int) by omega] at sG
            repeat (first | (refine step_ops ?_; (first | (refine m_mov (by conv => lhs; whnf) ?_) | (refine m_lss rfl rfl ?_) | (refine m_leq rfl rfl ?_) | (refine m_gtr rfl rfl ?_) | (refine m_add rfl rfl ?_ ?_ ?_; (· omega); (· omega)) | (refine m_idx_ro rfl rfl ?_ ?_ ?_; (· omega); (· omega)) | (refine m_ld_rpi rfl ?_ ?_; (· omega)))) | refine end_ops ?_ | refine seq_ops ?_ | refine AW_ops ?_ | (refine cond_t rfl ?_ ?_; (· first | rfl | assumption | (refine decide_eq_true ?_; first | assumption | omega) | (refine nt ?_; first | assumption | omega) | (simp [*]; done))) | (refine cond_f rfl ?_ ?_; (· first | rfl | assumption | (refine decide_eq_false ?_; first | assumption | omega) | (refine nf ?_; first | assumption | omega) | (simp [*]; done))) | refine AW_seq ?_ | refine norm_then ?_ | refine exit_then ?_ | refine norm_block ?_ | refine exit_round ?_ | refine AW_exit ?_ | refine exit_block ?_)
            refine next_round (kk + 1) (by omega) (weak_st ?_ ?_ rfl rfl) ?_
            · rw [sS, sG]
              (repeat' (first | exact trivial | refine And.intro ?_ ?_)) <;> (first | rfl | skip)
            · exact ⟨rfl, rfl, rfl, rfl, trivial⟩
            · omega
          · rw [show max (gtM R kk) ((lc : Nat) : Int) = gtM R kk by omega] at sG
            repeat (first | (refine step_ops ?_; (first | (refine m_mov (by conv => lhs; whnf) ?_) | (refine m_lss rfl rfl ?_) | (refine m_leq rfl rfl ?_) | (refine m_gtr rfl rfl ?_) | (refine m_add rfl rfl ?_ ?_ ?_; (· omega); (· omega)) | (refine m_idx_ro rfl rfl ?_ ?_ ?_; (· omega); (· omega)) | (refine m_ld_rpi rfl ?_ ?_; (· omega)))) | refine end_ops ?_ | refine seq_ops ?_ | refine AW_ops ?_ | (refine cond_t rfl ?_ ?_; (· first | rfl | assumption | (refine decide_eq_true ?_; first | assumption | omega) | (refine nt ?_; first | assumption | omega) | (simp [*]; done))) | (refine cond_f rfl ?_ ?_; (· first | rfl | assumption | (refine decide_eq_false ?_; first | assumption | omega) | (refine nf ?_; first | assumption | omega) | (simp [*]; done))) | refine AW_seq ?_ | refine norm_then ?_ | refine exit_then ?_ | refine norm_block ?_ | refine exit_round ?_ | refine AW_exit ?_ | refine exit_block ?_ | refine AW_skip ?_)
            refine next_round (kk + 1) (by omega) (weak_st ?_ ?_ rfl rfl) ?_
            · rw [sS, sG]
              (repeat' (first | exact trivial | refine And.intro ?_ ?_)) <;> (first | rfl | skip)
            · exact ⟨rfl, rfl, rfl, rfl, trivial⟩
            · omega
        · have sS : tyS R pS (kk + 1) = tyS R pS kk := by
            show tyS R pS kk + (if pS (R.getD kk []) = true then tyCnt (R.getD kk []) else 0) = _
            rw [← hrw, if_neg (show ¬ pS row = true from fun h => hsm (of_decide_eq_true h)), Int.add_zero]
          by_cases hgt : ((lc : Nat) : Int) > gtM R kk
          · rw [show max (gtM R kk) ((lc : Nat) : Int) = ((lc : Nat) : Int) by omega] at sG
            repeat (first | (refine step_ops ?_; (first | (refine m_mov (by conv => lhs; whnf) ?_) | (refine m_lss rfl rfl ?_) | (refine m_leq rfl rfl ?_) | (refine m_gtr rfl rfl ?_) | (refine m_add rfl rfl ?_ ?_ ?_; (· omega); (· omega)) | (refine m_idx_ro rfl rfl ?_ ?_ ?_; (· omega); (· omega)) | (refine m_ld_rpi rfl ?_ ?_; (· omega)))) | refine end_ops ?_ | refine seq_ops ?_ | refine AW_ops ?_ | (refine cond_t rfl ?_ ?_; (· first | rfl | assumption | (refine decide_eq_true ?_; first | assumption | omega) | (refine nt ?_; first | assumption | omega) | (simp [*]; done))) | (refine cond_f rfl ?_ ?_; (· first | rfl | assumption | (refine decide_eq_false ?_; first | assumption | omega) | (refine nf ?_; first | assumption | omega) | (simp [*]; done))) | refine skip_then ?_ | refine AW_seq ?_ | refine norm_then ?_ | refine exit_then ?_ | refine norm_block ?_ | refine exit_round ?_ | refine AW_exit ?_ | refine exit_block ?_)
            refine next_round (kk + 1) (by omega) (weak_st ?_ ?_ rfl rfl) ?_
            · rw [sS, sG]
              (repeat' (first | exact trivial | refine And.intro ?_ ?_)) <;> (first | rfl | skip)
            · exact ⟨rfl, rfl, rfl, rfl, trivial⟩
            · omega
          · rw [show max (gtM R kk) ((lc : Nat) : Int) = gtM R kk by omega] at sG
            repeat (first | (refine step_ops ?_; (first | (refine m_mov (by conv => lhs; whnf) ?_) | (refine m_lss rfl rfl ?_) | (refine m_leq rfl rfl ?_) | (refine m_gtr rfl rfl ?_) | (refine m_add rfl rfl ?_ ?_ ?_; (· omega); (· omega)) | (refine m_idx_ro rfl rfl ?_ ?_ ?_; (· omega); (· omega)) | (refine m_ld_rpi rfl ?_ ?_; (· omega)))) | refine end_ops ?_ | refine seq_ops ?_ | refine AW_ops ?_ | (refine cond_f rfl ?_ ?_; (· first | rfl | assumption | (refine decide_eq_false ?_; first | assumption | omega) | (refine nf ?_; first | assumption | omega) | (simp [*]; done))) | refine skip_then ?_ | refine AW_seq ?_ | refine norm_then ?_ | refine exit_then ?_ | refine norm_block ?_ | refine exit_round ?_ | refine AW_exit ?_ | refine exit_block ?_ | refine AW_skip ?_)
            refine next_round (kk + 1) (by omega) (weak_st ?_ ?_ rfl rfl) ?_
            · rw [sS, sG]
              (repeat' (first | exact trivial | refine And.intro ?_ ?_)) <;> (first | rfl | skip)
            · exact ⟨rfl, rfl, rfl, rfl, trivial⟩
            · omega
    · have hrw2 : ((R.map newInts).drop (Int.toNat (((kk : Nat) : Int) - 1) * 1))[0]? = some (newInts (R.getD (kk - 1) [])) := by
        rw [show Int.toNat (((kk : Nat) : Int) - 1) * 1 = kk - 1 by omega]
        exact rowT_at (by omega)
      have hlx := F.lex (kk - 1) (by omega)
      rw [show kk - 1 + 1 = kk by omega, ← hrw] at hlx
      have hok2 := hty _ (getD_memL (show kk - 1 < R.length by omega) : R.getD (kk - 1) [] ∈ R)
      have c18 := oLess_spec row (R.getD (kk - 1) []) hl12 hok2.2.1
      rw [hlx] at c18
      repeat (refine step_ops ?_; ((try (refine g_yes rfl ?_ ?_; (· first | rfl | assumption | (refine decide_eq_true ?_; first | assumption | omega) | (refine nt ?_; first | assumption | omega) | (simp [*]; done) | (refine decide_eq_false ?_; first | assumption | omega) | (refine nf ?_; first | assumption | omega)))); (first | (refine m_mov (by conv => lhs; whnf) ?_) | (refine m_gtr rfl rfl ?_) | (refine m_neq rfl rfl ?_) | (refine m_sub rfl rfl ?_ ?_ ?_; (· omega); (· omega)) | (refine m_idx_ro rfl rfl ?_ ?_ ?_; (· omega); (· omega)) | (refine m_pick_f rfl ?_ (by conv => lhs; whnf) ?_; (· first | rfl | assumption | (refine decide_eq_false ?_; first | assumption | omega) | (refine nf ?_; first | assumption | omega) | (simp [*]; done))))))
      refine step_ops ?_
      refine g_yes rfl (decide_eq_true (by omega)) ?_
      refine m_ld_rp rfl hrw2 ?_
      skip
      refine step_ops ?_; (refine g_yes rfl ?_ ?_; (· first | (first | rfl | assumption | (refine decide_eq_true ?_; first | assumption | omega) | (refine nt ?_; first | assumption | omega) | (simp [*]; done)) | (first | rfl | assumption | (refine decide_eq_false ?_; first | assumption | omega) | (refine nf ?_; first | assumption | omega) | (simp [*]; done))); (apply m_call (c18))); (· repeat (first | exact lends_nil | (refine lends_cons ?_ ?_; (· (refine lend_ints ?_; first | rfl | omega)))))
      repeat (first | (refine step_ops ?_; ((try (refine g_yes rfl ?_ ?_; (· first | rfl | assumption | (refine decide_eq_true ?_; first | assumption | omega) | (refine nt ?_; first | assumption | omega) | (simp [*]; done) | (refine decide_eq_false ?_; first | assumption | omega) | (refine nf ?_; first | assumption | omega)))); (first | (refine m_mov (by conv => lhs; whnf) ?_) | (refine m_add rfl rfl ?_ ?_ ?_; (· omega); (· omega)) | (refine m_sub rfl rfl ?_ ?_ ?_; (· omega); (· omega)) | (refine m_mul rfl rfl ?_ ?_ ?_; (· first | omega | (simp; done)); (· first | omega | (simp; done))) | (refine m_not rfl ?_) | (refine m_len_ro rfl ?_) | (refine m_idx1_sl rfl rfl ?_ ?_; (· omega)) | (apply m_idx1_slj; (· rfl); (· rfl); (· assumption); (· omega)) | (refine m_idx_ro rfl rfl ?_ ?_ ?_; (· omega); (· omega)) | (refine m_ld_rpi rfl ?_ ?_; (· omega)) | (refine m_ld_pti rfl (by rfl) ?_ ?_; (· first | omega | (simp; omega))) | (apply m_st; (· rfl); (· rfl); (· rfl); (· first | omega | (simp; done) | (simp; omega)); (· rfl)) | (refine m_pick_t rfl ?_ (by conv => lhs; whnf) ?_; (· first | rfl | assumption | (refine decide_eq_true ?_; first | assumption | omega) | (refine nt ?_; first | assumption | omega) | (simp [*]; done))) | (refine m_pick_f rfl ?_ (by conv => lhs; whnf) ?_; (· first | rfl | assumption | (refine decide_eq_false ?_; first | assumption | omega) | (refine nf ?_; first | assumption | omega) | (simp [*]; done)))))) | refine end_ops ?_ | refine seq_ops ?_ | (refine cond_f rfl ?_ ?_; (· first | rfl | assumption | (refine decide_eq_false ?_; first | assumption | omega) | (refine nf ?_; first | assumption | omega) | (simp [*]; done))) | refine skip_then ?_ | refine AW_seq ?_ | refine AW_block ?_)
      refine AW_loop (α := Nat) (fun i => i ≤ row.length) (fun i => st [(5, .i G), (1, .v mv), (6, roF R), (10, .i ((PQ.1 : Nat) : Int)), (11, .i ((PQ.2 : Nat) : Int)), (16, .i (tyS R pS R.length)), (20, .i (gtM R R.length)), (24, .i w), (25, .i (tyS R pA (kk + 1))), (26, .i (chS R (kk + 1))), (27, .i (tyS R pS kk)), (28, .i (gtM R kk)), (29, .sl 198 1 0 (G + 1)), (30, .sl 201 1 0 (G + 1)), (31, .sl 204 1 0 (G + 1)), (32, .sl 207 1 0 (G + 1)), (208, roF R), (209, .i R.length), (210, .i ((kk : Nat) : Int)), (34, newInts row), (35, .i b), (37, .i ((lc : Nat) : Int)), (289, newInts row), (290, .i row.length), (291, .i ((i : Nat) : Int))] [(198, (true, (wL R qN G (kk + 1)).map AV.i)), (201, (true, (wL R qF G (kk + 1)).map AV.i)), (204, (true, (wL R qE G (kk + 1)).map AV.i)), (207, (true, (oL R G kk i).map AV.i))]) (fun i => row.length - i) 0 (Nat.zero_le _) (weak_st ?_ ?_ rfl rfl) ?_
      · rw [sA, sC]
        (repeat' (first | exact trivial | refine And.intro ?_ ?_)) <;> (first | rfl | skip)
      · refine ⟨?_, ?_, ?_, rfl, trivial⟩
        · rw [← wN, List.map_set]; rfl
        · rw [← wF, List.map_set]; rfl
        · rw [← wE, List.map_set]; rfl
      intro i hi
      by_cases hci : i < row.length
      · obtain ⟨c, hce, hc1⟩ := hnat i hci
        have hob := oL_bd hty hc hlen (show i ≤ (R.getD kk []).length by rw [← hrw]; omega) hc1
        have hos := oL_set (R := R) (g := G) (k := kk) (i := i) (a := c) (by rw [← hrw]; exact hce) hc1
        have hol := oL_len R G kk i
        rw [← hrw, ← hb0] at hos
        repeat (first | (refine step_ops ?_; (first | (refine m_mov (by conv => lhs; whnf) ?_) | (refine m_lss rfl rfl ?_) | (refine m_add rfl rfl ?_ ?_ ?_; (· omega); (· omega)) | (refine m_idx1_ro rfl rfl ?_ ?_; (· omega)) | (apply m_idx1_slj; (· rfl); (· rfl); (· assumption); (· omega)) | (refine m_ld_rpi rfl ?_ ?_; (· omega)) | (refine m_ld_pti rfl (by rfl) ?_ ?_; (· first | omega | (simp; omega))) | (apply m_st; (· rfl); (· rfl); (· rfl); (· first | omega | (simp; done) | (simp; omega)); (· rfl)))) | refine end_ops ?_ | refine seq_ops ?_ | refine AW_ops ?_ | (refine cond_t rfl ?_ ?_; (· first | rfl | assumption | (refine decide_eq_true ?_; first | assumption | omega) | (refine nt ?_; first | assumption | omega) | (simp [*]; done))) | refine skip_then ?_ | refine AW_seq ?_ | refine norm_then ?_ | refine AW_block ?_ | refine norm_block ?_)
        refine next_round (i + 1) (by omega) (weak_st ?_ ?_ rfl rfl) ?_
        · (repeat' (first | exact trivial | refine And.intro ?_ ?_)) <;> (first | rfl | skip)
        · refine ⟨rfl, rfl, rfl, ?_, trivial⟩
          rw [← hos, List.map_set]; rfl
        · omega
      · obtain rfl : i = row.length := by omega
        have hnx := oL_next R G kk
        rw [← hrw] at hnx
        rw [hnx]
        by_cases hsm : row.getD 0 0 ≤ 2
        · have sS : tyS R pS (kk + 1) = tyS R pS kk + b := by
            show tyS R pS kk + (if pS (R.getD kk []) = true then tyCnt (R.getD kk []) else 0) = _
            rw [← hrw, ← hb0, if_pos (show pS row = true from decide_eq_true hsm)]
          by_cases hgt : ((lc : Nat) : Int) > gtM R kk
          · rw [show max (gtM R kk) ((lc : Nat) : Int) = ((lc : Nat) : Int) by omega] at sG
            repeat (first | (refine step_ops ?_; (first | (refine m_mov (by conv => lhs; whnf) ?_) | (refine m_lss rfl rfl ?_) | (refine m_leq rfl rfl ?_) | (refine m_gtr rfl rfl ?_) | (refine m_add rfl rfl ?_ ?_ ?_; (· omega); (· omega)) | (refine m_idx_ro rfl rfl ?_ ?_ ?_; (· omega); (· omega)) | (refine m_ld_rpi rfl ?_ ?_; (· omega)))) | refine end_ops ?_ | refine seq_ops ?_ | refine AW_ops ?_ | (refine cond_t rfl ?_ ?_; (· first | rfl | assumption | (refine decide_eq_true ?_; first | assumption | omega) | (refine nt ?_; first | assumption | omega) | (simp [*]; done))) | (refine cond_f rfl ?_ ?_; (· first | rfl | assumption | (refine decide_eq_false ?_; first | assumption | omega) | (refine nf ?_; first | assumption | omega) | (simp [*]; done))) | refine AW_seq ?_ | refine norm_then ?_ | refine exit_then ?_ | refine norm_block ?_ | refine exit_round ?_ | refine AW_exit ?_ | refine exit_block ?_)
            refine next_round (kk + 1) (by omega) (weak_st ?_ ?_ rfl rfl) ?_
            · rw [sS, sG]
              (repeat' (first | exact trivial | refine And.intro ?_ ?_)) <;> (first | rfl | skip)
            · exact ⟨rfl, rfl, rfl, rfl, trivial⟩
            · omega
          · rw [show max (gtM R kk) ((lc : Nat) : Int) = gtM R kk by omega] at sG
            repeat (first | (refine step_ops ?_; (first | (refine m_mov (by conv => lhs; whnf) ?_) | (refine m_lss rfl rfl ?_) | (refine m_leq rfl rfl ?_) | (refine m_gtr rfl rfl ?_) | (refine m_add rfl rfl ?_ ?_ ?_; (· omega); (· omega)) | (refine m_idx_ro rfl rfl ?_ ?_ ?_; (· omega); (· omega)) | (refine m_ld_rpi rfl ?_ ?_; (· omega)))) | refine end_ops ?_ | refine seq_ops ?_ | refine AW_ops ?_ | (refine cond_t rfl ?_ ?_; (· first | rfl | assumption | (refine decide_eq_true ?_; first | assumption | omega) | (refine nt ?_; first | assumption | omega) | (simp [*]; done))) | (refine cond_f rfl ?_ ?_; (· first | rfl | assumption | (refine decide_eq_false ?_; first | assumption | omega) | (refine nf ?_; first | assumption | omega) | (simp [*]; done))) | refine AW_seq ?_ | refine norm_then ?_ | refine exit_then ?_ | refine norm_block ?_ | refine exit_round ?_ | refine AW_exit ?_ | refine exit_block ?_ | refine AW_skip ?_)
            refine next_round (kk + 1) (by omega) (weak_st ?_ ?_ rfl rfl) ?_
            · rw [sS, sG]
              (repeat' (first | exact trivial | refine And.intro ?_ ?_)) <;> (first | rfl | skip)
            · exact ⟨rfl, rfl, rfl, rfl, trivial⟩
            · omega
        · have sS : tyS R pS (kk + 1) = tyS R pS kk := by
            show tyS R pS kk + (if pS (R.getD kk []) = true then tyCnt (R.getD kk []) else 0) = _
            rw [← hrw, if_neg (show ¬ pS row = true from fun h => hsm (of_decide_eq_true h)), Int.add_zero]
          by_cases hgt : ((lc : Nat) : Int) > gtM R kk
          · rw [show max (gtM R kk) ((lc : Nat) : Int) = ((lc : Nat) : Int) by omega] at sG
            repeat (first | (refine step_ops ?_; (first | (refine m_mov (by conv => lhs; whnf) ?_) | (refine m_lss rfl rfl ?_) | (refine m_leq rfl rfl ?_) | (refine m_gtr rfl rfl ?_) | (refine m_add rfl rfl ?_ ?_ ?_; (· omega); (· omega)) | (refine m_idx_ro rfl rfl ?_ ?_ ?_; (· omega); (· omega)) | (refine m_ld_rpi rfl ?_ ?_; (· omega)))) | refine end_ops ?_ | refine seq_ops ?_ | refine AW_ops ?_ | (refine cond_t rfl ?_ ?_; (· first | rfl | assumption | (refine decide_eq_true ?_; first | assumption | omega) | (refine nt ?_; first | assumption | omega) | (simp [*]; done))) | (refine cond_f rfl ?_ ?_; (· first | rfl | assumption | (refine decide_eq_false ?_; first | assumption | omega) | (refine nf ?_; first | assumption | omega) | (simp [*]; done))) | refine skip_then ?_ | refine AW_seq ?_ | refine norm_then ?_ | refine exit_then ?_ | refine norm_block ?_ | refine exit_round ?_ | refine AW_exit ?_ | refine exit_block ?_)
            refine next_round (kk + 1) (by omega) (weak_st ?_ ?_ rfl rfl) ?_
            · rw [sS, sG]
              (repeat' (first | exact trivial | refine And.intro ?_ ?_)) <;> (first | rfl | skip)
            · exact ⟨rfl, rfl, rfl, rfl, trivial⟩
            · omega
          · rw [show max (gtM R kk) ((lc : Nat) : Int) = gtM R kk by omega] at sG
            repeat (first | (refine step_ops ?_; (first | (refine m_mov (by conv => lhs; whnf) ?_) | (refine m_lss rfl rfl ?_) | (refine m_leq rfl rfl ?_) | (refine m_gtr rfl rfl ?_) | (refine m_add rfl rfl ?_ ?_ ?_; (· omega); (· omega)) | (refine m_idx_ro rfl rfl ?_ ?_ ?_; (· omega); (· omega)) | (refine m_ld_rpi rfl ?_ ?_; (· omega)))) | refine end_ops ?_ | refine seq_ops ?_ | refine AW_ops ?_ | (refine cond_f rfl ?_ ?_; (· first | rfl | assumption | (refine decide_eq_false ?_; first | assumption | omega) | (refine nf ?_; first | assumption | omega) | (simp [*]; done))) | refine skip_then ?_ | refine AW_seq ?_ | refine norm_then ?_ | refine exit_then ?_ | refine norm_block ?_ | refine exit_round ?_ | refine AW_exit ?_ | refine exit_block ?_ | refine AW_skip ?_)
            refine next_round (kk + 1) (by omega) (weak_st ?_ ?_ rfl rfl) ?_
            · rw [sS, sG]
              (repeat' (first | exact trivial | refine And.intro ?_ ?_)) <;> (first | rfl | skip)
            · exact ⟨rfl, rfl, rfl, rfl, trivial⟩
            · omega
  · obtain rfl : kk = R.length := by omega
    repeat (first | (refine step_ops ?_; (refine m_lss rfl rfl ?_)) | refine end_ops ?_ | refine seq_ops ?_ | (refine cond_f rfl ?_ ?_; (· first | rfl | assumption | (refine decide_eq_false ?_; first | assumption | omega) | (refine nf ?_; first | assumption | omega) | (simp [*]; done))) | refine AW_seq ?_ | refine exit_then ?_ | refine exit_round ?_ | refine AW_exit ?_ | refine exit_block ?_)
    refine hQ _ (weak_st ?_ ?_ rfl rfl)
    · (repeat' (first | exact trivial | refine And.intro ?_ ?_)) <;> (first | rfl | skip)
    · exact ⟨rfl, rfl, rfl, rfl, trivial⟩
end Go.Proofs.Ytmckfjnbbfdepaa
namespace Go.Proofs.Ytmckfjnbbfdepaa
variable [Go.Am.CodeBlk]
open Go.Am
attribute [local irreducible] AW Outs Weak Lends Lend Sp aops atree aop1 Then Round InBlock Done
attribute [local irreducible] SpM DoneM SpH DoneH
set_option maxHeartbeats 4000000 in
theorem tcNext (mv : Value) (G : Nat) (R : List (List Int)) (PQ : Nat × Nat) (w : Int) (F : TcF G R PQ w) (Q : Exit → AS → Prop)
    (hQ : ∀ s', Weak s' (st [(1, .v mv)] []) → Q .normal s') :
    AW Try.prog (min Try.f3.ntmps pbase) tcTwo (st [(5, .i G), (1, .v mv), (6, roF R), (10, .i ((PQ.1 : Nat) : Int)), (11, .i ((PQ.2 : Nat) : Int)), (16, .i (tyS R pS R.length)), (20, .i (gtM R R.length)), (24, .i w), (25, .i (tyS R pA R.length)), (26, .i (chS R R.length)), (27, .i (tyS R pS R.length)), (28, .i (gtM R R.length)), (29, .sl 198 1 0 (G + 1)), (30, .sl 201 1 0 (G + 1)), (31, .sl 204 1 0 (G + 1)), (32, .sl 207 1 0 (G + 1))] [(198, (true, (wL R qN G R.length).map AV.i)), (201, (true, (wL R qF G R.length).map AV.i)), (204, (true, (wL R qE G R.length).map AV.i)), (207, (true, (oL R G R.length 0).map AV.i))]) Q := by
  have hlen := F.len
  have g1 := F.g1
  have g12 := F.g12
  have hw := F.w1
  have hpq := F.pq
  have hch := F.chs
  have hd1 : decide (tyS R pA R.length ≠ w) = false := by simp [F.all]
  have hd2 : decide (chS R R.length * ((PQ.2 : Nat) : Int) ≠ ((PQ.1 : Nat) : Int) * w) = false := by simp [hch]
  have hm1 : 0 ≤ ((PQ.1 : Nat) : Int) * w := Int.mul_nonneg (by omega) (by omega)
  have hm2 : ((PQ.1 : Nat) : Int) * w ≤ 1000000 * 479001600 := Int.mul_le_mul (by omega) (by omega) (by omega) (by omega)
  have lN := wL_len R qN G R.length
  have lF := wL_len R qF G R.length
  have lE := wL_len R qE G R.length
  have lO := oL_len R G R.length 0
  unfold tcTwo tcAll
  unfold ac3
  simp only [sndC, fstC, cndC]
  repeat (first | (refine step_ops ?_; ((try (refine g_yes rfl ?_ ?_; (· first | rfl | assumption | (refine decide_eq_true ?_; first | assumption | omega) | (refine nt ?_; first | assumption | omega) | (simp [*]; done) | (refine decide_eq_false ?_; first | assumption | omega) | (refine nf ?_; first | assumption | omega)))); (first | (refine m_mov (by conv => lhs; whnf) ?_) | (refine m_gtr rfl rfl ?_) | (refine m_neq rfl rfl ?_) | (refine m_mul rfl rfl ?_ ?_ ?_; (· first | omega | (simp; done)); (· first | omega | (simp; done))) | (refine m_len_ro rfl ?_) | (refine m_pick_f rfl ?_ (by conv => lhs; whnf) ?_; (· first | rfl | assumption | (refine decide_eq_false ?_; first | assumption | omega) | (refine nf ?_; first | assumption | omega) | (simp [*]; done)))))) | refine end_ops ?_ | refine seq_ops ?_ | (refine cond_f rfl ?_ ?_; (· first | rfl | assumption | (refine decide_eq_false ?_; first | assumption | omega) | (refine nf ?_; first | assumption | omega) | (simp [*]; done))) | refine skip_then ?_ | refine AW_seq ?_ | refine AW_block ?_)
  refine AW_loop (α := Nat) (fun j => j ≤ G + 1) (fun j => st [(5, .i G), (1, .v mv), (24, .i w), (29, .sl 198 1 0 (G + 1)), (30, .sl 201 1 0 (G + 1)), (31, .sl 204 1 0 (G + 1)), (32, .sl 207 1 0 (G + 1)), (41, .i ((j : Nat) : Int))] [(198, (true, (wL R qN G R.length).map AV.i)), (201, (true, (wL R qF G R.length).map AV.i)), (204, (true, (wL R qE G R.length).map AV.i)), (207, (true, (oL R G R.length 0).map AV.i))]) (fun j => G + 1 - j) 0 (Nat.zero_le _) (weak_st ?_ ?_ rfl rfl) ?_
  · (repeat' (first | exact trivial | refine And.intro ?_ ?_)) <;> (first | rfl | skip)
  · exact ⟨rfl, rfl, rfl, rfl, trivial⟩
  intro j hj
  by_cases hc : j ≤ G
  · have c19 := implCountByChains_spec ((G : Nat) : Int) ((j : Nat) : Int)
    rw [F.cb j hc] at c19
    by_cases hj0 : j = 0
    · repeat (first | (refine step_ops ?_; (first | (refine m_mov (by conv => lhs; whnf) ?_) | (refine m_leq rfl rfl ?_))) | refine end_ops ?_ | refine seq_ops ?_ | (refine cond_t rfl ?_ ?_; (· first | rfl | assumption | (refine decide_eq_true ?_; first | assumption | omega) | (refine nt ?_; first | assumption | omega) | (simp [*]; done))) | refine skip_then ?_ | refine AW_seq ?_ | refine AW_block ?_)
      refine step_ops ?_; (apply m_call (c19)); (· repeat (first | exact lends_nil | (refine lends_cons ?_ ?_; (· exact lend_v))))
      repeat (first | (refine step_ops ?_; ((try (refine g_yes rfl ?_ ?_; (· first | rfl | assumption | (refine decide_eq_true ?_; first | assumption | omega) | (refine nt ?_; first | assumption | omega) | (simp [*]; done) | (refine decide_eq_false ?_; first | assumption | omega) | (refine nf ?_; first | assumption | omega)))); (first | (refine m_mov (by conv => lhs; whnf) ?_) | (refine m_gtr rfl rfl ?_) | (refine m_neq rfl rfl ?_) | (refine m_add rfl rfl ?_ ?_ ?_; (· omega); (· omega)) | (refine m_not rfl ?_) | (refine m_idx1_sl rfl rfl ?_ ?_; (· omega)) | (refine m_ld_pti rfl (by rfl) ?_ ?_; (· first | omega | (simp; omega))) | (refine m_pick_f rfl ?_ (by conv => lhs; whnf) ?_; (· first | rfl | assumption | (refine decide_eq_false ?_; first | assumption | omega) | (refine nf ?_; first | assumption | omega) | (simp [*]; done))) | (refine m_ext rfl rfl ?_)))) | refine end_ops ?_ | refine seq_ops ?_ | refine AW_ops ?_ | (refine cond_f rfl ?_ ?_; (· first | rfl | assumption | (refine decide_eq_false ?_; first | assumption | omega) | (refine nf ?_; first | assumption | omega) | (simp [*]; done))) | refine skip_then ?_ | refine AW_seq ?_ | refine norm_then ?_ | refine norm_block ?_ | refine AW_skip ?_)
      refine next_round (j + 1) (by omega) (weak_st ?_ ?_ rfl rfl) ?_
      · (repeat' (first | exact trivial | refine And.intro ?_ ?_)) <;> (first | rfl | skip)
      · exact ⟨rfl, rfl, rfl, rfl, trivial⟩
      · omega
    · have c20 := implCountLongest_spec ((G : Nat) : Int) ((j : Nat) : Int)
      rw [F.lo j (by omega) hc] at c20
      have c21 := implCountShortest_spec ((G : Nat) : Int) ((j : Nat) : Int)
      rw [F.cs j (by omega) hc] at c21
      have c22 := implMeanOfLength_spec ((G : Nat) : Int) ((j : Nat) : Int)
      rw [F.ml j (by omega) hc] at c22
      have hoff := F.off j (by omega) hc
      have hd3 : decide ((oL R G R.length 0).getD j 0 * ((j : Nat) : Int) ≠ 1 * w) = false := decide_eq_false fun h => h hoff
      repeat (first | (refine step_ops ?_; (first | (refine m_mov (by conv => lhs; whnf) ?_) | (refine m_leq rfl rfl ?_))) | refine end_ops ?_ | refine seq_ops ?_ | (refine cond_t rfl ?_ ?_; (· first | rfl | assumption | (refine decide_eq_true ?_; first | assumption | omega) | (refine nt ?_; first | assumption | omega) | (simp [*]; done))) | refine skip_then ?_ | refine AW_seq ?_ | refine AW_block ?_)
      refine step_ops ?_; (apply m_call (c19)); (· repeat (first | exact lends_nil | (refine lends_cons ?_ ?_; (· exact lend_v))))
      repeat (first | (refine step_ops ?_; ((try (refine g_yes rfl ?_ ?_; (· first | rfl | assumption | (refine decide_eq_true ?_; first | assumption | omega) | (refine nt ?_; first | assumption | omega) | (simp [*]; done) | (refine decide_eq_false ?_; first | assumption | omega) | (refine nf ?_; first | assumption | omega)))); (first | (refine m_mov (by conv => lhs; whnf) ?_) | (refine m_gtr rfl rfl ?_) | (refine m_neq rfl rfl ?_) | (refine m_not rfl ?_) | (refine m_idx1_sl rfl rfl ?_ ?_; (· omega)) | (refine m_ld_pti rfl (by rfl) ?_ ?_; (· first | omega | (simp; omega))) | (refine m_pick_f rfl ?_ (by conv => lhs; whnf) ?_; (· first | rfl | assumption | (refine decide_eq_false ?_; first | assumption | omega) | (refine nf ?_; first | assumption | omega) | (simp [*]; done))) | (refine m_ext rfl rfl ?_)))) | refine end_ops ?_ | refine seq_ops ?_ | (refine cond_t rfl ?_ ?_; (· first | rfl | assumption | (refine decide_eq_true ?_; first | assumption | omega) | (refine nt ?_; first | assumption | omega) | (simp [*]; done))) | (refine cond_f rfl ?_ ?_; (· first | rfl | assumption | (refine decide_eq_false ?_; first | assumption | omega) | (refine nf ?_; first | assumption | omega) | (simp [*]; done))) | refine skip_then ?_ | refine AW_seq ?_)
      refine step_ops ?_; (apply m_call (c20)); (· repeat (first | exact lends_nil | (refine lends_cons ?_ ?_; (· exact lend_v))))
      repeat (first | (refine step_ops ?_; (first | (refine m_mov (by conv => lhs; whnf) ?_) | (refine m_ext rfl rfl ?_))) | refine end_ops ?_ | refine seq_ops ?_)
      refine step_ops ?_; (apply m_call (c21)); (· repeat (first | exact lends_nil | (refine lends_cons ?_ ?_; (· exact lend_v))))
      repeat (first | (refine step_ops ?_; (first | (refine m_mov (by conv => lhs; whnf) ?_) | (refine m_ext rfl rfl ?_))) | refine end_ops ?_ | refine seq_ops ?_)
      refine step_ops ?_; (apply m_call (c22)); (· repeat (first | exact lends_nil | (refine lends_cons ?_ ?_; (· exact lend_v))))
      repeat (first | (refine step_ops ?_; ((try (refine g_yes rfl ?_ ?_; (· first | rfl | assumption | (refine decide_eq_true ?_; first | assumption | omega) | (refine nt ?_; first | assumption | omega) | (simp [*]; done) | (refine decide_eq_false ?_; first | assumption | omega) | (refine nf ?_; first | assumption | omega)))); (first | (refine m_mov (by conv => lhs; whnf) ?_) | (refine m_neq rfl rfl ?_) | (refine m_add rfl rfl ?_ ?_ ?_; (· omega); (· omega)) | (refine m_mul rfl rfl ?_ ?_ ?_; (· first | omega | (simp; done)); (· first | omega | (simp; done))) | (refine m_not rfl ?_) | (refine m_idx1_sl rfl rfl ?_ ?_; (· omega)) | (refine m_ld_pti rfl (by rfl) ?_ ?_; (· first | omega | (simp; omega))) | (refine m_pick_f rfl ?_ (by conv => lhs; whnf) ?_; (· first | rfl | assumption | (refine decide_eq_false ?_; first | assumption | omega) | (refine nf ?_; first | assumption | omega) | (simp [*]; done))) | (refine m_ext rfl rfl ?_)))) | refine end_ops ?_ | refine seq_ops ?_ | refine AW_ops ?_ | (refine cond_f rfl ?_ ?_; (· first | rfl | assumption | (refine decide_eq_false ?_; first | assumption | omega) | (refine nf ?_; first | assumption | omega) | (simp [*]; done))) | refine norm_then ?_ | refine norm_block ?_ | refine AW_skip ?_)
      refine next_round (j + 1) (by omega) (weak_st ?_ ?_ rfl rfl) ?_
      · (repeat' (first | exact trivial | refine And.intro ?_ ?_)) <;> (first | rfl | skip)
      · exact ⟨rfl, rfl, rfl, rfl, trivial⟩
      · omega
  · obtain rfl : j = G + 1 := by omega
    repeat (first | (refine step_ops ?_; (first | (refine m_mov (by conv => lhs; whnf) ?_) | (refine m_leq rfl rfl ?_))) | refine end_ops ?_ | refine seq_ops ?_ | (refine cond_f rfl ?_ ?_; (· first | rfl | assumption | (refine decide_eq_false ?_; first | assumption | omega) | (refine nf ?_; first | assumption | omega) | (simp [*]; done))) | refine AW_seq ?_ | refine exit_then ?_ | refine exit_round ?_ | refine AW_exit ?_ | refine exit_block ?_)
    refine hQ _ (weak_st ?_ ?_ rfl rfl)
    · (repeat' (first | exact trivial | refine And.intro ?_ ?_)) <;> (first | rfl | skip)
    · trivial
end Go.Proofs.Ytmckfjnbbfdepaa
namespace Go.Am
variable [Go.Am.CodeBlk]
open Go.ChangeShapes Go.WideShapes Go.ChangeAt Go.RowKit Go.ChangeMaps
variable {P : Program} {H : Type} {enc : TypeId × Value → H}
theorem and_mk {a b : Bool} (h : a = true) (k : b = true) : (a && b) = true := by rw [h, k]; rfl
theorem More.below {w w' : World} (h : More w w') : Below w.heap.size w w' := ⟨h.os, h.tape, h.output, h.size, h.block⟩
theorem trodAll_stays (hl : laidOutB P = true) {W W' : World} (hb : Below W.heap.size W W') (sp : Nat → Bool) : ∀ {ts : List TypeId} {vs : List Value} {ds : List (DataW H)} {ps : List MemPlace},
    (∀ t ∈ ts, P.readableRec t = true ∧ t < P.types.size) → DataW.TrodAll enc P W 0 (fun _ => true) true ts vs ds ps → (∀ p ∈ ps, p.block < W.heap.size) → (∀ p ∈ ps, sp p.block = true) →
    DataW.TrodAll enc P W' 0 sp true ts vs ds ps
  | [], vs, ds, ps, _, h, _, _ => by
    obtain ⟨rfl, rfl, rfl⟩ := trodAll_nil h
    exact trodAll_mk0
  | t :: ts, vs, ds, ps, hr, h, hlt, hsp => by
    obtain ⟨v, vs', d, ds', p, q, rfl, rfl, rfl, h1, h2⟩ := trodAll_cons h
    refine ⟨p, q, ?_, trodAll_stays hl hb sp (fun t ht => hr t (List.mem_cons_of_mem _ ht)) h2 (fun x hx => hlt x (List.mem_append_right _ hx)) (fun x hx => hsp x (List.mem_append_right _ hx)), rfl⟩
    obtain ⟨h3, h4⟩ := hr t (List.mem_cons_self ..)
    exact WideElems.Trod_stays hl h3 h4 h1 (fun x hx => hb.same (hlt x (List.mem_append_left _ hx))) (fun x hx => hsp x (List.mem_append_left _ hx))
/-- What the row's last words ask of a law that says true. -/
theorem law_post (hl : laidOutB P = true) {f : Func} {s : ChangeSpec} {fresh handsOn again : Bool} {W W' : World} {args : Array Value} {ds gs : List (DataW H)} {before : List MemPlace} {bt : TypeId}
    (hW : DataW.Whole enc P f.params.toList s.vars false W args.toList ds gs before) (hvars : s.vars = []) (hfn : s.fn H (ds ++ gs) = { results := [.lit (.bool true)], args := ds })
    (hres : f.resultTypes = #[bt]) (hbt : P.underlying bt = some .bool) (hread : ∀ t ∈ f.params.toList, P.readableRec t = true ∧ t < P.types.size) (hm : More W W') :
    s.post enc P f false fresh handsOn again W args (.bool true) W' := by
  have hb := hm.below
  have hlt : ∀ p ∈ before, p.block < W.heap.size := fun p hp => hW.lt p hp
  obtain ⟨p, q, hA, hV, hpq, hz, hn⟩ := hW
  rw [hvars] at hV
  obtain ⟨rfl, rfl⟩ := trodVars_none hV
  rw [List.append_nil] at hpq
  subst hpq
  have hargs : ∀ sp : Nat → Bool, (∀ x ∈ before, sp x.block = true) → DataW.TrodAll enc P W' 0 sp true f.params.toList args.toList ds before := fun sp hsp => trodAll_stays hl hb sp hread hA hlt hsp
  have hresT : ∀ (b : Nat) (sp : Nat → Bool) (hd : Bool), DataW.TrodAll enc P W' b sp hd f.resultTypes.toList ((Value.bool true).resultList f.resultTypes.size) [.lit (.bool true)] [] := by
    intro b sp hd
    rw [hres]
    exact trodAll_mk1 (shut_bool hbt true)
  have hvarsT : ∀ sp : Nat → Bool, DataW.TrodVars enc P W' sp s.vars (s.fn H (ds ++ [])).vars [] := by
    intro sp
    rw [hvars, hfn]
    rfl
  have hfull : DataW.Whole enc P f.params.toList s.vars false W args.toList ds [] before := ⟨before, [], hA, by rw [hvars]; rfl, by simp, hz, by simp⟩
  refine ⟨ds, [], before, [], before, [], hfull, by rw [hfn]; exact hresT _ _ _, by rw [hfn]; exact hargs _ (fun x hx => by simpa using hlt x hx), hvarsT _, World.keptBut_mono (fun x hx => ⟨hx, .inr (.inl hx)⟩) (hb.frame (· ∈ before)), fun _ => ?_⟩
  refine ⟨ok_one hres rfl (okWide_bool_mk hbt true), _, _, ([] ++ before) ++ [], ⟨[] ++ before, [], trodAll_append (hargs _ (fun _ _ => rfl)) (hresT _ _ _), hvarsT _, rfl, ?_, by simp⟩, ?_⟩
  · intro b off hp
    have hin : MemPlace.cell b off ∈ before := by simpa using hp
    rw [hb.frozen (hlt _ hin)]
    exact hz b off hin
  · intro x hx _
    simpa using hx
abbrev Outer (w : World) : Ctx := { heap := w.heap, ro := fun b => b < w.heap.size, base := w.heap.size, phi := fun _ => none, live := fun _ => false, loc := false }
/-- A law says true. -/
theorem law_calls {f : FuncId} {asx : List AV} {W : World} {args : Array Value} (hs : Sp P f asx (.b true)) (he : SimL asx (Outer W) args.toList) (hlen : args.size = asx.length) (hg : GoodW W := by exact goodW_none rfl) :
    Calls P f args W fun e W' => e = .returned (.bool true) ∧ More W W' := by
  refine (hs W args hg ⟨he, by simpa using hlen⟩).mono fun e W' ⟨v, h1, h2, h3⟩ => ?_
  simp only [SimV] at h3
  subst h3
  exact ⟨h1, h2⟩
end Go.Am
namespace Go.Am
open Go.ChangeShapes Go.WideShapes Go.ChangeAt Go.RowKit Go.ChangeMaps
variable {P : Program} {H : Type} {enc : TypeId × Value → H}
theorem arg_bytes {W : World} {t e : TypeId} {v : Value} {d : DataW H} {ps : List MemPlace} (ht : P.underlying t = some (.slice e)) (he : P.underlying e = some (.int .u8)) (hc : P.cellsOf e = 1)
    (hval : Value.okWide P W .any 0 t v) (h : DataW.Trod enc P W 0 (fun _ => true) true t v d ps) : ∃ L : List UInt8, SimV (.ro false 1 (byteVs L) L.length) (Outer W) v ∧ L.length ≤ maxLen := by
  haveI : CodeBlk := ⟨[]⟩
  obtain ⟨a0, len0, cap0, rfl⟩ := okWide_slice ht hval
  obtain ⟨fuel, hf⟩ := h
  rcases open_ints ht he hc hf with ⟨hcs, _⟩ | ⟨a, len, cap, zs, hcs, _, hl, hm, hz, hx, hcell, hwz⟩
  · simp [Value.cells] at hcs
    obtain ⟨rfl, rfl, rfl⟩ := hcs
    refine ⟨[], ?_, by simp⟩
    simp only [SimV]
    exact .inl ⟨rfl, rfl, none, 0, rfl, by simp⟩
  · simp [Value.cells] at hcs
    obtain ⟨rfl, rfl, rfl⟩ := hcs
    simp only [if_true] at hz
    have hlz : len0 ≤ zs.length := by omega
    refine ⟨(zs.take len0).map fun x => UInt8.ofNat x.toNat, ?_, by simp; omega⟩
    have hlen : ((zs.take len0).map fun x => UInt8.ofNat x.toNat).length = len0 := by simp; omega
    simp only [SimV]
    by_cases h0 : len0 = 0
    · subst h0
      exact .inl ⟨rfl, rfl, _, cap0, rfl, by simp⟩
    · have hc0 := hcell 0 (by omega)
      have hspot : a.spot = none ∧ ∃ cur e f, W.heap[a.block]? = some (.cells cur e f) := by
        unfold World.cell? at hc0
        rw [show a.add 0 = a from rfl] at hc0
        split at hc0
        · rename_i c e' f hb
          split at hc0
          · cases hc0
          · rename_i hs
            exact ⟨by simpa using hs, c, e', f, hb⟩
        · cases hc0
      obtain ⟨hs, cur, e', f, hb⟩ := hspot
      obtain ⟨b, o, sp⟩ := a
      simp only at hs hb
      subst hs
      refine .inr ⟨b, o, cap0, cur, e', f, by rw [hlen], hb, lt_of_get hb, by simp [byteVs], by rw [hlen]; exact hl, by simp, ?_⟩
      refine SimL.of_get fun i x hi => ?_
      unfold byteVs at hi
      rw [List.map_map, List.getElem?_map, Option.map_eq_some_iff] at hi
      obtain ⟨n, hn, rfl⟩ := hi
      rw [List.getElem?_take] at hn
      split at hn
      · rename_i hi0
        have hci := hcell i (by omega)
        rw [addr_add, cell_of_row W b (o + i) cur e' f hb] at hci
        refine ⟨_, by rw [List.getElem?_drop, Array.getElem?_toList]; exact hci, ?_⟩
        have hw := hwz n (List.mem_of_getElem? hn)
        simp [Lit.wf, IntKind.min, IntKind.max, IntKind.signed, IntKind.bits] at hw
        have hu : (((UInt8.ofNat n.toNat).toNat : Nat) : Int) = n := by
          have h1 : (UInt8.ofNat n.toNat).toNat = n.toNat % 256 := by simp
          rw [h1]; omega
        show SimV (.v (.int .u8 ((UInt8.ofNat n.toNat).toNat : Nat))) _ _
        simp only [SimV]
        rw [hu]
        congr 1
        rw [List.getD_eq_getElem?_getD, hn]
        rfl
      · cases hn
/-- The blocks that two lists of bytes lie in, asx they stand. -/
theorem bytes_inst {W : World} {v0 v1 : Value} {L0 L1 : List UInt8} (h0 : SimV (.ro false 1 (byteVs L0) L0.length) (Outer W) v0) (h1 : SimV (.ro false 1 (byteVs L1) L1.length) (Outer W) v1) :
    ∃ I : CodeBlk, @GoodW I W ∧ @Bys I v0 L0 ∧ @Bys I v1 L1 := by
  have one : ∀ {v : Value} {L : List UInt8}, SimV (.ro false 1 (byteVs L) L.length) (Outer W) v → ∃ B : List (Nat × Array Value), (∀ p ∈ B, ∃ e fz, W.heap[p.1]? = some (.cells p.2 e fz)) ∧ ∀ I : CodeBlk, (∀ p ∈ B, p ∈ I.blks) → @Bys I v L := by
    intro v L h
    simp only [SimV] at h
    rcases h with ⟨h2, h3, a, c, rfl, _⟩ | ⟨b, o, cap, cur, e, fz, rfl, h2, h3, h4, h5, _, h6⟩
    · have hL : L = [] := List.eq_nil_of_length_eq_zero h2
      subst hL
      exact ⟨[], by simp, fun I _ => .inl ⟨rfl, a, c, rfl⟩⟩
    · refine ⟨[(b, cur)], fun p hp => ?_, fun I hI => .inr ⟨b, o, cap, cur, rfl, hI _ (List.mem_singleton.2 rfl), h5, fun C => ?_⟩⟩
      · rw [List.mem_singleton] at hp
        subst hp
        exact ⟨e, fz, h2⟩
      · refine simL_allv ?_ h6
        rw [List.all_eq_true]
        intro x hx
        obtain ⟨y, _, rfl⟩ := List.mem_map.1 hx
        rfl
  obtain ⟨B0, g0, k0⟩ := one h0
  obtain ⟨B1, g1, k1⟩ := one h1
  refine ⟨⟨B0 ++ B1⟩, ?_, k0 ⟨B0 ++ B1⟩ fun p hp => List.mem_append_left _ hp, k1 ⟨B0 ++ B1⟩ fun p hp => List.mem_append_right _ hp⟩
  have hall : ∀ p ∈ B0 ++ B1, ∃ e fz, W.heap[p.1]? = some (.cells p.2 e fz) := fun p hp => (List.mem_append.1 hp).elim (g0 p) (g1 p)
  intro b hb
  obtain ⟨p, hp, rfl⟩ := List.mem_map.1 hb
  obtain ⟨e, fz, h⟩ := hall p hp
  refine ⟨p.2, e, fz, h, fun q hq hqp => ?_⟩
  obtain ⟨e2, fz2, h2⟩ := hall q hq
  rw [hqp, h] at h2
  injection h2 with h2
  injection h2 with h3
  exact h3.symm
end Go.Am
namespace Go.Proofs.Ytmckfjnbbfdepaa
open Go.ChangeShapes Go.WideShapes Go.ChangeAt Go.RowKit
theorem factMayEnter : Try.checked.prog.mayEnter = true := by kernel_rfl
end Go.Proofs.Ytmckfjnbbfdepaa
namespace Go.Proofs.Ytmckfjnbbfdepaa
open Go.ChangeShapes Go.WideShapes Go.ChangeAt Go.RowKit
theorem factLifts : Try.checked.prog.liftsFinal = false := by kernel_rfl
end Go.Proofs.Ytmckfjnbbfdepaa
namespace Go.Proofs.Ytmckfjnbbfdepaa
open Go.ChangeShapes Go.WideShapes Go.ChangeAt Go.RowKit
theorem factMake : Try.checked.prog.make = some (OpenClaim.make { program := "", sum := "", func := "", spec := "" }) := by kernel_rfl
end Go.Proofs.Ytmckfjnbbfdepaa
