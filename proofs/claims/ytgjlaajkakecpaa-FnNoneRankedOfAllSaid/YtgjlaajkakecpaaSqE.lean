/- Contracts: ChanceNone. -/
import Derived.Test.YtgjlaajkakecpaaSqA
namespace Go.Proofs.Ytgjlaajkakecpaa
open Go.Am
attribute [local irreducible] AW Outs Weak Lends Lend Sp aops atree aop1 Then Round InBlock Done

theorem none_table : ∀ g < 13, (apOut g g).getD g 0 = noneN g := by decide +kernel
theorem none_le : ∀ g < 13, 0 ≤ noneN g ∧ noneN g ≤ 1000000000 := by decide +kernel
def chnR (n : Int) : Nat × Nat := if 1 ≤ n ∧ n ≤ 12 then low (noneN n.toNat).toNat (fac n.toNat).toNat else (0, 0)
def chnTup (n : Int) : AV := .tup [.i (chnR n).1, .i (chnR n).2, .b (decide (1 ≤ n ∧ n ≤ 12))]

theorem specChanceNone_spec (n : Int) : Sp Try.prog 22 [.i n] (chnTup n) := by
  unfold chnTup
  by_cases h : 1 ≤ n ∧ n ≤ 12
  · have e : chnR n = _ := if_pos h
    rw [e]
    obtain ⟨m, rfl⟩ := Int.eq_ofNat_of_zero_le (show 0 ≤ n by omega)
    have h1 := none_le m (by omega)
    have h2 := fac_le m (by omega)
    obtain ⟨p, hp⟩ := Int.eq_ofNat_of_zero_le h1.1
    obtain ⟨q, hq⟩ := Int.eq_ofNat_of_zero_le (show 0 ≤ fac m by omega)
    have s1 := exNone_spec m (by omega)
    have s2 := exTimes_spec m (by omega)
    have s3 := exLowN_spec p q (by omega) (by omega) (by omega)
    rw [hp] at s1
    rw [hq] at s2
    simp only [Int.toNat_natCast, hp, hq]
    generalize low p q = r at s3 ⊢
    refine spec_of Try.func22 rfl cc22 rfl ?_
    unfold ac22
    repeat (first | (refine step_ops ?_; (refine m_mov (by conv => lhs; whnf) ?_)) | refine end_ops ?_ | refine seq_ops ?_ | refine AW_seq ?_)
    (refine step_ops ?_); (apply m_call (exGuests_spec _)); (· repeat (first | exact lends_nil | (refine lends_cons ?_ ?_; (· exact lend_v))))
    repeat (first | (refine step_ops ?_; (first | (refine m_mov (by conv => lhs; whnf) ?_) | (refine m_not rfl ?_))) | refine end_ops ?_ | refine seq_ops ?_ | (refine cond_f rfl ?_ ?_; (· first | rfl | assumption | (refine decide_eq_false ?_; first | assumption | omega) | (refine nf ?_; first | assumption | omega) | (simp [*]; done))) | refine skip_then ?_)
    (refine step_ops ?_); (apply m_call (s1)); (· repeat (first | exact lends_nil | (refine lends_cons ?_ ?_; (· exact lend_v))))
    repeat (refine step_ops ?_; (refine m_mov (by conv => lhs; whnf) ?_))
    (refine step_ops ?_); (apply m_call (s2)); (· repeat (first | exact lends_nil | (refine lends_cons ?_ ?_; (· exact lend_v))))
    skip
    (refine step_ops ?_); (apply m_call (s3)); (· repeat (first | exact lends_nil | (refine lends_cons ?_ ?_; (· exact lend_v))))
    repeat (first | (refine step_ops ?_; (first | (refine m_mov (by conv => lhs; whnf) ?_) | (refine m_ext rfl rfl ?_))) | refine end_ops ?_ | refine seq_ops ?_ | refine AW_ret ?_ | refine ret_done ?_)
    exact outs_tup3 (outs_i rfl) (outs_i rfl) (outs_b (decide_eq_true h).symm)
  · have e : chnR n = (0, 0) := if_neg h
    rw [e]
    refine spec_of Try.func22 rfl cc22 rfl ?_
    unfold ac22
    repeat (first | (refine step_ops ?_; (refine m_mov (by conv => lhs; whnf) ?_)) | refine end_ops ?_ | refine seq_ops ?_ | refine AW_seq ?_)
    (refine step_ops ?_); (apply m_call (exGuests_spec _)); (· repeat (first | exact lends_nil | (refine lends_cons ?_ ?_; (· exact lend_v))))
    repeat (first | (refine step_ops ?_; (first | (refine m_mov (by conv => lhs; whnf) ?_) | (refine m_not rfl ?_))) | refine end_ops ?_ | refine seq_ops ?_ | (refine cond_t rfl ?_ ?_; (· first | rfl | assumption | (refine decide_eq_true ?_; first | assumption | omega) | (refine nt ?_; first | assumption | omega) | (simp [*]; done))) | refine AW_ret ?_ | refine ret_done ?_ | refine ret_then ?_)
    exact outs_tup3 (outs_i rfl) (outs_i rfl) (outs_b (decide_eq_false h).symm)

theorem implChanceNone_spec (n : Int) : Sp Try.prog 21 [.i n] (chnTup n) := by
  unfold chnTup
  by_cases h : 1 ≤ n ∧ n ≤ 12
  · have e : chnR n = _ := if_pos h
    rw [e]
    obtain ⟨m, rfl⟩ := Int.eq_ofNat_of_zero_le (show 0 ≤ n by omega)
    have h1 := none_le m (by omega)
    have h2 := fac_le m (by omega)
    obtain ⟨p, hp⟩ := Int.eq_ofNat_of_zero_le h1.1
    obtain ⟨q, hq⟩ := Int.eq_ofNat_of_zero_le (show 0 ≤ fac m by omega)
    have s1 := countApart_spec m m (by omega) (by omega)
    have s2 := factorial_spec m (by omega)
    have s3 := partOf_spec p q (by omega) (by omega) (by omega)
    rw [none_table m (by omega), hp] at s1
    rw [hq] at s2
    simp only [Int.toNat_natCast, hp, hq]
    generalize low p q = r at s3 ⊢
    have s4 := told_spec r
    unfold fracV at s3 s4
    refine spec_of Try.func21 rfl cc21 rfl ?_
    unfold ac21
    repeat (first | (refine step_ops ?_; (refine m_mov (by conv => lhs; whnf) ?_)) | refine end_ops ?_ | refine seq_ops ?_ | refine AW_seq ?_)
    (refine step_ops ?_); (apply m_call (isGuestCount_spec _)); (· repeat (first | exact lends_nil | (refine lends_cons ?_ ?_; (· exact lend_v))))
    repeat (first | (refine step_ops ?_; (first | (refine m_mov (by conv => lhs; whnf) ?_) | (refine m_not rfl ?_))) | refine end_ops ?_ | refine seq_ops ?_ | (refine cond_f rfl ?_ ?_; (· first | rfl | assumption | (refine decide_eq_false ?_; first | assumption | omega) | (refine nf ?_; first | assumption | omega) | (simp [*]; done))) | refine skip_then ?_)
    (refine step_ops ?_); (apply m_call (s1)); (· repeat (first | exact lends_nil | (refine lends_cons ?_ ?_; (· exact lend_v))))
    repeat (refine step_ops ?_; (refine m_mov (by conv => lhs; whnf) ?_))
    (refine step_ops ?_); (apply m_call (s2)); (· repeat (first | exact lends_nil | (refine lends_cons ?_ ?_; (· exact lend_v))))
    skip
    (refine step_ops ?_); (apply m_call (s3)); (· repeat (first | exact lends_nil | (refine lends_cons ?_ ?_; (· exact lend_v))))
    skip
    (refine step_ops ?_); (apply m_call (s4)); (· repeat (first | exact lends_nil | (refine lends_cons ?_ ?_; (· (refine lend_agg ?_; first | rfl | assumption | (simp [plainV]; done))))))
    repeat (first | (refine step_ops ?_; (first | (refine m_mov (by conv => lhs; whnf) ?_) | (refine m_ext rfl rfl ?_))) | refine end_ops ?_ | refine AW_ret ?_ | refine ret_done ?_)
    exact outs_tup3 (outs_i rfl) (outs_i rfl) (outs_b (decide_eq_true h).symm)
  · have e : chnR n = (0, 0) := if_neg h
    rw [e]
    refine spec_of Try.func21 rfl cc21 rfl ?_
    unfold ac21
    repeat (first | (refine step_ops ?_; (refine m_mov (by conv => lhs; whnf) ?_)) | refine end_ops ?_ | refine seq_ops ?_ | refine AW_seq ?_)
    (refine step_ops ?_); (apply m_call (isGuestCount_spec _)); (· repeat (first | exact lends_nil | (refine lends_cons ?_ ?_; (· exact lend_v))))
    repeat (first | (refine step_ops ?_; (first | (refine m_mov (by conv => lhs; whnf) ?_) | (refine m_not rfl ?_))) | refine end_ops ?_ | refine seq_ops ?_ | (refine cond_t rfl ?_ ?_; (· first | rfl | assumption | (refine decide_eq_true ?_; first | assumption | omega) | (refine nt ?_; first | assumption | omega) | (simp [*]; done))) | refine AW_ret ?_ | refine ret_done ?_ | refine ret_then ?_)
    exact outs_tup3 (outs_i rfl) (outs_i rfl) (outs_b (decide_eq_false h).symm)
end Go.Proofs.Ytgjlaajkakecpaa
