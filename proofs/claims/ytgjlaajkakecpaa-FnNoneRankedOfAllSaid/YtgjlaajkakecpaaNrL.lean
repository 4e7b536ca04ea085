/- Contracts: CountOwn. -/
import Derived.Test.YtgjlaajkakecpaaSqE
import Derived.Test.YtgjlaajkakecpaaSpLm
namespace Go.Proofs.Ytgjlaajkakecpaa
open Go.Am
attribute [local irreducible] AW Outs Weak Lends Lend Sp aops atree aop1 Then Round InBlock Done

theorem own_table : ∀ g < 13, ∀ o < g + 1, (1 ≤ fac o * fac (g - o) ∧ fac o * fac (g - o) ≤ 479001600) ∧
    (0 ≤ fac g / (fac o * fac (g - o)) * noneN (g - o) ∧ fac g / (fac o * fac (g - o)) * noneN (g - o) ≤ 479001600) ∧
    chz g o o * noneN (g - o) = fac g / (fac o * fac (g - o)) * noneN (g - o) := by decide +kernel

def OwnOk (n o : Int) : Prop := (1 ≤ n ∧ n ≤ 12) ∧ 0 ≤ o ∧ o ≤ n
instance (n o : Int) : Decidable (OwnOk n o) := inferInstanceAs (Decidable (_ ∧ _))
def countOwnR (n o : Int) : Int := if OwnOk n o then chz n.toNat o.toNat o.toNat * noneN (n.toNat - o.toNat) else 0

theorem factorial_int (n : Int) (h0 : 0 ≤ n) (h : n ≤ 12) : Sp Try.prog 46 [.i n] (.i (fac n.toNat)) := by
  obtain ⟨m, rfl⟩ := Int.eq_ofNat_of_zero_le h0
  exact factorial_spec m (by omega)
theorem exNone_int (n : Int) (h0 : 0 ≤ n) (h : n ≤ 12) : Sp Try.prog 35 [.i n] (.i (noneN n.toNat)) := by
  obtain ⟨m, rfl⟩ := Int.eq_ofNat_of_zero_le h0
  exact exNone_spec m (by omega)
theorem countApart_int (n : Int) (h0 : 0 ≤ n) (h : n ≤ 12) : Sp Try.prog 39 [.i n, .i n] (.i (noneN n.toNat)) := by
  obtain ⟨m, rfl⟩ := Int.eq_ofNat_of_zero_le h0
  have h := countApart_spec m m (by omega) (by omega)
  rw [none_table m (by omega)] at h
  exact h

theorem specCountOwn_spec (n o : Int) : Sp Try.prog 25 [.i n, .i o] (.tup [.i (countOwnR n o), .b (decide (OwnOk n o))]) := by
  refine spec_of Try.func25 rfl cc25 rfl ?_
  unfold ac25
  by_cases hok : OwnOk n o
  · have e : countOwnR n o = _ := if_pos hok
    obtain ⟨h, ho⟩ := id hok
    obtain ⟨m, rfl⟩ := Int.eq_ofNat_of_zero_le (show 0 ≤ n by omega)
    obtain ⟨p, rfl⟩ := Int.eq_ofNat_of_zero_le ho.1
    have ht := own_table m (by omega) p (by omega)
    have tm : ((m : Int) - (p : Int)).toNat = m - p := by omega
    have s1 := exNone_int ((m : Int) - p) (by omega) (by omega)
    rw [tm] at s1
    repeat (first | (refine step_ops ?_; (refine m_mov (by conv => lhs; whnf) ?_)) | refine end_ops ?_ | refine seq_ops ?_ | refine AW_seq ?_)
    (refine step_ops ?_); (apply m_call (exGuests_spec _)); (· repeat (first | exact lends_nil | (refine lends_cons ?_ ?_; (· exact lend_v))))
    repeat (refine step_ops ?_; ((try (refine g_yes rfl ?_ ?_; (· first | rfl | assumption | (refine decide_eq_true ?_; first | assumption | omega) | (refine nt ?_; first | assumption | omega) | (simp [*]; done) | (refine decide_eq_false ?_; first | assumption | omega) | (refine nf ?_; first | assumption | omega)))); (first | (refine m_mov (by conv => lhs; whnf) ?_) | (refine m_not rfl ?_))))
    (refine step_ops ?_); (refine g_yes rfl ?_ ?_; (· first | (first | rfl | assumption | (refine decide_eq_true ?_; first | assumption | omega) | (refine nt ?_; first | assumption | omega) | (simp [*]; done)) | (first | rfl | assumption | (refine decide_eq_false ?_; first | assumption | omega) | (refine nf ?_; first | assumption | omega) | (simp [*]; done))); (apply m_call (l1In_spec _ _ _))); (· repeat (first | exact lends_nil | (refine lends_cons ?_ ?_; (· exact lend_v))))
    repeat (first | (refine step_ops ?_; ((try (refine g_yes rfl ?_ ?_; (· first | rfl | assumption | (refine decide_eq_true ?_; first | assumption | omega) | (refine nt ?_; first | assumption | omega) | (simp [*]; done) | (refine decide_eq_false ?_; first | assumption | omega) | (refine nf ?_; first | assumption | omega)))); (first | (refine m_mov (by conv => lhs; whnf) ?_) | (refine m_not rfl ?_) | (refine m_pick_f rfl ?_ (by conv => lhs; whnf) ?_; (· first | rfl | assumption | (refine decide_eq_false ?_; first | assumption | omega) | (refine nf ?_; first | assumption | omega) | (simp [*]; done)))))) | refine end_ops ?_ | refine seq_ops ?_ | (refine cond_f rfl ?_ ?_; (· first | rfl | assumption | (refine decide_eq_false ?_; first | assumption | omega) | (refine nf ?_; first | assumption | omega) | (simp [*]; done))) | refine skip_then ?_)
    (refine step_ops ?_); (apply m_call (exChoose_spec m p (by omega) (by omega))); (· repeat (first | exact lends_nil | (refine lends_cons ?_ ?_; (· exact lend_v))))
    repeat (refine step_ops ?_; (first | (refine m_mov (by conv => lhs; whnf) ?_) | (refine m_sub rfl rfl ?_ ?_ ?_; (· omega); (· omega))))
    (refine step_ops ?_); (apply m_call (s1)); (· repeat (first | exact lends_nil | (refine lends_cons ?_ ?_; (· exact lend_v))))
    repeat (first | (refine step_ops ?_; (first | (refine m_mov (by conv => lhs; whnf) ?_) | (refine m_mul rfl rfl ?_ ?_ ?_; (· first | omega | (simp; done)); (· first | omega | (simp; done))))) | refine end_ops ?_ | refine AW_ret ?_ | refine ret_done ?_)
    refine outs_tup2 (outs_i ?_) (outs_b ?_)
    · rw [e]; rfl
    · exact (decide_eq_true hok).symm
  · have e : countOwnR n o = 0 := if_neg hok
    by_cases h : 1 ≤ n ∧ n ≤ 12
    · have ho : ¬ (0 ≤ o ∧ o ≤ n) := fun ho => hok ⟨h, ho⟩
      repeat (first | (refine step_ops ?_; (refine m_mov (by conv => lhs; whnf) ?_)) | refine end_ops ?_ | refine seq_ops ?_ | refine AW_seq ?_)
      (refine step_ops ?_); (apply m_call (exGuests_spec _)); (· repeat (first | exact lends_nil | (refine lends_cons ?_ ?_; (· exact lend_v))))
      repeat (refine step_ops ?_; ((try (refine g_yes rfl ?_ ?_; (· first | rfl | assumption | (refine decide_eq_true ?_; first | assumption | omega) | (refine nt ?_; first | assumption | omega) | (simp [*]; done) | (refine decide_eq_false ?_; first | assumption | omega) | (refine nf ?_; first | assumption | omega)))); (first | (refine m_mov (by conv => lhs; whnf) ?_) | (refine m_not rfl ?_))))
      (refine step_ops ?_); (refine g_yes rfl ?_ ?_; (· first | (first | rfl | assumption | (refine decide_eq_true ?_; first | assumption | omega) | (refine nt ?_; first | assumption | omega) | (simp [*]; done)) | (first | rfl | assumption | (refine decide_eq_false ?_; first | assumption | omega) | (refine nf ?_; first | assumption | omega) | (simp [*]; done))); (apply m_call (l1In_spec _ _ _))); (· repeat (first | exact lends_nil | (refine lends_cons ?_ ?_; (· exact lend_v))))
      repeat (first | (refine step_ops ?_; ((try (refine g_yes rfl ?_ ?_; (· first | rfl | assumption | (refine decide_eq_true ?_; first | assumption | omega) | (refine nt ?_; first | assumption | omega) | (simp [*]; done) | (refine decide_eq_false ?_; first | assumption | omega) | (refine nf ?_; first | assumption | omega)))); (first | (refine m_mov (by conv => lhs; whnf) ?_) | (refine m_not rfl ?_) | (refine m_pick_f rfl ?_ (by conv => lhs; whnf) ?_; (· first | rfl | assumption | (refine decide_eq_false ?_; first | assumption | omega) | (refine nf ?_; first | assumption | omega) | (simp [*]; done)))))) | refine end_ops ?_ | refine seq_ops ?_ | (refine cond_t rfl ?_ ?_; (· first | rfl | assumption | (refine decide_eq_true ?_; first | assumption | omega) | (refine nt ?_; first | assumption | omega) | (simp [*]; done))) | refine AW_ret ?_ | refine ret_done ?_ | refine ret_then ?_)
      refine outs_tup2 (outs_i ?_) (outs_b ?_)
      · rw [e]
      · exact (decide_eq_false hok).symm
    · repeat (first | (refine step_ops ?_; (refine m_mov (by conv => lhs; whnf) ?_)) | refine end_ops ?_ | refine seq_ops ?_ | refine AW_seq ?_)
      (refine step_ops ?_); (apply m_call (exGuests_spec _)); (· repeat (first | exact lends_nil | (refine lends_cons ?_ ?_; (· exact lend_v))))
      repeat (first | (refine step_ops ?_; (first | (first | (refine m_mov (by conv => lhs; whnf) ?_) | (refine m_not rfl ?_) | (refine m_pick_t rfl ?_ (by conv => lhs; whnf) ?_; (· first | rfl | assumption | (refine decide_eq_true ?_; first | assumption | omega) | (refine nt ?_; first | assumption | omega) | (simp [*]; done)))) | (refine g_noF rfl ?_ ?_; (· first | rfl | assumption | (refine decide_eq_true ?_; first | assumption | omega) | (refine nt ?_; first | assumption | omega) | (simp [*]; done))))) | refine end_ops ?_ | refine seq_ops ?_ | (refine cond_t rfl ?_ ?_; (· first | rfl | assumption | (refine decide_eq_true ?_; first | assumption | omega) | (refine nt ?_; first | assumption | omega) | (simp [*]; done))) | refine AW_ret ?_ | refine ret_done ?_ | refine ret_then ?_)
      refine outs_tup2 (outs_i ?_) (outs_b ?_)
      · rw [e]
      · exact (decide_eq_false hok).symm

theorem countChoices_spec (n k : Nat) (hn : n ≤ 12) (hk : k ≤ n) : Sp Try.prog 52 [.i n, .i k] (.i (fac n / (fac k * fac (n - k)))) := by
  refine spec_of Try.func52 rfl cc52 rfl ?_
  unfold ac52
  have ht := own_table n (by omega) k (by omega)
  have hf := fac_le n (by omega)
  have tm : ((n : Int) - (k : Int)).toNat = n - k := by omega
  have s2 := factorial_int ((n : Int) - k) (by omega) (by omega)
  rw [tm] at s2
  repeat (first | (refine step_ops ?_; (refine m_mov (by conv => lhs; whnf) ?_)) | refine end_ops ?_ | refine seq_ops ?_)
  (refine step_ops ?_); (apply m_call (factorial_spec n (by omega))); (· repeat (first | exact lends_nil | (refine lends_cons ?_ ?_; (· exact lend_v))))
  repeat (refine step_ops ?_; (refine m_mov (by conv => lhs; whnf) ?_))
  (refine step_ops ?_); (apply m_call (factorial_spec k (by omega))); (· repeat (first | exact lends_nil | (refine lends_cons ?_ ?_; (· exact lend_v))))
  repeat (refine step_ops ?_; (first | (refine m_mov (by conv => lhs; whnf) ?_) | (refine m_sub rfl rfl ?_ ?_ ?_; (· omega); (· omega))))
  (refine step_ops ?_); (apply m_call (s2)); (· repeat (first | exact lends_nil | (refine lends_cons ?_ ?_; (· exact lend_v))))
  repeat (first | (refine step_ops ?_; (first | (refine m_mov (by conv => lhs; whnf) ?_) | (refine m_mul rfl rfl ?_ ?_ ?_; (· first | omega | (simp; done)); (· first | omega | (simp; done))) | (refine m_quo rfl rfl ?_ ?_ ?_ ?_; (· omega); (· omega); (· omega)))) | refine end_ops ?_ | refine AW_ret ?_ | refine ret_done ?_)
  exact outs_i rfl

theorem implCountOwn_spec (n o : Int) : Sp Try.prog 24 [.i n, .i o] (.tup [.i (countOwnR n o), .b (decide (OwnOk n o))]) := by
  refine spec_of Try.func24 rfl cc24 rfl ?_
  unfold ac24
  by_cases hok : OwnOk n o
  · have e : countOwnR n o = _ := if_pos hok
    obtain ⟨h, ho⟩ := id hok
    obtain ⟨m, rfl⟩ := Int.eq_ofNat_of_zero_le (show 0 ≤ n by omega)
    obtain ⟨p, rfl⟩ := Int.eq_ofNat_of_zero_le ho.1
    have ht := own_table m (by omega) p (by omega)
    have hf := fac_le m (by omega)
    have tm : ((m : Int) - (p : Int)).toNat = m - p := by omega
    have s1 := countApart_int ((m : Int) - p) (by omega) (by omega)
    rw [tm] at s1
    have hno : ¬ (p : Int) < 0 := by omega
    have hno2 : ¬ (m : Int) < p := by omega
    repeat (first | (refine step_ops ?_; (refine m_mov (by conv => lhs; whnf) ?_)) | refine end_ops ?_ | refine seq_ops ?_ | refine AW_seq ?_)
    (refine step_ops ?_); (apply m_call (isGuestCount_spec _)); (· repeat (first | exact lends_nil | (refine lends_cons ?_ ?_; (· exact lend_v))))
    repeat (first | (refine step_ops ?_; ((try (refine g_yes rfl ?_ ?_; (· first | rfl | assumption | (refine decide_eq_true ?_; first | assumption | omega) | (refine nt ?_; first | assumption | omega) | (simp [*]; done) | (refine decide_eq_false ?_; first | assumption | omega) | (refine nf ?_; first | assumption | omega)))); (first | (refine m_mov (by conv => lhs; whnf) ?_) | (refine m_lss rfl rfl ?_) | (refine m_gtr rfl rfl ?_) | (refine m_sub rfl rfl ?_ ?_ ?_; (· omega); (· omega)) | (refine m_not rfl ?_) | (refine m_pick_f rfl ?_ (by conv => lhs; whnf) ?_; (· first | rfl | assumption | (refine decide_eq_false ?_; first | assumption | omega) | (refine nf ?_; first | assumption | omega) | (simp [*]; done)))))) | refine end_ops ?_ | refine seq_ops ?_ | (refine cond_f rfl ?_ ?_; (· first | rfl | assumption | (refine decide_eq_false ?_; first | assumption | omega) | (refine nf ?_; first | assumption | omega) | (simp [*]; done))) | refine skip_then ?_)
    (refine step_ops ?_); (apply m_call (countChoices_spec m p (by omega) (by omega))); (· repeat (first | exact lends_nil | (refine lends_cons ?_ ?_; (· exact lend_v))))
    repeat (refine step_ops ?_; (refine m_mov (by conv => lhs; whnf) ?_))
    (refine step_ops ?_); (apply m_call (s1)); (· repeat (first | exact lends_nil | (refine lends_cons ?_ ?_; (· exact lend_v))))
    repeat (first | (refine step_ops ?_; (first | (refine m_mov (by conv => lhs; whnf) ?_) | (refine m_mul rfl rfl ?_ ?_ ?_; (· first | omega | (simp; done)); (· first | omega | (simp; done))))) | refine end_ops ?_ | refine AW_ret ?_ | refine ret_done ?_)
    refine outs_tup2 (outs_i ?_) (outs_b ?_)
    · rw [e, ← ht.2.2]; rfl
    · exact (decide_eq_true hok).symm
  · have e : countOwnR n o = 0 := if_neg hok
    by_cases h : 1 ≤ n ∧ n ≤ 12
    · by_cases h0 : o < 0
      · repeat (first | (refine step_ops ?_; (refine m_mov (by conv => lhs; whnf) ?_)) | refine end_ops ?_ | refine seq_ops ?_ | refine AW_seq ?_)
        (refine step_ops ?_); (apply m_call (isGuestCount_spec _)); (· repeat (first | exact lends_nil | (refine lends_cons ?_ ?_; (· exact lend_v))))
        repeat (first | (refine step_ops ?_; (first | ((try (refine g_yes rfl ?_ ?_; (· first | rfl | assumption | (refine decide_eq_true ?_; first | assumption | omega) | (refine nt ?_; first | assumption | omega) | (simp [*]; done) | (refine decide_eq_false ?_; first | assumption | omega) | (refine nf ?_; first | assumption | omega)))); (first | (refine m_mov (by conv => lhs; whnf) ?_) | (refine m_lss rfl rfl ?_) | (refine m_not rfl ?_) | (refine m_pick_t rfl ?_ (by conv => lhs; whnf) ?_; (· first | rfl | assumption | (refine decide_eq_true ?_; first | assumption | omega) | (refine nt ?_; first | assumption | omega) | (simp [*]; done))) | (refine m_pick_f rfl ?_ (by conv => lhs; whnf) ?_; (· first | rfl | assumption | (refine decide_eq_false ?_; first | assumption | omega) | (refine nf ?_; first | assumption | omega) | (simp [*]; done))))) | (refine g_noF rfl ?_ ?_; (· first | rfl | assumption | (refine decide_eq_true ?_; first | assumption | omega) | (refine nt ?_; first | assumption | omega) | (simp [*]; done))))) | refine end_ops ?_ | refine seq_ops ?_ | (refine cond_t rfl ?_ ?_; (· first | rfl | assumption | (refine decide_eq_true ?_; first | assumption | omega) | (refine nt ?_; first | assumption | omega) | (simp [*]; done))) | refine AW_ret ?_ | refine ret_done ?_ | refine ret_then ?_)
        refine outs_tup2 (outs_i ?_) (outs_b ?_)
        · rw [e]
        · exact (decide_eq_false hok).symm
      · have h2 : n < o := by
          have : ¬ (0 ≤ o ∧ o ≤ n) := fun ho => hok ⟨h, ho⟩
          omega
        repeat (first | (refine step_ops ?_; (refine m_mov (by conv => lhs; whnf) ?_)) | refine end_ops ?_ | refine seq_ops ?_ | refine AW_seq ?_)
        (refine step_ops ?_); (apply m_call (isGuestCount_spec _)); (· repeat (first | exact lends_nil | (refine lends_cons ?_ ?_; (· exact lend_v))))
        repeat (first | (refine step_ops ?_; ((try (refine g_yes rfl ?_ ?_; (· first | rfl | assumption | (refine decide_eq_true ?_; first | assumption | omega) | (refine nt ?_; first | assumption | omega) | (simp [*]; done) | (refine decide_eq_false ?_; first | assumption | omega) | (refine nf ?_; first | assumption | omega)))); (first | (refine m_mov (by conv => lhs; whnf) ?_) | (refine m_lss rfl rfl ?_) | (refine m_gtr rfl rfl ?_) | (refine m_not rfl ?_) | (refine m_pick_f rfl ?_ (by conv => lhs; whnf) ?_; (· first | rfl | assumption | (refine decide_eq_false ?_; first | assumption | omega) | (refine nf ?_; first | assumption | omega) | (simp [*]; done)))))) | refine end_ops ?_ | refine seq_ops ?_ | (refine cond_t rfl ?_ ?_; (· first | rfl | assumption | (refine decide_eq_true ?_; first | assumption | omega) | (refine nt ?_; first | assumption | omega) | (simp [*]; done))) | refine AW_ret ?_ | refine ret_done ?_ | refine ret_then ?_)
        refine outs_tup2 (outs_i ?_) (outs_b ?_)
        · rw [e]
        · exact (decide_eq_false hok).symm
    · repeat (first | (refine step_ops ?_; (refine m_mov (by conv => lhs; whnf) ?_)) | refine end_ops ?_ | refine seq_ops ?_ | refine AW_seq ?_)
      (refine step_ops ?_); (apply m_call (isGuestCount_spec _)); (· repeat (first | exact lends_nil | (refine lends_cons ?_ ?_; (· exact lend_v))))
      repeat (first | (refine step_ops ?_; (first | (first | (refine m_mov (by conv => lhs; whnf) ?_) | (refine m_not rfl ?_) | (refine m_pick_t rfl ?_ (by conv => lhs; whnf) ?_; (· first | rfl | assumption | (refine decide_eq_true ?_; first | assumption | omega) | (refine nt ?_; first | assumption | omega) | (simp [*]; done)))) | (refine g_noF rfl ?_ ?_; (· first | rfl | assumption | (refine decide_eq_true ?_; first | assumption | omega) | (refine nt ?_; first | assumption | omega) | (simp [*]; done))))) | refine end_ops ?_ | refine seq_ops ?_ | (refine cond_t rfl ?_ ?_; (· first | rfl | assumption | (refine decide_eq_true ?_; first | assumption | omega) | (refine nt ?_; first | assumption | omega) | (simp [*]; done))) | refine AW_ret ?_ | refine ret_done ?_ | refine ret_then ?_)
      refine outs_tup2 (outs_i ?_) (outs_b ?_)
      · rw [e]
      · exact (decide_eq_false hok).symm
end Go.Proofs.Ytgjlaajkakecpaa
