/- Contracts: one exchange behind another. -/
import Derived.Test.YteoogkiaacdmiaaSpG
namespace Go.Proofs.Yteoogkiaacdmiaa
open Go.Am
attribute [local irreducible] AW Outs Weak Lends Lend Sp aops atree aop1 Then Round InBlock Done

/-- What the first k guests have by two exchanges. -/
def thenW (A B : List Int) (k : Nat) : List Int := (List.range k).map fun (i : Nat) => A.getD (B.getD i 0).toNat 0
theorem thenW_succ (A B : List Int) (k i : Nat) (hi : B.getD k 0 = i) : thenW A B (k + 1) = thenW A B k ++ [A.getD i 0] := by
  unfold thenW; rw [List.range_succ, List.map_append, List.map_cons, List.map_nil, hi]; rfl
theorem thenW_len (A B : List Int) (k : Nat) : (thenW A B k).length = k := by simp [thenW]
/-- The same with zeros behind. -/
def thenZ (A B : List Int) (k : Nat) : List Int := thenW A B k ++ List.replicate (A.length - k) 0
theorem thenZ_len (A B : List Int) (k : Nat) (h : k ≤ A.length) : (thenZ A B k).length = A.length := by simp [thenZ, thenW_len]; omega
theorem thenZ_set (A B : List Int) (k i : Nat) (hi : B.getD k 0 = i) (h : k < A.length) : (thenZ A B k).set k (A.getD i 0) = thenZ A B (k + 1) := by
  unfold thenZ
  have e : A.length - k = (A.length - (k + 1)) + 1 := by omega
  rw [thenW_succ A B k i hi, e, List.replicate_succ, List.set_append_right _ _ (by rw [thenW_len]; omega), thenW_len, Nat.sub_self, List.set_cons_zero]
  simp
def ThenOk (A B : List Int) : Prop := IsEx A ∧ IsEx B ∧ A.length = B.length
instance (A B : List Int) : Decidable (ThenOk A B) := inferInstanceAs (Decidable (_ ∧ _ ∧ _))
def thenRes (A B : List Int) : List Int := if ThenOk A B then thenW A B B.length else []
theorem thenRes_le (A B : List Int) : (thenRes A B).length ≤ B.length := by
  unfold thenRes; split
  · rw [thenW_len]; exact Nat.le_refl _
  · simp

theorem exThen_spec (A B : List Int) (hok : ThenOk A B) : Sp Try.prog 51 [ints A, ints B] (newInts (thenW A B B.length)) := by
  obtain ⟨hA, hB, hlen⟩ := hok
  have hA12 := hA.2.1
  refine spec_of Try.func51 rfl cc51 rfl ?_
  unfold ac51
  repeat (first | (refine step_ops ?_; (first | (refine m_mov (by conv => lhs; whnf) ?_) | (refine m_lss rfl rfl ?_) | (refine m_add rfl rfl ?_ ?_ ?_; (· omega); (· omega)) | (refine m_adds rfl rfl ?_ ?_; (· first | omega | (simp; omega))) | (refine m_len_ro rfl ?_) | (refine m_len_sl rfl ?_) | (refine m_len_nil rfl ?_) | (refine m_idx1_ro rfl rfl ?_ ?_; (· omega)) | (refine m_idx1_sl rfl rfl ?_ ?_; (· omega)) | (apply m_idx1_slj; (· rfl); (· rfl); (· assumption); (· omega)) | (apply m_idx1_roj; (· rfl); (· rfl); (· assumption); (· omega)) | (refine m_idx_ro rfl rfl ?_ ?_ ?_; (· omega); (· omega)) | (refine m_idx_sl rfl rfl ?_ ?_ ?_; (· omega); (· omega)) | (refine m_ld_rpi rfl ?_ ?_; (· omega)) | (refine m_ld_pti rfl (by rfl) ?_ ?_; (· first | omega | (simp; omega))) | (apply m_ld_ptb; (· rfl); (· rfl); (· assumption)) | (apply m_ld_rp; (· rfl); (· rfl)) | (apply m_ld_pt; (· rfl); (· rfl); (· rfl)) | (refine m_nils ?_) | (refine m_bsl1 rfl rfl ?_) | (refine m_app1i rfl (by decide) (by rfl) (by first | rfl | omega | (simp; done)) rfl rfl ?_ (by decide) ?_; (· first | omega | (simp; omega))) | (refine m_app1 rfl (by decide) rfl (by first | (simp; done) | (simp [*]; done) | (simp; omega)) rfl rfl rfl ?_ (by decide) ?_; (· first | omega | (simp; omega))) | (refine m_appro rfl (by decide) rfl (by first | rfl | (simp; done) | (simp [*]; done) | (simp; omega)) rfl (oks_ints _) ?_ (by decide) ?_; (· first | omega | (simp; omega))))) | refine end_ops ?_ | refine seq_ops ?_ | refine AW_ops ?_ | (refine cond_t rfl ?_ ?_; (· first | rfl | assumption | (refine decide_eq_true ?_; first | assumption | omega) | (refine nt ?_; first | assumption | omega) | (simp [*]; done))) | (refine cond_f rfl ?_ ?_; (· first | rfl | assumption | (refine decide_eq_false ?_; first | assumption | omega) | (refine nf ?_; first | assumption | omega) | (simp [*]; done))) | refine skip_then ?_ | refine AW_seq ?_ | refine AW_ret ?_ | refine ret_done ?_ | refine norm_then ?_ | refine ret_then ?_ | refine exit_then ?_ | refine AW_block ?_ | refine norm_block ?_ | refine ret_block ?_ | refine ret_round ?_ | refine exit_round ?_ | refine AW_exit ?_ | refine exit_block ?_ | (refine exit_other ?_ ?_; (· decide)) | refine AW_skip ?_)
  refine AW_loop (α := Nat × Nat) (fun a => a.1 ≤ B.length ∧ (a.2 = 5 ∨ a.2 = 20)) (fun a => st [(0, ints A), (8, ints B), (9, .i B.length), (10, .i a.1), (5, .sl a.2 1 0 a.1)] [(a.2, (true, (thenW A B a.1).map AV.i))]) (fun a => B.length - a.1) (0, 5) (by simp) (weak_st ?_ ?_ rfl rfl) ?_
  · (repeat' (first | exact trivial | refine And.intro ?_ ?_)) <;> (first | rfl | skip)
  · exact ⟨rfl, trivial⟩
  rintro ⟨k, r⟩ ⟨hk, hr⟩
  have hn := thenW_len A B k
  simp only at hk hr
  rcases hr with rfl | rfl
  all_goals
    dsimp only
    by_cases h : k < B.length
    · have hx := hB.2.2.1 _ (getD_mem h)
      obtain ⟨i, hi⟩ := Int.eq_ofNat_of_zero_le hx.1
      have hin : i < A.length := by omega
      have hts := thenW_succ A B k i hi
      generalize thenW A B k = W1 at *
      repeat (first | (refine step_ops ?_; (first | (refine m_mov (by conv => lhs; whnf) ?_) | (refine m_lss rfl rfl ?_) | (refine m_add rfl rfl ?_ ?_ ?_; (· omega); (· omega)) | (refine m_adds rfl rfl ?_ ?_; (· first | omega | (simp; omega))) | (refine m_len_ro rfl ?_) | (refine m_len_sl rfl ?_) | (refine m_len_nil rfl ?_) | (refine m_idx1_ro rfl rfl ?_ ?_; (· omega)) | (refine m_idx1_sl rfl rfl ?_ ?_; (· omega)) | (apply m_idx1_slj; (· rfl); (· rfl); (· assumption); (· omega)) | (apply m_idx1_roj; (· rfl); (· rfl); (· assumption); (· omega)) | (refine m_idx_ro rfl rfl ?_ ?_ ?_; (· omega); (· omega)) | (refine m_idx_sl rfl rfl ?_ ?_ ?_; (· omega); (· omega)) | (refine m_ld_rpi rfl ?_ ?_; (· omega)) | (refine m_ld_pti rfl (by rfl) ?_ ?_; (· first | omega | (simp; omega))) | (apply m_ld_ptb; (· rfl); (· rfl); (· assumption)) | (apply m_ld_rp; (· rfl); (· rfl)) | (apply m_ld_pt; (· rfl); (· rfl); (· rfl)) | (refine m_nils ?_) | (refine m_bsl1 rfl rfl ?_) | (refine m_app1i rfl (by decide) (by rfl) (by first | rfl | omega | (simp; done)) rfl rfl ?_ (by decide) ?_; (· first | omega | (simp; omega))) | (refine m_app1 rfl (by decide) rfl (by first | (simp; done) | (simp [*]; done) | (simp; omega)) rfl rfl rfl ?_ (by decide) ?_; (· first | omega | (simp; omega))) | (refine m_appro rfl (by decide) rfl (by first | rfl | (simp; done) | (simp [*]; done) | (simp; omega)) rfl (oks_ints _) ?_ (by decide) ?_; (· first | omega | (simp; omega))))) | refine end_ops ?_ | refine seq_ops ?_ | refine AW_ops ?_ | (refine cond_t rfl ?_ ?_; (· first | rfl | assumption | (refine decide_eq_true ?_; first | assumption | omega) | (refine nt ?_; first | assumption | omega) | (simp [*]; done))) | (refine cond_f rfl ?_ ?_; (· first | rfl | assumption | (refine decide_eq_false ?_; first | assumption | omega) | (refine nf ?_; first | assumption | omega) | (simp [*]; done))) | refine skip_then ?_ | refine AW_seq ?_ | refine AW_ret ?_ | refine ret_done ?_ | refine norm_then ?_ | refine ret_then ?_ | refine exit_then ?_ | refine AW_block ?_ | refine norm_block ?_ | refine ret_block ?_ | refine ret_round ?_ | refine exit_round ?_ | refine AW_exit ?_ | refine exit_block ?_ | (refine exit_other ?_ ?_; (· decide)) | refine AW_skip ?_)
      refine next_round (k + 1, 20) ⟨by omega, .inr rfl⟩ (weak_st ?_ ?_ rfl rfl) ?_
      · refine ⟨rfl, rfl, rfl, rfl, ?_, trivial⟩
        show AV.sl 20 1 0 (W1 ++ [A.getD i 0]).length = AV.sl 20 1 0 (k + 1)
        rw [List.length_append, hn]; rfl
      · refine ⟨?_, trivial⟩
        show some (true, (W1 ++ [A.getD i 0]).map AV.i) = some (true, (thenW A B (k + 1)).map AV.i)
        rw [hts]
      · omega
    · repeat (first | (refine step_ops ?_; (first | (refine m_mov (by conv => lhs; whnf) ?_) | (refine m_lss rfl rfl ?_) | (refine m_add rfl rfl ?_ ?_ ?_; (· omega); (· omega)) | (refine m_adds rfl rfl ?_ ?_; (· first | omega | (simp; omega))) | (refine m_len_ro rfl ?_) | (refine m_len_sl rfl ?_) | (refine m_len_nil rfl ?_) | (refine m_idx1_ro rfl rfl ?_ ?_; (· omega)) | (refine m_idx1_sl rfl rfl ?_ ?_; (· omega)) | (apply m_idx1_slj; (· rfl); (· rfl); (· assumption); (· omega)) | (apply m_idx1_roj; (· rfl); (· rfl); (· assumption); (· omega)) | (refine m_idx_ro rfl rfl ?_ ?_ ?_; (· omega); (· omega)) | (refine m_idx_sl rfl rfl ?_ ?_ ?_; (· omega); (· omega)) | (refine m_ld_rpi rfl ?_ ?_; (· omega)) | (refine m_ld_pti rfl (by rfl) ?_ ?_; (· first | omega | (simp; omega))) | (apply m_ld_ptb; (· rfl); (· rfl); (· assumption)) | (apply m_ld_rp; (· rfl); (· rfl)) | (apply m_ld_pt; (· rfl); (· rfl); (· rfl)) | (refine m_nils ?_) | (refine m_bsl1 rfl rfl ?_) | (refine m_app1i rfl (by decide) (by rfl) (by first | rfl | omega | (simp; done)) rfl rfl ?_ (by decide) ?_; (· first | omega | (simp; omega))) | (refine m_app1 rfl (by decide) rfl (by first | (simp; done) | (simp [*]; done) | (simp; omega)) rfl rfl rfl ?_ (by decide) ?_; (· first | omega | (simp; omega))) | (refine m_appro rfl (by decide) rfl (by first | rfl | (simp; done) | (simp [*]; done) | (simp; omega)) rfl (oks_ints _) ?_ (by decide) ?_; (· first | omega | (simp; omega))))) | refine end_ops ?_ | refine seq_ops ?_ | refine AW_ops ?_ | (refine cond_t rfl ?_ ?_; (· first | rfl | assumption | (refine decide_eq_true ?_; first | assumption | omega) | (refine nt ?_; first | assumption | omega) | (simp [*]; done))) | (refine cond_f rfl ?_ ?_; (· first | rfl | assumption | (refine decide_eq_false ?_; first | assumption | omega) | (refine nf ?_; first | assumption | omega) | (simp [*]; done))) | refine skip_then ?_ | refine AW_seq ?_ | refine AW_ret ?_ | refine ret_done ?_ | refine norm_then ?_ | refine ret_then ?_ | refine exit_then ?_ | refine AW_block ?_ | refine norm_block ?_ | refine ret_block ?_ | refine ret_round ?_ | refine exit_round ?_ | refine AW_exit ?_ | refine exit_block ?_ | (refine exit_other ?_ ?_; (· decide)) | refine AW_skip ?_)
      obtain rfl : k = B.length := by omega
      exact outs_ints rfl rfl hn.symm

end Go.Proofs.Yteoogkiaacdmiaa
