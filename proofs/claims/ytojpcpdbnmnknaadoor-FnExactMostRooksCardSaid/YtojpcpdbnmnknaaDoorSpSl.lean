/- Contracts: the specification cuts a text at slashes. -/
import Derived.Test.YtojpcpdbnmnknaaDoorSpSn
import Derived.Test.YtojpcpdbnmnknaaDoorSpB
namespace Go.Proofs.YtojpcpdbnmnknaaDoor
open Go.Am
attribute [local irreducible] AW Outs Weak Lends Lend Sp aops atree aop1 Then Round InBlock Done

theorem drop_cut {B : List UInt8} {a i : Nat} (h1 : a ≤ i) (h2 : i < B.length) : B.drop a = (B.drop a).take (i - a) ++ B.getD i 0 :: B.drop (i + 1) := by
  have h3 := List.take_append_drop (i - a) (B.drop a)
  rw [List.drop_drop, show a + (i - a) = i by omega] at h3
  rw [← h3]
  congr 1
  · rw [h3]
  · rw [getD_get h2]
    exact List.drop_eq_getElem_cons h2
theorem u8_eq {c : UInt8} {n : Nat} (h : c.toNat = n) (k : UInt8) (hk : k.toNat = n) : c = k := UInt8.toNat_inj.1 (h.trans hk.symm)

theorem l1Split_spec (B : List UInt8) (hB : B.length ≤ 1048576) : Sp Tryd.prog 46 [str B, .v (.int .u8 47)] (.ro true 1 (strs (splitB B)) (splitB B).length) := by
  have hcnt : B.count 47 ≤ B.length := List.count_le_length
  refine spec_of Tryd.func46 rfl cc46 rfl ?_
  unfold ac46
  repeat (first | (refine step_ops ?_; (first | (refine m_mov (by conv => lhs; whnf) ?_) | (refine m_lss rfl rfl ?_) | (refine m_eql rfl rfl ?_) | (refine m_eqk rfl rfl ?_) | (refine m_eqs rfl rfl ?_) | (refine m_add rfl rfl ?_ ?_ ?_; (· omega); (· omega)) | (refine m_adds rfl rfl ?_ ?_; (· first | omega | (simp; omega))) | (refine m_scutb rfl rfl rfl ?_ ?_ ?_; (· omega); (· first | omega | (simp; omega))) | (refine m_scutl rfl rfl ?_ ?_; (· first | omega | (simp; omega))) | (refine m_slen rfl ?_) | (refine m_six' rfl rfl ?_ ?_; (· first | omega | (simp; omega))) | (refine m_nils ?_) | (refine m_bsl1 rfl rfl ?_) | (refine m_app1i rfl (by decide) (by rfl) (by first | rfl | omega | (simp; done)) rfl rfl ?_ (by decide) ?_; (· first | omega | (simp; omega))) | (refine m_app1 rfl (by decide) rfl (by first | (simp; done) | (simp [*]; done) | (simp; omega)) rfl rfl rfl ?_ (by decide) ?_; (· first | omega | (simp; omega))) | (refine m_appro rfl (by decide) rfl (by first | rfl | (simp; done) | (simp [*]; done) | (simp; omega)) rfl (oks_ints _) ?_ (by decide) ?_; (· first | omega | (simp; omega))))) | refine end_ops ?_ | refine seq_ops ?_ | refine AW_ops ?_ | (refine cond_t rfl ?_ ?_; (· first | rfl | assumption | (refine decide_eq_true ?_; first | assumption | omega) | (refine nt ?_; first | assumption | omega) | (simp [*]; done))) | (refine cond_f rfl ?_ ?_; (· first | rfl | assumption | (refine decide_eq_false ?_; first | assumption | omega) | (refine nf ?_; first | assumption | omega) | (simp [*]; done))) | refine skip_then ?_ | refine AW_seq ?_ | refine AW_ret ?_ | refine ret_done ?_ | refine norm_then ?_ | refine ret_then ?_ | refine exit_then ?_ | refine AW_block ?_ | refine norm_block ?_ | refine ret_block ?_ | refine ret_round ?_ | refine exit_round ?_ | refine AW_exit ?_ | refine exit_block ?_ | (refine exit_other ?_ ?_; (· decide)) | refine AW_skip ?_)
  refine AW_loop (α := List (List UInt8) × Nat × Nat) (fun a => a.2.1 ≤ a.2.2 ∧ a.2.2 ≤ B.length ∧ (47 : UInt8) ∉ (B.drop a.2.1).take (a.2.2 - a.2.1) ∧ a.1 ++ splitB (B.drop a.2.1) = splitB B)
    (fun a => st [(0, str B), (1, .v (.int .u8 47)), (5, .sl 5 1 0 a.1.length), (6, .i a.2.1), (7, .i a.2.2)] [(5, (true, strs a.1))]) (fun a => B.length - a.2.2) ([], 0, 0) ⟨Nat.le_refl _, Nat.zero_le _, by simp, by simp⟩ (weak_st ?_ ?_ rfl rfl) ?_
  · (repeat' (first | exact trivial | refine And.intro ?_ ?_)) <;> (first | rfl | skip)
  · (repeat' (first | exact trivial | refine And.intro ?_ ?_)) <;> (first | rfl | skip)
  rintro ⟨done, a, i⟩ ⟨h1, h2, h3, h4⟩
  dsimp only at h1 h2 h3 h4 ⊢
  have hdl : done.length + 1 ≤ B.length + 1 := by
    have h5 := congrArg List.length h4
    rw [List.length_append, splitB_len, splitB_len] at h5
    omega
  have hsl := strs_len done
  have hd1 : ∀ p, (done ++ [p]).length = done.length + 1 := fun p => by simp
  have hd2 : ∀ p, strs (done ++ [p]) = strs done ++ [str p] := fun p => by simp [strs]
  by_cases hc : i < B.length
  · have hdc := drop_cut h1 hc
    by_cases h47 : B.getD i 0 = 47
    · have h47' : ((B.getD i 0).toNat : Int) = 47 := by rw [h47]; rfl
      rw [h47] at hdc
      repeat (first | (refine step_ops ?_; (first | (refine m_mov (by conv => lhs; whnf) ?_) | (refine m_lss rfl rfl ?_) | (refine m_eql rfl rfl ?_) | (refine m_eqk rfl rfl ?_) | (refine m_eqs rfl rfl ?_) | (refine m_add rfl rfl ?_ ?_ ?_; (· omega); (· omega)) | (refine m_adds rfl rfl ?_ ?_; (· first | omega | (simp; omega))) | (refine m_scutb rfl rfl rfl ?_ ?_ ?_; (· omega); (· first | omega | (simp; omega))) | (refine m_scutl rfl rfl ?_ ?_; (· first | omega | (simp; omega))) | (refine m_slen rfl ?_) | (refine m_six' rfl rfl ?_ ?_; (· first | omega | (simp; omega))) | (refine m_nils ?_) | (refine m_bsl1 rfl rfl ?_) | (refine m_app1i rfl (by decide) (by rfl) (by first | rfl | omega | (simp; done)) rfl rfl ?_ (by decide) ?_; (· first | omega | (simp; omega))) | (refine m_app1 rfl (by decide) rfl (by first | (simp; done) | (simp [*]; done) | (simp; omega)) rfl rfl rfl ?_ (by decide) ?_; (· first | omega | (simp; omega))) | (refine m_appro rfl (by decide) rfl (by first | rfl | (simp; done) | (simp [*]; done) | (simp; omega)) rfl (oks_ints _) ?_ (by decide) ?_; (· first | omega | (simp; omega))))) | refine end_ops ?_ | refine seq_ops ?_ | refine AW_ops ?_ | (refine cond_t rfl ?_ ?_; (· first | rfl | assumption | (refine decide_eq_true ?_; first | assumption | omega) | (refine nt ?_; first | assumption | omega) | (simp [*]; done))) | (refine cond_f rfl ?_ ?_; (· first | rfl | assumption | (refine decide_eq_false ?_; first | assumption | omega) | (refine nf ?_; first | assumption | omega) | (simp [*]; done))) | refine skip_then ?_ | refine AW_seq ?_ | refine AW_ret ?_ | refine ret_done ?_ | refine norm_then ?_ | refine ret_then ?_ | refine exit_then ?_ | refine AW_block ?_ | refine norm_block ?_ | refine ret_block ?_ | refine ret_round ?_ | refine exit_round ?_ | refine AW_exit ?_ | refine exit_block ?_ | (refine exit_other ?_ ?_; (· decide)) | refine AW_skip ?_)
      refine next_round (done ++ [(B.drop a).take (i - a)], i + 1, i + 1) ⟨Nat.le_refl _, hc, by simp, ?_⟩ (Weak.trans (weak_move (r := 25) (q := 5) rfl (by decide) (by decide)) (weak_st ?_ ?_ rfl rfl)) ?_
      · have h5 : splitB (B.drop a) = (B.drop a).take (i - a) :: splitB (B.drop (i + 1)) := by
          conv => lhs; rw [hdc]
          exact splitB_cut h3
        show (done ++ [(B.drop a).take (i - a)]) ++ splitB (B.drop (i + 1)) = splitB B
        rw [← h4, h5, List.append_assoc]
        rfl
      · rw [hd1]
        (repeat' (first | exact trivial | refine And.intro ?_ ?_)) <;> (first | rfl | skip)
      · rw [hd2]
        (repeat' (first | exact trivial | refine And.intro ?_ ?_)) <;> (first | rfl | skip)
      · show B.length - (i + 1) < B.length - i; omega
    · have h47' : ¬ ((B.getD i 0).toNat : Int) = 47 := fun e => h47 (u8_eq (n := 47) (by omega) 47 rfl)
      repeat (first | (refine step_ops ?_; (first | (refine m_mov (by conv => lhs; whnf) ?_) | (refine m_lss rfl rfl ?_) | (refine m_eql rfl rfl ?_) | (refine m_eqk rfl rfl ?_) | (refine m_eqs rfl rfl ?_) | (refine m_add rfl rfl ?_ ?_ ?_; (· omega); (· omega)) | (refine m_adds rfl rfl ?_ ?_; (· first | omega | (simp; omega))) | (refine m_scutb rfl rfl rfl ?_ ?_ ?_; (· omega); (· first | omega | (simp; omega))) | (refine m_scutl rfl rfl ?_ ?_; (· first | omega | (simp; omega))) | (refine m_slen rfl ?_) | (refine m_six' rfl rfl ?_ ?_; (· first | omega | (simp; omega))) | (refine m_nils ?_) | (refine m_bsl1 rfl rfl ?_) | (refine m_app1i rfl (by decide) (by rfl) (by first | rfl | omega | (simp; done)) rfl rfl ?_ (by decide) ?_; (· first | omega | (simp; omega))) | (refine m_app1 rfl (by decide) rfl (by first | (simp; done) | (simp [*]; done) | (simp; omega)) rfl rfl rfl ?_ (by decide) ?_; (· first | omega | (simp; omega))) | (refine m_appro rfl (by decide) rfl (by first | rfl | (simp; done) | (simp [*]; done) | (simp; omega)) rfl (oks_ints _) ?_ (by decide) ?_; (· first | omega | (simp; omega))))) | refine end_ops ?_ | refine seq_ops ?_ | refine AW_ops ?_ | (refine cond_t rfl ?_ ?_; (· first | rfl | assumption | (refine decide_eq_true ?_; first | assumption | omega) | (refine nt ?_; first | assumption | omega) | (simp [*]; done))) | (refine cond_f rfl ?_ ?_; (· first | rfl | assumption | (refine decide_eq_false ?_; first | assumption | omega) | (refine nf ?_; first | assumption | omega) | (simp [*]; done))) | refine skip_then ?_ | refine AW_seq ?_ | refine AW_ret ?_ | refine ret_done ?_ | refine norm_then ?_ | refine ret_then ?_ | refine exit_then ?_ | refine AW_block ?_ | refine norm_block ?_ | refine ret_block ?_ | refine ret_round ?_ | refine exit_round ?_ | refine AW_exit ?_ | refine exit_block ?_ | (refine exit_other ?_ ?_; (· decide)) | refine AW_skip ?_)
      refine next_round (done, a, i + 1) ⟨by show a ≤ i + 1; omega, hc, ?_, h4⟩ (weak_st ?_ ?_ rfl rfl) ?_
      · show (47 : UInt8) ∉ (B.drop a).take (i + 1 - a)
        have h6 : (B.drop a).getD (i - a) 0 = B.getD i 0 := by
          rw [getD_get (by simp; omega), getD_get hc]
          simp [show a + (i - a) = i by omega]
        rw [show i + 1 - a = (i - a) + 1 by omega, take_snoc _ _ 0 (by simp; omega), h6]
        simp only [List.mem_append, List.mem_singleton, not_or]
        exact ⟨h3, fun e => h47 e.symm⟩
      · (repeat' (first | exact trivial | refine And.intro ?_ ?_)) <;> (first | rfl | skip)
      · (repeat' (first | exact trivial | refine And.intro ?_ ?_)) <;> (first | rfl | skip)
      · show B.length - (i + 1) < B.length - i; omega
  · obtain rfl : i = B.length := by omega
    have hn : (47 : UInt8) ∉ B.drop a := by rwa [List.take_of_length_le (by simp)] at h3
    have hfin : splitB B = done ++ [B.drop a] := by rw [← h4, splitB_one hn]
    repeat (first | (refine step_ops ?_; (first | (refine m_mov (by conv => lhs; whnf) ?_) | (refine m_lss rfl rfl ?_) | (refine m_eql rfl rfl ?_) | (refine m_eqk rfl rfl ?_) | (refine m_eqs rfl rfl ?_) | (refine m_add rfl rfl ?_ ?_ ?_; (· omega); (· omega)) | (refine m_adds rfl rfl ?_ ?_; (· first | omega | (simp; omega))) | (refine m_scutb rfl rfl rfl ?_ ?_ ?_; (· omega); (· first | omega | (simp; omega))) | (refine m_scutl rfl rfl ?_ ?_; (· first | omega | (simp; omega))) | (refine m_slen rfl ?_) | (refine m_six' rfl rfl ?_ ?_; (· first | omega | (simp; omega))) | (refine m_nils ?_) | (refine m_bsl1 rfl rfl ?_) | (refine m_app1i rfl (by decide) (by rfl) (by first | rfl | omega | (simp; done)) rfl rfl ?_ (by decide) ?_; (· first | omega | (simp; omega))) | (refine m_app1 rfl (by decide) rfl (by first | (simp; done) | (simp [*]; done) | (simp; omega)) rfl rfl rfl ?_ (by decide) ?_; (· first | omega | (simp; omega))) | (refine m_appro rfl (by decide) rfl (by first | rfl | (simp; done) | (simp [*]; done) | (simp; omega)) rfl (oks_ints _) ?_ (by decide) ?_; (· first | omega | (simp; omega))))) | refine end_ops ?_ | refine seq_ops ?_ | refine AW_ops ?_ | (refine cond_t rfl ?_ ?_; (· first | rfl | assumption | (refine decide_eq_true ?_; first | assumption | omega) | (refine nt ?_; first | assumption | omega) | (simp [*]; done))) | (refine cond_f rfl ?_ ?_; (· first | rfl | assumption | (refine decide_eq_false ?_; first | assumption | omega) | (refine nf ?_; first | assumption | omega) | (simp [*]; done))) | refine skip_then ?_ | refine AW_seq ?_ | refine AW_ret ?_ | refine ret_done ?_ | refine norm_then ?_ | refine ret_then ?_ | refine exit_then ?_ | refine AW_block ?_ | refine norm_block ?_ | refine ret_block ?_ | refine ret_round ?_ | refine exit_round ?_ | refine AW_exit ?_ | refine exit_block ?_ | (refine exit_other ?_ ?_; (· decide)) | refine AW_skip ?_)
    rw [hfin, hd1, hd2]
    exact outs_sl rfl (by simp [strs_len]) (by simp [strs, plainV])

theorem bdSide_spec (B : List UInt8) (hB : B.length ≤ 1048576) : Sp Tryd.prog 34 [str B] (.i (sdB B : Nat)) := by
  refine spec_of Tryd.func34 rfl cc34 rfl ?_
  unfold ac34
  repeat (first | (refine step_ops ?_; (first | (refine m_mov (by conv => lhs; whnf) ?_) | (refine m_len_ro rfl ?_) | (refine m_len_sl rfl ?_) | (refine m_len_nil rfl ?_))) | refine end_ops ?_ | refine seq_ops ?_ | refine AW_ops ?_ | refine AW_seq ?_ | refine AW_ret ?_ | refine ret_done ?_ | refine norm_then ?_ | refine ret_then ?_ | refine exit_then ?_)
  refine step_ops ?_
  refine m_callo (l1Split_spec B hB) ?_ (strs_plain _) ?_
  · exact lends_cons lend_v (lends_cons lend_v lends_nil)
  repeat (first | (refine step_ops ?_; (first | (refine m_mov (by conv => lhs; whnf) ?_) | (refine m_len_ro rfl ?_) | (refine m_len_sl rfl ?_) | (refine m_len_nil rfl ?_))) | refine end_ops ?_ | refine seq_ops ?_ | refine AW_ops ?_ | refine AW_seq ?_ | refine AW_ret ?_ | refine ret_done ?_ | refine norm_then ?_ | refine ret_then ?_ | refine exit_then ?_)
  exact outs_i (by rw [splitB_len]; rfl)
end Go.Proofs.YtojpcpdbnmnknaaDoor
