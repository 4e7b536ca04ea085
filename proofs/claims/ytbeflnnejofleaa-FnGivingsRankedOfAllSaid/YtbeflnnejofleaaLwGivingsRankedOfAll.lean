/- The law FnGivingsRankedOfAll says true for all lists and every number: givings are ranked in order, next ones are those of their ranks, and gifts between families add up. No condition. -/
import Derived.Test.YtbeflnnejofleaaZs5
set_option linter.unusedSectionVars false
namespace Go.Proofs.Ytbeflnnejofleaa
variable [Go.Am.CodeBlk]
open Go.Am
attribute [local irreducible] AW Outs Weak Lends Lend Sp aops atree aop1 Then Round InBlock Done
attribute [local irreducible] SpM DoneM SpH DoneH
def gr2 : ACode := sndN 2 ac4
theorem gw2 {F L f : List Int} (hF : F.length ≤ 10000) (hL : L.length ≤ 10000) (hf : f.length ≤ 10000) (r : Int) : AW Try.prog (min Try.f4.ntmps pbase) gr2 (st [(0, ints F), (1, ints L), (2, ints f), (3, .i r)] []) (Done [8].reverse (.b true)) := by
  have h10 := gw10 hF hL hf r
  have s1 := implIsGiving_spec F L (by omega) (by omega)
  have s2 := specIsGiving_spec F L (by omega) (by omega)
  have s3 := implRankOfGiving_spec F L (by omega) (by omega)
  have s4 := specRankOfGiving_spec F L (by omega) (by omega)
  have s5 := implNextGiving_spec F L (by omega) (by omega)
  have s6 := specNextGiving_spec F L (by omega) (by omega)
  have s7 := sp_mat2 (implGiftsBetween_spec F L (by omega) (by omega))
  have s8 := sp_mat2 (specGiftsBetween_spec F L (by omega) (by omega))
  unfold isGivingR at s1 s2
  unfold rkTup at s3 s4
  unfold srchR at s5 s6
  have hp : gr2 = .seq (fstC gr2) (.seq (fstC (sndN 1 gr2)) (.seq (fstC (sndN 2 gr2)) (.seq (fstC (sndN 3 gr2)) (.seq (fstC (sndN 4 gr2)) (.seq (fstC (sndN 5 gr2)) (.seq (fstC (sndN 6 gr2)) (.seq (fstC (sndN 7 gr2)) gr10))))))) := rfl
  rw [hp]
  clear hp
  generalize gr10 = c10 at *
  generalize decide (GbOk F L) = B1 at *
  generalize decide (Givers F L ∧ apart F L) = B2 at *
  generalize decide (Givers F L) = B3 at *
  generalize (nextG F L).isSome = B4 at *
  generalize (nextG F L).getD [] = N at *
  generalize gbRes F L = G at *
  generalize rkR F L = k at *
  unfold gr2
  unfold ac4
  simp only [sndN, sndC, fstC]
  repeat (first | (refine step_ops ?_; (refine m_mov (by conv => lhs; whnf) ?_)) | refine seq_ops ?_)
  refine step_ops ?_; (apply m_call (s1)); (· repeat (first | exact lends_nil | (refine lends_cons ?_ ?_; (· (refine lend_ints ?_; first | rfl | omega)))))
  repeat (first | (refine step_ops ?_; (first | (refine m_mov (by conv => lhs; whnf) ?_) | (refine m_ext rfl rfl ?_))) | refine end_ops ?_ | refine seq_ops ?_)
  refine step_ops ?_; (apply m_call (s2)); (· repeat (first | exact lends_nil | (refine lends_cons ?_ ?_; (· (refine lend_ints ?_; first | rfl | omega)))))
  repeat (first | (refine step_ops ?_; (first | (refine m_mov (by conv => lhs; whnf) ?_) | (refine m_ext rfl rfl ?_))) | refine end_ops ?_ | refine seq_ops ?_)
  refine step_ops ?_; (apply m_call (s3)); (· repeat (first | exact lends_nil | (refine lends_cons ?_ ?_; (· (refine lend_ints ?_; first | rfl | omega)))))
  repeat (first | (refine step_ops ?_; (first | (refine m_mov (by conv => lhs; whnf) ?_) | (refine m_ext rfl rfl ?_))) | refine end_ops ?_ | refine seq_ops ?_)
  refine step_ops ?_; (apply m_call (s4)); (· repeat (first | exact lends_nil | (refine lends_cons ?_ ?_; (· (refine lend_ints ?_; first | rfl | omega)))))
  repeat (first | (refine step_ops ?_; (first | (refine m_mov (by conv => lhs; whnf) ?_) | (refine m_ext rfl rfl ?_))) | refine end_ops ?_ | refine seq_ops ?_)
  refine step_ops ?_; (apply m_call (s5)); (· repeat (first | exact lends_nil | (refine lends_cons ?_ ?_; (· (refine lend_ints ?_; first | rfl | omega)))))
  repeat (first | (refine step_ops ?_; (first | (refine m_mov (by conv => lhs; whnf) ?_) | (refine m_ext rfl rfl ?_))) | refine end_ops ?_ | refine seq_ops ?_)
  refine step_ops ?_; (apply m_call (s6)); (· repeat (first | exact lends_nil | (refine lends_cons ?_ ?_; (· (refine lend_ints ?_; first | rfl | omega)))))
  repeat (first | (refine step_ops ?_; (first | (refine m_mov (by conv => lhs; whnf) ?_) | (refine m_ext rfl rfl ?_))) | refine end_ops ?_ | refine seq_ops ?_)
  refine step_ops ?_; (apply m_call (s7)); (· repeat (first | exact lends_nil | (refine lends_cons ?_ ?_; (· (refine lend_ints ?_; first | rfl | omega)))))
  repeat (first | (refine step_ops ?_; (first | (refine m_mov (by conv => lhs; whnf) ?_) | (refine m_ext rfl rfl ?_))) | refine end_ops ?_ | refine seq_ops ?_)
  refine step_ops ?_; (apply m_call (s8)); (· repeat (first | exact lends_nil | (refine lends_cons ?_ ?_; (· (refine lend_ints ?_; first | rfl | omega)))))
  repeat (first | (refine step_ops ?_; (first | (refine m_mov (by conv => lhs; whnf) ?_) | (refine m_ext rfl rfl ?_))) | refine end_ops ?_)
  refine AW_weak (weak_st ?_ ?_ rfl rfl) h10
  · (repeat' (first | exact trivial | refine And.intro ?_ ?_)) <;> (first | rfl | skip)
  · trivial
theorem lawGivingsRankedOfAll (F L f : List Int) (r : Int) : Sp Try.prog 4 [ints F, ints L, ints f, .i r] (.b true) := by
  by_cases hF : (F.length : Int) ≤ 10000
  · by_cases hL : (L.length : Int) ≤ 10000
    · by_cases hf : (f.length : Int) ≤ 10000
      · have h2 := gw2 (F := F) (L := L) (f := f) (by omega) (by omega) (by omega) r
        refine spec_of Try.func4 rfl cc4 rfl ?_
        unfold ac4
        have hp : ac4 = .seq (fstC ac4) (.seq (fstC (sndN 1 ac4)) gr2) := rfl
        unfold ac4 at hp
        rw [hp]
        clear hp
        generalize gr2 = c4 at *
        simp only [sndN, sndC, fstC]
        repeat (first | (refine step_ops ?_; ((try (refine g_yes rfl ?_ ?_; (· (simp [*]; done)))); (first | (refine m_mov (by conv => lhs; whnf) ?_) | (refine m_gtr rfl rfl ?_) | (refine m_len_ro rfl ?_) | (refine m_pick_f rfl ?_ (by conv => lhs; whnf) ?_; (· (refine decide_eq_false ?_; omega)))))) | refine end_ops ?_ | refine seq_ops ?_ | (refine cond_f rfl ?_ ?_; (· (refine decide_eq_false ?_; omega))) | refine skip_then ?_ | refine AW_seq ?_)
        refine AW_weak (weak_st ?_ ?_ rfl rfl) h2
        · (repeat' (first | exact trivial | refine And.intro ?_ ?_)) <;> (first | rfl | skip)
        · trivial
      · skip
        refine spec_of Try.func4 rfl cc4 rfl ?_
        unfold ac4
        repeat (first | (refine step_ops ?_; ((try (refine g_yes rfl ?_ ?_; (· (simp [*]; done)))); (first | (refine m_mov (by conv => lhs; whnf) ?_) | (refine m_gtr rfl rfl ?_) | (refine m_len_ro rfl ?_) | (refine m_pick_f rfl ?_ (by conv => lhs; whnf) ?_; (· (refine decide_eq_false ?_; omega)))))) | refine end_ops ?_ | refine seq_ops ?_ | (refine cond_t rfl ?_ ?_; (· (refine decide_eq_true ?_; omega))) | refine AW_seq ?_ | refine AW_ret ?_ | refine ret_done ?_ | refine ret_then ?_)
        exact outs_b rfl
    · skip
      refine spec_of Try.func4 rfl cc4 rfl ?_
      unfold ac4
      repeat (first | (refine step_ops ?_; (first | ((try (refine g_yes rfl ?_ ?_; (· (simp [*]; done)))); (first | (refine m_mov (by conv => lhs; whnf) ?_) | (refine m_gtr rfl rfl ?_) | (refine m_len_ro rfl ?_) | (refine m_pick_t rfl ?_ (by conv => lhs; whnf) ?_; (· (refine decide_eq_true ?_; omega))) | (refine m_pick_f rfl ?_ (by conv => lhs; whnf) ?_; (· (refine decide_eq_false ?_; omega))))) | (refine g_noF rfl ?_ ?_; (· (refine decide_eq_true ?_; omega))))) | refine end_ops ?_ | refine seq_ops ?_ | (refine cond_t rfl ?_ ?_; (· rfl)) | refine AW_seq ?_ | refine AW_ret ?_ | refine ret_done ?_ | refine ret_then ?_)
      exact outs_b rfl
  · skip
    refine spec_of Try.func4 rfl cc4 rfl ?_
    unfold ac4
    repeat (first | (refine step_ops ?_; (first | (first | (refine m_mov (by conv => lhs; whnf) ?_) | (refine m_gtr rfl rfl ?_) | (refine m_len_ro rfl ?_) | (refine m_pick_t rfl ?_ (by conv => lhs; whnf) ?_; (· first | rfl | (refine decide_eq_true ?_; omega)))) | (refine g_noF rfl ?_ ?_; (· first | rfl | (refine decide_eq_true ?_; omega))))) | refine end_ops ?_ | refine seq_ops ?_ | (refine cond_t rfl ?_ ?_; (· rfl)) | refine AW_seq ?_ | refine AW_ret ?_ | refine ret_done ?_ | refine ret_then ?_)
    exact outs_b rfl
end Go.Proofs.Ytbeflnnejofleaa
