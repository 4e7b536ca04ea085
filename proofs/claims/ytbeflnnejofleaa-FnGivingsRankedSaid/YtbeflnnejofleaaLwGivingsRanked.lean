/- The law FnGivingsRanked says true for all bytes: givings are ranked in order, next ones are those of their ranks, and gifts between families add up. -/
import Derived.Test.YtbeflnnejofleaaZt6
set_option linter.unusedSectionVars false
namespace Go.Proofs.Ytbeflnnejofleaa
variable [Go.Am.CodeBlk]
open Go.Am
attribute [local irreducible] AW Outs Weak Lends Lend Sp aops atree aop1 Then Round InBlock Done
attribute [local irreducible] SpM DoneM SpH DoneH
def gr2 : ACode := sndN 3 ac3
theorem gw2 {F L : List Int} {mv : Value} {ML : List UInt8} (hy : Bys mv ML) (hyl : ML.length ≤ 1048576) (hF : F.length ≤ 10000) (hL : L.length ≤ 10000) : AW Try.prog (min Try.f3.ntmps pbase) gr2 (st [(5, ints F), (6, ints L), (1, .v mv)] []) (Done [4].reverse (.b true)) := by
  have h10 := gw10 hy hyl hF hL
  have s1 := implIsGiving_spec F L (by omega) (by omega)
  have s2 := specIsGiving_spec F L (by omega) (by omega)
  have s3 := implRankOfGiving_spec F L (by omega) (by omega)
  have s4 := specRankOfGiving_spec F L (by omega) (by omega)
  have s5 := implNextGiving_spec F L (by omega) (by omega)
  have s6 := specNextGiving_spec F L (by omega) (by omega)
  have s7 := sp_mat2 (implGiftsBetween_spec F L (by omega) (by omega))
  have s8 := sp_mat2 (specGiftsBetween_spec F L (by omega) (by omega))
  unfold isGivingR at s1 s2
  unfold rkTup at s3 s4
  unfold srchR at s5 s6
  have hp : gr2 = .seq (fstC gr2) (.seq (fstC (sndN 1 gr2)) (.seq (fstC (sndN 2 gr2)) (.seq (fstC (sndN 3 gr2)) (.seq (fstC (sndN 4 gr2)) (.seq (fstC (sndN 5 gr2)) (.seq (fstC (sndN 6 gr2)) (.seq (fstC (sndN 7 gr2)) gr10))))))) := rfl
  rw [hp]
  clear hp
  generalize gr10 = c10 at *
  generalize decide (GbOk F L) = B1 at *
  generalize decide (Givers F L ∧ apart F L) = B2 at *
  generalize decide (Givers F L) = B3 at *
  generalize (nextG F L).isSome = B4 at *
  generalize (nextG F L).getD [] = N at *
  generalize gbRes F L = G at *
  generalize rkR F L = k at *
  unfold gr2
  unfold ac3
  simp only [sndN, sndC, fstC]
  repeat (first | (refine step_ops ?_; (refine m_mov (by conv => lhs; whnf) ?_)) | refine seq_ops ?_)
  refine step_ops ?_; (apply m_call (s1)); (· repeat (first | exact lends_nil | (refine lends_cons ?_ ?_; (· (refine lend_ints ?_; first | rfl | omega)))))
  repeat (first | (refine step_ops ?_; (first | (refine m_mov (by conv => lhs; whnf) ?_) | (refine m_ext rfl rfl ?_))) | refine end_ops ?_ | refine seq_ops ?_)
  refine step_ops ?_; (apply m_call (s2)); (· repeat (first | exact lends_nil | (refine lends_cons ?_ ?_; (· (refine lend_ints ?_; first | rfl | omega)))))
  repeat (first | (refine step_ops ?_; (first | (refine m_mov (by conv => lhs; whnf) ?_) | (refine m_ext rfl rfl ?_))) | refine end_ops ?_ | refine seq_ops ?_)
  refine step_ops ?_; (apply m_call (s3)); (· repeat (first | exact lends_nil | (refine lends_cons ?_ ?_; (· (refine lend_ints ?_; first | rfl | omega)))))
  repeat (first | (refine step_ops ?_; (first | (refine m_mov (by conv => lhs; whnf) ?_) | (refine m_ext rfl rfl ?_))) | refine end_ops ?_ | refine seq_ops ?_)
  refine step_ops ?_; (apply m_call (s4)); (· repeat (first | exact lends_nil | (refine lends_cons ?_ ?_; (· (refine lend_ints ?_; first | rfl | omega)))))
  repeat (first | (refine step_ops ?_; (first | (refine m_mov (by conv => lhs; whnf) ?_) | (refine m_ext rfl rfl ?_))) | refine end_ops ?_ | refine seq_ops ?_)
  refine step_ops ?_; (apply m_call (s5)); (· repeat (first | exact lends_nil | (refine lends_cons ?_ ?_; (· (refine lend_ints ?_; first | rfl | omega)))))
  repeat (first | (refine step_ops ?_; (first | (refine m_mov (by conv => lhs; whnf) ?_) | (refine m_ext rfl rfl ?_))) | refine end_ops ?_ | refine seq_ops ?_)
  refine step_ops ?_; (apply m_call (s6)); (· repeat (first | exact lends_nil | (refine lends_cons ?_ ?_; (· (refine lend_ints ?_; first | rfl | omega)))))
  repeat (first | (refine step_ops ?_; (first | (refine m_mov (by conv => lhs; whnf) ?_) | (refine m_ext rfl rfl ?_))) | refine end_ops ?_ | refine seq_ops ?_)
  refine step_ops ?_; (apply m_call (s7)); (· repeat (first | exact lends_nil | (refine lends_cons ?_ ?_; (· (refine lend_ints ?_; first | rfl | omega)))))
  repeat (first | (refine step_ops ?_; (first | (refine m_mov (by conv => lhs; whnf) ?_) | (refine m_ext rfl rfl ?_))) | refine end_ops ?_ | refine seq_ops ?_)
  refine step_ops ?_; (apply m_call (s8)); (· repeat (first | exact lends_nil | (refine lends_cons ?_ ?_; (· (refine lend_ints ?_; first | rfl | omega)))))
  repeat (first | (refine step_ops ?_; (first | (refine m_mov (by conv => lhs; whnf) ?_) | (refine m_ext rfl rfl ?_))) | refine end_ops ?_)
  refine AW_weak (weak_st ?_ ?_ rfl rfl) h10
  · (repeat' (first | exact trivial | refine And.intro ?_ ?_)) <;> (first | rfl | skip)
  · trivial
theorem lawGivingsRanked {cv mv : Value} {CL ML : List UInt8} (hc : Bys cv CL) (hm : Bys mv ML) (hC : CL.length ≤ 9223372036854775807) (hM : ML.length ≤ 9223372036854775807) : Sp Try.prog 3 [.v cv, .v mv] (.b true) := by
  have hb := big_spec hc hm hC hM
  by_cases hbig : 1048576 < CL.length + ML.length
  · rw [decide_eq_true hbig] at hb
    refine spec_of Try.func3 rfl cc3 rfl ?_
    unfold ac3
    repeat (first | (refine step_ops ?_; (refine m_mov (by conv => lhs; whnf) ?_)) | refine end_ops ?_ | refine seq_ops ?_ | refine AW_seq ?_)
    refine step_ops ?_; (apply m_call (hb)); (· repeat (first | exact lends_nil | (refine lends_cons ?_ ?_; (· exact lend_v))))
    repeat (first | (refine step_ops ?_; (refine m_mov (by conv => lhs; whnf) ?_)) | refine end_ops ?_ | refine seq_ops ?_ | (refine cond_t rfl ?_ ?_; (· rfl)) | refine AW_ret ?_ | refine ret_done ?_ | refine ret_then ?_)
    exact outs_b rfl
  · rw [decide_eq_false hbig] at hb
    have hyl : ML.length ≤ 1048576 := by omega
    have key := fun (F L : List Int) (hF : F.length ≤ 10000) (hL : L.length ≤ 10000) => gw2 (F := F) (L := L) hm hyl hF hL
    refine spec_of Try.func3 rfl cc3 rfl ?_
    unfold ac3
    have hp : ac3 = .seq (fstC ac3) (.seq (fstC (sndN 1 ac3)) (.seq (fstC (sndN 2 ac3)) gr2)) := rfl
    unfold ac3 at hp
    rw [hp]
    clear hp
    generalize gr2 = c4 at *
    simp only [sndN, sndC, fstC]
    repeat (first | (refine step_ops ?_; (refine m_mov (by conv => lhs; whnf) ?_)) | refine end_ops ?_ | refine seq_ops ?_ | refine AW_seq ?_)
    refine step_ops ?_; (apply m_call (hb)); (· repeat (first | exact lends_nil | (refine lends_cons ?_ ?_; (· exact lend_v))))
    repeat (first | (refine step_ops ?_; (refine m_mov (by conv => lhs; whnf) ?_)) | refine end_ops ?_ | refine seq_ops ?_ | (refine cond_f rfl ?_ ?_; (· rfl)) | refine skip_then ?_)
    refine step_ops ?_
    refine m_drawLL (q := 1000) (q' := 1001) (drawGiven_spec hc (by omega)) rfl ⟨([], []), by simp⟩ rfl (by decide) rfl (by decide) (by decide) ?_
    rintro ⟨F, L⟩ ⟨hF, hL⟩
    dsimp only at hF hL ⊢
    repeat (first | (refine step_ops ?_; (first | (refine m_mov (by conv => lhs; whnf) ?_) | (refine m_ext rfl rfl ?_))) | refine end_ops ?_)
    refine AW_weak (weak_frz 5 1000 rfl rfl (by simp) (allv_ints _)) ?_
    refine AW_weak (weak_frz 6 1001 rfl rfl (by simp) (allv_ints _)) ?_
    refine AW_weak (weak_st ?_ ?_ rfl rfl) (key F L (by omega) (by omega))
    · (repeat' (first | exact trivial | refine And.intro ?_ ?_)) <;> (first | rfl | skip)
    · trivial
end Go.Proofs.Ytbeflnnejofleaa
