/- The law FnTablesCounted says true for all bytes: tables and rows by couples together add up to all, chances are those of counts, and tables with all apart are told in order, for what is drawn out of them. No condition but what its card ties. -/
import Derived.Test.YtmmcldbldbpikaaGreatDoorZs6
set_option linter.unusedSectionVars false
namespace Go.Proofs.YtmmcldbldbpikaaGreatDoor
variable [Go.Am.CodeBlk]
open Go.Am
attribute [local irreducible] AW Outs Weak Lends Lend Sp aops atree aop1 Then Round InBlock Done
attribute [local irreducible] SpH SpX DoneH DoneX

theorem twMain (n t : Int) {mv : Value} {ML : List UInt8} (hm : Bys mv ML) (hML : ML.length ≤ 1048576) : AW Tryz.prog (min Tryz.f3.ntmps pbase) (sndN 3 ac3) (st [(5, .i n), (6, .i t), (1, .v mv)] []) (Done [4].reverse (.b true)) := by
  have h6 := tw1b n t hm hML
  have s1 := implCountTogether_spec n t
  have s2 := specCountTogether_spec n t
  have s3 := implCountInRow_spec n t
  have s4 := specCountInRow_spec n t
  have s5 := implCountTurnTogether_spec n t
  have s6 := specCountTurnTogether_spec n t
  have hp : sndN 3 ac3 = .seq (fstC (sndN 3 ac3)) (.seq (fstC (sndN 4 ac3)) (.seq (fstC (sndN 5 ac3)) (.seq (fstC (sndN 6 ac3)) (.seq (fstC (sndN 7 ac3)) (.seq (fstC (sndN 8 ac3)) (twA2)))))) := rfl
  rw [hp]
  clear hp
  generalize twA2 = c6 at *
  generalize togNum n t = v1 at *
  generalize rowNum n t = v2 at *
  generalize turnNum n t = v3 at *
  generalize decide (TogOk n t) = B1 at *
  unfold ac3
  simp only [sndN, sndC, fstC]
  repeat (first | (refine step_ops ?_; (refine m_mov (by conv => lhs; whnf) ?_)) | refine seq_ops ?_)
  refine step_ops ?_; (apply m_call (s1)); (· repeat (first | exact lends_nil | (refine lends_cons ?_ ?_; (· exact lend_v))))
  repeat (first | (refine step_ops ?_; (first | (refine m_mov (by conv => lhs; whnf) ?_) | (refine m_ext rfl rfl ?_))) | refine end_ops ?_ | refine seq_ops ?_)
  refine step_ops ?_; (apply m_call (s2)); (· repeat (first | exact lends_nil | (refine lends_cons ?_ ?_; (· exact lend_v))))
  repeat (first | (refine step_ops ?_; (first | (refine m_mov (by conv => lhs; whnf) ?_) | (refine m_ext rfl rfl ?_))) | refine end_ops ?_ | refine seq_ops ?_)
  refine step_ops ?_; (apply m_call (s3)); (· repeat (first | exact lends_nil | (refine lends_cons ?_ ?_; (· exact lend_v))))
  repeat (first | (refine step_ops ?_; (first | (refine m_mov (by conv => lhs; whnf) ?_) | (refine m_ext rfl rfl ?_))) | refine end_ops ?_ | refine seq_ops ?_)
  refine step_ops ?_; (apply m_call (s4)); (· repeat (first | exact lends_nil | (refine lends_cons ?_ ?_; (· exact lend_v))))
  repeat (first | (refine step_ops ?_; (first | (refine m_mov (by conv => lhs; whnf) ?_) | (refine m_ext rfl rfl ?_))) | refine end_ops ?_ | refine seq_ops ?_)
  refine step_ops ?_; (apply m_call (s5)); (· repeat (first | exact lends_nil | (refine lends_cons ?_ ?_; (· exact lend_v))))
  repeat (first | (refine step_ops ?_; (first | (refine m_mov (by conv => lhs; whnf) ?_) | (refine m_ext rfl rfl ?_))) | refine end_ops ?_ | refine seq_ops ?_)
  refine step_ops ?_; (apply m_call (s6)); (· repeat (first | exact lends_nil | (refine lends_cons ?_ ?_; (· exact lend_v))))
  repeat (first | (refine step_ops ?_; (first | (refine m_mov (by conv => lhs; whnf) ?_) | (refine m_ext rfl rfl ?_))) | refine end_ops ?_)
  refine AW_weak (weak_st ?_ ?_ rfl rfl) h6
  · (repeat' (first | exact trivial | refine And.intro ?_ ?_)) <;> (first | rfl | skip)
  · trivial

theorem lawTablesCounted {cv mv : Value} {CL ML : List UInt8} (hc : Bys cv CL) (hm : Bys mv ML) (hC : CL.length ≤ 9223372036854775807) (hM : ML.length ≤ 9223372036854775807) : Sp Tryz.prog 3 [.v cv, .v mv] (.b true) := by
  have hb := big_spec hc hm hC hM
  refine spec_of Tryz.func3 rfl cc3 rfl ?_
  unfold ac3
  by_cases h : 1048576 < CL.length + ML.length
  · rw [decide_eq_true h] at hb
    repeat (first | (refine step_ops ?_; (refine m_mov (by conv => lhs; whnf) ?_)) | refine end_ops ?_ | refine seq_ops ?_ | refine AW_seq ?_)
    (refine step_ops ?_); (apply m_call (hb)); (· repeat (first | exact lends_nil | (refine lends_cons ?_ ?_; (· exact lend_v))))
    repeat (first | (refine step_ops ?_; (refine m_mov (by conv => lhs; whnf) ?_)) | refine end_ops ?_ | refine seq_ops ?_ | (refine cond_t rfl ?_ ?_; (· first | rfl | assumption | (refine decide_eq_true ?_; first | assumption | omega) | (refine nt ?_; first | assumption | omega) | (simp [*]; done))) | refine AW_ret ?_ | refine ret_done ?_ | refine ret_then ?_)
    exact outs_b rfl
  · rw [decide_eq_false h] at hb
    have key := fun (n t : Int) => twMain n t hm (show ML.length ≤ 1048576 by omega)
    have hp : ac3 = .seq (fstC ac3) (.seq (fstC (sndN 1 ac3)) (.seq (fstC (sndN 2 ac3)) (sndN 3 ac3))) := rfl
    change AW _ _ ac3 _ _
    rw [hp]
    clear hp
    generalize sndN 3 ac3 = c4 at *
    unfold ac3
    simp only [sndN, sndC, fstC]
    repeat (first | (refine step_ops ?_; (refine m_mov (by conv => lhs; whnf) ?_)) | refine end_ops ?_ | refine seq_ops ?_ | refine AW_seq ?_)
    (refine step_ops ?_); (apply m_call (hb)); (· repeat (first | exact lends_nil | (refine lends_cons ?_ ?_; (· exact lend_v))))
    repeat (first | (refine step_ops ?_; (refine m_mov (by conv => lhs; whnf) ?_)) | refine end_ops ?_ | refine seq_ops ?_ | (refine cond_f rfl ?_ ?_; (· first | rfl | assumption | (refine decide_eq_false ?_; first | assumption | omega) | (refine nf ?_; first | assumption | omega) | (simp [*]; done))) | refine skip_then ?_)
    refine step_ops ?_
    refine m_draw (drawTog_spec hc (by omega)) rfl ⟨(0, 0), trivial⟩ (fun m => ⟨rfl, rfl⟩) ?_
    rintro ⟨n, t⟩ _
    dsimp only
    repeat (first | (refine step_ops ?_; (first | (refine m_mov (by conv => lhs; whnf) ?_) | (refine m_ext rfl rfl ?_))) | refine end_ops ?_)
    refine AW_weak (weak_st ?_ ?_ rfl rfl) (key n t)
    · (repeat' (first | exact trivial | refine And.intro ?_ ?_)) <;> (first | rfl | skip)
    · trivial
end Go.Proofs.YtmmcldbldbpikaaGreatDoor
