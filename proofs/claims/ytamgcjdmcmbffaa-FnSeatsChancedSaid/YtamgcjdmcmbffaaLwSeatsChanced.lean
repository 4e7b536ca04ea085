/- The law FnSeatsChanced says true for all bytes: chances and counts of displaced guests sum up, and chances, counts and means are those of the model. -/
import Derived.Test.YtamgcjdmcmbffaaLwSdAll
set_option linter.unusedSectionVars false
namespace Go.Proofs.Ytamgcjdmcmbffaa
variable [Go.Am.CodeBlk]
open Go.Am
attribute [local irreducible] AW Outs Weak Lends Lend Sp aops atree aop1 Then Round InBlock Done
attribute [local irreducible] SpM DoneM SpH DoneH
theorem sgParts : sndC (sndC (sndC ac3)) = .seq (fstC (sndC (sndC (sndC ac3)))) (.seq (fstC (sndC (sndC (sndC (sndC ac3))))) (.seq (fstC (sndC (sndC (sndC (sndC (sndC ac3)))))) (.seq (fstC (sndC (sndC (sndC (sndC (sndC (sndC ac3))))))) (.seq (fstC (sndC (sndC (sndC (sndC (sndC (sndC (sndC ac3)))))))) (.seq (.seq (fstC sgBlock) (.cond (.t 129) (cndC (sndC sgBlock)) .skip)) sgRest))))) := rfl
set_option maxRecDepth 16000 in
set_option maxHeartbeats 4000000 in
theorem sgMain (g l x : Int) {mv : Value} {ML : List UInt8} (hm : Bys mv ML) (hML : ML.length ≤ 1048576) : AW Try.prog (min Try.f3.ntmps pbase) (sndC (sndC (sndC ac3))) (st [(5, .i g), (6, .i l), (7, .i x), (1, .v mv)] []) (Done [4].reverse (.b true)) := by
  have hparts := sgParts
  have a5 := implChanceDisplaced_spec g l x
  have a6 := specChanceDisplaced_spec g l x
  have a7 := implCountDisplaced_spec g l x
  have a8 := specCountDisplaced_spec g l x
  have hsec := sgSecond hm hML
  by_cases h : DisOk g l x
  · have h1 := h.1.1
    have h2 := h.1.2
    have h3 := h.2
    obtain ⟨G, rfl⟩ := Int.eq_ofNat_of_zero_le (show 0 ≤ g by omega)
    obtain ⟨K, rfl⟩ := Int.eq_ofNat_of_zero_le (show 0 ≤ l by omega)
    obtain ⟨X, rfl⟩ := Int.eq_ofNat_of_zero_le (show 0 ≤ x by omega)
    have F := sgE G K (by omega) (by omega) (by omega)
    have hall := sgAllK mv G K X _ _ _ _ _ F (by omega)
    rw [F.c5 X (by omega)] at a5 a6
    rw [F.c7 X (by omega)] at a7 a8
    clear F
    generalize sgN ((K : Nat) : Int) (sgS G K) = n0 at *
    generalize (fun k => sumC ((K : Nat) : Int) ((sgS G K).filter (keepD ((k : Nat) : Int)))) = f at *
    rw [hparts]
    clear hparts
    generalize cndC (sndC sgBlock) = cB at *
    generalize sgRest = cR at *
    unfold sgBlock
    unfold ac3
    simp only [fstC, sndC, cndC]
    repeat (first | (refine step_ops ?_; (refine m_mov (by conv => lhs; whnf) ?_)) | refine seq_ops ?_)
    refine step_ops ?_; (apply m_call (a5)); (· repeat (first | exact lends_nil | (refine lends_cons ?_ ?_; (· exact lend_v))))
    repeat (first | (refine step_ops ?_; (first | (refine m_mov (by conv => lhs; whnf) ?_) | (refine m_ext rfl rfl ?_))) | refine end_ops ?_ | refine seq_ops ?_)
    refine step_ops ?_; (apply m_call (a6)); (· repeat (first | exact lends_nil | (refine lends_cons ?_ ?_; (· exact lend_v))))
    repeat (first | (refine step_ops ?_; (first | (refine m_mov (by conv => lhs; whnf) ?_) | (refine m_ext rfl rfl ?_))) | refine end_ops ?_ | refine seq_ops ?_)
    refine step_ops ?_; (apply m_call (a7)); (· repeat (first | exact lends_nil | (refine lends_cons ?_ ?_; (· exact lend_v))))
    repeat (first | (refine step_ops ?_; (first | (refine m_mov (by conv => lhs; whnf) ?_) | (refine m_ext rfl rfl ?_))) | refine end_ops ?_ | refine seq_ops ?_)
    refine step_ops ?_; (apply m_call (a8)); (· repeat (first | exact lends_nil | (refine lends_cons ?_ ?_; (· exact lend_v))))
    repeat (first | (refine step_ops ?_; ((try (refine g_yes rfl ?_ ?_; (· first | rfl | assumption | (refine decide_eq_true ?_; first | assumption | omega) | (refine nt ?_; first | assumption | omega) | (simp [*]; done) | (refine decide_eq_false ?_; first | assumption | omega) | (refine nf ?_; first | assumption | omega)))); (first | (refine m_mov (by conv => lhs; whnf) ?_) | (refine m_neq rfl rfl ?_) | (refine m_beq rfl rfl ?_) | (refine m_pick_f rfl ?_ (by conv => lhs; whnf) ?_; (· first | rfl | assumption | (refine decide_eq_false ?_; first | assumption | omega) | (refine nf ?_; first | assumption | omega) | (simp [*]; done))) | (refine m_ext rfl rfl ?_)))) | refine end_ops ?_ | refine seq_ops ?_ | (refine cond_t rfl ?_ ?_; (· first | rfl | assumption | (refine decide_eq_true ?_; first | assumption | omega) | (refine nt ?_; first | assumption | omega) | (simp [*]; done))) | (refine cond_f rfl ?_ ?_; (· first | rfl | assumption | (refine decide_eq_false ?_; first | assumption | omega) | (refine nf ?_; first | assumption | omega) | (simp [*]; done))) | refine skip_then ?_ | refine AW_seq ?_)
    refine AW_weak (weak_st ?_ ?_ rfl rfl) (hall _ ?_)
    · (repeat' (first | exact trivial | refine And.intro ?_ ?_)) <;> (first | rfl | skip)
    · trivial
    intro s1 hs1
    refine norm_then ?_
    exact AW_weak hs1 hsec
  · have e1 : disTup g l x = .tup [.i 0, .b false] := by
      unfold disTup disN
      rw [if_neg h, decide_eq_false h]
    have e2 : disFTup g l x = .tup [.i 0, .i 0, .b false] := by
      unfold disFTup disF
      rw [if_neg h, decide_eq_false h]
      rfl
    rw [e2] at a5 a6
    rw [e1] at a7 a8
    rw [hparts]
    clear hparts
    generalize cndC (sndC sgBlock) = cB at *
    generalize sgRest = cR at *
    unfold sgBlock
    unfold ac3
    simp only [fstC, sndC, cndC]
    repeat (first | (refine step_ops ?_; (refine m_mov (by conv => lhs; whnf) ?_)) | refine seq_ops ?_)
    refine step_ops ?_; (apply m_call (a5)); (· repeat (first | exact lends_nil | (refine lends_cons ?_ ?_; (· exact lend_v))))
    repeat (first | (refine step_ops ?_; (first | (refine m_mov (by conv => lhs; whnf) ?_) | (refine m_ext rfl rfl ?_))) | refine end_ops ?_ | refine seq_ops ?_)
    refine step_ops ?_; (apply m_call (a6)); (· repeat (first | exact lends_nil | (refine lends_cons ?_ ?_; (· exact lend_v))))
    repeat (first | (refine step_ops ?_; (first | (refine m_mov (by conv => lhs; whnf) ?_) | (refine m_ext rfl rfl ?_))) | refine end_ops ?_ | refine seq_ops ?_)
    refine step_ops ?_; (apply m_call (a7)); (· repeat (first | exact lends_nil | (refine lends_cons ?_ ?_; (· exact lend_v))))
    repeat (first | (refine step_ops ?_; (first | (refine m_mov (by conv => lhs; whnf) ?_) | (refine m_ext rfl rfl ?_))) | refine end_ops ?_ | refine seq_ops ?_)
    refine step_ops ?_; (apply m_call (a8)); (· repeat (first | exact lends_nil | (refine lends_cons ?_ ?_; (· exact lend_v))))
    repeat (first | (refine step_ops ?_; ((try (refine g_yes rfl ?_ ?_; (· first | rfl | assumption | (refine decide_eq_true ?_; first | assumption | omega) | (refine nt ?_; first | assumption | omega) | (simp [*]; done) | (refine decide_eq_false ?_; first | assumption | omega) | (refine nf ?_; first | assumption | omega)))); (first | (refine m_mov (by conv => lhs; whnf) ?_) | (refine m_neq rfl rfl ?_) | (refine m_beq rfl rfl ?_) | (refine m_pick_f rfl ?_ (by conv => lhs; whnf) ?_; (· first | rfl | assumption | (refine decide_eq_false ?_; first | assumption | omega) | (refine nf ?_; first | assumption | omega) | (simp [*]; done))) | (refine m_ext rfl rfl ?_)))) | refine end_ops ?_ | refine seq_ops ?_ | (refine cond_f rfl ?_ ?_; (· first | rfl | assumption | (refine decide_eq_false ?_; first | assumption | omega) | (refine nf ?_; first | assumption | omega) | (simp [*]; done))) | refine skip_then ?_ | refine AW_seq ?_)
    refine AW_weak (weak_st ?_ ?_ rfl rfl) hsec
    · (repeat' (first | exact trivial | refine And.intro ?_ ?_)) <;> (first | rfl | skip)
    · trivial
theorem lawSeatsChanced {cv mv : Value} {CL ML : List UInt8} (hc : Bys cv CL) (hm : Bys mv ML) (hC : CL.length ≤ 9223372036854775807) (hM : ML.length ≤ 9223372036854775807) : Sp Try.prog 3 [.v cv, .v mv] (.b true) := by
  have hb := big_spec hc hm hC hM
  refine spec_of Try.func3 rfl cc3 rfl ?_
  unfold ac3
  by_cases h : 1048576 < CL.length + ML.length
  · rw [decide_eq_true h] at hb
    repeat (first | (refine step_ops ?_; (refine m_mov (by conv => lhs; whnf) ?_)) | refine end_ops ?_ | refine seq_ops ?_ | refine AW_seq ?_)
    (refine step_ops ?_); (apply m_call (hb)); (· repeat (first | exact lends_nil | (refine lends_cons ?_ ?_; (· exact lend_v))))
    repeat (first | (refine step_ops ?_; (refine m_mov (by conv => lhs; whnf) ?_)) | refine end_ops ?_ | refine seq_ops ?_ | (refine cond_t rfl ?_ ?_; (· first | rfl | assumption | (refine decide_eq_true ?_; first | assumption | omega) | (refine nt ?_; first | assumption | omega) | (simp [*]; done))) | refine AW_ret ?_ | refine ret_done ?_ | refine ret_then ?_)
    exact outs_b rfl
  · rw [decide_eq_false h] at hb
    have key := fun (g l x : Int) => sgMain g l x hm (show ML.length ≤ 1048576 by omega)
    have hp : ac3 = .seq (fstC ac3) (.seq (fstC (sndC ac3)) (.seq (fstC (sndC (sndC ac3))) (sndC (sndC (sndC ac3))))) := rfl
    change AW _ _ ac3 _ _
    rw [hp]
    clear hp
    generalize sndC (sndC (sndC ac3)) = c4 at *
    unfold ac3
    simp only [sndC, fstC]
    repeat (first | (refine step_ops ?_; (refine m_mov (by conv => lhs; whnf) ?_)) | refine end_ops ?_ | refine seq_ops ?_ | refine AW_seq ?_)
    (refine step_ops ?_); (apply m_call (hb)); (· repeat (first | exact lends_nil | (refine lends_cons ?_ ?_; (· exact lend_v))))
    repeat (first | (refine step_ops ?_; (refine m_mov (by conv => lhs; whnf) ?_)) | refine end_ops ?_ | refine seq_ops ?_ | (refine cond_f rfl ?_ ?_; (· first | rfl | assumption | (refine decide_eq_false ?_; first | assumption | omega) | (refine nf ?_; first | assumption | omega) | (simp [*]; done))) | refine skip_then ?_)
    refine step_ops ?_
    refine m_draw (drawChDispl_spec hc (by omega)) rfl ⟨(0, 0, 0), trivial⟩ (fun m => ⟨rfl, rfl⟩) ?_
    rintro ⟨g, l, x⟩ _
    dsimp only
    repeat (first | (refine step_ops ?_; (first | (refine m_mov (by conv => lhs; whnf) ?_) | (refine m_ext rfl rfl ?_))) | refine end_ops ?_)
    refine AW_weak (weak_st ?_ ?_ rfl rfl) (key g l x)
    · (repeat' (first | exact trivial | refine And.intro ?_ ?_)) <;> (first | rfl | skip)
    · trivial
end Go.Proofs.Ytamgcjdmcmbffaa
