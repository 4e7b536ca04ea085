/- The law FnTypesCounted says true for all bytes: all types of a number of guests have all exchanges, and the counts, chances and means of types are those of the model. -/
import Derived.Test.YtmckfjnbbfdepaaZs5
set_option linter.unusedSectionVars false
namespace Go.Proofs.Ytmckfjnbbfdepaa
variable [Go.Am.CodeBlk]
open Go.Am
attribute [local irreducible] AW Outs Weak Lends Lend Sp aops atree aop1 Then Round InBlock Done
attribute [local irreducible] SpM DoneM SpH DoneH

theorem tcParts : sndC (sndC (sndC ac3)) = (.seq (fstC (sndC (sndC (sndC ac3)))) (.seq (fstC (sndC (sndC (sndC (sndC ac3))))) (.seq (fstC (sndC (sndC (sndC (sndC (sndC ac3)))))) (.seq (fstC (sndC (sndC (sndC (sndC (sndC (sndC ac3))))))) (.seq (fstC (sndC (sndC (sndC (sndC (sndC (sndC (sndC ac3)))))))) (.seq (fstC (sndC (sndC (sndC (sndC (sndC (sndC (sndC (sndC ac3))))))))) (.seq (fstC (sndC (sndC (sndC (sndC (sndC (sndC (sndC (sndC (sndC ac3)))))))))) (.seq (fstC (sndC (sndC (sndC (sndC (sndC (sndC (sndC (sndC (sndC (sndC ac3))))))))))) (.seq (fstC (sndC (sndC (sndC (sndC (sndC (sndC (sndC (sndC (sndC (sndC (sndC ac3)))))))))))) (.seq (.seq (fstC tcAll) (.cond (.t 193) (.seq (fstC (cndC (sndC tcAll))) (.seq (fstC (sndC (cndC (sndC tcAll)))) (.seq (fstC (sndC (sndC (cndC (sndC tcAll))))) (.seq (fstC (sndC (sndC (sndC (cndC (sndC tcAll)))))) (.seq (fstC (sndC (sndC (sndC (sndC (cndC (sndC tcAll))))))) (.seq (fstC (sndC (sndC (sndC (sndC (sndC (cndC (sndC tcAll)))))))) (.seq (.seq (fstC tcOne) (sndC tcOne)) tcTwo))))))) .skip)) tcRest)))))))))) := rfl

set_option maxRecDepth 16000 in
set_option maxHeartbeats 4000000 in
theorem tcMain (g : Int) {mv : Value} {ML : List UInt8} (hm : Bys mv ML) (hML : ML.length ≤ 1048576) : AW Try.prog (min Try.f3.ntmps pbase) (sndC (sndC (sndC ac3))) (st [(5, .i g), (1, .v mv)] []) (Done [4].reverse (.b true)) := by
  have hsec := tcSecond hm hML
  have hparts := tcParts
  have p1 := sp_mat2 (implTypesOf_spec g)
  have p2 := sp_mat2 (specTypesOf_spec g)
  have p3 := implMeanChains_spec g
  have p4 := specMeanChains_spec g
  have p5 := implCountPairsAlone_spec g
  have p6 := specCountPairsAlone_spec g
  have p7 := implGreatestTimes_spec g
  have p8 := specGreatestTimes_spec g
  by_cases h : 1 ≤ g ∧ g ≤ 12
  · obtain ⟨G, rfl⟩ := Int.eq_ofNat_of_zero_le (show 0 ≤ g by omega)
    have F := tcFacts G (by omega) (by omega)
    have hone := tcRound mv G (tyAll G G) (mcP G) (fac G) F
    have htwo := tcNext mv G (tyAll G G) (mcP G) (fac G) F
    have p9 := oTimes_spec G (by omega)
    have e1 : tpRes ((G : Nat) : Int) = tyAll G G := by
      unfold tpRes
      rw [if_pos h, Int.toNat_natCast]
    have e3 : meTup ((G : Nat) : Int) = .tup [.i (((mcP G).1 : Nat) : Int), .i (((mcP G).2 : Nat) : Int), .b true] := by
      unfold meTup meR
      rw [if_pos h, decide_eq_true h, Int.toNat_natCast]
    have e5 : paTup ((G : Nat) : Int) = .tup [.i (tyS (tyAll G G) pS (tyAll G G).length), .b true] := by
      unfold paTup paR
      rw [if_pos h, decide_eq_true h, Int.toNat_natCast]
      rfl
    have e7 : gtTup ((G : Nat) : Int) = .tup [.i (gtM (tyAll G G) (tyAll G G).length), .b true] := by
      unfold gtTup gtR
      rw [if_pos h, decide_eq_true h, Int.toNat_natCast]
    rw [e1, decide_eq_true h] at p1 p2
    rw [e3] at p3 p4
    rw [e5] at p5 p6
    rw [e7] at p7 p8
    have pr := oRows_self (tyAll G G) (by have := F.len; omega) (fun r hr => by have := (F.ty r hr).2.1; omega)
    have g12 := F.g12
    clear F e1 e3 e5 e7
    generalize hR : tyAll G G = R at *
    generalize hPQ : mcP G = PQ at *
    generalize hw : fac G = w at *
    rw [hparts]
    clear hparts
    generalize sndC tcOne = cB at *
    generalize tcTwo = cT at *
    generalize tcRest = cR at *
    unfold tcOne tcAll
    unfold ac3
    simp only [fstC, sndC, cndC]
    repeat (first | (refine step_ops ?_; (refine m_mov (by conv => lhs; whnf) ?_)) | refine seq_ops ?_)
    refine step_ops ?_; (apply m_call (p1)); (· repeat (first | exact lends_nil | (refine lends_cons ?_ ?_; (· exact lend_v))))
    repeat (first | (refine step_ops ?_; (first | (refine m_mov (by conv => lhs; whnf) ?_) | (refine m_ext rfl rfl ?_))) | refine end_ops ?_ | refine seq_ops ?_)
    refine step_ops ?_; (apply m_call (p2)); (· repeat (first | exact lends_nil | (refine lends_cons ?_ ?_; (· exact lend_v))))
    repeat (first | (refine step_ops ?_; (first | (refine m_mov (by conv => lhs; whnf) ?_) | (refine m_ext rfl rfl ?_))) | refine end_ops ?_ | refine seq_ops ?_)
    refine step_ops ?_; (apply m_call (p3)); (· repeat (first | exact lends_nil | (refine lends_cons ?_ ?_; (· exact lend_v))))
    repeat (first | (refine step_ops ?_; (first | (refine m_mov (by conv => lhs; whnf) ?_) | (refine m_ext rfl rfl ?_))) | refine end_ops ?_ | refine seq_ops ?_)
    refine step_ops ?_; (apply m_call (p4)); (· repeat (first | exact lends_nil | (refine lends_cons ?_ ?_; (· exact lend_v))))
    repeat (first | (refine step_ops ?_; (first | (refine m_mov (by conv => lhs; whnf) ?_) | (refine m_ext rfl rfl ?_))) | refine end_ops ?_ | refine seq_ops ?_)
    refine step_ops ?_; (apply m_call (p5)); (· repeat (first | exact lends_nil | (refine lends_cons ?_ ?_; (· exact lend_v))))
    repeat (first | (refine step_ops ?_; (first | (refine m_mov (by conv => lhs; whnf) ?_) | (refine m_ext rfl rfl ?_))) | refine end_ops ?_ | refine seq_ops ?_)
    refine step_ops ?_; (apply m_call (p6)); (· repeat (first | exact lends_nil | (refine lends_cons ?_ ?_; (· exact lend_v))))
    repeat (first | (refine step_ops ?_; (first | (refine m_mov (by conv => lhs; whnf) ?_) | (refine m_ext rfl rfl ?_))) | refine end_ops ?_ | refine seq_ops ?_)
    refine step_ops ?_; (apply m_call (p7)); (· repeat (first | exact lends_nil | (refine lends_cons ?_ ?_; (· exact lend_v))))
    repeat (first | (refine step_ops ?_; (first | (refine m_mov (by conv => lhs; whnf) ?_) | (refine m_ext rfl rfl ?_))) | refine end_ops ?_ | refine seq_ops ?_)
    refine step_ops ?_; (apply m_call (p8)); (· repeat (first | exact lends_nil | (refine lends_cons ?_ ?_; (· exact lend_v))))
    repeat (first | (refine step_ops ?_; ((try (refine g_yes rfl ?_ ?_; (· first | rfl | assumption | (refine decide_eq_true ?_; first | assumption | omega) | (refine nt ?_; first | assumption | omega) | (simp [*]; done) | (refine decide_eq_false ?_; first | assumption | omega) | (refine nf ?_; first | assumption | omega)))); (first | (refine m_mov (by conv => lhs; whnf) ?_) | (refine m_beq rfl rfl ?_) | (refine m_ext rfl rfl ?_)))) | refine end_ops ?_ | refine seq_ops ?_ | refine AW_seq ?_)
    refine step_ops ?_; (refine g_yes rfl ?_ ?_; (· first | (first | rfl | assumption | (refine decide_eq_true ?_; first | assumption | omega) | (refine nt ?_; first | assumption | omega) | (simp [*]; done)) | (first | rfl | assumption | (refine decide_eq_false ?_; first | assumption | omega) | (refine nf ?_; first | assumption | omega) | (simp [*]; done))); (apply m_call (pr))); (· repeat (first | exact lends_nil | (refine lends_cons ?_ ?_; (· (refine lend_roM rfl; done)))))
    repeat (first | (refine step_ops ?_; ((try (refine g_yes rfl ?_ ?_; (· first | rfl | assumption | (refine decide_eq_true ?_; first | assumption | omega) | (refine nt ?_; first | assumption | omega) | (simp [*]; done) | (refine decide_eq_false ?_; first | assumption | omega) | (refine nf ?_; first | assumption | omega)))); (first | (refine m_mov (by conv => lhs; whnf) ?_) | (refine m_neq rfl rfl ?_) | (refine m_not rfl ?_) | (refine m_beq rfl rfl ?_) | (refine m_pick_f rfl ?_ (by conv => lhs; whnf) ?_; (· first | rfl | assumption | (refine decide_eq_false ?_; first | assumption | omega) | (refine nf ?_; first | assumption | omega) | (simp [*]; done)))))) | refine end_ops ?_ | refine seq_ops ?_ | (refine cond_t rfl ?_ ?_; (· first | rfl | assumption | (refine decide_eq_true ?_; first | assumption | omega) | (refine nt ?_; first | assumption | omega) | (simp [*]; done))) | (refine cond_f rfl ?_ ?_; (· first | rfl | assumption | (refine decide_eq_false ?_; first | assumption | omega) | (refine nf ?_; first | assumption | omega) | (simp [*]; done))) | refine skip_then ?_ | refine AW_seq ?_)
    refine step_ops ?_; (apply m_call (p9)); (· repeat (first | exact lends_nil | (refine lends_cons ?_ ?_; (· exact lend_v))))
    repeat (first | (refine step_ops ?_; (first | (refine m_mov (by conv => lhs; whnf) ?_) | (refine m_add rfl rfl ?_ ?_ ?_; (· omega); (· omega)))) | refine end_ops ?_ | refine seq_ops ?_)
    rw [show ((G : Nat) : Int) + 1 = ((G + 1 : Nat) : Int) by omega]
    refine step_ops ?_
    refine m_mk rfl rfl (by omega) (by omega) ?_
    repeat (first | (refine step_ops ?_; (first | (refine m_mov (by conv => lhs; whnf) ?_) | (refine m_add rfl rfl ?_ ?_ ?_; (· omega); (· omega)))) | refine end_ops ?_ | refine seq_ops ?_)
    rw [show ((G : Nat) : Int) + 1 = ((G + 1 : Nat) : Int) by omega]
    refine step_ops ?_
    refine m_mk rfl rfl (by omega) (by omega) ?_
    repeat (first | (refine step_ops ?_; (first | (refine m_mov (by conv => lhs; whnf) ?_) | (refine m_add rfl rfl ?_ ?_ ?_; (· omega); (· omega)))) | refine end_ops ?_ | refine seq_ops ?_)
    rw [show ((G : Nat) : Int) + 1 = ((G + 1 : Nat) : Int) by omega]
    refine step_ops ?_
    refine m_mk rfl rfl (by omega) (by omega) ?_
    repeat (first | (refine step_ops ?_; (first | (refine m_mov (by conv => lhs; whnf) ?_) | (refine m_add rfl rfl ?_ ?_ ?_; (· omega); (· omega)))) | refine end_ops ?_ | refine seq_ops ?_)
    rw [show ((G : Nat) : Int) + 1 = ((G + 1 : Nat) : Int) by omega]
    refine step_ops ?_
    refine m_mk rfl rfl (by omega) (by omega) ?_
    repeat (first | (refine step_ops ?_; (first | (refine m_mov (by conv => lhs; whnf) ?_) | (refine m_len_ro rfl ?_))) | refine end_ops ?_ | refine seq_ops ?_ | refine AW_seq ?_)
    have hz : (List.replicate (G + 1) (List.map AV.v [Value.int IntKind.i64 0])).flatten = (List.replicate (G + 1) (0 : Int)).map AV.i := by simp
    refine AW_weak (weak_st ?_ ?_ rfl rfl) (hone _ ?_)
    · (repeat' (first | exact trivial | refine And.intro ?_ ?_)) <;> (first | rfl | skip)
    · rw [wL_zero, wL_zero, wL_zero, oL_zero, ← hz]
      exact ⟨rfl, rfl, rfl, rfl, trivial⟩
    intro s1 hs1
    refine norm_then ?_
    refine AW_weak hs1 (htwo _ ?_)
    intro s2 hs2
    refine norm_then ?_
    exact AW_weak hs2 hsec
  · have e1 : tpRes g = [] := by
      unfold tpRes
      rw [if_neg h]
    have e3 : meTup g = .tup [.i 0, .i 0, .b false] := by
      unfold meTup meR
      rw [if_neg h, decide_eq_false h]
      rfl
    have e5 : paTup g = .tup [.i 0, .b false] := by
      unfold paTup paR
      rw [if_neg h, decide_eq_false h]
    have e7 : gtTup g = .tup [.i 0, .b false] := by
      unfold gtTup gtR
      rw [if_neg h, decide_eq_false h]
    rw [e1, decide_eq_false h] at p1 p2
    rw [e3] at p3 p4
    rw [e5] at p5 p6
    rw [e7] at p7 p8
    have pr := oRows_self [] (by decide) (fun r hr => by cases hr)
    rw [hparts]
    clear hparts
    generalize tcRest = cR at *
    unfold tcOne tcAll
    unfold ac3
    simp only [fstC, sndC, cndC]
    repeat (first | (refine step_ops ?_; (refine m_mov (by conv => lhs; whnf) ?_)) | refine seq_ops ?_)
    refine step_ops ?_; (apply m_call (p1)); (· repeat (first | exact lends_nil | (refine lends_cons ?_ ?_; (· exact lend_v))))
    repeat (first | (refine step_ops ?_; (first | (refine m_mov (by conv => lhs; whnf) ?_) | (refine m_ext rfl rfl ?_))) | refine end_ops ?_ | refine seq_ops ?_)
    refine step_ops ?_; (apply m_call (p2)); (· repeat (first | exact lends_nil | (refine lends_cons ?_ ?_; (· exact lend_v))))
    repeat (first | (refine step_ops ?_; (first | (refine m_mov (by conv => lhs; whnf) ?_) | (refine m_ext rfl rfl ?_))) | refine end_ops ?_ | refine seq_ops ?_)
    refine step_ops ?_; (apply m_call (p3)); (· repeat (first | exact lends_nil | (refine lends_cons ?_ ?_; (· exact lend_v))))
    repeat (first | (refine step_ops ?_; (first | (refine m_mov (by conv => lhs; whnf) ?_) | (refine m_ext rfl rfl ?_))) | refine end_ops ?_ | refine seq_ops ?_)
    refine step_ops ?_; (apply m_call (p4)); (· repeat (first | exact lends_nil | (refine lends_cons ?_ ?_; (· exact lend_v))))
    repeat (first | (refine step_ops ?_; (first | (refine m_mov (by conv => lhs; whnf) ?_) | (refine m_ext rfl rfl ?_))) | refine end_ops ?_ | refine seq_ops ?_)
    refine step_ops ?_; (apply m_call (p5)); (· repeat (first | exact lends_nil | (refine lends_cons ?_ ?_; (· exact lend_v))))
    repeat (first | (refine step_ops ?_; (first | (refine m_mov (by conv => lhs; whnf) ?_) | (refine m_ext rfl rfl ?_))) | refine end_ops ?_ | refine seq_ops ?_)
    refine step_ops ?_; (apply m_call (p6)); (· repeat (first | exact lends_nil | (refine lends_cons ?_ ?_; (· exact lend_v))))
    repeat (first | (refine step_ops ?_; (first | (refine m_mov (by conv => lhs; whnf) ?_) | (refine m_ext rfl rfl ?_))) | refine end_ops ?_ | refine seq_ops ?_)
    refine step_ops ?_; (apply m_call (p7)); (· repeat (first | exact lends_nil | (refine lends_cons ?_ ?_; (· exact lend_v))))
    repeat (first | (refine step_ops ?_; (first | (refine m_mov (by conv => lhs; whnf) ?_) | (refine m_ext rfl rfl ?_))) | refine end_ops ?_ | refine seq_ops ?_)
    refine step_ops ?_; (apply m_call (p8)); (· repeat (first | exact lends_nil | (refine lends_cons ?_ ?_; (· exact lend_v))))
    repeat (first | (refine step_ops ?_; ((try (refine g_yes rfl ?_ ?_; (· first | rfl | assumption | (refine decide_eq_true ?_; first | assumption | omega) | (refine nt ?_; first | assumption | omega) | (simp [*]; done) | (refine decide_eq_false ?_; first | assumption | omega) | (refine nf ?_; first | assumption | omega)))); (first | (refine m_mov (by conv => lhs; whnf) ?_) | (refine m_beq rfl rfl ?_) | (refine m_ext rfl rfl ?_)))) | refine end_ops ?_ | refine seq_ops ?_ | refine AW_seq ?_)
    refine step_ops ?_; (refine g_yes rfl ?_ ?_; (· first | (first | rfl | assumption | (refine decide_eq_true ?_; first | assumption | omega) | (refine nt ?_; first | assumption | omega) | (simp [*]; done)) | (first | rfl | assumption | (refine decide_eq_false ?_; first | assumption | omega) | (refine nf ?_; first | assumption | omega) | (simp [*]; done))); (apply m_call (pr))); (· repeat (first | exact lends_nil | (refine lends_cons ?_ ?_; (· (refine lend_roM rfl; done)))))
    repeat (first | (refine step_ops ?_; ((try (refine g_yes rfl ?_ ?_; (· first | rfl | assumption | (refine decide_eq_true ?_; first | assumption | omega) | (refine nt ?_; first | assumption | omega) | (simp [*]; done) | (refine decide_eq_false ?_; first | assumption | omega) | (refine nf ?_; first | assumption | omega)))); (first | (refine m_mov (by conv => lhs; whnf) ?_) | (refine m_neq rfl rfl ?_) | (refine m_not rfl ?_) | (refine m_beq rfl rfl ?_) | (refine m_pick_f rfl ?_ (by conv => lhs; whnf) ?_; (· first | rfl | assumption | (refine decide_eq_false ?_; first | assumption | omega) | (refine nf ?_; first | assumption | omega) | (simp [*]; done)))))) | refine end_ops ?_ | refine seq_ops ?_ | (refine cond_f rfl ?_ ?_; (· first | rfl | assumption | (refine decide_eq_false ?_; first | assumption | omega) | (refine nf ?_; first | assumption | omega) | (simp [*]; done))) | refine skip_then ?_ | refine AW_seq ?_)
    refine AW_weak (weak_st ?_ ?_ rfl rfl) hsec
    · (repeat' (first | exact trivial | refine And.intro ?_ ?_)) <;> (first | rfl | skip)
    · trivial

theorem lawTypesCounted {cv mv : Value} {CL ML : List UInt8} (hc : Bys cv CL) (hm : Bys mv ML) (hC : CL.length ≤ 9223372036854775807) (hM : ML.length ≤ 9223372036854775807) : Sp Try.prog 3 [.v cv, .v mv] (.b true) := by
  have hb := big_spec hc hm hC hM
  refine spec_of Try.func3 rfl cc3 rfl ?_
  unfold ac3
  by_cases h : 1048576 < CL.length + ML.length
  · rw [decide_eq_true h] at hb
    repeat (first | (refine step_ops ?_; (refine m_mov (by conv => lhs; whnf) ?_)) | refine end_ops ?_ | refine seq_ops ?_ | refine AW_seq ?_)
    refine step_ops ?_; (apply m_call (hb)); (· repeat (first | exact lends_nil | (refine lends_cons ?_ ?_; (· exact lend_v))))
    repeat (first | (refine step_ops ?_; (refine m_mov (by conv => lhs; whnf) ?_)) | refine end_ops ?_ | refine seq_ops ?_ | (refine cond_t rfl ?_ ?_; (· first | rfl | assumption | (refine decide_eq_true ?_; first | assumption | omega) | (refine nt ?_; first | assumption | omega) | (simp [*]; done))) | refine AW_ret ?_ | refine ret_done ?_ | refine ret_then ?_)
    exact outs_b rfl
  · rw [decide_eq_false h] at hb
    have key := fun (g : Int) => tcMain g hm (show ML.length ≤ 1048576 by omega)
    have hp : ac3 = .seq (fstC ac3) (.seq (fstC (sndC ac3)) (.seq (fstC (sndC (sndC ac3))) (sndC (sndC (sndC ac3))))) := rfl
    change AW _ _ ac3 _ _
    rw [hp]
    clear hp
    generalize sndC (sndC (sndC ac3)) = c4 at *
    unfold ac3
    simp only [sndC, fstC]
    repeat (first | (refine step_ops ?_; (refine m_mov (by conv => lhs; whnf) ?_)) | refine end_ops ?_ | refine seq_ops ?_ | refine AW_seq ?_)
    refine step_ops ?_; (apply m_call (hb)); (· repeat (first | exact lends_nil | (refine lends_cons ?_ ?_; (· exact lend_v))))
    repeat (first | (refine step_ops ?_; (refine m_mov (by conv => lhs; whnf) ?_)) | refine end_ops ?_ | refine seq_ops ?_ | (refine cond_f rfl ?_ ?_; (· first | rfl | assumption | (refine decide_eq_false ?_; first | assumption | omega) | (refine nf ?_; first | assumption | omega) | (simp [*]; done))) | refine skip_then ?_)
    refine step_ops ?_
    refine m_draw (drawTypes_spec hc (by omega)) rfl ⟨0, trivial⟩ (fun m => ⟨rfl, rfl⟩) ?_
    intro g _
    repeat (first | (refine step_ops ?_; (refine m_mov (by conv => lhs; whnf) ?_)) | refine end_ops ?_)
    refine AW_weak (weak_st ?_ ?_ rfl rfl) (key g)
    · (repeat' (first | exact trivial | refine And.intro ?_ ?_)) <;> (first | rfl | skip)
    · trivial
end Go.Proofs.Ytmckfjnbbfdepaa
