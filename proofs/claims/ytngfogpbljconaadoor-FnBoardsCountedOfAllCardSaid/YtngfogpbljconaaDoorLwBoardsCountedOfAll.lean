/- The law FnBoardsCountedOfAll says true for all texts and every list: hits are counted by rooks, allowed exchanges hit never, next ones are next, and fewest lines are as many as most rooks. No condition. -/
import Derived.Test.YtngfogpbljconaaDoorZs6
set_option linter.unusedSectionVars false
namespace Go.Proofs.YtngfogpbljconaaDoor
variable [Go.Am.CodeBlk]
open Go.Am
attribute [local irreducible] AW Outs Weak Lends Lend Sp aops atree aop1 Then Round InBlock Done
attribute [local irreducible] SpM DoneM SpH DoneH

def bh2 : ACode := sndN 2 ac3

set_option maxHeartbeats 2000000 in
theorem bh12 {B C : List UInt8} {L : List Int} (hB : B.length ≤ 1048576) (hC : C.length ≤ 1048576) (hL : L.length ≤ 10000) : AW Tryd.prog (min Tryd.f3.ntmps pbase) bhA (st [(0, str B), (1, ints L), (2, str C), (7, newInts ((nextA B L).getD [])), (8, .b (nextA B L).isSome), (9, newInts ((nextA B L).getD [])), (10, .b (nextA B L).isSome), (11, .b (if Asked B L then decide (hitN B L L.length = 0) else false)), (12, .b (decide (Asked B L))), (13, .b (if Asked B L then decide (hitN B L L.length = 0) else false)), (14, .b (decide (Asked B L))), (15, .i (if Asked B L then hitN B L L.length else 0)), (16, .b (decide (Asked B L))), (17, .i (if Asked B L then hitN B L L.length else 0)), (18, .b (decide (Asked B L))), (19, newInts ((frstA B).getD [])), (20, .b (frstA B).isSome), (21, newInts ((frstA B).getD [])), (22, .b (frstA B).isSome), (23, .i (cntB' B : Nat)), (24, .b (decide (GoodBd B))), (25, .i (cntB' B : Nat)), (26, .b (decide (GoodBd B)))] []) (Done [6].reverse (.b true)) := by
  have h1 := bh13 hB hC hL
  have hp : bhA = .seq (fstC bhA) bhB := rfl
  rw [hp]
  clear hp
  generalize bhB = cB at *
  have s1 := oSame_self ((nextA B L).getD []) (by
    unfold nextA
    by_cases ha : Asked B L
    · rw [if_pos ha]
      cases hf : (goOn (fitsA B) (sdB B) (sdB B) []).find? (fun m => comesB L m) with
      | none => simp
      | some N =>
        have hm : N ∈ allB B := List.mem_of_find?_eq_some hf
        have := (allB_mem ha.1 hm).1.2.1.2.1
        rw [Option.getD_some]; omega
    · rw [if_neg ha]; simp)
  have s2 := oSame_self ((frstA B).getD []) (by
    cases hf : frstA B with
    | none => simp
    | some N =>
      have := frstA_len hf
      rw [Option.getD_some]; omega)
  have s3 := implIsBoard_spec B hB
  have s4 := specIsBoard_spec B hB
  have hfr : (frstA B).isSome = (decide (GoodBd B) && decide (0 < cntB' B)) := by
    rw [frst_all]
    unfold cntB'
    by_cases hg : GoodBd B
    · rw [if_pos hg, if_pos hg, decide_eq_true hg, Bool.true_and]
      by_cases hz : 0 < (allB B).length
      · rw [List.getElem?_eq_getElem hz, decide_eq_true hz]; rfl
      · rw [List.getElem?_eq_none (by omega), decide_eq_false hz]; rfl
    · rw [if_neg hg, decide_eq_false hg]; rfl
  have hno : ¬ Asked B L → (nextA B L).isSome = false := fun ha => by unfold nextA; rw [if_neg ha]; rfl
  generalize (nextA B L).getD [] = N at *
  generalize (frstA B).getD [] = F at *
  have n1 : decide (((cntB' B : Nat) : Int) ≠ ((cntB' B : Nat) : Int)) = false := by simp
  by_cases hg : GoodBd B
  · rw [decide_eq_true hg, Bool.true_and] at hfr
    have x1 := xor_self (frstA B).isSome
    have x2 : (true ^^ ((frstA B).isSome == decide (((cntB' B : Nat) : Int) > 0))) = false := by
      rw [hfr, show decide (((cntB' B : Nat) : Int) > 0) = decide (0 < cntB' B) from decide_eq_decide.2 (by omega)]
      exact xor_self _
    rw [decide_eq_true hg] at *
    by_cases ha : Asked B L
    · have x3 := xor_self (nextA B L).isSome
      have x4 := xor_self (decide (hitN B L L.length = 0))
      have n2 : decide (hitN B L L.length ≠ hitN B L L.length) = false := by simp
      rw [if_pos ha] at h1
      rw [if_pos ha, if_pos ha, decide_eq_true ha]
      rw [decide_eq_true ha] at h1
      clear hfr hno
      generalize (frstA B).isSome = b5 at *
      generalize (nextA B L).isSome = b1 at *
      generalize hitN B L L.length = v at *
      generalize cntB' B = c at *
      cases b1
      · unfold bhA
        unfold ac3
        simp only [sndN, sndC, fstC]
        repeat (first | (refine step_ops ?_; ((try (refine g_yes rfl ?_ ?_; (· rfl))); (first | (refine m_mov (by conv => lhs; whnf) ?_) | (refine m_beq rfl rfl ?_)))) | refine seq_ops ?_ | refine AW_seq ?_)
        refine step_ops ?_; (refine g_yes rfl ?_ ?_; (· first | (rfl) | (fail)); (apply m_call (s1))); (· repeat (first | exact lends_nil | (refine lends_cons ?_ ?_; (· (refine lend_ints ?_; first | rfl | omega)))))
        repeat (refine step_ops ?_; ((try (refine g_yes rfl ?_ ?_; (· first | rfl | assumption))); (first | (refine m_mov (by conv => lhs; whnf) ?_) | (refine m_neq rfl rfl ?_) | (refine m_not rfl ?_) | (refine m_beq rfl rfl ?_) | (refine m_pick_f rfl ?_ (by conv => lhs; whnf) ?_; (· first | rfl | assumption)))))
        refine step_ops ?_; (refine g_yes rfl ?_ ?_; (· first | (assumption) | (fail)); (apply m_call (s2))); (· repeat (first | exact lends_nil | (refine lends_cons ?_ ?_; (· (refine lend_ints ?_; first | rfl | omega)))))
        repeat (refine step_ops ?_; ((try (refine g_yes rfl ?_ ?_; (· first | rfl | assumption))); (first | (refine m_mov (by conv => lhs; whnf) ?_) | (refine m_neq rfl rfl ?_) | (refine m_not rfl ?_) | (refine m_beq rfl rfl ?_) | (refine m_pick_f rfl ?_ (by conv => lhs; whnf) ?_; (· first | rfl | assumption)))))
        refine step_ops ?_; (refine g_yes rfl ?_ ?_; (· first | (assumption) | (fail)); (apply m_call (s3))); (· repeat (first | exact lends_nil | (refine lends_cons ?_ ?_; (· exact lend_v))))
        repeat (refine step_ops ?_; ((try (refine g_yes rfl ?_ ?_; (· first | rfl | assumption))); (first | (refine m_mov (by conv => lhs; whnf) ?_) | (refine m_beq rfl rfl ?_) | (refine m_pick_f rfl ?_ (by conv => lhs; whnf) ?_; (· assumption)))))
        refine step_ops ?_; (refine g_yes rfl ?_ ?_; (· first | (rfl) | (fail)); (apply m_call (s3))); (· repeat (first | exact lends_nil | (refine lends_cons ?_ ?_; (· exact lend_v))))
        repeat (refine step_ops ?_; ((try (refine g_yes rfl ?_ ?_; (· rfl))); (refine m_mov (by conv => lhs; whnf) ?_)))
        refine step_ops ?_; (refine g_yes rfl ?_ ?_; (· first | (rfl) | (fail)); (apply m_call (s4))); (· repeat (first | exact lends_nil | (refine lends_cons ?_ ?_; (· exact lend_v))))
        repeat (first | (refine step_ops ?_; (first | ((try (refine g_yes rfl ?_ ?_; (· first | rfl | assumption))); (first | (refine m_mov (by conv => lhs; whnf) ?_) | (refine m_gtr rfl rfl ?_) | (refine m_eql rfl rfl ?_) | (refine m_not rfl ?_) | (refine m_beq rfl rfl ?_) | (refine m_pick_t rfl ?_ (by conv => lhs; whnf) ?_; (· rfl)) | (refine m_pick_f rfl ?_ (by conv => lhs; whnf) ?_; (· first | rfl | assumption)))) | (refine g_noT rfl ?_ ?_; (· rfl)))) | refine end_ops ?_ | (refine cond_f rfl ?_ ?_; (· rfl)) | refine skip_then ?_)
        refine AW_weak (weak_st ?_ ?_ rfl rfl) h1
        · (repeat' (first | exact trivial | refine And.intro ?_ ?_)) <;> (first | rfl | skip)
        · trivial
      · unfold bhA
        unfold ac3
        simp only [sndN, sndC, fstC]
        repeat (first | (refine step_ops ?_; ((try (refine g_yes rfl ?_ ?_; (· rfl))); (first | (refine m_mov (by conv => lhs; whnf) ?_) | (refine m_beq rfl rfl ?_)))) | refine seq_ops ?_ | refine AW_seq ?_)
        refine step_ops ?_; (refine g_yes rfl ?_ ?_; (· first | (rfl) | (fail)); (apply m_call (s1))); (· repeat (first | exact lends_nil | (refine lends_cons ?_ ?_; (· (refine lend_ints ?_; first | rfl | omega)))))
        repeat (refine step_ops ?_; ((try (refine g_yes rfl ?_ ?_; (· first | rfl | assumption))); (first | (refine m_mov (by conv => lhs; whnf) ?_) | (refine m_neq rfl rfl ?_) | (refine m_not rfl ?_) | (refine m_beq rfl rfl ?_) | (refine m_pick_f rfl ?_ (by conv => lhs; whnf) ?_; (· first | rfl | assumption)))))
        refine step_ops ?_; (refine g_yes rfl ?_ ?_; (· first | (assumption) | (fail)); (apply m_call (s2))); (· repeat (first | exact lends_nil | (refine lends_cons ?_ ?_; (· (refine lend_ints ?_; first | rfl | omega)))))
        repeat (refine step_ops ?_; ((try (refine g_yes rfl ?_ ?_; (· first | rfl | assumption))); (first | (refine m_mov (by conv => lhs; whnf) ?_) | (refine m_neq rfl rfl ?_) | (refine m_not rfl ?_) | (refine m_beq rfl rfl ?_) | (refine m_pick_f rfl ?_ (by conv => lhs; whnf) ?_; (· first | rfl | assumption)))))
        refine step_ops ?_; (refine g_yes rfl ?_ ?_; (· first | (assumption) | (fail)); (apply m_call (s3))); (· repeat (first | exact lends_nil | (refine lends_cons ?_ ?_; (· exact lend_v))))
        repeat (refine step_ops ?_; ((try (refine g_yes rfl ?_ ?_; (· first | rfl | assumption))); (first | (refine m_mov (by conv => lhs; whnf) ?_) | (refine m_beq rfl rfl ?_) | (refine m_pick_f rfl ?_ (by conv => lhs; whnf) ?_; (· assumption)))))
        refine step_ops ?_; (refine g_yes rfl ?_ ?_; (· first | (rfl) | (fail)); (apply m_call (s3))); (· repeat (first | exact lends_nil | (refine lends_cons ?_ ?_; (· exact lend_v))))
        repeat (refine step_ops ?_; ((try (refine g_yes rfl ?_ ?_; (· rfl))); (refine m_mov (by conv => lhs; whnf) ?_)))
        refine step_ops ?_; (refine g_yes rfl ?_ ?_; (· first | (rfl) | (fail)); (apply m_call (s4))); (· repeat (first | exact lends_nil | (refine lends_cons ?_ ?_; (· exact lend_v))))
        repeat (first | (refine step_ops ?_; ((try (refine g_yes rfl ?_ ?_; (· first | rfl | assumption))); (first | (refine m_mov (by conv => lhs; whnf) ?_) | (refine m_gtr rfl rfl ?_) | (refine m_eql rfl rfl ?_) | (refine m_not rfl ?_) | (refine m_beq rfl rfl ?_) | (refine m_pick_t rfl ?_ (by conv => lhs; whnf) ?_; (· rfl)) | (refine m_pick_f rfl ?_ (by conv => lhs; whnf) ?_; (· first | rfl | assumption))))) | refine end_ops ?_ | (refine cond_f rfl ?_ ?_; (· rfl)) | refine skip_then ?_)
        refine AW_weak (weak_st ?_ ?_ rfl rfl) h1
        · (repeat' (first | exact trivial | refine And.intro ?_ ?_)) <;> (first | rfl | skip)
        · trivial
    · rw [hno ha] at *
      rw [if_neg ha] at h1
      rw [if_neg ha, if_neg ha, decide_eq_false ha]
      rw [decide_eq_false ha] at h1
      clear hfr hno
      generalize (frstA B).isSome = b5 at *
      generalize cntB' B = c at *
      unfold bhA
      unfold ac3
      simp only [sndN, sndC, fstC]
      repeat (first | (refine step_ops ?_; ((try (refine g_yes rfl ?_ ?_; (· rfl))); (first | (refine m_mov (by conv => lhs; whnf) ?_) | (refine m_beq rfl rfl ?_)))) | refine seq_ops ?_ | refine AW_seq ?_)
      refine step_ops ?_; (refine g_yes rfl ?_ ?_; (· first | (rfl) | (fail)); (apply m_call (s1))); (· repeat (first | exact lends_nil | (refine lends_cons ?_ ?_; (· (refine lend_ints ?_; first | rfl | omega)))))
      repeat (refine step_ops ?_; ((try (refine g_yes rfl ?_ ?_; (· first | rfl | assumption))); (first | (refine m_mov (by conv => lhs; whnf) ?_) | (refine m_neq rfl rfl ?_) | (refine m_not rfl ?_) | (refine m_beq rfl rfl ?_) | (refine m_pick_f rfl ?_ (by conv => lhs; whnf) ?_; (· rfl)))))
      refine step_ops ?_; (refine g_yes rfl ?_ ?_; (· first | (assumption) | (fail)); (apply m_call (s2))); (· repeat (first | exact lends_nil | (refine lends_cons ?_ ?_; (· (refine lend_ints ?_; first | rfl | omega)))))
      repeat (refine step_ops ?_; ((try (refine g_yes rfl ?_ ?_; (· first | rfl | assumption))); (first | (refine m_mov (by conv => lhs; whnf) ?_) | (refine m_neq rfl rfl ?_) | (refine m_not rfl ?_) | (refine m_beq rfl rfl ?_) | (refine m_pick_f rfl ?_ (by conv => lhs; whnf) ?_; (· first | rfl | assumption)))))
      refine step_ops ?_; (refine g_yes rfl ?_ ?_; (· first | (assumption) | (fail)); (apply m_call (s3))); (· repeat (first | exact lends_nil | (refine lends_cons ?_ ?_; (· exact lend_v))))
      repeat (refine step_ops ?_; ((try (refine g_yes rfl ?_ ?_; (· first | rfl | assumption))); (first | (refine m_mov (by conv => lhs; whnf) ?_) | (refine m_beq rfl rfl ?_) | (refine m_pick_f rfl ?_ (by conv => lhs; whnf) ?_; (· assumption)))))
      refine step_ops ?_; (refine g_yes rfl ?_ ?_; (· first | (rfl) | (fail)); (apply m_call (s3))); (· repeat (first | exact lends_nil | (refine lends_cons ?_ ?_; (· exact lend_v))))
      repeat (refine step_ops ?_; ((try (refine g_yes rfl ?_ ?_; (· rfl))); (refine m_mov (by conv => lhs; whnf) ?_)))
      refine step_ops ?_; (refine g_yes rfl ?_ ?_; (· first | (rfl) | (fail)); (apply m_call (s4))); (· repeat (first | exact lends_nil | (refine lends_cons ?_ ?_; (· exact lend_v))))
      repeat (first | ((first | (refine step_ops ?_; (first | ((try (refine g_yes rfl ?_ ?_; (· first | rfl | assumption))); (first | (refine m_mov (by conv => lhs; whnf) ?_) | (refine m_gtr rfl rfl ?_) | (refine m_beq rfl rfl ?_) | (refine m_pick_t rfl ?_ (by conv => lhs; whnf) ?_; (· rfl)) | (refine m_pick_f rfl ?_ (by conv => lhs; whnf) ?_; (· first | rfl | assumption)))) | (refine g_noT rfl ?_ ?_; (· rfl)))) | refine end_ops ?_ | (refine cond_f rfl ?_ ?_; (· rfl)) | refine skip_then ?_)) | (refine step_ops ?_; refine g_un rfl ?_))
      refine AW_weak (weak_st ?_ ?_ rfl rfl) h1
      · (repeat' (first | exact trivial | refine And.intro ?_ ?_)) <;> (first | rfl | skip)
      · trivial
  · have ha : ¬ Asked B L := fun hh => hg hh.1
    rw [decide_eq_false hg, Bool.false_and] at hfr
    rw [hno ha, hfr] at *
    rw [decide_eq_false hg] at *
    rw [if_neg ha] at h1
    rw [if_neg ha, if_neg ha, decide_eq_false ha]
    rw [decide_eq_false ha] at h1
    clear hfr hno
    generalize cntB' B = c at *
    unfold bhA
    unfold ac3
    simp only [sndN, sndC, fstC]
    repeat (first | (refine step_ops ?_; ((try (refine g_yes rfl ?_ ?_; (· rfl))); (first | (refine m_mov (by conv => lhs; whnf) ?_) | (refine m_beq rfl rfl ?_)))) | refine seq_ops ?_ | refine AW_seq ?_)
    refine step_ops ?_; (refine g_yes rfl ?_ ?_; (· first | (rfl) | (fail)); (apply m_call (s1))); (· repeat (first | exact lends_nil | (refine lends_cons ?_ ?_; (· (refine lend_ints ?_; first | rfl | omega)))))
    repeat (refine step_ops ?_; ((try (refine g_yes rfl ?_ ?_; (· rfl))); (first | (refine m_mov (by conv => lhs; whnf) ?_) | (refine m_neq rfl rfl ?_) | (refine m_not rfl ?_) | (refine m_beq rfl rfl ?_) | (refine m_pick_f rfl ?_ (by conv => lhs; whnf) ?_; (· rfl)))))
    refine step_ops ?_; (refine g_yes rfl ?_ ?_; (· first | (rfl) | (fail)); (apply m_call (s2))); (· repeat (first | exact lends_nil | (refine lends_cons ?_ ?_; (· (refine lend_ints ?_; first | rfl | omega)))))
    repeat (refine step_ops ?_; ((try (refine g_yes rfl ?_ ?_; (· first | rfl | assumption))); (first | (refine m_mov (by conv => lhs; whnf) ?_) | (refine m_neq rfl rfl ?_) | (refine m_not rfl ?_) | (refine m_beq rfl rfl ?_) | (refine m_pick_f rfl ?_ (by conv => lhs; whnf) ?_; (· rfl)))))
    refine step_ops ?_; (refine g_yes rfl ?_ ?_; (· first | (assumption) | (fail)); (apply m_call (s3))); (· repeat (first | exact lends_nil | (refine lends_cons ?_ ?_; (· exact lend_v))))
    repeat (refine step_ops ?_; ((try (refine g_yes rfl ?_ ?_; (· first | rfl | assumption))); (first | (refine m_mov (by conv => lhs; whnf) ?_) | (refine m_beq rfl rfl ?_) | (refine m_pick_f rfl ?_ (by conv => lhs; whnf) ?_; (· assumption)))))
    refine step_ops ?_; (refine g_yes rfl ?_ ?_; (· first | (rfl) | (fail)); (apply m_call (s3))); (· repeat (first | exact lends_nil | (refine lends_cons ?_ ?_; (· exact lend_v))))
    repeat (refine step_ops ?_; ((try (refine g_yes rfl ?_ ?_; (· rfl))); (refine m_mov (by conv => lhs; whnf) ?_)))
    refine step_ops ?_; (refine g_yes rfl ?_ ?_; (· first | (rfl) | (fail)); (apply m_call (s4))); (· repeat (first | exact lends_nil | (refine lends_cons ?_ ?_; (· exact lend_v))))
    repeat (first | ((first | (refine step_ops ?_; (first | ((try (refine g_yes rfl ?_ ?_; (· rfl))); (first | (refine m_mov (by conv => lhs; whnf) ?_) | (refine m_beq rfl rfl ?_) | (refine m_pick_f rfl ?_ (by conv => lhs; whnf) ?_; (· rfl)))) | (refine g_noT rfl ?_ ?_; (· rfl)))) | refine end_ops ?_ | (refine cond_f rfl ?_ ?_; (· rfl)) | refine skip_then ?_)) | (refine step_ops ?_; refine g_un rfl ?_))
    refine AW_weak (weak_st ?_ ?_ rfl rfl) h1
    · (repeat' (first | exact trivial | refine And.intro ?_ ?_)) <;> (first | rfl | skip)
    · trivial

theorem bhAll {B C : List UInt8} {L : List Int} (hB : B.length ≤ 1048576) (hC : C.length ≤ 1048576) (hL : L.length ≤ 10000) : AW Tryd.prog (min Tryd.f3.ntmps pbase) bh2 (st [(0, str B), (1, ints L), (2, str C)] []) (Done [6].reverse (.b true)) := by
  have h1 := bh12 hB hC hL
  have hp : bh2 = .seq (fstC bh2) (.seq (fstC (sndN 1 bh2)) (.seq (fstC (sndN 2 bh2)) (.seq (fstC (sndN 3 bh2)) (.seq (fstC (sndN 4 bh2)) (.seq (fstC (sndN 5 bh2)) (.seq (fstC (sndN 6 bh2)) (.seq (fstC (sndN 7 bh2)) (.seq (fstC (sndN 8 bh2)) (.seq (fstC (sndN 9 bh2)) bhA))))))))) := rfl
  rw [hp]
  clear hp
  generalize bhA = cA at *
  have s1 := implNextAllowed_spec B L hB (by omega)
  have s2 := specNextAllowed_spec B L hB (by omega)
  have s3 := implIsAllowed_spec B L hB (by omega)
  have s4 := specIsAllowed_spec B L hB (by omega)
  have s5 := implHitsOf_spec B L hB (by omega)
  have s6 := specHitsOf_spec B L hB (by omega)
  have s7 := implFirstAllowed_spec B hB
  have s8 := specFirstAllowed_spec B hB
  have s9 := implCountAllowed_spec B hB
  have s10 := specCountAllowed_spec B hB
  unfold srchR at s1 s2 s7 s8
  unfold allowR at s3 s4
  unfold hitsR at s5 s6
  unfold allwR at s9 s10
  have ec : (if GoodBd B then (hitL B).getD 0 0 else 0) = ((cntB' B : Nat) : Int) := by
    unfold cntB'
    by_cases hg : GoodBd B
    · rw [if_pos hg, if_pos hg, allw_is hg]
    · rw [if_neg hg, if_neg hg]; rfl
  rw [ec] at s9 s10
  generalize (nextA B L).getD [] = N at *
  generalize (nextA B L).isSome = b1 at *
  generalize (frstA B).getD [] = F at *
  generalize (frstA B).isSome = b2 at *
  generalize (if Asked B L then hitN B L L.length else 0) = v at *
  generalize (if Asked B L then decide (hitN B L L.length = 0) else false) = b3 at *
  generalize decide (Asked B L) = b4 at *
  generalize decide (GoodBd B) = b5 at *
  generalize cntB' B = c at *
  unfold bh2
  unfold ac3
  simp only [sndN, sndC, fstC]
  repeat (first | (refine step_ops ?_; (refine m_mov (by conv => lhs; whnf) ?_)) | refine seq_ops ?_)
  refine step_ops ?_; (apply m_call (s1)); (· repeat (first | exact lends_nil | (refine lends_cons ?_ ?_; (· (first | exact lend_v | (refine lend_ints ?_; first | rfl | omega))))))
  repeat (first | (refine step_ops ?_; (first | (refine m_mov (by conv => lhs; whnf) ?_) | (refine m_ext rfl rfl ?_))) | refine end_ops ?_ | refine seq_ops ?_)
  refine step_ops ?_; (apply m_call (s2)); (· repeat (first | exact lends_nil | (refine lends_cons ?_ ?_; (· (first | exact lend_v | (refine lend_ints ?_; first | rfl | omega))))))
  repeat (first | (refine step_ops ?_; (first | (refine m_mov (by conv => lhs; whnf) ?_) | (refine m_ext rfl rfl ?_))) | refine end_ops ?_ | refine seq_ops ?_)
  refine step_ops ?_; (apply m_call (s3)); (· repeat (first | exact lends_nil | (refine lends_cons ?_ ?_; (· (first | exact lend_v | (refine lend_ints ?_; first | rfl | omega))))))
  repeat (first | (refine step_ops ?_; (first | (refine m_mov (by conv => lhs; whnf) ?_) | (refine m_ext rfl rfl ?_))) | refine end_ops ?_ | refine seq_ops ?_)
  refine step_ops ?_; (apply m_call (s4)); (· repeat (first | exact lends_nil | (refine lends_cons ?_ ?_; (· (first | exact lend_v | (refine lend_ints ?_; first | rfl | omega))))))
  repeat (first | (refine step_ops ?_; (first | (refine m_mov (by conv => lhs; whnf) ?_) | (refine m_ext rfl rfl ?_))) | refine end_ops ?_ | refine seq_ops ?_)
  refine step_ops ?_; (apply m_call (s5)); (· repeat (first | exact lends_nil | (refine lends_cons ?_ ?_; (· (first | exact lend_v | (refine lend_ints ?_; first | rfl | omega))))))
  repeat (first | (refine step_ops ?_; (first | (refine m_mov (by conv => lhs; whnf) ?_) | (refine m_ext rfl rfl ?_))) | refine end_ops ?_ | refine seq_ops ?_)
  refine step_ops ?_; (apply m_call (s6)); (· repeat (first | exact lends_nil | (refine lends_cons ?_ ?_; (· (first | exact lend_v | (refine lend_ints ?_; first | rfl | omega))))))
  repeat (first | (refine step_ops ?_; (first | (refine m_mov (by conv => lhs; whnf) ?_) | (refine m_ext rfl rfl ?_))) | refine end_ops ?_ | refine seq_ops ?_)
  refine step_ops ?_; (apply m_call (s7)); (· repeat (first | exact lends_nil | (refine lends_cons ?_ ?_; (· exact lend_v))))
  repeat (first | (refine step_ops ?_; (first | (refine m_mov (by conv => lhs; whnf) ?_) | (refine m_ext rfl rfl ?_))) | refine end_ops ?_ | refine seq_ops ?_)
  refine step_ops ?_; (apply m_call (s8)); (· repeat (first | exact lends_nil | (refine lends_cons ?_ ?_; (· exact lend_v))))
  repeat (first | (refine step_ops ?_; (first | (refine m_mov (by conv => lhs; whnf) ?_) | (refine m_ext rfl rfl ?_))) | refine end_ops ?_ | refine seq_ops ?_)
  refine step_ops ?_; (apply m_call (s9)); (· repeat (first | exact lends_nil | (refine lends_cons ?_ ?_; (· exact lend_v))))
  repeat (first | (refine step_ops ?_; (first | (refine m_mov (by conv => lhs; whnf) ?_) | (refine m_ext rfl rfl ?_))) | refine end_ops ?_ | refine seq_ops ?_)
  refine step_ops ?_; (apply m_call (s10)); (· repeat (first | exact lends_nil | (refine lends_cons ?_ ?_; (· exact lend_v))))
  repeat (first | (refine step_ops ?_; (first | (refine m_mov (by conv => lhs; whnf) ?_) | (refine m_ext rfl rfl ?_))) | refine end_ops ?_)
  refine AW_weak (weak_st ?_ ?_ rfl rfl) h1
  · (repeat' (first | exact trivial | refine And.intro ?_ ?_)) <;> (first | rfl | skip)
  · trivial

theorem lawBoardsCountedOfAll' (B : List UInt8) (L : List Int) (C : List UInt8) : Sp Tryd.prog 3 [str B, ints L, str C] (.b true) := by
  by_cases hB : (B.length : Int) ≤ 1048576
  · by_cases hL : (L.length : Int) ≤ 10000
    · by_cases hC : (C.length : Int) ≤ 1048576
      · have h2 := bhAll (B := B) (C := C) (L := L) (by omega) (by omega) (by omega)
        refine spec_of Tryd.func3 rfl cc3 rfl ?_
        unfold ac3
        have hp : ac3 = .seq (fstC ac3) (.seq (fstC (sndN 1 ac3)) bh2) := rfl
        unfold ac3 at hp
        rw [hp]
        clear hp
        generalize bh2 = c4 at *
        simp only [sndN, sndC, fstC]
        repeat (first | (refine step_ops ?_; ((try (refine g_yes rfl ?_ ?_; (· (simp [*]; done)))); (first | (refine m_mov (by conv => lhs; whnf) ?_) | (refine m_gtr rfl rfl ?_) | (refine m_slen rfl ?_) | (refine m_len_ro rfl ?_) | (refine m_pick_f rfl ?_ (by conv => lhs; whnf) ?_; (· (refine decide_eq_false ?_; omega)))))) | refine end_ops ?_ | refine seq_ops ?_ | (refine cond_f rfl ?_ ?_; (· (refine decide_eq_false ?_; omega))) | refine skip_then ?_ | refine AW_seq ?_)
        refine AW_weak (weak_st ?_ ?_ rfl rfl) h2
        · (repeat' (first | exact trivial | refine And.intro ?_ ?_)) <;> (first | rfl | skip)
        · trivial
      · skip
        refine spec_of Tryd.func3 rfl cc3 rfl ?_
        unfold ac3
        repeat (first | (refine step_ops ?_; ((try (refine g_yes rfl ?_ ?_; (· (simp [*]; done)))); (first | (refine m_mov (by conv => lhs; whnf) ?_) | (refine m_gtr rfl rfl ?_) | (refine m_slen rfl ?_) | (refine m_len_ro rfl ?_) | (refine m_pick_f rfl ?_ (by conv => lhs; whnf) ?_; (· (refine decide_eq_false ?_; omega)))))) | refine end_ops ?_ | refine seq_ops ?_ | (refine cond_t rfl ?_ ?_; (· (refine decide_eq_true ?_; omega))) | refine AW_seq ?_ | refine AW_ret ?_ | refine ret_done ?_ | refine ret_then ?_)
        exact outs_b rfl
    · skip
      refine spec_of Tryd.func3 rfl cc3 rfl ?_
      unfold ac3
      repeat (first | (refine step_ops ?_; (first | ((try (refine g_yes rfl ?_ ?_; (· (simp [*]; done)))); (first | (refine m_mov (by conv => lhs; whnf) ?_) | (refine m_gtr rfl rfl ?_) | (refine m_slen rfl ?_) | (refine m_len_ro rfl ?_) | (refine m_pick_t rfl ?_ (by conv => lhs; whnf) ?_; (· (refine decide_eq_true ?_; omega))) | (refine m_pick_f rfl ?_ (by conv => lhs; whnf) ?_; (· (refine decide_eq_false ?_; omega))))) | (refine g_noF rfl ?_ ?_; (· (refine decide_eq_true ?_; omega))))) | refine end_ops ?_ | refine seq_ops ?_ | (refine cond_t rfl ?_ ?_; (· rfl)) | refine AW_seq ?_ | refine AW_ret ?_ | refine ret_done ?_ | refine ret_then ?_)
      exact outs_b rfl
  · skip
    refine spec_of Tryd.func3 rfl cc3 rfl ?_
    unfold ac3
    repeat (first | (refine step_ops ?_; (first | (first | (refine m_mov (by conv => lhs; whnf) ?_) | (refine m_gtr rfl rfl ?_) | (refine m_slen rfl ?_) | (refine m_pick_t rfl ?_ (by conv => lhs; whnf) ?_; (· first | rfl | (refine decide_eq_true ?_; omega)))) | (refine g_noF rfl ?_ ?_; (· first | rfl | (refine decide_eq_true ?_; omega))))) | refine end_ops ?_ | refine seq_ops ?_ | (refine cond_t rfl ?_ ?_; (· rfl)) | refine AW_seq ?_ | refine AW_ret ?_ | refine ret_done ?_ | refine ret_then ?_)
    exact outs_b rfl

theorem lawBoardsCountedOfAll (b : ByteArray) (L : List Int) (c : ByteArray) : Sp Tryd.prog 3 [.v (.string b), ints L, .v (.string c)] (.b true) := by
  have e : b = ⟨b.data.toList.toArray⟩ := by cases b; simp
  have e2 : c = ⟨c.data.toList.toArray⟩ := by cases c; simp
  rw [e, e2]
  exact lawBoardsCountedOfAll' _ _ _
end Go.Proofs.YtngfogpbljconaaDoor
