/- The law FnBoardsCounted says true for all bytes: hits are counted by rooks, allowed exchanges hit never, next ones are next, and fewest lines are as many as most rooks. -/
import Derived.Test.YtngfogpbljconaaGreatDoorZs7
set_option linter.unusedSectionVars false
namespace Go.Proofs.YtngfogpbljconaaGreatDoor
variable [Go.Am.CodeBlk]
open Go.Am
attribute [local irreducible] AW Outs Weak Lends Lend Sp aops atree aop1 Then Round InBlock Done
attribute [local irreducible] SpM DoneM SpH DoneH
def bh2 : ACode := sndN 3 ac3
set_option maxHeartbeats 2000000 in
theorem bh12 {B : List UInt8} {mv : Value} {ML : List UInt8} {L : List Int} (hB : B.length ≤ 1048576) (hy : Bys mv ML) (hyl : ML.length ≤ 1048576) (hL : L.length ≤ 10000) : AW Tryz.prog (min Tryz.f3.ntmps pbase) bhA (st [(5,str B),(6,ints L),(1,.v mv),(7,newInts ((nextA B L).getD [])),(8,.b (nextA B L).isSome),(9,newInts ((nextA B L).getD [])),(10,.b (nextA B L).isSome),(11,.b (if Asked B L then decide (hitN B L L.length = 0) else false)),(12,.b (decide (Asked B L))),(13,.b (if Asked B L then decide (hitN B L L.length = 0) else false)),(14,.b (decide (Asked B L))),(15,.i (if Asked B L then hitN B L L.length else 0)),(16,.b (decide (Asked B L))),(17,.i (if Asked B L then hitN B L L.length else 0)),(18,.b (decide (Asked B L))),(19,newInts ((frstA B).getD [])),(20,.b (frstA B).isSome),(21,newInts ((frstA B).getD [])),(22,.b (frstA B).isSome),(23,.i (cntB' B : Nat)),(24,.b (decide (GoodBd B))),(25,.i (cntB' B : Nat)),(26,.b (decide (GoodBd B)))] []) (Done [4].reverse (.b true)) := by
  have h1 := bh13 hB hy hyl hL
  have hp : bhA = .seq (fstC bhA) bhB := rfl
  rw [hp]
  clear hp
  generalize bhB = cB at *
  have s1 := oSame_self ((nextA B L).getD []) (by
    unfold nextA
    by_cases ha : Asked B L
    · rw [if_pos ha]
      cases hf : (goOn (fitsA B) (sdB B) (sdB B) []).find? (fun m => comesB L m) with
      | none => simp
      | some N =>
        have hm : N ∈ allB B := List.mem_of_find?_eq_some hf
        have := (allB_mem ha.1 hm).1.2.1.2.1
        rw [Option.getD_some]; omega
    · rw [if_neg ha]; simp)
  have s2 := oSame_self ((frstA B).getD []) (by
    cases hf : frstA B with
    | none => simp
    | some N =>
      have := frstA_len hf
      rw [Option.getD_some]; omega)
  have s3 := implIsBoard_spec B hB
  have s4 := specIsBoard_spec B hB
  have hfr : (frstA B).isSome = (decide (GoodBd B) && decide (0 < cntB' B)) := by
    rw [frst_all]
    unfold cntB'
    by_cases hg : GoodBd B
    · rw [if_pos hg,if_pos hg,decide_eq_true hg,Bool.true_and]
      by_cases hz : 0 < (allB B).length
      · rw [List.getElem?_eq_getElem hz,decide_eq_true hz]; rfl
      · rw [List.getElem?_eq_none (by omega),decide_eq_false hz]; rfl
    · rw [if_neg hg,decide_eq_false hg]; rfl
  have hno : ¬ Asked B L → (nextA B L).isSome = false := fun ha => by unfold nextA; rw [if_neg ha]; rfl
  generalize (nextA B L).getD [] = N at *
  generalize (frstA B).getD [] = F at *
  have n1 : decide (((cntB' B : Nat) : Int) ≠ ((cntB' B : Nat) : Int)) = false := by simp
  by_cases hg : GoodBd B
  · rw [decide_eq_true hg,Bool.true_and] at hfr
    have x1 := xor_self (frstA B).isSome
    have x2 : (true ^^ ((frstA B).isSome == decide (((cntB' B : Nat) : Int) > 0))) = false := by
      rw [hfr,show decide (((cntB' B : Nat) : Int) > 0) = decide (0 < cntB' B) from decide_eq_decide.2 (by omega)]
      exact xor_self _
    rw [decide_eq_true hg] at *
    by_cases ha : Asked B L
    · have x3 := xor_self (nextA B L).isSome
      have x4 := xor_self (decide (hitN B L L.length = 0))
      have n2 : decide (hitN B L L.length ≠ hitN B L L.length) = false := by simp
      rw [if_pos ha] at h1
      rw [if_pos ha,if_pos ha,decide_eq_true ha]
      rw [decide_eq_true ha] at h1
      clear hfr hno
      generalize (frstA B).isSome = b5 at *
      generalize (nextA B L).isSome = b1 at *
      generalize hitN B L L.length = v at *
      generalize cntB' B = c at *
      cases b1
      · unfold bhA
        unfold ac3
        simp only [sndN,sndC,fstC]
        repeat (first|(refine qz0 ?_;((try (refine g_yes rfl ?_ ?_;(· rfl)));(first|(refine m_mov (by conv => lhs; whnf) ?_)|(refine m_beq rfl rfl ?_))))|refine qz3 ?_|refine qz6 ?_)
        refine qz0 ?_;(refine g_yes rfl ?_ ?_;(· first|(rfl)|(fail));(apply qza (s1)));(· repeat (first|exact qz4|(refine qz2 ?_ ?_;(· (refine qy2 ?_; first|rfl|omega)))))
        repeat (refine qz0 ?_;((try (refine g_yes rfl ?_ ?_;(· first|rfl|assumption)));(first|(refine m_mov (by conv => lhs; whnf) ?_)|(refine m_neq rfl rfl ?_)|(refine m_not rfl ?_)|(refine m_beq rfl rfl ?_)|(refine qy3 rfl ?_ (by conv => lhs; whnf) ?_;(· first|rfl|assumption)))))
        refine qz0 ?_;(refine g_yes rfl ?_ ?_;(· first|(assumption)|(fail));(apply qza (s2)));(· repeat (first|exact qz4|(refine qz2 ?_ ?_;(· (refine qy2 ?_; first|rfl|omega)))))
        repeat (refine qz0 ?_;((try (refine g_yes rfl ?_ ?_;(· first|rfl|assumption)));(first|(refine m_mov (by conv => lhs; whnf) ?_)|(refine m_neq rfl rfl ?_)|(refine m_not rfl ?_)|(refine m_beq rfl rfl ?_)|(refine qy3 rfl ?_ (by conv => lhs; whnf) ?_;(· first|rfl|assumption)))))
        refine qz0 ?_;(refine g_yes rfl ?_ ?_;(· first|(assumption)|(fail));(apply qza (s3)));(· repeat (first|exact qz4|(refine qz2 ?_ ?_;(· exact qzd))))
        repeat (refine qz0 ?_;((try (refine g_yes rfl ?_ ?_;(· first|rfl|assumption)));(first|(refine m_mov (by conv => lhs; whnf) ?_)|(refine m_beq rfl rfl ?_)|(refine qy3 rfl ?_ (by conv => lhs; whnf) ?_;(· assumption)))))
        refine qz0 ?_;(refine g_yes rfl ?_ ?_;(· first|(rfl)|(fail));(apply qza (s3)));(· repeat (first|exact qz4|(refine qz2 ?_ ?_;(· exact qzd))))
        repeat (refine qz0 ?_;((try (refine g_yes rfl ?_ ?_;(· rfl)));(refine m_mov (by conv => lhs; whnf) ?_)))
        refine qz0 ?_;(refine g_yes rfl ?_ ?_;(· first|(rfl)|(fail));(apply qza (s4)));(· repeat (first|exact qz4|(refine qz2 ?_ ?_;(· exact qzd))))
        repeat (first|(refine qz0 ?_;(first|((try (refine g_yes rfl ?_ ?_;(· first|rfl|assumption)));(first|(refine m_mov (by conv => lhs; whnf) ?_)|(refine m_gtr rfl rfl ?_)|(refine m_eql rfl rfl ?_)|(refine m_not rfl ?_)|(refine m_beq rfl rfl ?_)|(refine qye rfl ?_ (by conv => lhs; whnf) ?_;(· rfl))|(refine qy3 rfl ?_ (by conv => lhs; whnf) ?_;(· first|rfl|assumption))))|(refine g_noT rfl ?_ ?_;(· rfl))))|refine qz1 ?_|(refine qzi rfl ?_ ?_;(· rfl))|refine qz5 ?_)
        refine qxe (qz9 ?_ ?_ rfl rfl) h1
        · (repeat' first|exact trivial|refine And.intro ?_ ?_)<;>first|rfl|skip
        · trivial
      · unfold bhA
        unfold ac3
        simp only [sndN,sndC,fstC]
        repeat (first|(refine qz0 ?_;((try (refine g_yes rfl ?_ ?_;(· rfl)));(first|(refine m_mov (by conv => lhs; whnf) ?_)|(refine m_beq rfl rfl ?_))))|refine qz3 ?_|refine qz6 ?_)
        refine qz0 ?_;(refine g_yes rfl ?_ ?_;(· first|(rfl)|(fail));(apply qza (s1)));(· repeat (first|exact qz4|(refine qz2 ?_ ?_;(· (refine qy2 ?_; first|rfl|omega)))))
        repeat (refine qz0 ?_;((try (refine g_yes rfl ?_ ?_;(· first|rfl|assumption)));(first|(refine m_mov (by conv => lhs; whnf) ?_)|(refine m_neq rfl rfl ?_)|(refine m_not rfl ?_)|(refine m_beq rfl rfl ?_)|(refine qy3 rfl ?_ (by conv => lhs; whnf) ?_;(· first|rfl|assumption)))))
        refine qz0 ?_;(refine g_yes rfl ?_ ?_;(· first|(assumption)|(fail));(apply qza (s2)));(· repeat (first|exact qz4|(refine qz2 ?_ ?_;(· (refine qy2 ?_; first|rfl|omega)))))
        repeat (refine qz0 ?_;((try (refine g_yes rfl ?_ ?_;(· first|rfl|assumption)));(first|(refine m_mov (by conv => lhs; whnf) ?_)|(refine m_neq rfl rfl ?_)|(refine m_not rfl ?_)|(refine m_beq rfl rfl ?_)|(refine qy3 rfl ?_ (by conv => lhs; whnf) ?_;(· first|rfl|assumption)))))
        refine qz0 ?_;(refine g_yes rfl ?_ ?_;(· first|(assumption)|(fail));(apply qza (s3)));(· repeat (first|exact qz4|(refine qz2 ?_ ?_;(· exact qzd))))
        repeat (refine qz0 ?_;((try (refine g_yes rfl ?_ ?_;(· first|rfl|assumption)));(first|(refine m_mov (by conv => lhs; whnf) ?_)|(refine m_beq rfl rfl ?_)|(refine qy3 rfl ?_ (by conv => lhs; whnf) ?_;(· assumption)))))
        refine qz0 ?_;(refine g_yes rfl ?_ ?_;(· first|(rfl)|(fail));(apply qza (s3)));(· repeat (first|exact qz4|(refine qz2 ?_ ?_;(· exact qzd))))
        repeat (refine qz0 ?_;((try (refine g_yes rfl ?_ ?_;(· rfl)));(refine m_mov (by conv => lhs; whnf) ?_)))
        refine qz0 ?_;(refine g_yes rfl ?_ ?_;(· first|(rfl)|(fail));(apply qza (s4)));(· repeat (first|exact qz4|(refine qz2 ?_ ?_;(· exact qzd))))
        repeat (first|(refine qz0 ?_;((try (refine g_yes rfl ?_ ?_;(· first|rfl|assumption)));(first|(refine m_mov (by conv => lhs; whnf) ?_)|(refine m_gtr rfl rfl ?_)|(refine m_eql rfl rfl ?_)|(refine m_not rfl ?_)|(refine m_beq rfl rfl ?_)|(refine qye rfl ?_ (by conv => lhs; whnf) ?_;(· rfl))|(refine qy3 rfl ?_ (by conv => lhs; whnf) ?_;(· first|rfl|assumption)))))|refine qz1 ?_|(refine qzi rfl ?_ ?_;(· rfl))|refine qz5 ?_)
        refine qxe (qz9 ?_ ?_ rfl rfl) h1
        · (repeat' first|exact trivial|refine And.intro ?_ ?_)<;>first|rfl|skip
        · trivial
    · rw [hno ha] at *
      rw [if_neg ha] at h1
      rw [if_neg ha,if_neg ha,decide_eq_false ha]
      rw [decide_eq_false ha] at h1
      clear hfr hno
      generalize (frstA B).isSome = b5 at *
      generalize cntB' B = c at *
      unfold bhA
      unfold ac3
      simp only [sndN,sndC,fstC]
      repeat (first|(refine qz0 ?_;((try (refine g_yes rfl ?_ ?_;(· rfl)));(first|(refine m_mov (by conv => lhs; whnf) ?_)|(refine m_beq rfl rfl ?_))))|refine qz3 ?_|refine qz6 ?_)
      refine qz0 ?_;(refine g_yes rfl ?_ ?_;(· first|(rfl)|(fail));(apply qza (s1)));(· repeat (first|exact qz4|(refine qz2 ?_ ?_;(· (refine qy2 ?_; first|rfl|omega)))))
      repeat (refine qz0 ?_;((try (refine g_yes rfl ?_ ?_;(· first|rfl|assumption)));(first|(refine m_mov (by conv => lhs; whnf) ?_)|(refine m_neq rfl rfl ?_)|(refine m_not rfl ?_)|(refine m_beq rfl rfl ?_)|(refine qy3 rfl ?_ (by conv => lhs; whnf) ?_;(· rfl)))))
      refine qz0 ?_;(refine g_yes rfl ?_ ?_;(· first|(assumption)|(fail));(apply qza (s2)));(· repeat (first|exact qz4|(refine qz2 ?_ ?_;(· (refine qy2 ?_; first|rfl|omega)))))
      repeat (refine qz0 ?_;((try (refine g_yes rfl ?_ ?_;(· first|rfl|assumption)));(first|(refine m_mov (by conv => lhs; whnf) ?_)|(refine m_neq rfl rfl ?_)|(refine m_not rfl ?_)|(refine m_beq rfl rfl ?_)|(refine qy3 rfl ?_ (by conv => lhs; whnf) ?_;(· first|rfl|assumption)))))
      refine qz0 ?_;(refine g_yes rfl ?_ ?_;(· first|(assumption)|(fail));(apply qza (s3)));(· repeat (first|exact qz4|(refine qz2 ?_ ?_;(· exact qzd))))
      repeat (refine qz0 ?_;((try (refine g_yes rfl ?_ ?_;(· first|rfl|assumption)));(first|(refine m_mov (by conv => lhs; whnf) ?_)|(refine m_beq rfl rfl ?_)|(refine qy3 rfl ?_ (by conv => lhs; whnf) ?_;(· assumption)))))
      refine qz0 ?_;(refine g_yes rfl ?_ ?_;(· first|(rfl)|(fail));(apply qza (s3)));(· repeat (first|exact qz4|(refine qz2 ?_ ?_;(· exact qzd))))
      repeat (refine qz0 ?_;((try (refine g_yes rfl ?_ ?_;(· rfl)));(refine m_mov (by conv => lhs; whnf) ?_)))
      refine qz0 ?_;(refine g_yes rfl ?_ ?_;(· first|(rfl)|(fail));(apply qza (s4)));(· repeat (first|exact qz4|(refine qz2 ?_ ?_;(· exact qzd))))
      repeat (first|((first|(refine qz0 ?_;(first|((try (refine g_yes rfl ?_ ?_;(· first|rfl|assumption)));(first|(refine m_mov (by conv => lhs; whnf) ?_)|(refine m_gtr rfl rfl ?_)|(refine m_beq rfl rfl ?_)|(refine qye rfl ?_ (by conv => lhs; whnf) ?_;(· rfl))|(refine qy3 rfl ?_ (by conv => lhs; whnf) ?_;(· first|rfl|assumption))))|(refine g_noT rfl ?_ ?_;(· rfl))))|refine qz1 ?_|(refine qzi rfl ?_ ?_;(· rfl))|refine qz5 ?_))|(refine qz0 ?_; refine g_un rfl ?_))
      refine qxe (qz9 ?_ ?_ rfl rfl) h1
      · (repeat' first|exact trivial|refine And.intro ?_ ?_)<;>first|rfl|skip
      · trivial
  · have ha : ¬ Asked B L := fun hh => hg hh.1
    rw [decide_eq_false hg,Bool.false_and] at hfr
    rw [hno ha,hfr] at *
    rw [decide_eq_false hg] at *
    rw [if_neg ha] at h1
    rw [if_neg ha,if_neg ha,decide_eq_false ha]
    rw [decide_eq_false ha] at h1
    clear hfr hno
    generalize cntB' B = c at *
    unfold bhA
    unfold ac3
    simp only [sndN,sndC,fstC]
    repeat (first|(refine qz0 ?_;((try (refine g_yes rfl ?_ ?_;(· rfl)));(first|(refine m_mov (by conv => lhs; whnf) ?_)|(refine m_beq rfl rfl ?_))))|refine qz3 ?_|refine qz6 ?_)
    refine qz0 ?_;(refine g_yes rfl ?_ ?_;(· first|(rfl)|(fail));(apply qza (s1)));(· repeat (first|exact qz4|(refine qz2 ?_ ?_;(· (refine qy2 ?_; first|rfl|omega)))))
    repeat (refine qz0 ?_;((try (refine g_yes rfl ?_ ?_;(· rfl)));(first|(refine m_mov (by conv => lhs; whnf) ?_)|(refine m_neq rfl rfl ?_)|(refine m_not rfl ?_)|(refine m_beq rfl rfl ?_)|(refine qy3 rfl ?_ (by conv => lhs; whnf) ?_;(· rfl)))))
    refine qz0 ?_;(refine g_yes rfl ?_ ?_;(· first|(rfl)|(fail));(apply qza (s2)));(· repeat (first|exact qz4|(refine qz2 ?_ ?_;(· (refine qy2 ?_; first|rfl|omega)))))
    repeat (refine qz0 ?_;((try (refine g_yes rfl ?_ ?_;(· first|rfl|assumption)));(first|(refine m_mov (by conv => lhs; whnf) ?_)|(refine m_neq rfl rfl ?_)|(refine m_not rfl ?_)|(refine m_beq rfl rfl ?_)|(refine qy3 rfl ?_ (by conv => lhs; whnf) ?_;(· rfl)))))
    refine qz0 ?_;(refine g_yes rfl ?_ ?_;(· first|(assumption)|(fail));(apply qza (s3)));(· repeat (first|exact qz4|(refine qz2 ?_ ?_;(· exact qzd))))
    repeat (refine qz0 ?_;((try (refine g_yes rfl ?_ ?_;(· first|rfl|assumption)));(first|(refine m_mov (by conv => lhs; whnf) ?_)|(refine m_beq rfl rfl ?_)|(refine qy3 rfl ?_ (by conv => lhs; whnf) ?_;(· assumption)))))
    refine qz0 ?_;(refine g_yes rfl ?_ ?_;(· first|(rfl)|(fail));(apply qza (s3)));(· repeat (first|exact qz4|(refine qz2 ?_ ?_;(· exact qzd))))
    repeat (refine qz0 ?_;((try (refine g_yes rfl ?_ ?_;(· rfl)));(refine m_mov (by conv => lhs; whnf) ?_)))
    refine qz0 ?_;(refine g_yes rfl ?_ ?_;(· first|(rfl)|(fail));(apply qza (s4)));(· repeat (first|exact qz4|(refine qz2 ?_ ?_;(· exact qzd))))
    repeat (first|((first|(refine qz0 ?_;(first|((try (refine g_yes rfl ?_ ?_;(· rfl)));(first|(refine m_mov (by conv => lhs; whnf) ?_)|(refine m_beq rfl rfl ?_)|(refine qy3 rfl ?_ (by conv => lhs; whnf) ?_;(· rfl))))|(refine g_noT rfl ?_ ?_;(· rfl))))|refine qz1 ?_|(refine qzi rfl ?_ ?_;(· rfl))|refine qz5 ?_))|(refine qz0 ?_; refine g_un rfl ?_))
    refine qxe (qz9 ?_ ?_ rfl rfl) h1
    · (repeat' first|exact trivial|refine And.intro ?_ ?_)<;>first|rfl|skip
    · trivial
theorem bhAll {B : List UInt8} {mv : Value} {ML : List UInt8} {L : List Int} (hB : B.length ≤ 1048576) (hy : Bys mv ML) (hyl : ML.length ≤ 1048576) (hL : L.length ≤ 10000) : AW Tryz.prog (min Tryz.f3.ntmps pbase) bh2 (st [(5,str B),(6,ints L),(1,.v mv)] []) (Done [4].reverse (.b true)) := by
  have h1 := bh12 hB hy hyl hL
  have hp : bh2 = .seq (fstC bh2) (.seq (fstC (sndN 1 bh2)) (.seq (fstC (sndN 2 bh2)) (.seq (fstC (sndN 3 bh2)) (.seq (fstC (sndN 4 bh2)) (.seq (fstC (sndN 5 bh2)) (.seq (fstC (sndN 6 bh2)) (.seq (fstC (sndN 7 bh2)) (.seq (fstC (sndN 8 bh2)) (.seq (fstC (sndN 9 bh2)) bhA))))))))) := rfl
  rw [hp]
  clear hp
  generalize bhA = cA at *
  have s1 := implNextAllowed_spec B L hB (by omega)
  have s2 := specNextAllowed_spec B L hB (by omega)
  have s3 := implIsAllowed_spec B L hB (by omega)
  have s4 := specIsAllowed_spec B L hB (by omega)
  have s5 := implHitsOf_spec B L hB (by omega)
  have s6 := specHitsOf_spec B L hB (by omega)
  have s7 := implFirstAllowed_spec B hB
  have s8 := specFirstAllowed_spec B hB
  have s9 := implCountAllowed_spec B hB
  have s10 := specCountAllowed_spec B hB
  unfold srchR at s1 s2 s7 s8
  unfold allowR at s3 s4
  unfold hitsR at s5 s6
  unfold allwR at s9 s10
  have ec : (if GoodBd B then (hitL B).getD 0 0 else 0) = ((cntB' B : Nat) : Int) := by
    unfold cntB'
    by_cases hg : GoodBd B
    · rw [if_pos hg,if_pos hg,allw_is hg]
    · rw [if_neg hg,if_neg hg]; rfl
  rw [ec] at s9 s10
  generalize (nextA B L).getD [] = N at *
  generalize (nextA B L).isSome = b1 at *
  generalize (frstA B).getD [] = F at *
  generalize (frstA B).isSome = b2 at *
  generalize (if Asked B L then hitN B L L.length else 0) = v at *
  generalize (if Asked B L then decide (hitN B L L.length = 0) else false) = b3 at *
  generalize decide (Asked B L) = b4 at *
  generalize decide (GoodBd B) = b5 at *
  generalize cntB' B = c at *
  unfold bh2
  unfold ac3
  simp only [sndN,sndC,fstC]
  repeat (first|(refine qz0 ?_;(refine m_mov (by conv => lhs; whnf) ?_))|refine qz3 ?_)
  refine qz0 ?_;(apply qza (s1));(· repeat (first|exact qz4|(refine qz2 ?_ ?_;(· (first|exact qzd|(refine qy2 ?_; first|rfl|omega))))))
  repeat (first|(refine qz0 ?_;(first|(refine m_mov (by conv => lhs; whnf) ?_)|(refine m_ext rfl rfl ?_)))|refine qz1 ?_|refine qz3 ?_)
  refine qz0 ?_;(apply qza (s2));(· repeat (first|exact qz4|(refine qz2 ?_ ?_;(· (first|exact qzd|(refine qy2 ?_; first|rfl|omega))))))
  repeat (first|(refine qz0 ?_;(first|(refine m_mov (by conv => lhs; whnf) ?_)|(refine m_ext rfl rfl ?_)))|refine qz1 ?_|refine qz3 ?_)
  refine qz0 ?_;(apply qza (s3));(· repeat (first|exact qz4|(refine qz2 ?_ ?_;(· (first|exact qzd|(refine qy2 ?_; first|rfl|omega))))))
  repeat (first|(refine qz0 ?_;(first|(refine m_mov (by conv => lhs; whnf) ?_)|(refine m_ext rfl rfl ?_)))|refine qz1 ?_|refine qz3 ?_)
  refine qz0 ?_;(apply qza (s4));(· repeat (first|exact qz4|(refine qz2 ?_ ?_;(· (first|exact qzd|(refine qy2 ?_; first|rfl|omega))))))
  repeat (first|(refine qz0 ?_;(first|(refine m_mov (by conv => lhs; whnf) ?_)|(refine m_ext rfl rfl ?_)))|refine qz1 ?_|refine qz3 ?_)
  refine qz0 ?_;(apply qza (s5));(· repeat (first|exact qz4|(refine qz2 ?_ ?_;(· (first|exact qzd|(refine qy2 ?_; first|rfl|omega))))))
  repeat (first|(refine qz0 ?_;(first|(refine m_mov (by conv => lhs; whnf) ?_)|(refine m_ext rfl rfl ?_)))|refine qz1 ?_|refine qz3 ?_)
  refine qz0 ?_;(apply qza (s6));(· repeat (first|exact qz4|(refine qz2 ?_ ?_;(· (first|exact qzd|(refine qy2 ?_; first|rfl|omega))))))
  repeat (first|(refine qz0 ?_;(first|(refine m_mov (by conv => lhs; whnf) ?_)|(refine m_ext rfl rfl ?_)))|refine qz1 ?_|refine qz3 ?_)
  refine qz0 ?_;(apply qza (s7));(· repeat (first|exact qz4|(refine qz2 ?_ ?_;(· exact qzd))))
  repeat (first|(refine qz0 ?_;(first|(refine m_mov (by conv => lhs; whnf) ?_)|(refine m_ext rfl rfl ?_)))|refine qz1 ?_|refine qz3 ?_)
  refine qz0 ?_;(apply qza (s8));(· repeat (first|exact qz4|(refine qz2 ?_ ?_;(· exact qzd))))
  repeat (first|(refine qz0 ?_;(first|(refine m_mov (by conv => lhs; whnf) ?_)|(refine m_ext rfl rfl ?_)))|refine qz1 ?_|refine qz3 ?_)
  refine qz0 ?_;(apply qza (s9));(· repeat (first|exact qz4|(refine qz2 ?_ ?_;(· exact qzd))))
  repeat (first|(refine qz0 ?_;(first|(refine m_mov (by conv => lhs; whnf) ?_)|(refine m_ext rfl rfl ?_)))|refine qz1 ?_|refine qz3 ?_)
  refine qz0 ?_;(apply qza (s10));(· repeat (first|exact qz4|(refine qz2 ?_ ?_;(· exact qzd))))
  repeat (first|(refine qz0 ?_;(first|(refine m_mov (by conv => lhs; whnf) ?_)|(refine m_ext rfl rfl ?_)))|refine qz1 ?_)
  refine qxe (qz9 ?_ ?_ rfl rfl) h1
  · (repeat' first|exact trivial|refine And.intro ?_ ?_)<;>first|rfl|skip
  · trivial
theorem lawBoardsCounted {cv mv : Value} {CL ML : List UInt8} (hc : Bys cv CL) (hm : Bys mv ML) (hC : CL.length ≤ 9223372036854775807) (hM : ML.length ≤ 9223372036854775807) : Sp Tryz.prog 3 [.v cv,.v mv] (.b true) := by
  have hb := big_spec hc hm hC hM
  by_cases hbig : 1048576 < CL.length + ML.length
  · rw [decide_eq_true hbig] at hb
    refine qy7 Tryz.func3 rfl cc3 rfl ?_
    unfold ac3
    repeat (first|(refine qz0 ?_;(refine m_mov (by conv => lhs; whnf) ?_))|refine qz1 ?_|refine qz3 ?_|refine qz6 ?_)
    refine qz0 ?_;(apply qza (hb));(· repeat (first|exact qz4|(refine qz2 ?_ ?_;(· exact qzd))))
    repeat (first|(refine qz0 ?_;(refine m_mov (by conv => lhs; whnf) ?_))|refine qz1 ?_|refine qz3 ?_|(refine qzf rfl ?_ ?_;(· rfl))|refine qzj ?_|refine qzc ?_|refine qy8 ?_)
    exact qyb rfl
  · rw [decide_eq_false hbig] at hb
    have hyl : ML.length ≤ 1048576 := by omega
    have key := fun (B : List UInt8) (L : List Int) (hB : B.length ≤ 1048576) (hL : L.length ≤ 10000) => bhAll (B := B) (L := L) hB hm hyl hL
    refine qy7 Tryz.func3 rfl cc3 rfl ?_
    unfold ac3
    have hp : ac3 = .seq (fstC ac3) (.seq (fstC (sndN 1 ac3)) (.seq (fstC (sndN 2 ac3)) bh2)) := rfl
    unfold ac3 at hp
    rw [hp]
    clear hp
    generalize bh2 = c4 at *
    simp only [sndN,sndC,fstC]
    repeat (first|(refine qz0 ?_;(refine m_mov (by conv => lhs; whnf) ?_))|refine qz1 ?_|refine qz3 ?_|refine qz6 ?_)
    refine qz0 ?_;(apply qza (hb));(· repeat (first|exact qz4|(refine qz2 ?_ ?_;(· exact qzd))))
    repeat (first|(refine qz0 ?_;(refine m_mov (by conv => lhs; whnf) ?_))|refine qz1 ?_|refine qz3 ?_|(refine qzi rfl ?_ ?_;(· rfl))|refine qz5 ?_)
    refine qz0 ?_
    refine m_drawSL (q := 1000) (drawNA_spec hc (by omega)) rfl ⟨([],[]),by simp⟩ rfl (by decide) ?_
    rintro ⟨B,L⟩ ⟨hB,hL⟩
    dsimp only at hB hL ⊢
    repeat (first|(refine qz0 ?_;(first|(refine m_mov (by conv => lhs; whnf) ?_)|(refine m_ext rfl rfl ?_)))|refine qz1 ?_)
    refine qxe (weak_frz 6 1000 rfl rfl (by simp) (qx0 _)) ?_
    refine qxe (qz9 ?_ ?_ rfl rfl) (key B L (by omega) (by omega))
    · (repeat' first|exact trivial|refine And.intro ?_ ?_)<;>first|rfl|skip
    · trivial
end Go.Proofs.YtngfogpbljconaaGreatDoor
