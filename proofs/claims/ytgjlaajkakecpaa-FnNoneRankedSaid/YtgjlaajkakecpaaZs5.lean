/- The abstract machine, contracts: part 5 of what this claim needs. -/
import Derived.Test.YtgjlaajkakecpaaZs4
set_option linter.unusedSectionVars false
namespace Go.Proofs.Ytgjlaajkakecpaa
variable [Go.Am.CodeBlk]
open Go.Am
attribute [local irreducible] AW Outs Weak Lends Lend Sp aops atree aop1 Then Round InBlock Done
attribute [local irreducible] SpM DoneM
def nqC : ACode := sndN 10 ac3
def nqB : ACode := sndN 9 ac3
def nqA : ACode := sndN 8 ac3
def nqC2 : ACode := sndN 23 ac3
/-- The answers, compared. -/
theorem nq3b (g n o m p : Int) : AW Try.prog (min Try.f3.ntmps pbase) nqC2 (st [(22, .i g), (44, .i p), (23, newInts (ofRes g 0)), (24, .b (decide (OfOk g 0))), (25, newInts (ofRes g 0)), (26, .b (decide (OfOk g 0))), (27, .i (countNoneR g)), (28, .b (decide (1 ≤ g ∧ g ≤ 12))), (29, .i (countNoneR g)), (30, .b (decide (1 ≤ g ∧ g ≤ 12))), (31, .i ((chnR g).1 : Nat)), (32, .i ((chnR g).2 : Nat)), (33, .b (decide (1 ≤ g ∧ g ≤ 12))), (34, .i ((chnR g).1 : Nat)), (35, .i ((chnR g).2 : Nat)), (36, .b (decide (1 ≤ g ∧ g ≤ 12))), (39, .i (countOwnR n o)), (40, .b (decide (OwnOk n o))), (41, .i (countOwnR n o)), (42, .b (decide (OwnOk n o))), (45, newInts (ofRes m p)), (46, .b (decide (OfOk m p))), (47, newInts (ofRes m p)), (48, .b (decide (OfOk m p)))] []) (Done [4].reverse (.b true)) := by
  have h4 := nq4 g m p
  have hp : nqC2 = .seq (fstC nqC2) nqD := rfl
  rw [hp]
  clear hp
  generalize nqD = c4 at *
  have l1 := oSame_self (ofRes g 0) (by have := ofRes_le g 0; omega)
  have l2 := oSame_self (ofRes m p) (by have := ofRes_le m p; omega)
  have x1 := xor_self (decide (OfOk g 0))
  have x2 := xor_self (decide (1 ≤ g ∧ g ≤ 12))
  have x3 := xor_self (decide (OwnOk n o))
  have x4 := xor_self (decide (OfOk m p))
  have n1 : decide (countNoneR g ≠ countNoneR g) = false := by simp
  have n2 : decide ((((chnR g).1 : Nat) : Int) ≠ ((chnR g).1 : Nat)) = false := by simp
  have n3 : decide ((((chnR g).2 : Nat) : Int) ≠ ((chnR g).2 : Nat)) = false := by simp
  have n4 : decide (countOwnR n o ≠ countOwnR n o) = false := by simp
  have key : (1 ≤ g ∧ g ≤ 12) → (OfOk g 0 ↔ 0 < countNoneR g) := fun h => by
    rw [countNoneR, if_pos h]
    exact ⟨fun hh => by have := hh.2.2; omega, fun hh => ⟨h, by omega, by omega⟩⟩
  have key2 : ¬ (1 ≤ g ∧ g ≤ 12) → ¬ OfOk g 0 := fun h hh => h hh.1
  generalize ofRes g 0 = R1 at *
  generalize ofRes m p = R2 at *
  generalize (chnR g).1 = P1 at *
  generalize (chnR g).2 = P2 at *
  generalize countOwnR n o = cw at *
  generalize decide (OwnOk n o) = B3 at *
  generalize decide (OfOk m p) = B4 at *
  generalize countNoneR g = cn at *
  by_cases h : 1 ≤ g ∧ g ≤ 12
  · have k1 := key h
    by_cases hz : 0 < cn
    · have k2 := k1.2 hz
      rw [decide_eq_true h, decide_eq_true k2] at *
      unfold nqC2
      unfold ac3
      simp only [sndN, sndC, fstC]
      repeat (first | (refine step_ops ?_; ((try (refine g_yes rfl ?_ ?_; (· first | rfl | assumption | (refine decide_eq_true ?_; first | assumption | omega) | (refine nt ?_; first | assumption | omega) | (simp [*]; done) | (refine decide_eq_false ?_; first | assumption | omega) | (refine nf ?_; first | assumption | omega)))); (first | (refine m_mov (by conv => lhs; whnf) ?_) | (refine m_beq rfl rfl ?_)))) | refine seq_ops ?_ | refine AW_seq ?_)
      refine step_ops ?_; (refine g_yes rfl ?_ ?_; (· first | (first | rfl | assumption | (refine decide_eq_true ?_; first | assumption | omega) | (refine nt ?_; first | assumption | omega) | (simp [*]; done)) | (first | rfl | assumption | (refine decide_eq_false ?_; first | assumption | omega) | (refine nf ?_; first | assumption | omega) | (simp [*]; done))); (apply m_call (l1))); (· repeat (first | exact lends_nil | (refine lends_cons ?_ ?_; (· (refine lend_ints ?_; first | rfl | omega)))))
      repeat (refine step_ops ?_; ((try (refine g_yes rfl ?_ ?_; (· first | rfl | assumption | (refine decide_eq_true ?_; first | assumption | omega) | (refine nt ?_; first | assumption | omega) | (simp [*]; done) | (refine decide_eq_false ?_; first | assumption | omega) | (refine nf ?_; first | assumption | omega)))); (first | (refine m_mov (by conv => lhs; whnf) ?_) | (refine m_neq rfl rfl ?_) | (refine m_not rfl ?_) | (refine m_beq rfl rfl ?_) | (refine m_pick_f rfl ?_ (by conv => lhs; whnf) ?_; (· first | rfl | assumption | (refine decide_eq_false ?_; first | assumption | omega) | (refine nf ?_; first | assumption | omega) | (simp [*]; done))))))
      refine step_ops ?_; (refine g_yes rfl ?_ ?_; (· first | (first | rfl | assumption | (refine decide_eq_true ?_; first | assumption | omega) | (refine nt ?_; first | assumption | omega) | (simp [*]; done)) | (first | rfl | assumption | (refine decide_eq_false ?_; first | assumption | omega) | (refine nf ?_; first | assumption | omega) | (simp [*]; done))); (apply m_call (l2))); (· repeat (first | exact lends_nil | (refine lends_cons ?_ ?_; (· (refine lend_ints ?_; first | rfl | omega)))))
      repeat (first | (refine step_ops ?_; ((try (refine g_yes rfl ?_ ?_; (· first | rfl | assumption | (refine decide_eq_true ?_; first | assumption | omega) | (refine nt ?_; first | assumption | omega) | (simp [*]; done) | (refine decide_eq_false ?_; first | assumption | omega) | (refine nf ?_; first | assumption | omega)))); (first | (refine m_mov (by conv => lhs; whnf) ?_) | (refine m_gtr rfl rfl ?_) | (refine m_not rfl ?_) | (refine m_beq rfl rfl ?_) | (refine m_pick_t rfl ?_ (by conv => lhs; whnf) ?_; (· first | rfl | assumption | (refine decide_eq_true ?_; first | assumption | omega) | (refine nt ?_; first | assumption | omega) | (simp [*]; done))) | (refine m_pick_f rfl ?_ (by conv => lhs; whnf) ?_; (· first | rfl | assumption | (refine decide_eq_false ?_; first | assumption | omega) | (refine nf ?_; first | assumption | omega) | (simp [*]; done)))))) | refine end_ops ?_ | (refine cond_f rfl ?_ ?_; (· first | rfl | assumption | (refine decide_eq_false ?_; first | assumption | omega) | (refine nf ?_; first | assumption | omega) | (simp [*]; done))) | refine skip_then ?_)
      refine AW_weak (weak_st ?_ ?_ rfl rfl) h4
      · (repeat' (first | exact trivial | refine And.intro ?_ ?_)) <;> (first | rfl | skip)
      · trivial
    · have k2 : ¬ OfOk g 0 := fun hh => hz (k1.1 hh)
      rw [decide_eq_true h, decide_eq_false k2] at *
      unfold nqC2
      unfold ac3
      simp only [sndN, sndC, fstC]
      repeat (first | (refine step_ops ?_; ((try (refine g_yes rfl ?_ ?_; (· first | rfl | assumption | (refine decide_eq_true ?_; first | assumption | omega) | (refine nt ?_; first | assumption | omega) | (simp [*]; done) | (refine decide_eq_false ?_; first | assumption | omega) | (refine nf ?_; first | assumption | omega)))); (first | (refine m_mov (by conv => lhs; whnf) ?_) | (refine m_beq rfl rfl ?_)))) | refine seq_ops ?_ | refine AW_seq ?_)
      refine step_ops ?_; (refine g_yes rfl ?_ ?_; (· first | (first | rfl | assumption | (refine decide_eq_true ?_; first | assumption | omega) | (refine nt ?_; first | assumption | omega) | (simp [*]; done)) | (first | rfl | assumption | (refine decide_eq_false ?_; first | assumption | omega) | (refine nf ?_; first | assumption | omega) | (simp [*]; done))); (apply m_call (l1))); (· repeat (first | exact lends_nil | (refine lends_cons ?_ ?_; (· (refine lend_ints ?_; first | rfl | omega)))))
      repeat (refine step_ops ?_; ((try (refine g_yes rfl ?_ ?_; (· first | rfl | assumption | (refine decide_eq_true ?_; first | assumption | omega) | (refine nt ?_; first | assumption | omega) | (simp [*]; done) | (refine decide_eq_false ?_; first | assumption | omega) | (refine nf ?_; first | assumption | omega)))); (first | (refine m_mov (by conv => lhs; whnf) ?_) | (refine m_neq rfl rfl ?_) | (refine m_not rfl ?_) | (refine m_beq rfl rfl ?_) | (refine m_pick_f rfl ?_ (by conv => lhs; whnf) ?_; (· first | rfl | assumption | (refine decide_eq_false ?_; first | assumption | omega) | (refine nf ?_; first | assumption | omega) | (simp [*]; done))))))
      refine step_ops ?_; (refine g_yes rfl ?_ ?_; (· first | (first | rfl | assumption | (refine decide_eq_true ?_; first | assumption | omega) | (refine nt ?_; first | assumption | omega) | (simp [*]; done)) | (first | rfl | assumption | (refine decide_eq_false ?_; first | assumption | omega) | (refine nf ?_; first | assumption | omega) | (simp [*]; done))); (apply m_call (l2))); (· repeat (first | exact lends_nil | (refine lends_cons ?_ ?_; (· (refine lend_ints ?_; first | rfl | omega)))))
      repeat (first | (refine step_ops ?_; ((try (refine g_yes rfl ?_ ?_; (· first | rfl | assumption | (refine decide_eq_true ?_; first | assumption | omega) | (refine nt ?_; first | assumption | omega) | (simp [*]; done) | (refine decide_eq_false ?_; first | assumption | omega) | (refine nf ?_; first | assumption | omega)))); (first | (refine m_mov (by conv => lhs; whnf) ?_) | (refine m_gtr rfl rfl ?_) | (refine m_not rfl ?_) | (refine m_beq rfl rfl ?_) | (refine m_pick_t rfl ?_ (by conv => lhs; whnf) ?_; (· first | rfl | assumption | (refine decide_eq_true ?_; first | assumption | omega) | (refine nt ?_; first | assumption | omega) | (simp [*]; done))) | (refine m_pick_f rfl ?_ (by conv => lhs; whnf) ?_; (· first | rfl | assumption | (refine decide_eq_false ?_; first | assumption | omega) | (refine nf ?_; first | assumption | omega) | (simp [*]; done)))))) | refine end_ops ?_ | (refine cond_f rfl ?_ ?_; (· first | rfl | assumption | (refine decide_eq_false ?_; first | assumption | omega) | (refine nf ?_; first | assumption | omega) | (simp [*]; done))) | refine skip_then ?_)
      refine AW_weak (weak_st ?_ ?_ rfl rfl) h4
      · (repeat' (first | exact trivial | refine And.intro ?_ ?_)) <;> (first | rfl | skip)
      · trivial
  · have k2 := key2 h
    rw [decide_eq_false h, decide_eq_false k2] at *
    unfold nqC2
    unfold ac3
    simp only [sndN, sndC, fstC]
    repeat (first | (refine step_ops ?_; ((try (refine g_yes rfl ?_ ?_; (· first | rfl | assumption | (refine decide_eq_true ?_; first | assumption | omega) | (refine nt ?_; first | assumption | omega) | (simp [*]; done) | (refine decide_eq_false ?_; first | assumption | omega) | (refine nf ?_; first | assumption | omega)))); (first | (refine m_mov (by conv => lhs; whnf) ?_) | (refine m_beq rfl rfl ?_)))) | refine seq_ops ?_ | refine AW_seq ?_)
    refine step_ops ?_; (refine g_yes rfl ?_ ?_; (· first | (first | rfl | assumption | (refine decide_eq_true ?_; first | assumption | omega) | (refine nt ?_; first | assumption | omega) | (simp [*]; done)) | (first | rfl | assumption | (refine decide_eq_false ?_; first | assumption | omega) | (refine nf ?_; first | assumption | omega) | (simp [*]; done))); (apply m_call (l1))); (· repeat (first | exact lends_nil | (refine lends_cons ?_ ?_; (· (refine lend_ints ?_; first | rfl | omega)))))
    repeat (refine step_ops ?_; ((try (refine g_yes rfl ?_ ?_; (· first | rfl | assumption | (refine decide_eq_true ?_; first | assumption | omega) | (refine nt ?_; first | assumption | omega) | (simp [*]; done) | (refine decide_eq_false ?_; first | assumption | omega) | (refine nf ?_; first | assumption | omega)))); (first | (refine m_mov (by conv => lhs; whnf) ?_) | (refine m_neq rfl rfl ?_) | (refine m_not rfl ?_) | (refine m_beq rfl rfl ?_) | (refine m_pick_f rfl ?_ (by conv => lhs; whnf) ?_; (· first | rfl | assumption | (refine decide_eq_false ?_; first | assumption | omega) | (refine nf ?_; first | assumption | omega) | (simp [*]; done))))))
    refine step_ops ?_; (refine g_yes rfl ?_ ?_; (· first | (first | rfl | assumption | (refine decide_eq_true ?_; first | assumption | omega) | (refine nt ?_; first | assumption | omega) | (simp [*]; done)) | (first | rfl | assumption | (refine decide_eq_false ?_; first | assumption | omega) | (refine nf ?_; first | assumption | omega) | (simp [*]; done))); (apply m_call (l2))); (· repeat (first | exact lends_nil | (refine lends_cons ?_ ?_; (· (refine lend_ints ?_; first | rfl | omega)))))
    repeat (first | ((first | (refine step_ops ?_; (first | ((try (refine g_yes rfl ?_ ?_; (· first | rfl | assumption | (refine decide_eq_true ?_; first | assumption | omega) | (refine nt ?_; first | assumption | omega) | (simp [*]; done) | (refine decide_eq_false ?_; first | assumption | omega) | (refine nf ?_; first | assumption | omega)))); (first | (refine m_mov (by conv => lhs; whnf) ?_) | (refine m_not rfl ?_) | (refine m_beq rfl rfl ?_) | (refine m_pick_f rfl ?_ (by conv => lhs; whnf) ?_; (· first | rfl | assumption | (refine decide_eq_false ?_; first | assumption | omega) | (refine nf ?_; first | assumption | omega) | (simp [*]; done))))) | (refine g_noT rfl ?_ ?_; (· first | rfl | assumption | (refine decide_eq_false ?_; first | assumption | omega) | (refine nf ?_; first | assumption | omega) | (simp [*]; done))))) | refine end_ops ?_ | (refine cond_f rfl ?_ ?_; (· first | rfl | assumption | (refine decide_eq_false ?_; first | assumption | omega) | (refine nf ?_; first | assumption | omega) | (simp [*]; done))) | refine skip_then ?_)) | (refine step_ops ?_; refine g_un rfl ?_))
    refine AW_weak (weak_st ?_ ?_ rfl rfl) h4
    · (repeat' (first | exact trivial | refine And.intro ?_ ?_)) <;> (first | rfl | skip)
    · trivial
theorem nq3 {mv : Value} {ML : List UInt8} (hm : Bys mv ML) (hML : ML.length ≤ 1048576) : AW Try.prog (min Try.f3.ntmps pbase) nqC (st [(1, .v mv)] []) (Done [4].reverse (.b true)) := by
  have h4 := nq3b
  have hp : nqC = .seq (fstC nqC) (.seq (fstC (sndN 1 nqC)) (.seq (fstC (sndN 2 nqC)) (.seq (fstC (sndN 3 nqC)) (.seq (fstC (sndN 4 nqC)) (.seq (fstC (sndN 5 nqC)) (.seq (fstC (sndN 6 nqC)) (.seq (fstC (sndN 7 nqC)) (.seq (fstC (sndN 8 nqC)) (.seq (fstC (sndN 9 nqC)) (.seq (fstC (sndN 10 nqC)) (.seq (fstC (sndN 11 nqC)) (.seq (fstC (sndN 12 nqC)) nqC2)))))))))))) := rfl
  rw [hp]
  clear hp
  generalize nqC2 = c4 at *
  unfold nqC
  unfold ac3
  simp only [sndN, sndC, fstC]
  repeat (first | (refine step_ops ?_; (refine m_mov (by conv => lhs; whnf) ?_)) | refine seq_ops ?_)
  refine step_ops ?_
  refine m_draw (drawFirst_spec hm hML) rfl ⟨0, trivial⟩ (fun m => ⟨rfl, rfl⟩) ?_
  intro g _
  have s1 := implFirstNone_spec g
  have s2 := specFirstNone_spec g
  have s3 := implCountNone_spec g
  have s4 := specCountNone_spec g
  have s5 := implChanceNone_spec g
  have s6 := specChanceNone_spec g
  unfold chnTup at s5 s6
  replace h4 := h4 g
  generalize ofRes g 0 = R1 at *
  generalize (chnR g).1 = P1 at *
  generalize (chnR g).2 = P2 at *
  generalize countNoneR g = cn at *
  generalize decide (OfOk g 0) = B1 at *
  generalize decide (1 ≤ g ∧ g ≤ 12) = B2 at *
  repeat (first | (refine step_ops ?_; (refine m_mov (by conv => lhs; whnf) ?_)) | refine end_ops ?_ | refine seq_ops ?_)
  refine step_ops ?_; (apply m_call (s1)); (· repeat (first | exact lends_nil | (refine lends_cons ?_ ?_; (· exact lend_v))))
  repeat (first | (refine step_ops ?_; (first | (refine m_mov (by conv => lhs; whnf) ?_) | (refine m_ext rfl rfl ?_))) | refine end_ops ?_ | refine seq_ops ?_)
  refine step_ops ?_; (apply m_call (s2)); (· repeat (first | exact lends_nil | (refine lends_cons ?_ ?_; (· exact lend_v))))
  repeat (first | (refine step_ops ?_; (first | (refine m_mov (by conv => lhs; whnf) ?_) | (refine m_ext rfl rfl ?_))) | refine end_ops ?_ | refine seq_ops ?_)
  refine step_ops ?_; (apply m_call (s3)); (· repeat (first | exact lends_nil | (refine lends_cons ?_ ?_; (· exact lend_v))))
  repeat (first | (refine step_ops ?_; (first | (refine m_mov (by conv => lhs; whnf) ?_) | (refine m_ext rfl rfl ?_))) | refine end_ops ?_ | refine seq_ops ?_)
  refine step_ops ?_; (apply m_call (s4)); (· repeat (first | exact lends_nil | (refine lends_cons ?_ ?_; (· exact lend_v))))
  repeat (first | (refine step_ops ?_; (first | (refine m_mov (by conv => lhs; whnf) ?_) | (refine m_ext rfl rfl ?_))) | refine end_ops ?_ | refine seq_ops ?_)
  refine step_ops ?_; (apply m_call (s5)); (· repeat (first | exact lends_nil | (refine lends_cons ?_ ?_; (· exact lend_v))))
  repeat (first | (refine step_ops ?_; (first | (refine m_mov (by conv => lhs; whnf) ?_) | (refine m_ext rfl rfl ?_))) | refine end_ops ?_ | refine seq_ops ?_)
  refine step_ops ?_; (apply m_call (s6)); (· repeat (first | exact lends_nil | (refine lends_cons ?_ ?_; (· exact lend_v))))
  repeat (first | (refine step_ops ?_; (first | (refine m_mov (by conv => lhs; whnf) ?_) | (refine m_ext rfl rfl ?_))) | refine end_ops ?_ | refine seq_ops ?_)
  refine step_ops ?_
  refine m_draw (drawPair_spec hm hML) rfl ⟨(0, 0), trivial⟩ (fun m => ⟨rfl, rfl⟩) ?_
  rintro ⟨n, o⟩ _
  have s7 := implCountOwn_spec n o
  have s8 := specCountOwn_spec n o
  replace h4 := h4 n o
  generalize countOwnR n o = cw at *
  generalize decide (OwnOk n o) = B3 at *
  repeat (first | (refine step_ops ?_; (first | (refine m_mov (by conv => lhs; whnf) ?_) | (refine m_ext rfl rfl ?_))) | refine end_ops ?_ | refine seq_ops ?_)
  refine step_ops ?_; (apply m_call (s7)); (· repeat (first | exact lends_nil | (refine lends_cons ?_ ?_; (· exact lend_v))))
  repeat (first | (refine step_ops ?_; (first | (refine m_mov (by conv => lhs; whnf) ?_) | (refine m_ext rfl rfl ?_))) | refine end_ops ?_ | refine seq_ops ?_)
  refine step_ops ?_; (apply m_call (s8)); (· repeat (first | exact lends_nil | (refine lends_cons ?_ ?_; (· exact lend_v))))
  repeat (first | (refine step_ops ?_; (first | (refine m_mov (by conv => lhs; whnf) ?_) | (refine m_ext rfl rfl ?_))) | refine end_ops ?_ | refine seq_ops ?_)
  refine step_ops ?_
  refine m_draw (drawRank_spec hm hML) rfl ⟨(0, 0), trivial⟩ (fun m => ⟨rfl, rfl⟩) ?_
  rintro ⟨m, p⟩ _
  have s9 := implNoneOfRank_spec m p
  have s10 := specNoneOfRank_spec m p
  replace h4 := h4 m p
  generalize ofRes m p = R2 at *
  generalize decide (OfOk m p) = B4 at *
  repeat (first | (refine step_ops ?_; (first | (refine m_mov (by conv => lhs; whnf) ?_) | (refine m_ext rfl rfl ?_))) | refine end_ops ?_ | refine seq_ops ?_)
  refine step_ops ?_; (apply m_call (s9)); (· repeat (first | exact lends_nil | (refine lends_cons ?_ ?_; (· exact lend_v))))
  repeat (first | (refine step_ops ?_; (first | (refine m_mov (by conv => lhs; whnf) ?_) | (refine m_ext rfl rfl ?_))) | refine end_ops ?_ | refine seq_ops ?_)
  refine step_ops ?_; (apply m_call (s10)); (· repeat (first | exact lends_nil | (refine lends_cons ?_ ?_; (· exact lend_v))))
  repeat (first | (refine step_ops ?_; (first | (refine m_mov (by conv => lhs; whnf) ?_) | (refine m_ext rfl rfl ?_))) | refine end_ops ?_)
  refine AW_weak (weak_st ?_ ?_ rfl rfl) h4
  · (repeat' (first | exact trivial | refine And.intro ?_ ?_)) <;> (first | rfl | skip)
  · trivial
theorem nq2 (L : List Int) (hL : L.length ≤ 10000) {mv : Value} {ML : List UInt8} (hm : Bys mv ML) (hML : ML.length ≤ 1048576) : AW Try.prog (min Try.f3.ntmps pbase) nqB (st [(5, ints L), (6, newInts (nextRes L)), (7, .b (decide (NextOk L))), (10, .i (if RankOk L then befR L else 0)), (11, .b (decide (RankOk L))), (1, .v mv)] []) (Done [4].reverse (.b true)) := by
  have h4 := nq3 hm hML
  have hp : nqB = .seq (fstC nqB) nqC := rfl
  rw [hp]
  clear hp
  generalize nqC = c4 at *
  by_cases h : NextOk L
  · obtain ⟨a1, a2, a3, a4, a5⟩ := nr_next h
    have hc := implRankOfNone_spec (nextRes L) (by omega)
    unfold rankR at hc
    rw [if_pos a2, decide_eq_true a2, a3] at hc
    have hl := oLess_spec L (nextRes L) (by omega) (by omega)
    rw [decide_eq_true a4] at hl
    have ho := oOwn_spec (nextRes L) (by omega)
    have hz := ((rank_own _).1 a2).2
    have hr : RankOk L → nextRank L = befR L + 1 := fun hh => if_neg hh.2
    have hbl := befR_le L h.1
    have hb := implNoneOfRank_spec L.length (nextRank L - 1)
    have hf := oLess_spec L (ofRes L.length (nextRank L - 1)) (by omega) (by have := ofRes_le L.length (nextRank L - 1); omega)
    have hng := h.2.2
    rw [hz] at ho
    rw [decide_eq_true h]
    generalize nextRank L = at' at *
    generalize nextRes L = N at *
    generalize ofRes L.length (at' - 1) = F at *
    have hnl := noneN_le L.length (by have := h.1.2.1; omega)
    rw [Int.toNat_natCast] at hng
    have hk : AW Try.prog (min Try.f3.ntmps pbase) (.seq (fstC nqB) c4) (st [(5, ints L), (6, newInts N), (7, .b true), (10, .i (if RankOk L then befR L else 0)), (11, .b (decide (RankOk L))), (1, .v mv)] []) (Done [4].reverse (.b true)) := by
      by_cases h1 : RankOk L
      · have hr1 := hr h1
        rw [if_pos h1, decide_eq_true h1]
        by_cases hp : 0 < at'
        · obtain ⟨c1, c2⟩ := a5 hp
          rw [decide_eq_true c1] at hb
          rw [decide_eq_false c2] at hf
          unfold nqB
          unfold ac3
          simp only [sndN, sndC, fstC]
          repeat (first | (refine step_ops ?_; (refine m_mov (by conv => lhs; whnf) ?_)) | refine end_ops ?_ | refine seq_ops ?_ | (refine cond_t rfl ?_ ?_; (· first | rfl | assumption | (refine decide_eq_true ?_; first | assumption | omega) | (refine nt ?_; first | assumption | omega) | (simp [*]; done))) | refine AW_seq ?_)
          refine step_ops ?_; (apply m_call (hc)); (· repeat (first | exact lends_nil | (refine lends_cons ?_ ?_; (· (refine lend_ints ?_; first | rfl | omega)))))
          repeat (first | (refine step_ops ?_; (first | (refine m_mov (by conv => lhs; whnf) ?_) | (refine m_ext rfl rfl ?_))) | refine end_ops ?_ | refine seq_ops ?_ | refine AW_seq ?_)
          refine step_ops ?_; (apply m_call (hl)); (· repeat (first | exact lends_nil | (refine lends_cons ?_ ?_; (· (refine lend_ints ?_; first | rfl | omega)))))
          repeat (refine step_ops ?_; ((try (refine g_yes rfl ?_ ?_; (· first | rfl | assumption | (refine decide_eq_true ?_; first | assumption | omega) | (refine nt ?_; first | assumption | omega) | (simp [*]; done) | (refine decide_eq_false ?_; first | assumption | omega) | (refine nf ?_; first | assumption | omega)))); (first | (refine m_mov (by conv => lhs; whnf) ?_) | (refine m_neq rfl rfl ?_) | (refine m_not rfl ?_) | (refine m_len_ro rfl ?_) | (refine m_pick_f rfl ?_ (by conv => lhs; whnf) ?_; (· first | rfl | assumption | (refine decide_eq_false ?_; first | assumption | omega) | (refine nf ?_; first | assumption | omega) | (simp [*]; done))))))
          refine step_ops ?_; (refine g_yes rfl ?_ ?_; (· first | (first | rfl | assumption | (refine decide_eq_true ?_; first | assumption | omega) | (refine nt ?_; first | assumption | omega) | (simp [*]; done)) | (first | rfl | assumption | (refine decide_eq_false ?_; first | assumption | omega) | (refine nf ?_; first | assumption | omega) | (simp [*]; done))); (apply m_call (ho))); (· repeat (first | exact lends_nil | (refine lends_cons ?_ ?_; (· (refine lend_ints ?_; first | rfl | omega)))))
          repeat (first | (refine step_ops ?_; ((try (refine g_yes rfl ?_ ?_; (· first | rfl | assumption | (refine decide_eq_true ?_; first | assumption | omega) | (refine nt ?_; first | assumption | omega) | (simp [*]; done) | (refine decide_eq_false ?_; first | assumption | omega) | (refine nf ?_; first | assumption | omega)))); (first | (refine m_mov (by conv => lhs; whnf) ?_) | (refine m_gtr rfl rfl ?_) | (refine m_neq rfl rfl ?_) | (refine m_add rfl rfl ?_ ?_ ?_; (· omega); (· omega)) | (refine m_sub rfl rfl ?_ ?_ ?_; (· omega); (· omega)) | (refine m_not rfl ?_) | (refine m_len_ro rfl ?_) | (refine m_pick_t rfl ?_ (by conv => lhs; whnf) ?_; (· first | rfl | assumption | (refine decide_eq_true ?_; first | assumption | omega) | (refine nt ?_; first | assumption | omega) | (simp [*]; done))) | (refine m_pick_f rfl ?_ (by conv => lhs; whnf) ?_; (· first | rfl | assumption | (refine decide_eq_false ?_; first | assumption | omega) | (refine nf ?_; first | assumption | omega) | (simp [*]; done)))))) | refine end_ops ?_ | refine seq_ops ?_ | (refine cond_t rfl ?_ ?_; (· first | rfl | assumption | (refine decide_eq_true ?_; first | assumption | omega) | (refine nt ?_; first | assumption | omega) | (simp [*]; done))) | (refine cond_f rfl ?_ ?_; (· first | rfl | assumption | (refine decide_eq_false ?_; first | assumption | omega) | (refine nf ?_; first | assumption | omega) | (simp [*]; done))) | refine skip_then ?_)
          refine step_ops ?_; (apply m_call (hb)); (· repeat (first | exact lends_nil | (refine lends_cons ?_ ?_; (· exact lend_v))))
          repeat (first | (refine step_ops ?_; ((try (refine g_yes rfl ?_ ?_; (· first | rfl | assumption | (refine decide_eq_true ?_; first | assumption | omega) | (refine nt ?_; first | assumption | omega) | (simp [*]; done) | (refine decide_eq_false ?_; first | assumption | omega) | (refine nf ?_; first | assumption | omega)))); (first | (refine m_mov (by conv => lhs; whnf) ?_) | (refine m_not rfl ?_) | (refine m_ext rfl rfl ?_)))) | refine end_ops ?_ | refine seq_ops ?_)
          refine step_ops ?_; (refine g_yes rfl ?_ ?_; (· first | (first | rfl | assumption | (refine decide_eq_true ?_; first | assumption | omega) | (refine nt ?_; first | assumption | omega) | (simp [*]; done)) | (first | rfl | assumption | (refine decide_eq_false ?_; first | assumption | omega) | (refine nf ?_; first | assumption | omega) | (simp [*]; done))); (apply m_call (hf))); (· repeat (first | exact lends_nil | (refine lends_cons ?_ ?_; (· (refine lend_ints ?_; first | rfl | omega)))))
          repeat (first | (refine step_ops ?_; (refine m_pick_f rfl ?_ (by conv => lhs; whnf) ?_; (· first | rfl | assumption | (refine decide_eq_false ?_; first | assumption | omega) | (refine nf ?_; first | assumption | omega) | (simp [*]; done)))) | refine end_ops ?_ | (refine cond_f rfl ?_ ?_; (· first | rfl | assumption | (refine decide_eq_false ?_; first | assumption | omega) | (refine nf ?_; first | assumption | omega) | (simp [*]; done))) | refine skip_then ?_)
          refine AW_weak (weak_st ?_ ?_ rfl rfl) h4
          · (repeat' (first | exact trivial | refine And.intro ?_ ?_)) <;> (first | rfl | skip)
          · trivial
        · exact absurd (show 0 < at' by omega) hp
      · rw [if_neg h1, decide_eq_false h1]
        by_cases hp : 0 < at'
        · obtain ⟨c1, c2⟩ := a5 hp
          rw [decide_eq_true c1] at hb
          rw [decide_eq_false c2] at hf
          unfold nqB
          unfold ac3
          simp only [sndN, sndC, fstC]
          repeat (first | (refine step_ops ?_; (refine m_mov (by conv => lhs; whnf) ?_)) | refine end_ops ?_ | refine seq_ops ?_ | (refine cond_t rfl ?_ ?_; (· first | rfl | assumption | (refine decide_eq_true ?_; first | assumption | omega) | (refine nt ?_; first | assumption | omega) | (simp [*]; done))) | refine AW_seq ?_)
          refine step_ops ?_; (apply m_call (hc)); (· repeat (first | exact lends_nil | (refine lends_cons ?_ ?_; (· (refine lend_ints ?_; first | rfl | omega)))))
          repeat (first | (refine step_ops ?_; (first | (refine m_mov (by conv => lhs; whnf) ?_) | (refine m_ext rfl rfl ?_))) | refine end_ops ?_ | refine seq_ops ?_ | refine AW_seq ?_)
          refine step_ops ?_; (apply m_call (hl)); (· repeat (first | exact lends_nil | (refine lends_cons ?_ ?_; (· (refine lend_ints ?_; first | rfl | omega)))))
          repeat (refine step_ops ?_; ((try (refine g_yes rfl ?_ ?_; (· first | rfl | assumption | (refine decide_eq_true ?_; first | assumption | omega) | (refine nt ?_; first | assumption | omega) | (simp [*]; done) | (refine decide_eq_false ?_; first | assumption | omega) | (refine nf ?_; first | assumption | omega)))); (first | (refine m_mov (by conv => lhs; whnf) ?_) | (refine m_neq rfl rfl ?_) | (refine m_not rfl ?_) | (refine m_len_ro rfl ?_) | (refine m_pick_f rfl ?_ (by conv => lhs; whnf) ?_; (· first | rfl | assumption | (refine decide_eq_false ?_; first | assumption | omega) | (refine nf ?_; first | assumption | omega) | (simp [*]; done))))))
          refine step_ops ?_; (refine g_yes rfl ?_ ?_; (· first | (first | rfl | assumption | (refine decide_eq_true ?_; first | assumption | omega) | (refine nt ?_; first | assumption | omega) | (simp [*]; done)) | (first | rfl | assumption | (refine decide_eq_false ?_; first | assumption | omega) | (refine nf ?_; first | assumption | omega) | (simp [*]; done))); (apply m_call (ho))); (· repeat (first | exact lends_nil | (refine lends_cons ?_ ?_; (· (refine lend_ints ?_; first | rfl | omega)))))
          repeat (first | (refine step_ops ?_; (first | ((try (refine g_yes rfl ?_ ?_; (· first | rfl | assumption | (refine decide_eq_true ?_; first | assumption | omega) | (refine nt ?_; first | assumption | omega) | (simp [*]; done) | (refine decide_eq_false ?_; first | assumption | omega) | (refine nf ?_; first | assumption | omega)))); (first | (refine m_mov (by conv => lhs; whnf) ?_) | (refine m_gtr rfl rfl ?_) | (refine m_neq rfl rfl ?_) | (refine m_sub rfl rfl ?_ ?_ ?_; (· omega); (· omega)) | (refine m_not rfl ?_) | (refine m_len_ro rfl ?_) | (refine m_pick_f rfl ?_ (by conv => lhs; whnf) ?_; (· first | rfl | assumption | (refine decide_eq_false ?_; first | assumption | omega) | (refine nf ?_; first | assumption | omega) | (simp [*]; done))))) | (refine g_noT rfl ?_ ?_; (· first | rfl | assumption | (refine decide_eq_false ?_; first | assumption | omega) | (refine nf ?_; first | assumption | omega) | (simp [*]; done))))) | refine end_ops ?_ | refine seq_ops ?_ | (refine cond_t rfl ?_ ?_; (· first | rfl | assumption | (refine decide_eq_true ?_; first | assumption | omega) | (refine nt ?_; first | assumption | omega) | (simp [*]; done))) | (refine cond_f rfl ?_ ?_; (· first | rfl | assumption | (refine decide_eq_false ?_; first | assumption | omega) | (refine nf ?_; first | assumption | omega) | (simp [*]; done))) | refine skip_then ?_)
          refine step_ops ?_; (apply m_call (hb)); (· repeat (first | exact lends_nil | (refine lends_cons ?_ ?_; (· exact lend_v))))
          repeat (first | (refine step_ops ?_; ((try (refine g_yes rfl ?_ ?_; (· first | rfl | assumption | (refine decide_eq_true ?_; first | assumption | omega) | (refine nt ?_; first | assumption | omega) | (simp [*]; done) | (refine decide_eq_false ?_; first | assumption | omega) | (refine nf ?_; first | assumption | omega)))); (first | (refine m_mov (by conv => lhs; whnf) ?_) | (refine m_not rfl ?_) | (refine m_ext rfl rfl ?_)))) | refine end_ops ?_ | refine seq_ops ?_)
          refine step_ops ?_; (refine g_yes rfl ?_ ?_; (· first | (first | rfl | assumption | (refine decide_eq_true ?_; first | assumption | omega) | (refine nt ?_; first | assumption | omega) | (simp [*]; done)) | (first | rfl | assumption | (refine decide_eq_false ?_; first | assumption | omega) | (refine nf ?_; first | assumption | omega) | (simp [*]; done))); (apply m_call (hf))); (· repeat (first | exact lends_nil | (refine lends_cons ?_ ?_; (· (refine lend_ints ?_; first | rfl | omega)))))
          repeat (first | (refine step_ops ?_; (refine m_pick_f rfl ?_ (by conv => lhs; whnf) ?_; (· first | rfl | assumption | (refine decide_eq_false ?_; first | assumption | omega) | (refine nf ?_; first | assumption | omega) | (simp [*]; done)))) | refine end_ops ?_ | (refine cond_f rfl ?_ ?_; (· first | rfl | assumption | (refine decide_eq_false ?_; first | assumption | omega) | (refine nf ?_; first | assumption | omega) | (simp [*]; done))) | refine skip_then ?_)
          refine AW_weak (weak_st ?_ ?_ rfl rfl) h4
          · (repeat' (first | exact trivial | refine And.intro ?_ ?_)) <;> (first | rfl | skip)
          · trivial
        · unfold nqB
          unfold ac3
          simp only [sndN, sndC, fstC]
          repeat (first | (refine step_ops ?_; (refine m_mov (by conv => lhs; whnf) ?_)) | refine end_ops ?_ | refine seq_ops ?_ | (refine cond_t rfl ?_ ?_; (· first | rfl | assumption | (refine decide_eq_true ?_; first | assumption | omega) | (refine nt ?_; first | assumption | omega) | (simp [*]; done))) | refine AW_seq ?_)
          refine step_ops ?_; (apply m_call (hc)); (· repeat (first | exact lends_nil | (refine lends_cons ?_ ?_; (· (refine lend_ints ?_; first | rfl | omega)))))
          repeat (first | (refine step_ops ?_; (first | (refine m_mov (by conv => lhs; whnf) ?_) | (refine m_ext rfl rfl ?_))) | refine end_ops ?_ | refine seq_ops ?_ | refine AW_seq ?_)
          refine step_ops ?_; (apply m_call (hl)); (· repeat (first | exact lends_nil | (refine lends_cons ?_ ?_; (· (refine lend_ints ?_; first | rfl | omega)))))
          repeat (refine step_ops ?_; ((try (refine g_yes rfl ?_ ?_; (· first | rfl | assumption | (refine decide_eq_true ?_; first | assumption | omega) | (refine nt ?_; first | assumption | omega) | (simp [*]; done) | (refine decide_eq_false ?_; first | assumption | omega) | (refine nf ?_; first | assumption | omega)))); (first | (refine m_mov (by conv => lhs; whnf) ?_) | (refine m_neq rfl rfl ?_) | (refine m_not rfl ?_) | (refine m_len_ro rfl ?_) | (refine m_pick_f rfl ?_ (by conv => lhs; whnf) ?_; (· first | rfl | assumption | (refine decide_eq_false ?_; first | assumption | omega) | (refine nf ?_; first | assumption | omega) | (simp [*]; done))))))
          refine step_ops ?_; (refine g_yes rfl ?_ ?_; (· first | (first | rfl | assumption | (refine decide_eq_true ?_; first | assumption | omega) | (refine nt ?_; first | assumption | omega) | (simp [*]; done)) | (first | rfl | assumption | (refine decide_eq_false ?_; first | assumption | omega) | (refine nf ?_; first | assumption | omega) | (simp [*]; done))); (apply m_call (ho))); (· repeat (first | exact lends_nil | (refine lends_cons ?_ ?_; (· (refine lend_ints ?_; first | rfl | omega)))))
          repeat (first | (refine step_ops ?_; (first | ((try (refine g_yes rfl ?_ ?_; (· first | rfl | assumption | (refine decide_eq_true ?_; first | assumption | omega) | (refine nt ?_; first | assumption | omega) | (simp [*]; done) | (refine decide_eq_false ?_; first | assumption | omega) | (refine nf ?_; first | assumption | omega)))); (first | (refine m_mov (by conv => lhs; whnf) ?_) | (refine m_gtr rfl rfl ?_) | (refine m_neq rfl rfl ?_) | (refine m_not rfl ?_) | (refine m_pick_f rfl ?_ (by conv => lhs; whnf) ?_; (· first | rfl | assumption | (refine decide_eq_false ?_; first | assumption | omega) | (refine nf ?_; first | assumption | omega) | (simp [*]; done))))) | (refine g_noT rfl ?_ ?_; (· first | rfl | assumption | (refine decide_eq_false ?_; first | assumption | omega) | (refine nf ?_; first | assumption | omega) | (simp [*]; done))))) | refine end_ops ?_ | refine seq_ops ?_ | (refine cond_f rfl ?_ ?_; (· first | rfl | assumption | (refine decide_eq_false ?_; first | assumption | omega) | (refine nf ?_; first | assumption | omega) | (simp [*]; done))) | refine skip_then ?_)
          refine AW_weak (weak_st ?_ ?_ rfl rfl) h4
          · (repeat' (first | exact trivial | refine And.intro ?_ ?_)) <;> (first | rfl | skip)
          · trivial
    exact hk
  · rw [decide_eq_false h]
    unfold nqB
    unfold ac3
    simp only [sndN, sndC, fstC]
    repeat (first | (refine step_ops ?_; (refine m_mov (by conv => lhs; whnf) ?_)) | refine end_ops ?_ | refine seq_ops ?_ | (refine cond_f rfl ?_ ?_; (· first | rfl | assumption | (refine decide_eq_false ?_; first | assumption | omega) | (refine nf ?_; first | assumption | omega) | (simp [*]; done))) | refine skip_then ?_ | refine AW_seq ?_)
    refine AW_weak (weak_st ?_ ?_ rfl rfl) h4
    · (repeat' (first | exact trivial | refine And.intro ?_ ?_)) <;> (first | rfl | skip)
    · trivial
theorem nq1 (L : List Int) (hL : L.length ≤ 10000) {mv : Value} {ML : List UInt8} (hm : Bys mv ML) (hML : ML.length ≤ 1048576) : AW Try.prog (min Try.f3.ntmps pbase) nqA (st [(5, ints L), (6, newInts (nextRes L)), (7, .b (decide (NextOk L))), (10, .i (if RankOk L then befR L else 0)), (11, .b (decide (RankOk L))), (1, .v mv)] []) (Done [4].reverse (.b true)) := by
  have h4 := nq2 L hL hm hML
  have hp : nqA = .seq (fstC nqA) nqB := rfl
  rw [hp]
  clear hp
  generalize nqB = c4 at *
  by_cases h : RankOk L
  · obtain ⟨a1, a2, a3, a4, a5⟩ := nr_rank h
    have hb := implNoneOfRank_spec L.length (befR L)
    rw [a2, decide_eq_true a1] at hb
    have hc := implCountNone_spec L.length
    rw [a3, decide_eq_true a1.1] at hc
    have hs := oSame_self L (by omega)
    have hx : (true ^^ (decide (NextOk L) == decide (befR L + 1 < noneN L.length))) = false := by
      rw [decide_eq_decide.2 a5]; exact xor_self _
    have hnl := noneN_le L.length (by have := h.1.2.1; omega)
    have hb0 := a1.2.1
    rw [if_pos h, decide_eq_true h] at *
    generalize decide (NextOk L) = B1 at *
    generalize noneN L.length = all at *
    generalize befR L = r at *
    generalize nextRes L = N at *
    unfold nqA
    unfold ac3
    simp only [sndN, sndC, fstC]
    repeat (first | (refine step_ops ?_; (first | (refine m_mov (by conv => lhs; whnf) ?_) | (refine m_len_ro rfl ?_))) | refine end_ops ?_ | refine seq_ops ?_ | (refine cond_t rfl ?_ ?_; (· first | rfl | assumption | (refine decide_eq_true ?_; first | assumption | omega) | (refine nt ?_; first | assumption | omega) | (simp [*]; done))) | refine AW_seq ?_)
    refine step_ops ?_; (apply m_call (hb)); (· repeat (first | exact lends_nil | (refine lends_cons ?_ ?_; (· exact lend_v))))
    repeat (first | (refine step_ops ?_; (first | (refine m_mov (by conv => lhs; whnf) ?_) | (refine m_len_ro rfl ?_) | (refine m_ext rfl rfl ?_))) | refine end_ops ?_ | refine seq_ops ?_)
    refine step_ops ?_; (apply m_call (hc)); (· repeat (first | exact lends_nil | (refine lends_cons ?_ ?_; (· exact lend_v))))
    repeat (first | (refine step_ops ?_; ((try (refine g_yes rfl ?_ ?_; (· first | rfl | assumption | (refine decide_eq_true ?_; first | assumption | omega) | (refine nt ?_; first | assumption | omega) | (simp [*]; done) | (refine decide_eq_false ?_; first | assumption | omega) | (refine nf ?_; first | assumption | omega)))); (first | (refine m_mov (by conv => lhs; whnf) ?_) | (refine m_not rfl ?_) | (refine m_ext rfl rfl ?_)))) | refine end_ops ?_ | refine seq_ops ?_)
    refine step_ops ?_; (refine g_yes rfl ?_ ?_; (· first | (first | rfl | assumption | (refine decide_eq_true ?_; first | assumption | omega) | (refine nt ?_; first | assumption | omega) | (simp [*]; done)) | (first | rfl | assumption | (refine decide_eq_false ?_; first | assumption | omega) | (refine nf ?_; first | assumption | omega) | (simp [*]; done))); (apply m_call (hs))); (· repeat (first | exact lends_nil | (refine lends_cons ?_ ?_; (· (refine lend_ints ?_; first | rfl | omega)))))
    repeat (first | (refine step_ops ?_; ((try (refine g_yes rfl ?_ ?_; (· first | rfl | assumption | (refine decide_eq_true ?_; first | assumption | omega) | (refine nt ?_; first | assumption | omega) | (simp [*]; done) | (refine decide_eq_false ?_; first | assumption | omega) | (refine nf ?_; first | assumption | omega)))); (first | (refine m_mov (by conv => lhs; whnf) ?_) | (refine m_lss rfl rfl ?_) | (refine m_geq rfl rfl ?_) | (refine m_add rfl rfl ?_ ?_ ?_; (· omega); (· omega)) | (refine m_not rfl ?_) | (refine m_beq rfl rfl ?_) | (refine m_pick_f rfl ?_ (by conv => lhs; whnf) ?_; (· first | rfl | assumption | (refine decide_eq_false ?_; first | assumption | omega) | (refine nf ?_; first | assumption | omega) | (simp [*]; done)))))) | refine end_ops ?_ | (refine cond_f rfl ?_ ?_; (· first | rfl | assumption | (refine decide_eq_false ?_; first | assumption | omega) | (refine nf ?_; first | assumption | omega) | (simp [*]; done))) | refine skip_then ?_)
    refine AW_weak (weak_st ?_ ?_ rfl rfl) h4
    · (repeat' (first | exact trivial | refine And.intro ?_ ?_)) <;> (first | rfl | skip)
    · trivial
  · rw [if_neg h, decide_eq_false h] at *
    generalize decide (NextOk L) = B1 at *
    generalize nextRes L = N at *
    unfold nqA
    unfold ac3
    simp only [sndN, sndC, fstC]
    repeat (first | (refine step_ops ?_; (refine m_mov (by conv => lhs; whnf) ?_)) | refine end_ops ?_ | refine seq_ops ?_ | (refine cond_f rfl ?_ ?_; (· first | rfl | assumption | (refine decide_eq_false ?_; first | assumption | omega) | (refine nf ?_; first | assumption | omega) | (simp [*]; done))) | refine skip_then ?_ | refine AW_seq ?_)
    refine AW_weak (weak_st ?_ ?_ rfl rfl) h4
    · (repeat' (first | exact trivial | refine And.intro ?_ ?_)) <;> (first | rfl | skip)
    · trivial
end Go.Proofs.Ytgjlaajkakecpaa
namespace Go.Am
variable [Go.Am.CodeBlk]
open Go.ChangeShapes Go.WideShapes Go.ChangeAt Go.RowKit Go.ChangeMaps
variable {P : Program} {H : Type} {enc : TypeId × Value → H}
theorem and_mk {a b : Bool} (h : a = true) (k : b = true) : (a && b) = true := by rw [h, k]; rfl
theorem More.below {w w' : World} (h : More w w') : Below w.heap.size w w' := ⟨h.os, h.tape, h.output, h.size, h.block⟩
theorem trodAll_stays (hl : laidOutB P = true) {W W' : World} (hb : Below W.heap.size W W') (sp : Nat → Bool) : ∀ {ts : List TypeId} {vs : List Value} {ds : List (DataW H)} {ps : List MemPlace},
    (∀ t ∈ ts, P.readableRec t = true ∧ t < P.types.size) → DataW.TrodAll enc P W 0 (fun _ => true) true ts vs ds ps → (∀ p ∈ ps, p.block < W.heap.size) → (∀ p ∈ ps, sp p.block = true) →
    DataW.TrodAll enc P W' 0 sp true ts vs ds ps
  | [], vs, ds, ps, _, h, _, _ => by
    obtain ⟨rfl, rfl, rfl⟩ := trodAll_nil h
    exact trodAll_mk0
  | t :: ts, vs, ds, ps, hr, h, hlt, hsp => by
    obtain ⟨v, vs', d, ds', p, q, rfl, rfl, rfl, h1, h2⟩ := trodAll_cons h
    refine ⟨p, q, ?_, trodAll_stays hl hb sp (fun t ht => hr t (List.mem_cons_of_mem _ ht)) h2 (fun x hx => hlt x (List.mem_append_right _ hx)) (fun x hx => hsp x (List.mem_append_right _ hx)), rfl⟩
    obtain ⟨h3, h4⟩ := hr t (List.mem_cons_self ..)
    exact WideElems.Trod_stays hl h3 h4 h1 (fun x hx => hb.same (hlt x (List.mem_append_left _ hx))) (fun x hx => hsp x (List.mem_append_left _ hx))
/-- What the row's last words ask of a law that says true. -/
theorem law_post (hl : laidOutB P = true) {f : Func} {s : ChangeSpec} {fresh handsOn again : Bool} {W W' : World} {args : Array Value} {ds gs : List (DataW H)} {before : List MemPlace} {bt : TypeId}
    (hW : DataW.Whole enc P f.params.toList s.vars false W args.toList ds gs before) (hvars : s.vars = []) (hfn : s.fn H (ds ++ gs) = { results := [.lit (.bool true)], args := ds })
    (hres : f.resultTypes = #[bt]) (hbt : P.underlying bt = some .bool) (hread : ∀ t ∈ f.params.toList, P.readableRec t = true ∧ t < P.types.size) (hm : More W W') :
    s.post enc P f false fresh handsOn again W args (.bool true) W' := by
  have hb := hm.below
  have hlt : ∀ p ∈ before, p.block < W.heap.size := fun p hp => hW.lt p hp
  obtain ⟨p, q, hA, hV, hpq, hz, hn⟩ := hW
  rw [hvars] at hV
  obtain ⟨rfl, rfl⟩ := trodVars_none hV
  rw [List.append_nil] at hpq
  subst hpq
  have hargs : ∀ sp : Nat → Bool, (∀ x ∈ before, sp x.block = true) → DataW.TrodAll enc P W' 0 sp true f.params.toList args.toList ds before := fun sp hsp => trodAll_stays hl hb sp hread hA hlt hsp
  have hresT : ∀ (b : Nat) (sp : Nat → Bool) (hd : Bool), DataW.TrodAll enc P W' b sp hd f.resultTypes.toList ((Value.bool true).resultList f.resultTypes.size) [.lit (.bool true)] [] := by
    intro b sp hd
    rw [hres]
    exact trodAll_mk1 (shut_bool hbt true)
  have hvarsT : ∀ sp : Nat → Bool, DataW.TrodVars enc P W' sp s.vars (s.fn H (ds ++ [])).vars [] := by
    intro sp
    rw [hvars, hfn]
    rfl
  have hfull : DataW.Whole enc P f.params.toList s.vars false W args.toList ds [] before := ⟨before, [], hA, by rw [hvars]; rfl, by simp, hz, by simp⟩
  refine ⟨ds, [], before, [], before, [], hfull, by rw [hfn]; exact hresT _ _ _, by rw [hfn]; exact hargs _ (fun x hx => by simpa using hlt x hx), hvarsT _, World.keptBut_mono (fun x hx => ⟨hx, .inr (.inl hx)⟩) (hb.frame (· ∈ before)), fun _ => ?_⟩
  refine ⟨ok_one hres rfl (okWide_bool_mk hbt true), _, _, ([] ++ before) ++ [], ⟨[] ++ before, [], trodAll_append (hargs _ (fun _ _ => rfl)) (hresT _ _ _), hvarsT _, rfl, ?_, by simp⟩, ?_⟩
  · intro b off hp
    have hin : MemPlace.cell b off ∈ before := by simpa using hp
    rw [hb.frozen (hlt _ hin)]
    exact hz b off hin
  · intro x hx _
    simpa using hx
abbrev Outer (w : World) : Ctx := { heap := w.heap, ro := fun b => b < w.heap.size, base := w.heap.size, phi := fun _ => none, live := fun _ => false, loc := false }
/-- A law says true. -/
theorem law_calls {f : FuncId} {asx : List AV} {W : World} {args : Array Value} (hs : Sp P f asx (.b true)) (he : SimL asx (Outer W) args.toList) (hlen : args.size = asx.length) (hg : GoodW W := by exact goodW_none rfl) :
    Calls P f args W fun e W' => e = .returned (.bool true) ∧ More W W' := by
  refine (hs W args hg ⟨he, by simpa using hlen⟩).mono fun e W' ⟨v, h1, h2, h3⟩ => ?_
  simp only [SimV] at h3
  subst h3
  exact ⟨h1, h2⟩
end Go.Am
namespace Go.Am
open Go.ChangeShapes Go.WideShapes Go.ChangeAt Go.RowKit Go.ChangeMaps
variable {P : Program} {H : Type} {enc : TypeId × Value → H}
theorem arg_bytes {W : World} {t e : TypeId} {v : Value} {d : DataW H} {ps : List MemPlace} (ht : P.underlying t = some (.slice e)) (he : P.underlying e = some (.int .u8)) (hc : P.cellsOf e = 1)
    (hval : Value.okWide P W .any 0 t v) (h : DataW.Trod enc P W 0 (fun _ => true) true t v d ps) : ∃ L : List UInt8, SimV (.ro false 1 (byteVs L) L.length) (Outer W) v ∧ L.length ≤ maxLen := by
  haveI : CodeBlk := ⟨[]⟩
  obtain ⟨a0, len0, cap0, rfl⟩ := okWide_slice ht hval
  obtain ⟨fuel, hf⟩ := h
  rcases open_ints ht he hc hf with ⟨hcs, _⟩ | ⟨a, len, cap, zs, hcs, _, hl, hm, hz, hx, hcell, hwz⟩
  · simp [Value.cells] at hcs
    obtain ⟨rfl, rfl, rfl⟩ := hcs
    refine ⟨[], ?_, by simp⟩
    simp only [SimV]
    exact .inl ⟨rfl, rfl, none, 0, rfl, by simp⟩
  · simp [Value.cells] at hcs
    obtain ⟨rfl, rfl, rfl⟩ := hcs
    simp only [if_true] at hz
    have hlz : len0 ≤ zs.length := by omega
    refine ⟨(zs.take len0).map fun x => UInt8.ofNat x.toNat, ?_, by simp; omega⟩
    have hlen : ((zs.take len0).map fun x => UInt8.ofNat x.toNat).length = len0 := by simp; omega
    simp only [SimV]
    by_cases h0 : len0 = 0
    · subst h0
      exact .inl ⟨rfl, rfl, _, cap0, rfl, by simp⟩
    · have hc0 := hcell 0 (by omega)
      have hspot : a.spot = none ∧ ∃ cur e f, W.heap[a.block]? = some (.cells cur e f) := by
        unfold World.cell? at hc0
        rw [show a.add 0 = a from rfl] at hc0
        split at hc0
        · rename_i c e' f hb
          split at hc0
          · cases hc0
          · rename_i hs
            exact ⟨by simpa using hs, c, e', f, hb⟩
        · cases hc0
      obtain ⟨hs, cur, e', f, hb⟩ := hspot
      obtain ⟨b, o, sp⟩ := a
      simp only at hs hb
      subst hs
      refine .inr ⟨b, o, cap0, cur, e', f, by rw [hlen], hb, lt_of_get hb, by simp [byteVs], by rw [hlen]; exact hl, by simp, ?_⟩
      refine SimL.of_get fun i x hi => ?_
      unfold byteVs at hi
      rw [List.map_map, List.getElem?_map, Option.map_eq_some_iff] at hi
      obtain ⟨n, hn, rfl⟩ := hi
      rw [List.getElem?_take] at hn
      split at hn
      · rename_i hi0
        have hci := hcell i (by omega)
        rw [addr_add, cell_of_row W b (o + i) cur e' f hb] at hci
        refine ⟨_, by rw [List.getElem?_drop, Array.getElem?_toList]; exact hci, ?_⟩
        have hw := hwz n (List.mem_of_getElem? hn)
        simp [Lit.wf, IntKind.min, IntKind.max, IntKind.signed, IntKind.bits] at hw
        have hu : (((UInt8.ofNat n.toNat).toNat : Nat) : Int) = n := by
          have h1 : (UInt8.ofNat n.toNat).toNat = n.toNat % 256 := by simp
          rw [h1]; omega
        show SimV (.v (.int .u8 ((UInt8.ofNat n.toNat).toNat : Nat))) _ _
        simp only [SimV]
        rw [hu]
        congr 1
        rw [List.getD_eq_getElem?_getD, hn]
        rfl
      · cases hn
/-- The blocks that two lists of bytes lie in, asx they stand. -/
theorem bytes_inst {W : World} {v0 v1 : Value} {L0 L1 : List UInt8} (h0 : SimV (.ro false 1 (byteVs L0) L0.length) (Outer W) v0) (h1 : SimV (.ro false 1 (byteVs L1) L1.length) (Outer W) v1) :
    ∃ I : CodeBlk, @GoodW I W ∧ @Bys I v0 L0 ∧ @Bys I v1 L1 := by
  have one : ∀ {v : Value} {L : List UInt8}, SimV (.ro false 1 (byteVs L) L.length) (Outer W) v → ∃ B : List (Nat × Array Value), (∀ p ∈ B, ∃ e fz, W.heap[p.1]? = some (.cells p.2 e fz)) ∧ ∀ I : CodeBlk, (∀ p ∈ B, p ∈ I.blks) → @Bys I v L := by
    intro v L h
    simp only [SimV] at h
    rcases h with ⟨h2, h3, a, c, rfl, _⟩ | ⟨b, o, cap, cur, e, fz, rfl, h2, h3, h4, h5, _, h6⟩
    · have hL : L = [] := List.eq_nil_of_length_eq_zero h2
      subst hL
      exact ⟨[], by simp, fun I _ => .inl ⟨rfl, a, c, rfl⟩⟩
    · refine ⟨[(b, cur)], fun p hp => ?_, fun I hI => .inr ⟨b, o, cap, cur, rfl, hI _ (List.mem_singleton.2 rfl), h5, fun C => ?_⟩⟩
      · rw [List.mem_singleton] at hp
        subst hp
        exact ⟨e, fz, h2⟩
      · refine simL_allv ?_ h6
        rw [List.all_eq_true]
        intro x hx
        obtain ⟨y, _, rfl⟩ := List.mem_map.1 hx
        rfl
  obtain ⟨B0, g0, k0⟩ := one h0
  obtain ⟨B1, g1, k1⟩ := one h1
  refine ⟨⟨B0 ++ B1⟩, ?_, k0 ⟨B0 ++ B1⟩ fun p hp => List.mem_append_left _ hp, k1 ⟨B0 ++ B1⟩ fun p hp => List.mem_append_right _ hp⟩
  have hall : ∀ p ∈ B0 ++ B1, ∃ e fz, W.heap[p.1]? = some (.cells p.2 e fz) := fun p hp => (List.mem_append.1 hp).elim (g0 p) (g1 p)
  intro b hb
  obtain ⟨p, hp, rfl⟩ := List.mem_map.1 hb
  obtain ⟨e, fz, h⟩ := hall p hp
  refine ⟨p.2, e, fz, h, fun q hq hqp => ?_⟩
  obtain ⟨e2, fz2, h2⟩ := hall q hq
  rw [hqp, h] at h2
  injection h2 with h2
  injection h2 with h3
  exact h3.symm
end Go.Am
namespace Go.Proofs.Ytgjlaajkakecpaa
open Go.ChangeShapes Go.WideShapes Go.ChangeAt Go.RowKit
theorem factMayEnter : Try.checked.prog.mayEnter = true := by kernel_rfl
end Go.Proofs.Ytgjlaajkakecpaa
namespace Go.Proofs.Ytgjlaajkakecpaa
open Go.ChangeShapes Go.WideShapes Go.ChangeAt Go.RowKit
theorem factLifts : Try.checked.prog.liftsFinal = false := by kernel_rfl
end Go.Proofs.Ytgjlaajkakecpaa
namespace Go.Proofs.Ytgjlaajkakecpaa
open Go.ChangeShapes Go.WideShapes Go.ChangeAt Go.RowKit
theorem factMake : Try.checked.prog.make = some (OpenClaim.make { program := "", sum := "", func := "", spec := "" }) := by kernel_rfl
end Go.Proofs.Ytgjlaajkakecpaa
