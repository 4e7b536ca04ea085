/- The block of all numbers of displaced guests, for the law FnSeatsChanced. -/
import Derived.Test.YtamgcjdmcmbffaaZs6
import Derived.Test.YtamgcjdmcmbffaaMaSh
set_option linter.unusedSectionVars false
namespace Go.Proofs.Ytamgcjdmcmbffaa
variable [Go.Am.CodeBlk]
open Go.Am
attribute [local irreducible] AW Outs Weak Lends Lend Sp aops atree aop1 Then Round InBlock Done
attribute [local irreducible] SpM DoneM SpH DoneH
def sgBlock : ACode := fstC (sndC (sndC (sndC (sndC (sndC (sndC (sndC (sndC ac3))))))))
set_option maxRecDepth 16000 in
set_option maxHeartbeats 4000000 in
theorem sgAllK (mv : Value) (G K X : Nat) (n0 W : Nat → Nat) (f : Nat → Nat × Nat) (M : Nat × Nat) (w : Nat) (F : SgE G K n0 W f M w) (hX : X ≤ G) (Q : Exit → AS → Prop)
    (hQ : ∀ s', Weak s' (st [(1, .v mv)] []) → Q .normal s') :
    AW Try.prog (min Try.f3.ntmps pbase) (cndC (sndC sgBlock)) (st [(5, .i G), (6, .i K), (7, .i X), (1, .v mv), (8, .i (((f X).1 : Nat) : Int)), (9, .i (((f X).2 : Nat) : Int)), (14, .i ((n0 X : Nat) : Int))] []) Q := by
  have g1 := F.g1
  have g7 := F.g7
  have k7 := F.k7
  have w1 := F.w1
  have hb := F.bd X
  have hp := F.pos X
  have hv := F.val X
  have hWX : W X ≤ w := by
    have := sumTo_get (f := W) (show X < G + 1 by omega)
    rw [F.sW] at this
    exact this
  have hxor : (true ^^ (decide ((((f X).1 : Nat) : Int) > 0) == decide (((n0 X : Nat) : Int) > 0))) = false := by
    by_cases h : n0 X = 0
    · have h2 := hp.1 h
      rw [h2, Nat.zero_mul] at hv
      have h3 : (f X).1 = 0 := by
        rcases Nat.mul_eq_zero.1 hv with e | e
        · omega
        · exact e
      rw [h, h3]; rfl
    · have h2 : W X ≠ 0 := fun e => h (hp.2 e)
      have h3 : (f X).1 ≠ 0 := fun e => by
        rw [e, Nat.mul_zero] at hv
        rcases Nat.mul_eq_zero.1 hv.symm with e | e
        · exact h2 e
        · omega
      rw [decide_eq_true (by omega), decide_eq_true (by omega)]; rfl
  have hle : (f X).1 ≤ (f X).2 := by
    have h1 : w * (f X).1 ≤ w * (f X).2 := by rw [hv]; exact Nat.mul_le_mul_right _ hWX
    exact Nat.le_of_mul_le_mul_left h1 (by omega)
  have h9 : Sp Try.prog 11 [.i ((G : Nat) : Int)] (.i ((w : Nat) : Int)) := by
    have := oTimes_spec G (by omega)
    rw [F.wf] at this
    exact this
  have h10 := implCountSeatings_spec ((G : Nat) : Int) ((K : Nat) : Int)
  rw [F.cn] at h10
  have h11 := implMeanOwnSeats_spec ((G : Nat) : Int) ((K : Nat) : Int)
  rw [F.mn] at h11
  have hsn := F.sn
  have hmb := F.mb
  have hsW : ((sumTo W (G + 1) : Nat) : Int) = ((w : Nat) : Int) := by rw [F.sW]
  have hd2 : decide (((sumTo W (G + 1) : Nat) : Int) ≠ ((w : Nat) : Int)) = false := decide_eq_false fun h => h hsW
  have hsM : ((sumTo (fun k => (G - k) * W k) (G + 1) : Nat) : Int) * ((M.2 : Nat) : Int) = ((M.1 : Nat) : Int) * ((w : Nat) : Int) := by
    have := F.sM
    exact_mod_cast this
  have hd3 : decide (((sumTo (fun k => (G - k) * W k) (G + 1) : Nat) : Int) * ((M.2 : Nat) : Int) ≠ ((M.1 : Nat) : Int) * ((w : Nat) : Int)) = false := decide_eq_false fun h => h hsM
  have hm1 : 0 ≤ ((M.1 : Nat) : Int) * ((w : Nat) : Int) := Int.mul_nonneg (by omega) (by omega)
  have hm2 : ((M.1 : Nat) : Int) * ((w : Nat) : Int) ≤ 1000000000 * 5040 := Int.mul_le_mul (by omega) (by omega) (by omega) (by omega)
  have hxn : ¬ (X = 1 ∧ n0 X ≠ 0) := fun h => h.2 (by rw [h.1]; exact F.one)
  have hwb : ∀ k, k ≤ G + 1 → sumTo (fun k => (G - k) * W k) k ≤ 7 * w := fun k hk => by
    have h1 := sumTo_le (f := fun k => (G - k) * W k) hk
    have h2 := sumTo_mono (f := fun k => (G - k) * W k) (g := fun k => 7 * W k) (fun k => Nat.mul_le_mul_right _ (by omega)) (G + 1)
    rw [sumTo_mul, F.sW] at h2
    omega
  have hnb : ∀ k, k ≤ G + 1 → sumTo n0 k ≤ 5040 := fun k hk => Nat.le_trans (sumTo_le hk) hsn
  have hWb : ∀ k, k ≤ G + 1 → sumTo W k ≤ w := fun k hk => by
    have := sumTo_le (f := W) hk
    rw [F.sW] at this
    exact this
  unfold sgBlock
  unfold ac3
  simp only [sndC, fstC, cndC]
  by_cases hX1 : X = 1
  · have hn1 : n0 X = 0 := by rw [hX1]; exact F.one
    repeat (first | (refine step_ops ?_; ((try (refine g_yes rfl ?_ ?_; (· first | rfl | assumption | (refine decide_eq_true ?_; first | assumption | omega) | (refine nt ?_; first | assumption | omega) | (simp [*]; done) | (refine decide_eq_false ?_; first | assumption | omega) | (refine nf ?_; first | assumption | omega)))); (first | (refine m_mov (by conv => lhs; whnf) ?_) | (refine m_lss rfl rfl ?_) | (refine m_gtr rfl rfl ?_) | (refine m_eql rfl rfl ?_) | (refine m_neq rfl rfl ?_) | (refine m_beq rfl rfl ?_) | (refine m_pick_t rfl ?_ (by conv => lhs; whnf) ?_; (· first | rfl | assumption | (refine decide_eq_true ?_; first | assumption | omega) | (refine nt ?_; first | assumption | omega) | (simp [*]; done))) | (refine m_pick_f rfl ?_ (by conv => lhs; whnf) ?_; (· first | rfl | assumption | (refine decide_eq_false ?_; first | assumption | omega) | (refine nf ?_; first | assumption | omega) | (simp [*]; done)))))) | refine end_ops ?_ | refine seq_ops ?_ | (refine cond_f rfl ?_ ?_; (· first | rfl | assumption | (refine decide_eq_false ?_; first | assumption | omega) | (refine nf ?_; first | assumption | omega) | (simp [*]; done))) | refine skip_then ?_ | refine AW_seq ?_)
    refine step_ops ?_; (apply m_call (h9)); (· repeat (first | exact lends_nil | (refine lends_cons ?_ ?_; (· exact lend_v))))
    repeat (first | (refine step_ops ?_; (refine m_mov (by conv => lhs; whnf) ?_)) | refine end_ops ?_ | refine seq_ops ?_ | refine AW_seq ?_ | refine AW_block ?_)
    refine AW_loop (α := Nat) (fun k => k ≤ G + 1) (fun k => st [(5, .i G), (6, .i K), (1, .v mv), (18, .i ((sumTo n0 k : Nat) : Int)), (19, .i ((sumTo W k : Nat) : Int)), (20, .i ((w : Nat) : Int)), (21, .i ((sumTo (fun k => (G - k) * W k) k : Nat) : Int)), (22, .i ((k : Nat) : Int))] []) (fun k => G + 1 - k) 0 (Nat.zero_le _) (weak_st ?_ ?_ rfl rfl) ?_
    · (repeat' (first | exact trivial | refine And.intro ?_ ?_)) <;> (first | rfl | skip)
    · trivial
    intro k hk
    by_cases hc : k ≤ G
    · have c7 := implCountDisplaced_spec ((G : Nat) : Int) ((K : Nat) : Int) ((k : Nat) : Int)
      rw [F.c7 k hc] at c7
      have c5 := implChanceDisplaced_spec ((G : Nat) : Int) ((K : Nat) : Int) ((k : Nat) : Int)
      rw [F.c5 k hc] at c5
      have bk := F.bd k
      have hvi : ((w : Nat) : Int) * (((f k).1 : Nat) : Int) = ((W k : Nat) : Int) * (((f k).2 : Nat) : Int) := by
        have := F.val k
        exact_mod_cast this
      have hq1 : 0 ≤ ((w : Nat) : Int) * (((f k).1 : Nat) : Int) := Int.mul_nonneg (by omega) (by omega)
      have hq2 : ((w : Nat) : Int) * (((f k).1 : Nat) : Int) ≤ 5040 * 1000000000 := Int.mul_le_mul (by omega) (by omega) (by omega) (by omega)
      have hrem : decide (((w : Nat) : Int) * (((f k).1 : Nat) : Int) % (((f k).2 : Nat) : Int) ≠ 0) = false := decide_eq_false fun h => h (by rw [hvi]; exact Int.mul_emod_left _ _)
      have hquo : ((w : Nat) : Int) * (((f k).1 : Nat) : Int) / (((f k).2 : Nat) : Int) = ((W k : Nat) : Int) := by
        rw [hvi]
        exact Int.mul_ediv_cancel _ (by omega)
      have hWk : W k ≤ w := by
        have := sumTo_get (f := W) (show k < G + 1 by omega)
        rw [F.sW] at this
        exact this
      have hz : (((G : Nat) : Int) - ((k : Nat) : Int)) * (((w : Nat) : Int) * (((f k).1 : Nat) : Int) / (((f k).2 : Nat) : Int)) = (((G - k) * W k : Nat) : Int) := by
        rw [hquo, show ((G : Nat) : Int) - ((k : Nat) : Int) = ((G - k : Nat) : Int) by omega]
        rfl
      have hz2 : (G - k) * W k ≤ 7 * 5040 := Nat.mul_le_mul (by omega) (by omega)
      have n1 := hnb k (by omega)
      have n2 := hnb (k + 1) (by omega)
      have W1 := hWb k (by omega)
      have m1 := hwb k (by omega)
      have e29 : ((sumTo n0 k : Nat) : Int) + ((n0 k : Nat) : Int) = ((sumTo n0 (k + 1) : Nat) : Int) := rfl
      have e30 : ((sumTo W k : Nat) : Int) + ((w : Nat) : Int) * (((f k).1 : Nat) : Int) / (((f k).2 : Nat) : Int) = ((sumTo W (k + 1) : Nat) : Int) := by
        rw [hquo]
        rfl
      have e32 : ((sumTo (fun k => (G - k) * W k) k : Nat) : Int) + (((G : Nat) : Int) - ((k : Nat) : Int)) * (((w : Nat) : Int) * (((f k).1 : Nat) : Int) / (((f k).2 : Nat) : Int)) = ((sumTo (fun k => (G - k) * W k) (k + 1) : Nat) : Int) := by
        rw [hz]
        rfl
      repeat (first | (refine step_ops ?_; (first | (refine m_mov (by conv => lhs; whnf) ?_) | (refine m_leq rfl rfl ?_))) | refine end_ops ?_ | refine seq_ops ?_ | (refine cond_t rfl ?_ ?_; (· first | rfl | assumption | (refine decide_eq_true ?_; first | assumption | omega) | (refine nt ?_; first | assumption | omega) | (simp [*]; done))) | refine skip_then ?_ | refine AW_seq ?_ | refine AW_block ?_)
      refine step_ops ?_; (apply m_call (c7)); (· repeat (first | exact lends_nil | (refine lends_cons ?_ ?_; (· exact lend_v))))
      repeat (first | (refine step_ops ?_; (first | (refine m_mov (by conv => lhs; whnf) ?_) | (refine m_ext rfl rfl ?_))) | refine end_ops ?_ | refine seq_ops ?_)
      refine step_ops ?_; (apply m_call (c5)); (· repeat (first | exact lends_nil | (refine lends_cons ?_ ?_; (· exact lend_v))))
      repeat (first | (refine step_ops ?_; ((try (refine g_yes rfl ?_ ?_; (· first | rfl | assumption | (refine decide_eq_true ?_; first | assumption | omega) | (refine nt ?_; first | assumption | omega) | (simp [*]; done) | (refine decide_eq_false ?_; first | assumption | omega) | (refine nf ?_; first | assumption | omega)))); (first | (refine m_mov (by conv => lhs; whnf) ?_) | (refine m_neq rfl rfl ?_) | (refine m_add rfl rfl ?_ ?_ ?_; (· omega); (· omega)) | (refine m_sub rfl rfl ?_ ?_ ?_; (· omega); (· omega)) | (refine m_mul rfl rfl ?_ ?_ ?_; (· first | omega | (simp; done)); (· first | omega | (simp; done))) | (refine m_not rfl ?_) | (refine m_pick_f rfl ?_ (by conv => lhs; whnf) ?_; (· first | rfl | assumption | (refine decide_eq_false ?_; first | assumption | omega) | (refine nf ?_; first | assumption | omega) | (simp [*]; done))) | (refine m_ext rfl rfl ?_) | (refine m_quo rfl rfl ?_ ?_ ?_ ?_; (· omega); (· omega); (· omega)) | (refine m_rem rfl rfl ?_ ?_ ?_; (· omega); (· omega))))) | refine end_ops ?_ | refine seq_ops ?_ | refine AW_ops ?_ | (refine cond_f rfl ?_ ?_; (· first | rfl | assumption | (refine decide_eq_false ?_; first | assumption | omega) | (refine nf ?_; first | assumption | omega) | (simp [*]; done))) | refine skip_then ?_ | refine AW_seq ?_ | refine norm_then ?_ | refine norm_block ?_)
      refine next_round (k + 1) (by omega) (weak_st ?_ ?_ rfl rfl) ?_
      · (repeat' (first | exact trivial | refine And.intro ?_ ?_)) <;> (first | rfl | skip)
        · exact congrArg AV.i e30
        · exact congrArg AV.i e32
      · trivial
      · omega
    · obtain rfl : k = G + 1 := by omega
      repeat (first | (refine step_ops ?_; (first | (refine m_mov (by conv => lhs; whnf) ?_) | (refine m_leq rfl rfl ?_))) | refine end_ops ?_ | refine seq_ops ?_ | (refine cond_f rfl ?_ ?_; (· first | rfl | assumption | (refine decide_eq_false ?_; first | assumption | omega) | (refine nf ?_; first | assumption | omega) | (simp [*]; done))) | refine AW_seq ?_ | refine norm_then ?_ | refine exit_then ?_ | refine exit_round ?_ | refine AW_exit ?_ | refine exit_block ?_)
      refine step_ops ?_; (apply m_call (h10)); (· repeat (first | exact lends_nil | (refine lends_cons ?_ ?_; (· exact lend_v))))
      repeat (first | (refine step_ops ?_; (first | (refine m_mov (by conv => lhs; whnf) ?_) | (refine m_ext rfl rfl ?_))) | refine end_ops ?_ | refine seq_ops ?_)
      refine step_ops ?_; (apply m_call (h11)); (· repeat (first | exact lends_nil | (refine lends_cons ?_ ?_; (· exact lend_v))))
      repeat (first | (refine step_ops ?_; ((try (refine g_yes rfl ?_ ?_; (· first | rfl | assumption | (refine decide_eq_true ?_; first | assumption | omega) | (refine nt ?_; first | assumption | omega) | (simp [*]; done) | (refine decide_eq_false ?_; first | assumption | omega) | (refine nf ?_; first | assumption | omega)))); (first | (refine m_mov (by conv => lhs; whnf) ?_) | (refine m_neq rfl rfl ?_) | (refine m_mul rfl rfl ?_ ?_ ?_; (· first | omega | (simp; done)); (· first | omega | (simp; done))) | (refine m_not rfl ?_) | (refine m_pick_f rfl ?_ (by conv => lhs; whnf) ?_; (· first | rfl | assumption | (refine decide_eq_false ?_; first | assumption | omega) | (refine nf ?_; first | assumption | omega) | (simp [*]; done))) | (refine m_ext rfl rfl ?_)))) | refine end_ops ?_ | refine seq_ops ?_ | (refine cond_f rfl ?_ ?_; (· first | rfl | assumption | (refine decide_eq_false ?_; first | assumption | omega) | (refine nf ?_; first | assumption | omega) | (simp [*]; done))) | refine AW_skip ?_)
      refine hQ _ (weak_st ?_ ?_ rfl rfl)
      · (repeat' (first | exact trivial | refine And.intro ?_ ?_)) <;> (first | rfl | skip)
      · trivial
  · skip
    repeat (first | (refine step_ops ?_; (first | ((try (refine g_yes rfl ?_ ?_; (· first | rfl | assumption | (refine decide_eq_true ?_; first | assumption | omega) | (refine nt ?_; first | assumption | omega) | (simp [*]; done) | (refine decide_eq_false ?_; first | assumption | omega) | (refine nf ?_; first | assumption | omega)))); (first | (refine m_mov (by conv => lhs; whnf) ?_) | (refine m_lss rfl rfl ?_) | (refine m_gtr rfl rfl ?_) | (refine m_eql rfl rfl ?_) | (refine m_beq rfl rfl ?_) | (refine m_pick_f rfl ?_ (by conv => lhs; whnf) ?_; (· first | rfl | assumption | (refine decide_eq_false ?_; first | assumption | omega) | (refine nf ?_; first | assumption | omega) | (simp [*]; done))))) | (refine g_noT rfl ?_ ?_; (· first | rfl | assumption | (refine decide_eq_false ?_; first | assumption | omega) | (refine nf ?_; first | assumption | omega) | (simp [*]; done))))) | refine end_ops ?_ | refine seq_ops ?_ | (refine cond_f rfl ?_ ?_; (· first | rfl | assumption | (refine decide_eq_false ?_; first | assumption | omega) | (refine nf ?_; first | assumption | omega) | (simp [*]; done))) | refine skip_then ?_ | refine AW_seq ?_)
    refine step_ops ?_; (apply m_call (h9)); (· repeat (first | exact lends_nil | (refine lends_cons ?_ ?_; (· exact lend_v))))
    repeat (first | (refine step_ops ?_; (refine m_mov (by conv => lhs; whnf) ?_)) | refine end_ops ?_ | refine seq_ops ?_ | refine AW_seq ?_ | refine AW_block ?_)
    refine AW_loop (α := Nat) (fun k => k ≤ G + 1) (fun k => st [(5, .i G), (6, .i K), (1, .v mv), (18, .i ((sumTo n0 k : Nat) : Int)), (19, .i ((sumTo W k : Nat) : Int)), (20, .i ((w : Nat) : Int)), (21, .i ((sumTo (fun k => (G - k) * W k) k : Nat) : Int)), (22, .i ((k : Nat) : Int))] []) (fun k => G + 1 - k) 0 (Nat.zero_le _) (weak_st ?_ ?_ rfl rfl) ?_
    · (repeat' (first | exact trivial | refine And.intro ?_ ?_)) <;> (first | rfl | skip)
    · trivial
    intro k hk
    by_cases hc : k ≤ G
    · have c7 := implCountDisplaced_spec ((G : Nat) : Int) ((K : Nat) : Int) ((k : Nat) : Int)
      rw [F.c7 k hc] at c7
      have c5 := implChanceDisplaced_spec ((G : Nat) : Int) ((K : Nat) : Int) ((k : Nat) : Int)
      rw [F.c5 k hc] at c5
      have bk := F.bd k
      have hvi : ((w : Nat) : Int) * (((f k).1 : Nat) : Int) = ((W k : Nat) : Int) * (((f k).2 : Nat) : Int) := by
        have := F.val k
        exact_mod_cast this
      have hq1 : 0 ≤ ((w : Nat) : Int) * (((f k).1 : Nat) : Int) := Int.mul_nonneg (by omega) (by omega)
      have hq2 : ((w : Nat) : Int) * (((f k).1 : Nat) : Int) ≤ 5040 * 1000000000 := Int.mul_le_mul (by omega) (by omega) (by omega) (by omega)
      have hrem : decide (((w : Nat) : Int) * (((f k).1 : Nat) : Int) % (((f k).2 : Nat) : Int) ≠ 0) = false := decide_eq_false fun h => h (by rw [hvi]; exact Int.mul_emod_left _ _)
      have hquo : ((w : Nat) : Int) * (((f k).1 : Nat) : Int) / (((f k).2 : Nat) : Int) = ((W k : Nat) : Int) := by
        rw [hvi]
        exact Int.mul_ediv_cancel _ (by omega)
      have hWk : W k ≤ w := by
        have := sumTo_get (f := W) (show k < G + 1 by omega)
        rw [F.sW] at this
        exact this
      have hz : (((G : Nat) : Int) - ((k : Nat) : Int)) * (((w : Nat) : Int) * (((f k).1 : Nat) : Int) / (((f k).2 : Nat) : Int)) = (((G - k) * W k : Nat) : Int) := by
        rw [hquo, show ((G : Nat) : Int) - ((k : Nat) : Int) = ((G - k : Nat) : Int) by omega]
        rfl
      have hz2 : (G - k) * W k ≤ 7 * 5040 := Nat.mul_le_mul (by omega) (by omega)
      have n1 := hnb k (by omega)
      have n2 := hnb (k + 1) (by omega)
      have W1 := hWb k (by omega)
      have m1 := hwb k (by omega)
      have e29 : ((sumTo n0 k : Nat) : Int) + ((n0 k : Nat) : Int) = ((sumTo n0 (k + 1) : Nat) : Int) := rfl
      have e30 : ((sumTo W k : Nat) : Int) + ((w : Nat) : Int) * (((f k).1 : Nat) : Int) / (((f k).2 : Nat) : Int) = ((sumTo W (k + 1) : Nat) : Int) := by
        rw [hquo]
        rfl
      have e32 : ((sumTo (fun k => (G - k) * W k) k : Nat) : Int) + (((G : Nat) : Int) - ((k : Nat) : Int)) * (((w : Nat) : Int) * (((f k).1 : Nat) : Int) / (((f k).2 : Nat) : Int)) = ((sumTo (fun k => (G - k) * W k) (k + 1) : Nat) : Int) := by
        rw [hz]
        rfl
      repeat (first | (refine step_ops ?_; (first | (refine m_mov (by conv => lhs; whnf) ?_) | (refine m_leq rfl rfl ?_))) | refine end_ops ?_ | refine seq_ops ?_ | (refine cond_t rfl ?_ ?_; (· first | rfl | assumption | (refine decide_eq_true ?_; first | assumption | omega) | (refine nt ?_; first | assumption | omega) | (simp [*]; done))) | refine skip_then ?_ | refine AW_seq ?_ | refine AW_block ?_)
      refine step_ops ?_; (apply m_call (c7)); (· repeat (first | exact lends_nil | (refine lends_cons ?_ ?_; (· exact lend_v))))
      repeat (first | (refine step_ops ?_; (first | (refine m_mov (by conv => lhs; whnf) ?_) | (refine m_ext rfl rfl ?_))) | refine end_ops ?_ | refine seq_ops ?_)
      refine step_ops ?_; (apply m_call (c5)); (· repeat (first | exact lends_nil | (refine lends_cons ?_ ?_; (· exact lend_v))))
      repeat (first | (refine step_ops ?_; ((try (refine g_yes rfl ?_ ?_; (· first | rfl | assumption | (refine decide_eq_true ?_; first | assumption | omega) | (refine nt ?_; first | assumption | omega) | (simp [*]; done) | (refine decide_eq_false ?_; first | assumption | omega) | (refine nf ?_; first | assumption | omega)))); (first | (refine m_mov (by conv => lhs; whnf) ?_) | (refine m_neq rfl rfl ?_) | (refine m_add rfl rfl ?_ ?_ ?_; (· omega); (· omega)) | (refine m_sub rfl rfl ?_ ?_ ?_; (· omega); (· omega)) | (refine m_mul rfl rfl ?_ ?_ ?_; (· first | omega | (simp; done)); (· first | omega | (simp; done))) | (refine m_not rfl ?_) | (refine m_pick_f rfl ?_ (by conv => lhs; whnf) ?_; (· first | rfl | assumption | (refine decide_eq_false ?_; first | assumption | omega) | (refine nf ?_; first | assumption | omega) | (simp [*]; done))) | (refine m_ext rfl rfl ?_) | (refine m_quo rfl rfl ?_ ?_ ?_ ?_; (· omega); (· omega); (· omega)) | (refine m_rem rfl rfl ?_ ?_ ?_; (· omega); (· omega))))) | refine end_ops ?_ | refine seq_ops ?_ | refine AW_ops ?_ | (refine cond_f rfl ?_ ?_; (· first | rfl | assumption | (refine decide_eq_false ?_; first | assumption | omega) | (refine nf ?_; first | assumption | omega) | (simp [*]; done))) | refine skip_then ?_ | refine AW_seq ?_ | refine norm_then ?_ | refine norm_block ?_)
      refine next_round (k + 1) (by omega) (weak_st ?_ ?_ rfl rfl) ?_
      · (repeat' (first | exact trivial | refine And.intro ?_ ?_)) <;> (first | rfl | skip)
        · exact congrArg AV.i e30
        · exact congrArg AV.i e32
      · trivial
      · omega
    · obtain rfl : k = G + 1 := by omega
      repeat (first | (refine step_ops ?_; (first | (refine m_mov (by conv => lhs; whnf) ?_) | (refine m_leq rfl rfl ?_))) | refine end_ops ?_ | refine seq_ops ?_ | (refine cond_f rfl ?_ ?_; (· first | rfl | assumption | (refine decide_eq_false ?_; first | assumption | omega) | (refine nf ?_; first | assumption | omega) | (simp [*]; done))) | refine AW_seq ?_ | refine norm_then ?_ | refine exit_then ?_ | refine exit_round ?_ | refine AW_exit ?_ | refine exit_block ?_)
      refine step_ops ?_; (apply m_call (h10)); (· repeat (first | exact lends_nil | (refine lends_cons ?_ ?_; (· exact lend_v))))
      repeat (first | (refine step_ops ?_; (first | (refine m_mov (by conv => lhs; whnf) ?_) | (refine m_ext rfl rfl ?_))) | refine end_ops ?_ | refine seq_ops ?_)
      refine step_ops ?_; (apply m_call (h11)); (· repeat (first | exact lends_nil | (refine lends_cons ?_ ?_; (· exact lend_v))))
      repeat (first | (refine step_ops ?_; ((try (refine g_yes rfl ?_ ?_; (· first | rfl | assumption | (refine decide_eq_true ?_; first | assumption | omega) | (refine nt ?_; first | assumption | omega) | (simp [*]; done) | (refine decide_eq_false ?_; first | assumption | omega) | (refine nf ?_; first | assumption | omega)))); (first | (refine m_mov (by conv => lhs; whnf) ?_) | (refine m_neq rfl rfl ?_) | (refine m_mul rfl rfl ?_ ?_ ?_; (· first | omega | (simp; done)); (· first | omega | (simp; done))) | (refine m_not rfl ?_) | (refine m_pick_f rfl ?_ (by conv => lhs; whnf) ?_; (· first | rfl | assumption | (refine decide_eq_false ?_; first | assumption | omega) | (refine nf ?_; first | assumption | omega) | (simp [*]; done))) | (refine m_ext rfl rfl ?_)))) | refine end_ops ?_ | refine seq_ops ?_ | (refine cond_f rfl ?_ ?_; (· first | rfl | assumption | (refine decide_eq_false ?_; first | assumption | omega) | (refine nf ?_; first | assumption | omega) | (simp [*]; done))) | refine AW_skip ?_)
      refine hQ _ (weak_st ?_ ?_ rfl rfl)
      · (repeat' (first | exact trivial | refine And.intro ?_ ?_)) <;> (first | rfl | skip)
      · trivial
end Go.Proofs.Ytamgcjdmcmbffaa
