/- Contracts: RookNumbers, MostRooks. -/
import Derived.Test.YtojpcpdbnmnknaaDoorSpRkS
namespace Go.Proofs.YtojpcpdbnmnknaaDoor
open Go.Am
attribute [local irreducible] AW Outs Weak Lends Lend Sp aops atree aop1 Then Round InBlock Done
attribute [local irreducible] SpH SpX DoneH DoneX

theorem rgR_new (n : Nat) (f : Nat → Nat) : rgR n f = newInts (rgL n f) := by
  unfold rgR newInts
  rw [rgL_len]
/-- The numbers of rooks of a text. -/
def rksB (B : List UInt8) : List Int := if GoodBd B then rgL (sdB B) (rkN (fbB B) (sdB B)) else []
def rksR (B : List UInt8) : AV := .tup [newInts (rksB B), .b (decide (GoodBd B))]
theorem rksB_len (B : List UInt8) : (rksB B).length ≤ 1048576 := by
  unfold rksB
  split
  · rename_i h
    have := good_sd h
    rw [rgL_len]; omega
  · simp
theorem rooks0_spec (B : List UInt8) (h : GoodBd B) (hB : B.length ≤ 1048576) : Sp Tryd.prog 28 [str B, .i 0, .i 0] (newInts (rgL (sdB B) (rkN (fbB B) (sdB B)))) := by
  rw [← rgR_new]
  exact bdRooks_spec B h hB (sdB B) 0 0 (by omega) (Nat.pow_pos (by decide))
theorem rookNew_spec (B : List UInt8) (h : GoodBd B) : Sp Tryd.prog 30 [.agg [.i (sdB B : Nat), .rmp false (mkEs (plB B)) (plB B).length]] (newInts (rgL (sdB B) (rkN (fbB B) (sdB B)))) := by
  rw [← rgR_new]
  exact rookNumbers_spec (fbB B) (sdB B) (good_sd h).1 (good_sd h).2
theorem specRookNumbers_spec (B : List UInt8) (hB : B.length ≤ 1048576) : Sp Tryd.prog 9 [str B] (rksR B) := by
  unfold rksR rksB
  refine spec_of Tryd.func9 rfl cc9 rfl ?_
  unfold ac9
  repeat (first | (refine step_ops ?_; (first | (refine m_mov (by conv => lhs; whnf) ?_) | (refine m_nils ?_))) | refine end_ops ?_ | refine seq_ops ?_ | refine AW_seq ?_)
  (refine step_ops ?_); (apply m_call (bdGood_spec B hB)); (· repeat (first | exact lends_nil | (refine lends_cons ?_ ?_; (· exact lend_v))))
  by_cases h : GoodBd B
  · rw [if_pos h]
    repeat (first | (refine step_ops ?_; (first | (refine m_mov (by conv => lhs; whnf) ?_) | (refine m_not rfl ?_))) | refine end_ops ?_ | refine seq_ops ?_ | (refine cond_f rfl ?_ ?_; (· first | rfl | assumption | (refine decide_eq_false ?_; first | assumption | omega) | (refine nf ?_; first | assumption | omega) | (simp [*]; done))) | refine skip_then ?_)
    (refine step_ops ?_); (apply m_callo (rooks0_spec B h hB)); (· repeat (first | exact lends_nil | (refine lends_cons ?_ ?_; (· exact lend_v)))); (· first | exact allv_ints _ | rfl | (simp; done))
    repeat (first | (refine step_ops ?_; (refine m_mov (by conv => lhs; whnf) ?_)) | refine end_ops ?_ | refine AW_ret ?_ | refine ret_done ?_)
    exact outs_tup2 (outs_ints rfl rfl rfl) (outs_b (by simp [h]))
  · rw [if_neg h]
    repeat (first | (refine step_ops ?_; (first | (refine m_mov (by conv => lhs; whnf) ?_) | (refine m_not rfl ?_) | (refine m_nils ?_))) | refine end_ops ?_ | refine seq_ops ?_ | (refine cond_t rfl ?_ ?_; (· first | rfl | assumption | (refine decide_eq_true ?_; first | assumption | omega) | (refine nt ?_; first | assumption | omega) | (simp [*]; done))) | refine AW_ret ?_ | refine ret_done ?_ | refine ret_then ?_)
    exact outs_tup2 (outs_ints rfl rfl rfl) (outs_b (by simp [h]))
theorem implRookNumbers_spec (B : List UInt8) (hB : B.length ≤ 1048576) : Sp Tryd.prog 10 [str B] (rksR B) := by
  have hr := readBoard_spec B hB
  unfold bdR bdV at hr
  unfold rksR rksB
  refine spec_of Tryd.func10 rfl cc10 rfl ?_
  unfold ac10
  by_cases h : GoodBd B
  · rw [if_pos h] at hr
    have hk := rookNew_spec B h
    rw [if_pos h]
    repeat (first | (refine step_ops ?_; (first | (refine m_mov (by conv => lhs; whnf) ?_) | (refine m_nils ?_))) | refine end_ops ?_ | refine seq_ops ?_)
    (refine step_ops ?_); (apply m_call (hr)); (· repeat (first | exact lends_nil | (refine lends_cons ?_ ?_; (· exact lend_v))))
    repeat (first | (refine step_ops ?_; (first | (refine m_mov (by conv => lhs; whnf) ?_) | (refine m_not rfl ?_) | (refine m_ext rfl rfl ?_) | (refine m_alloc ?_) | (refine m_ldall rfl rfl ?_ ?_; (· first | rfl | (simp; done) | (simp [*]; done))) | (refine m_stall rfl rfl rfl ?_ ?_ ?_ ?_; (· first | rfl | (simp [*]; done)); (· first | rfl | (simp [*]; done)); (· first | rfl | (simp [cellOk, Value.oneCell']; done))))) | refine end_ops ?_ | refine seq_ops ?_ | (refine cond_f rfl ?_ ?_; (· first | rfl | assumption | (refine decide_eq_false ?_; first | assumption | omega) | (refine nf ?_; first | assumption | omega) | (simp [*]; done))) | refine skip_then ?_ | refine AW_seq ?_)
    refine step_ops ?_
    refine m_callo hk (lends_cons (lend_aggM rfl) lends_nil) (allv_ints _) ?_
    repeat (first | (refine step_ops ?_; (refine m_mov (by conv => lhs; whnf) ?_)) | refine end_ops ?_ | refine AW_ret ?_ | refine ret_done ?_)
    exact outs_tup2 (outs_ints rfl rfl rfl) (outs_b (by simp [h]))
  · rw [if_neg h] at hr
    rw [if_neg h]
    repeat (first | (refine step_ops ?_; (first | (refine m_mov (by conv => lhs; whnf) ?_) | (refine m_nils ?_))) | refine end_ops ?_ | refine seq_ops ?_)
    (refine step_ops ?_); (apply m_call (hr)); (· repeat (first | exact lends_nil | (refine lends_cons ?_ ?_; (· exact lend_v))))
    repeat (first | (refine step_ops ?_; (first | (refine m_mov (by conv => lhs; whnf) ?_) | (refine m_not rfl ?_) | (refine m_nils ?_) | (refine m_ext rfl rfl ?_) | (refine m_alloc ?_) | (refine m_stall rfl rfl rfl ?_ ?_ ?_ ?_; (· first | rfl | (simp [*]; done)); (· first | rfl | (simp [*]; done)); (· first | rfl | (simp [cellOk, Value.oneCell']; done))))) | refine end_ops ?_ | refine seq_ops ?_ | (refine cond_t rfl ?_ ?_; (· first | rfl | assumption | (refine decide_eq_true ?_; first | assumption | omega) | (refine nt ?_; first | assumption | omega) | (simp [*]; done))) | refine AW_seq ?_ | refine AW_ret ?_ | refine ret_done ?_ | refine ret_then ?_)
    exact outs_tup2 (outs_ints rfl rfl rfl) (outs_b (by simp [h]))
/-- The greatest number of rooks. -/
def mostN (f : Nat → Nat) : Nat → Nat
  | 0 => 0
  | k + 1 => if 0 < f (k + 1) then k + 1 else mostN f k
theorem mostN_le (f : Nat → Nat) : ∀ k, mostN f k ≤ k
  | 0 => Nat.le_refl _
  | k + 1 => by
    rw [mostN]
    split
    · exact Nat.le_refl _
    · have := mostN_le f k; omega
def mostR (B : List UInt8) : AV := .tup [.i (if GoodBd B then ((mostN (rkN (fbB B) (sdB B)) (sdB B) : Nat) : Int) else 0), .b (decide (GoodBd B))]
theorem rk0 (fb : Nat → Nat → Bool) (n : Nat) : ∀ m S, rkG fb n m S 0 = 1
  | 0, _ => rfl
  | m + 1, S => by
    rw [rkG, rk0 fb n m S, sumN_congr (g := fun _ => 0) fun j _ => by simp, sumN_zero]
theorem bdMost_spec (B : List UInt8) (h : GoodBd B) (hB : B.length ≤ 1048576) : Sp Tryd.prog 33 [str B] (.i (mostN (rkN (fbB B) (sdB B)) (sdB B) : Nat)) := by
  have hsd := good_sd h
  have hk := rooks0_spec B h hB
  have hle : ∀ k, rkN (fbB B) (sdB B) k ≤ 43046721 := fun k => rkG_le9 h (by omega) 0 k
  have h0 : rkN (fbB B) (sdB B) 0 = 1 := rk0 _ _ _ _
  generalize rkN (fbB B) (sdB B) = f at *
  have hl := rgL_len (sdB B) f
  refine spec_of Tryd.func33 rfl cc33 rfl ?_
  unfold ac33
  repeat (first | (refine step_ops ?_; (refine m_mov (by conv => lhs; whnf) ?_)) | refine end_ops ?_ | refine seq_ops ?_ | refine AW_seq ?_)
  (refine step_ops ?_); (apply m_call (hk)); (· repeat (first | exact lends_nil | (refine lends_cons ?_ ?_; (· exact lend_v))))
  repeat (first | (refine step_ops ?_; (first | (refine m_mov (by conv => lhs; whnf) ?_) | (refine m_len_ro rfl ?_))) | refine end_ops ?_ | refine AW_block ?_)
  refine AW_loop (α := Nat) (fun k => k ≤ sdB B + 1) (fun k => st [(0, str B), (3, .i (mostN f (k - 1) : Nat)), (7, newInts (rgL (sdB B) f)), (8, .i (rgL (sdB B) f).length), (9, .i (k : Nat))] []) (fun k => sdB B + 1 - k) 0 (by omega) (weak_st ?_ ?_ rfl rfl) ?_
  · (repeat' (first | exact trivial | refine And.intro ?_ ?_)) <;> (first | rfl | skip)
  · trivial
  rintro k hk2
  unfold newInts
  by_cases hk1 : k < sdB B + 1
  · have g1 := rgL_get f hk1
    have b1 := hle k
    by_cases hv : 0 < f k
    · have b4 : 0 < (rgL (sdB B) f).getD k 0 := by rw [g1]; omega
      repeat (first | (refine step_ops ?_; (first | (refine m_mov (by conv => lhs; whnf) ?_) | (refine m_lss rfl rfl ?_) | (refine m_gtr rfl rfl ?_) | (refine m_add rfl rfl ?_ ?_ ?_; (· omega); (· omega)) | (refine m_idx1_ro rfl rfl ?_ ?_; (· omega)) | (refine m_ld_rpi rfl ?_ ?_; (· omega)))) | refine end_ops ?_ | refine seq_ops ?_ | refine AW_ops ?_ | (refine cond_t rfl ?_ ?_; (· first | rfl | assumption | (refine decide_eq_true ?_; first | assumption | omega) | (refine nt ?_; first | assumption | omega) | (simp [*]; done))) | refine skip_then ?_ | refine AW_seq ?_ | refine norm_then ?_ | refine AW_block ?_ | refine norm_block ?_)
      refine next_round (k + 1) (by omega) (weak_st ?_ ?_ rfl rfl) (by omega)
      · (repeat' (first | exact trivial | refine And.intro ?_ ?_)) <;> (first | rfl | skip)
        show AV.i (k : Nat) = AV.i (mostN f k : Nat)
        cases k with
        | zero => rfl
        | succ k => rw [mostN, if_pos hv]
      · trivial
    · have b4 : (rgL (sdB B) f).getD k 0 = 0 := by rw [g1]; omega
      repeat (first | (refine step_ops ?_; (first | (refine m_mov (by conv => lhs; whnf) ?_) | (refine m_lss rfl rfl ?_) | (refine m_gtr rfl rfl ?_) | (refine m_add rfl rfl ?_ ?_ ?_; (· omega); (· omega)) | (refine m_idx1_ro rfl rfl ?_ ?_; (· omega)) | (refine m_ld_rpi rfl ?_ ?_; (· omega)))) | refine end_ops ?_ | refine seq_ops ?_ | refine AW_ops ?_ | (refine cond_t rfl ?_ ?_; (· first | rfl | assumption | (refine decide_eq_true ?_; first | assumption | omega) | (refine nt ?_; first | assumption | omega) | (simp [*]; done))) | (refine cond_f rfl ?_ ?_; (· first | rfl | assumption | (refine decide_eq_false ?_; first | assumption | omega) | (refine nf ?_; first | assumption | omega) | (simp [*]; done))) | refine skip_then ?_ | refine AW_seq ?_ | refine norm_then ?_ | refine AW_block ?_ | refine norm_block ?_ | refine AW_skip ?_)
      refine next_round (k + 1) (by omega) (weak_st ?_ ?_ rfl rfl) (by omega)
      · (repeat' (first | exact trivial | refine And.intro ?_ ?_)) <;> (first | rfl | skip)
        show AV.i (mostN f (k - 1) : Nat) = AV.i (mostN f k : Nat)
        cases k with
        | zero => omega
        | succ k => rw [mostN, if_neg hv]; rfl
      · trivial
  · have hke : k = sdB B + 1 := by omega
    subst hke
    repeat (first | (refine step_ops ?_; (first | (refine m_mov (by conv => lhs; whnf) ?_) | (refine m_lss rfl rfl ?_))) | refine end_ops ?_ | refine seq_ops ?_ | (refine cond_f rfl ?_ ?_; (· first | rfl | assumption | (refine decide_eq_false ?_; first | assumption | omega) | (refine nf ?_; first | assumption | omega) | (simp [*]; done))) | refine AW_seq ?_ | refine AW_ret ?_ | refine ret_done ?_ | refine norm_then ?_ | refine exit_then ?_ | refine exit_round ?_ | refine AW_exit ?_ | refine exit_block ?_)
    exact outs_i rfl
theorem specMostRooks_spec (B : List UInt8) (hB : B.length ≤ 1048576) : Sp Tryd.prog 18 [str B] (mostR B) := by
  unfold mostR
  refine spec_of Tryd.func18 rfl cc18 rfl ?_
  unfold ac18
  repeat (first | (refine step_ops ?_; (refine m_mov (by conv => lhs; whnf) ?_)) | refine end_ops ?_ | refine seq_ops ?_ | refine AW_seq ?_)
  (refine step_ops ?_); (apply m_call (bdGood_spec B hB)); (· repeat (first | exact lends_nil | (refine lends_cons ?_ ?_; (· exact lend_v))))
  by_cases h : GoodBd B
  · rw [if_pos h]
    repeat (first | (refine step_ops ?_; (first | (refine m_mov (by conv => lhs; whnf) ?_) | (refine m_not rfl ?_))) | refine end_ops ?_ | refine seq_ops ?_ | (refine cond_f rfl ?_ ?_; (· first | rfl | assumption | (refine decide_eq_false ?_; first | assumption | omega) | (refine nf ?_; first | assumption | omega) | (simp [*]; done))) | refine skip_then ?_)
    (refine step_ops ?_); (apply m_call (bdMost_spec B h hB)); (· repeat (first | exact lends_nil | (refine lends_cons ?_ ?_; (· exact lend_v))))
    repeat (first | (refine step_ops ?_; (refine m_mov (by conv => lhs; whnf) ?_)) | refine end_ops ?_ | refine AW_ret ?_ | refine ret_done ?_)
    exact outs_tup2 (outs_i rfl) (outs_b (by simp [h]))
  · rw [if_neg h]
    repeat (first | (refine step_ops ?_; (first | (refine m_mov (by conv => lhs; whnf) ?_) | (refine m_not rfl ?_))) | refine end_ops ?_ | refine seq_ops ?_ | (refine cond_t rfl ?_ ?_; (· first | rfl | assumption | (refine decide_eq_true ?_; first | assumption | omega) | (refine nt ?_; first | assumption | omega) | (simp [*]; done))) | refine AW_ret ?_ | refine ret_done ?_ | refine ret_then ?_)
    exact outs_tup2 (outs_i rfl) (outs_b (by simp [h]))
theorem implMostRooks_spec (B : List UInt8) (hB : B.length ≤ 1048576) : Sp Tryd.prog 19 [str B] (mostR B) := by
  have hr := readBoard_spec B hB
  unfold bdR bdV at hr
  unfold mostR
  refine spec_of Tryd.func19 rfl cc19 rfl ?_
  unfold ac19
  by_cases h : GoodBd B
  · rw [if_pos h] at hr
    have hk := rookNew_spec B h
    rw [if_pos h]
    have hsd := good_sd h
    have hle : ∀ k, rkN (fbB B) (sdB B) k ≤ 43046721 := fun k => rkG_le9 h (by omega) 0 k
    have h0 : rkN (fbB B) (sdB B) 0 = 1 := rk0 _ _ _ _
    generalize rkN (fbB B) (sdB B) = f at *
    have hl := rgL_len (sdB B) f
    repeat (first | (refine step_ops ?_; (refine m_mov (by conv => lhs; whnf) ?_)) | refine end_ops ?_ | refine seq_ops ?_)
    (refine step_ops ?_); (apply m_call (hr)); (· repeat (first | exact lends_nil | (refine lends_cons ?_ ?_; (· exact lend_v))))
    repeat (first | (refine step_ops ?_; (first | (refine m_mov (by conv => lhs; whnf) ?_) | (refine m_not rfl ?_) | (refine m_ext rfl rfl ?_) | (refine m_alloc ?_) | (refine m_ldall rfl rfl ?_ ?_; (· first | rfl | (simp; done) | (simp [*]; done))) | (refine m_stall rfl rfl rfl ?_ ?_ ?_ ?_; (· first | rfl | (simp [*]; done)); (· first | rfl | (simp [*]; done)); (· first | rfl | (simp [cellOk, Value.oneCell']; done))))) | refine end_ops ?_ | refine seq_ops ?_ | (refine cond_f rfl ?_ ?_; (· first | rfl | assumption | (refine decide_eq_false ?_; first | assumption | omega) | (refine nf ?_; first | assumption | omega) | (simp [*]; done))) | refine skip_then ?_ | refine AW_seq ?_)
    refine step_ops ?_
    refine m_callo hk (lends_cons (lend_aggM rfl) lends_nil) (allv_ints _) ?_
    repeat (first | (refine step_ops ?_; (first | (refine m_mov (by conv => lhs; whnf) ?_) | (apply m_ld_pt; (· rfl); (· rfl); (· rfl)) | (refine m_fa rfl ?_))) | refine end_ops ?_ | refine seq_ops ?_ | refine AW_seq ?_ | refine AW_block ?_)
    refine AW_loop (α := Nat) (fun k => k ≤ sdB B ∧ mostN f k = mostN f (sdB B)) (fun k => st [(6, .sl 16 1 0 (rgL (sdB B) f).length), (7, .i (k : Nat))] [(16, (true, (rgL (sdB B) f).map AV.i))]) (fun k => k) (sdB B) ⟨Nat.le_refl _, rfl⟩ (weak_st ?_ ?_ rfl rfl) ?_
    · (repeat' (first | exact trivial | refine And.intro ?_ ?_)) <;> (first | rfl | skip)
    · (repeat' (first | exact trivial | refine And.intro ?_ ?_)) <;> (first | rfl | skip)
    rintro k ⟨hk1, hk2⟩
    have g1 := rgL_get (n := sdB B) (k := k) f (by omega)
    by_cases hv : 0 < f k
    · have b4 : ¬ (rgL (sdB B) f).getD k 0 = 0 := by rw [g1]; omega
      repeat (first | (refine step_ops ?_; (first | (refine m_mov (by conv => lhs; whnf) ?_) | (refine m_eql rfl rfl ?_) | (refine m_idx1_sl rfl rfl ?_ ?_; (· omega)) | (refine m_ld_pti rfl (by rfl) ?_ ?_; (· first | omega | (simp; omega))))) | refine end_ops ?_ | refine seq_ops ?_ | (refine cond_f rfl ?_ ?_; (· first | rfl | assumption | (refine decide_eq_false ?_; first | assumption | omega) | (refine nf ?_; first | assumption | omega) | (simp [*]; done))) | refine AW_seq ?_ | refine AW_ret ?_ | refine ret_done ?_ | refine norm_then ?_ | refine exit_then ?_ | refine exit_round ?_ | refine AW_exit ?_ | refine exit_block ?_)
      refine outs_tup2 (outs_i ?_) (outs_b (by simp [h]))
      rw [← hk2]
      cases k with
      | zero => rfl
      | succ k => rw [mostN, if_pos hv]
    · have b4 : (rgL (sdB B) f).getD k 0 = 0 := by rw [g1]; omega
      have hkp : 0 < k := by
        rcases Nat.eq_zero_or_pos k with h3 | h3
        · subst h3; omega
        · exact h3
      repeat (first | (refine step_ops ?_; (first | (refine m_mov (by conv => lhs; whnf) ?_) | (refine m_eql rfl rfl ?_) | (refine m_sub rfl rfl ?_ ?_ ?_; (· omega); (· omega)) | (refine m_idx1_sl rfl rfl ?_ ?_; (· omega)) | (refine m_ld_pti rfl (by rfl) ?_ ?_; (· first | omega | (simp; omega))))) | refine end_ops ?_ | refine seq_ops ?_ | refine AW_ops ?_ | (refine cond_t rfl ?_ ?_; (· first | rfl | assumption | (refine decide_eq_true ?_; first | assumption | omega) | (refine nt ?_; first | assumption | omega) | (simp [*]; done))) | refine skip_then ?_ | refine AW_seq ?_ | refine AW_block ?_ | refine norm_block ?_)
      refine next_round (k - 1) ⟨by omega, ?_⟩ (weak_st ?_ ?_ rfl rfl) (by omega)
      · rw [← hk2]
        obtain ⟨j, rfl⟩ : ∃ j, k = j + 1 := ⟨k - 1, by omega⟩
        rw [mostN, if_neg hv]
        rfl
      · (repeat' (first | exact trivial | refine And.intro ?_ ?_)) <;> (first | rfl | skip)
        show AV.i ((k : Int) - 1) = AV.i ((k - 1 : Nat) : Int)
        exact congrArg AV.i (by omega)
      · (repeat' (first | exact trivial | refine And.intro ?_ ?_)) <;> (first | rfl | skip)
  · rw [if_neg h] at hr
    rw [if_neg h]
    repeat (first | (refine step_ops ?_; (refine m_mov (by conv => lhs; whnf) ?_)) | refine end_ops ?_ | refine seq_ops ?_)
    (refine step_ops ?_); (apply m_call (hr)); (· repeat (first | exact lends_nil | (refine lends_cons ?_ ?_; (· exact lend_v))))
    repeat (first | (refine step_ops ?_; (first | (refine m_mov (by conv => lhs; whnf) ?_) | (refine m_not rfl ?_) | (refine m_ext rfl rfl ?_) | (refine m_alloc ?_) | (refine m_stall rfl rfl rfl ?_ ?_ ?_ ?_; (· first | rfl | (simp [*]; done)); (· first | rfl | (simp [*]; done)); (· first | rfl | (simp [cellOk, Value.oneCell']; done))))) | refine end_ops ?_ | refine seq_ops ?_ | (refine cond_t rfl ?_ ?_; (· first | rfl | assumption | (refine decide_eq_true ?_; first | assumption | omega) | (refine nt ?_; first | assumption | omega) | (simp [*]; done))) | refine AW_seq ?_ | refine AW_ret ?_ | refine ret_done ?_ | refine ret_then ?_)
    exact outs_tup2 (outs_i rfl) (outs_b (by simp [h]))
end Go.Proofs.YtojpcpdbnmnknaaDoor
