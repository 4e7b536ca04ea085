/- Contracts: the next exchange without own coats, and the first one. -/
import Derived.Test.YtgjlaajkakecpaaSpNc
namespace Go.Proofs.Ytgjlaajkakecpaa
open Go.Am
attribute [local irreducible] AW Outs Weak Lends Lend Sp aops atree aop1 Then Round InBlock Done

def nextRank (L : List Int) : Int := if HasOwn L then befR L else befR L + 1
/-- What NextNone tells. -/
def NextOk (L : List Int) : Prop := IsEx L ∧ OfOk L.length (nextRank L)
instance (L : List Int) : Decidable (NextOk L) := inferInstanceAs (Decidable (_ ∧ _))
def nextRes (L : List Int) : List Int := if NextOk L then rankG L.length (nextRank L) else []
theorem nextRes_le (L : List Int) : (nextRes L).length ≤ 12 := by
  unfold nextRes
  split
  · rename_i h
    have e : ofRes L.length (nextRank L) = rankG L.length (nextRank L) := by rw [ofRes, if_pos h.2, Int.toNat_natCast]
    rw [← e]; exact ofRes_le _ _
  · simp
theorem befR_le (L : List Int) (h : IsEx L) : 0 ≤ befR L ∧ befR L ≤ 100000000000 := by
  have h12 := h.2.1
  suffices hh : ∀ (n k : Nat) (a : Int), k + n = L.length → 0 ≤ a → a ≤ 5748019200 * k → 0 ≤ befF L L.length n k a ∧ befF L L.length n k a ≤ 100000000000 from hh L.length 0 0 (by omega) (by omega) (by omega)
  intro n
  induction n with
  | zero => intro k a hk h0 h1; simp only [befF]; omega
  | succ n ih =>
    intro k a hk h0 h1
    have hb := bef_le L h k (by omega) a h0 h1
    simp only [befF]
    split
    · omega
    · exact ih (k + 1) _ (by omega) hb.1 hb.2

theorem specNextNone_spec (L : List Int) (hL : L.length ≤ 1048576) : Sp Try.prog 8 [ints L] (.tup [newInts (nextRes L), .b (decide (NextOk L))]) := by
  refine spec_of Try.func8 rfl cc8 rfl ?_
  unfold ac8
  by_cases h : IsEx L
  · have h12 := h.2.1
    have hbl := befR_le L h
    have hb := noneN_le L.length (by omega)
    have ho := ownList_nil L
    by_cases hh : HasOwn L
    · have h1 : ¬ ((ownList L L.length).length : Int) = 0 := by have := ho.2 hh; omega
      have en : nextRank L = befR L := if_pos hh
      by_cases hr : noneN L.length ≤ befR L
      · have hno : ¬ NextOk L := fun hn => by have := hn.2.2; rw [Int.toNat_natCast, en] at this; omega
        have e : nextRes L = [] := if_neg hno
        repeat (first | (refine step_ops ?_; (first | (refine m_mov (by conv => lhs; whnf) ?_) | (refine m_nils ?_))) | refine end_ops ?_ | refine seq_ops ?_ | refine AW_seq ?_)
        (refine step_ops ?_); (apply m_call (exGood_spec L hL)); (· repeat (first | exact lends_nil | (refine lends_cons ?_ ?_; (· (refine lend_ints ?_; first | rfl | omega)))))
        repeat (first | (refine step_ops ?_; (first | (refine m_mov (by conv => lhs; whnf) ?_) | (refine m_not rfl ?_))) | refine end_ops ?_ | refine seq_ops ?_ | (refine cond_f rfl ?_ ?_; (· first | rfl | assumption | (refine decide_eq_false ?_; first | assumption | omega) | (refine nf ?_; first | assumption | omega) | (simp [*]; done))) | refine skip_then ?_)
        (refine step_ops ?_); (apply m_call (exBefore_spec L h)); (· repeat (first | exact lends_nil | (refine lends_cons ?_ ?_; (· (refine lend_ints ?_; first | rfl | omega)))))
        repeat (first | (refine step_ops ?_; (refine m_mov (by conv => lhs; whnf) ?_)) | refine end_ops ?_ | refine seq_ops ?_ | refine AW_seq ?_)
        (refine step_ops ?_); (apply m_callo (exOwn_spec L hL)); (· repeat (first | exact lends_nil | (refine lends_cons ?_ ?_; (· (refine lend_ints ?_; first | rfl | omega))))); (· first | exact allv_ints _ | rfl | (simp; done))
        repeat (first | (refine step_ops ?_; (first | (refine m_mov (by conv => lhs; whnf) ?_) | (refine m_eql rfl rfl ?_) | (refine m_len_ro rfl ?_) | (refine m_len_sl rfl ?_))) | refine end_ops ?_ | refine seq_ops ?_ | (refine cond_f rfl ?_ ?_; (· first | rfl | assumption | (refine decide_eq_false ?_; first | assumption | omega) | (refine nf ?_; first | assumption | omega) | (simp [*]; done))) | refine skip_then ?_ | refine AW_seq ?_)
        (refine step_ops ?_); (apply m_call (exNone_spec L.length (by omega))); (· repeat (first | exact lends_nil | (refine lends_cons ?_ ?_; (· exact lend_v))))
        repeat (first | (refine step_ops ?_; (first | (refine m_mov (by conv => lhs; whnf) ?_) | (refine m_geq rfl rfl ?_) | (refine m_nils ?_))) | refine end_ops ?_ | refine seq_ops ?_ | (refine cond_t rfl ?_ ?_; (· first | rfl | assumption | (refine decide_eq_true ?_; first | assumption | omega) | (refine nt ?_; first | assumption | omega) | (simp [*]; done))) | refine AW_ret ?_ | refine ret_done ?_ | refine ret_then ?_)
        refine outs_tup2 (outs_ints rfl (by rw [e]; rfl) (by rw [e]; rfl)) (outs_b ?_)
        simp [hno]
      · have hno : NextOk L := ⟨h, ⟨by have := h.1; omega, by omega⟩, by rw [en]; exact hbl.1, by rw [Int.toNat_natCast, en]; omega⟩
        have e : nextRes L = rankG L.length (befR L) := by rw [nextRes, if_pos hno, en]
        repeat (first | (refine step_ops ?_; (first | (refine m_mov (by conv => lhs; whnf) ?_) | (refine m_nils ?_))) | refine end_ops ?_ | refine seq_ops ?_ | refine AW_seq ?_)
        (refine step_ops ?_); (apply m_call (exGood_spec L hL)); (· repeat (first | exact lends_nil | (refine lends_cons ?_ ?_; (· (refine lend_ints ?_; first | rfl | omega)))))
        repeat (first | (refine step_ops ?_; (first | (refine m_mov (by conv => lhs; whnf) ?_) | (refine m_not rfl ?_))) | refine end_ops ?_ | refine seq_ops ?_ | (refine cond_f rfl ?_ ?_; (· first | rfl | assumption | (refine decide_eq_false ?_; first | assumption | omega) | (refine nf ?_; first | assumption | omega) | (simp [*]; done))) | refine skip_then ?_)
        (refine step_ops ?_); (apply m_call (exBefore_spec L h)); (· repeat (first | exact lends_nil | (refine lends_cons ?_ ?_; (· (refine lend_ints ?_; first | rfl | omega)))))
        repeat (first | (refine step_ops ?_; (refine m_mov (by conv => lhs; whnf) ?_)) | refine end_ops ?_ | refine seq_ops ?_ | refine AW_seq ?_)
        (refine step_ops ?_); (apply m_callo (exOwn_spec L hL)); (· repeat (first | exact lends_nil | (refine lends_cons ?_ ?_; (· (refine lend_ints ?_; first | rfl | omega))))); (· first | exact allv_ints _ | rfl | (simp; done))
        repeat (first | (refine step_ops ?_; (first | (refine m_mov (by conv => lhs; whnf) ?_) | (refine m_eql rfl rfl ?_) | (refine m_len_ro rfl ?_) | (refine m_len_sl rfl ?_))) | refine end_ops ?_ | refine seq_ops ?_ | (refine cond_f rfl ?_ ?_; (· first | rfl | assumption | (refine decide_eq_false ?_; first | assumption | omega) | (refine nf ?_; first | assumption | omega) | (simp [*]; done))) | refine skip_then ?_ | refine AW_seq ?_)
        (refine step_ops ?_); (apply m_call (exNone_spec L.length (by omega))); (· repeat (first | exact lends_nil | (refine lends_cons ?_ ?_; (· exact lend_v))))
        repeat (first | (refine step_ops ?_; (first | (refine m_mov (by conv => lhs; whnf) ?_) | (refine m_geq rfl rfl ?_) | (refine m_len_ro rfl ?_))) | refine end_ops ?_ | refine seq_ops ?_ | (refine cond_f rfl ?_ ?_; (· first | rfl | assumption | (refine decide_eq_false ?_; first | assumption | omega) | (refine nf ?_; first | assumption | omega) | (simp [*]; done))) | refine skip_then ?_)
        (refine step_ops ?_); (apply m_callo (exRanked_spec L.length h12 (befR L) hbl.1 (by omega))); (· repeat (first | exact lends_nil | (refine lends_cons ?_ ?_; (· exact lend_v)))); (· first | exact allv_ints _ | rfl | (simp; done))
        repeat (first | (refine step_ops ?_; (refine m_mov (by conv => lhs; whnf) ?_)) | refine end_ops ?_ | refine AW_ret ?_ | refine ret_done ?_)
        refine outs_tup2 (outs_ints rfl (by rw [e]) (by rw [e])) (outs_b ?_)
        simp [hno]
    · have h1 : ((ownList L L.length).length : Int) = 0 := by
        have : ¬ (0 < (ownList L L.length).length) := fun h => hh (ho.1 h)
        omega
      have en : nextRank L = befR L + 1 := if_neg hh
      by_cases hr : noneN L.length ≤ befR L + 1
      · have hno : ¬ NextOk L := fun hn => by have := hn.2.2; rw [Int.toNat_natCast, en] at this; omega
        have e : nextRes L = [] := if_neg hno
        repeat (first | (refine step_ops ?_; (first | (refine m_mov (by conv => lhs; whnf) ?_) | (refine m_nils ?_))) | refine end_ops ?_ | refine seq_ops ?_ | refine AW_seq ?_)
        (refine step_ops ?_); (apply m_call (exGood_spec L hL)); (· repeat (first | exact lends_nil | (refine lends_cons ?_ ?_; (· (refine lend_ints ?_; first | rfl | omega)))))
        repeat (first | (refine step_ops ?_; (first | (refine m_mov (by conv => lhs; whnf) ?_) | (refine m_not rfl ?_))) | refine end_ops ?_ | refine seq_ops ?_ | (refine cond_f rfl ?_ ?_; (· first | rfl | assumption | (refine decide_eq_false ?_; first | assumption | omega) | (refine nf ?_; first | assumption | omega) | (simp [*]; done))) | refine skip_then ?_)
        (refine step_ops ?_); (apply m_call (exBefore_spec L h)); (· repeat (first | exact lends_nil | (refine lends_cons ?_ ?_; (· (refine lend_ints ?_; first | rfl | omega)))))
        repeat (first | (refine step_ops ?_; (refine m_mov (by conv => lhs; whnf) ?_)) | refine end_ops ?_ | refine seq_ops ?_ | refine AW_seq ?_)
        (refine step_ops ?_); (apply m_callo (exOwn_spec L hL)); (· repeat (first | exact lends_nil | (refine lends_cons ?_ ?_; (· (refine lend_ints ?_; first | rfl | omega))))); (· first | exact allv_ints _ | rfl | (simp; done))
        repeat (first | (refine step_ops ?_; (first | (refine m_mov (by conv => lhs; whnf) ?_) | (refine m_eql rfl rfl ?_) | (refine m_add rfl rfl ?_ ?_ ?_; (· omega); (· omega)) | (refine m_len_ro rfl ?_) | (refine m_len_sl rfl ?_))) | refine end_ops ?_ | refine seq_ops ?_ | refine AW_ops ?_ | (refine cond_t rfl ?_ ?_; (· first | rfl | assumption | (refine decide_eq_true ?_; first | assumption | omega) | (refine nt ?_; first | assumption | omega) | (simp [*]; done))) | refine AW_seq ?_ | refine norm_then ?_)
        (refine step_ops ?_); (apply m_call (exNone_spec L.length (by omega))); (· repeat (first | exact lends_nil | (refine lends_cons ?_ ?_; (· exact lend_v))))
        repeat (first | (refine step_ops ?_; (first | (refine m_mov (by conv => lhs; whnf) ?_) | (refine m_geq rfl rfl ?_) | (refine m_nils ?_))) | refine end_ops ?_ | refine seq_ops ?_ | (refine cond_t rfl ?_ ?_; (· first | rfl | assumption | (refine decide_eq_true ?_; first | assumption | omega) | (refine nt ?_; first | assumption | omega) | (simp [*]; done))) | refine AW_ret ?_ | refine ret_done ?_ | refine ret_then ?_)
        refine outs_tup2 (outs_ints rfl (by rw [e]; rfl) (by rw [e]; rfl)) (outs_b ?_)
        simp [hno]
      · have hno : NextOk L := ⟨h, ⟨by have := h.1; omega, by omega⟩, by rw [en]; omega, by rw [Int.toNat_natCast, en]; omega⟩
        have e : nextRes L = rankG L.length (befR L + 1) := by rw [nextRes, if_pos hno, en]
        repeat (first | (refine step_ops ?_; (first | (refine m_mov (by conv => lhs; whnf) ?_) | (refine m_nils ?_))) | refine end_ops ?_ | refine seq_ops ?_ | refine AW_seq ?_)
        (refine step_ops ?_); (apply m_call (exGood_spec L hL)); (· repeat (first | exact lends_nil | (refine lends_cons ?_ ?_; (· (refine lend_ints ?_; first | rfl | omega)))))
        repeat (first | (refine step_ops ?_; (first | (refine m_mov (by conv => lhs; whnf) ?_) | (refine m_not rfl ?_))) | refine end_ops ?_ | refine seq_ops ?_ | (refine cond_f rfl ?_ ?_; (· first | rfl | assumption | (refine decide_eq_false ?_; first | assumption | omega) | (refine nf ?_; first | assumption | omega) | (simp [*]; done))) | refine skip_then ?_)
        (refine step_ops ?_); (apply m_call (exBefore_spec L h)); (· repeat (first | exact lends_nil | (refine lends_cons ?_ ?_; (· (refine lend_ints ?_; first | rfl | omega)))))
        repeat (first | (refine step_ops ?_; (refine m_mov (by conv => lhs; whnf) ?_)) | refine end_ops ?_ | refine seq_ops ?_ | refine AW_seq ?_)
        (refine step_ops ?_); (apply m_callo (exOwn_spec L hL)); (· repeat (first | exact lends_nil | (refine lends_cons ?_ ?_; (· (refine lend_ints ?_; first | rfl | omega))))); (· first | exact allv_ints _ | rfl | (simp; done))
        repeat (first | (refine step_ops ?_; (first | (refine m_mov (by conv => lhs; whnf) ?_) | (refine m_eql rfl rfl ?_) | (refine m_add rfl rfl ?_ ?_ ?_; (· omega); (· omega)) | (refine m_len_ro rfl ?_) | (refine m_len_sl rfl ?_))) | refine end_ops ?_ | refine seq_ops ?_ | refine AW_ops ?_ | (refine cond_t rfl ?_ ?_; (· first | rfl | assumption | (refine decide_eq_true ?_; first | assumption | omega) | (refine nt ?_; first | assumption | omega) | (simp [*]; done))) | refine AW_seq ?_ | refine norm_then ?_)
        (refine step_ops ?_); (apply m_call (exNone_spec L.length (by omega))); (· repeat (first | exact lends_nil | (refine lends_cons ?_ ?_; (· exact lend_v))))
        repeat (first | (refine step_ops ?_; (first | (refine m_mov (by conv => lhs; whnf) ?_) | (refine m_geq rfl rfl ?_) | (refine m_len_ro rfl ?_))) | refine end_ops ?_ | refine seq_ops ?_ | (refine cond_f rfl ?_ ?_; (· first | rfl | assumption | (refine decide_eq_false ?_; first | assumption | omega) | (refine nf ?_; first | assumption | omega) | (simp [*]; done))) | refine skip_then ?_)
        (refine step_ops ?_); (apply m_callo (exRanked_spec L.length h12 (befR L + 1) (by omega) (by omega))); (· repeat (first | exact lends_nil | (refine lends_cons ?_ ?_; (· exact lend_v)))); (· first | exact allv_ints _ | rfl | (simp; done))
        repeat (first | (refine step_ops ?_; (refine m_mov (by conv => lhs; whnf) ?_)) | refine end_ops ?_ | refine AW_ret ?_ | refine ret_done ?_)
        refine outs_tup2 (outs_ints rfl (by rw [e]) (by rw [e])) (outs_b ?_)
        simp [hno]
  · have hno : ¬ NextOk L := fun hn => h hn.1
    have e : nextRes L = [] := if_neg hno
    repeat (first | (refine step_ops ?_; (first | (refine m_mov (by conv => lhs; whnf) ?_) | (refine m_nils ?_))) | refine end_ops ?_ | refine seq_ops ?_ | refine AW_seq ?_)
    (refine step_ops ?_); (apply m_call (exGood_spec L hL)); (· repeat (first | exact lends_nil | (refine lends_cons ?_ ?_; (· (refine lend_ints ?_; first | rfl | omega)))))
    repeat (first | (refine step_ops ?_; (first | (refine m_mov (by conv => lhs; whnf) ?_) | (refine m_not rfl ?_) | (refine m_nils ?_))) | refine end_ops ?_ | refine seq_ops ?_ | (refine cond_t rfl ?_ ?_; (· first | rfl | assumption | (refine decide_eq_true ?_; first | assumption | omega) | (refine nt ?_; first | assumption | omega) | (simp [*]; done))) | refine AW_ret ?_ | refine ret_done ?_ | refine ret_then ?_)
    refine outs_tup2 (outs_ints rfl (by rw [e]; rfl) (by rw [e]; rfl)) (outs_b ?_)
    simp [hno]

theorem implNextNone_spec (L : List Int) (hL : L.length ≤ 1048576) : Sp Try.prog 7 [ints L] (.tup [newInts (nextRes L), .b (decide (NextOk L))]) := by
  refine spec_of Try.func7 rfl cc7 rfl ?_
  unfold ac7
  by_cases h : IsEx L
  · have h12 := h.2.1
    have hbl := befR_le L h
    have e : ofRes L.length (nextRank L) = nextRes L := by
      by_cases hh : OfOk L.length (nextRank L)
      · rw [ofRes, nextRes, if_pos hh, if_pos ⟨h, hh⟩, Int.toNat_natCast]
      · rw [ofRes, nextRes, if_neg hh, if_neg fun hn => hh hn.2]
    have e2 : decide (OfOk L.length (nextRank L)) = decide (NextOk L) := decide_eq_decide.2 ⟨fun hh => ⟨h, hh⟩, fun hh => hh.2⟩
    by_cases hh : HasOwn L
    · have en : nextRank L = befR L := if_pos hh
      rw [en] at e e2
      repeat (first | (refine step_ops ?_; (first | (refine m_mov (by conv => lhs; whnf) ?_) | (refine m_nils ?_))) | refine end_ops ?_ | refine seq_ops ?_ | refine AW_seq ?_)
      (refine step_ops ?_); (apply m_call (implIsExchange_spec L hL)); (· repeat (first | exact lends_nil | (refine lends_cons ?_ ?_; (· (refine lend_ints ?_; first | rfl | omega)))))
      repeat (first | (refine step_ops ?_; (first | (refine m_mov (by conv => lhs; whnf) ?_) | (refine m_not rfl ?_))) | refine end_ops ?_ | refine seq_ops ?_ | (refine cond_f rfl ?_ ?_; (· first | rfl | assumption | (refine decide_eq_false ?_; first | assumption | omega) | (refine nf ?_; first | assumption | omega) | (simp [*]; done))) | refine skip_then ?_)
      (refine step_ops ?_); (apply m_call (noneBefore_spec L h)); (· repeat (first | exact lends_nil | (refine lends_cons ?_ ?_; (· (refine lend_ints ?_; first | rfl | omega)))))
      repeat (first | (refine step_ops ?_; (refine m_mov (by conv => lhs; whnf) ?_)) | refine end_ops ?_ | refine seq_ops ?_ | refine AW_seq ?_)
      (refine step_ops ?_); (apply m_call (hasOwn_spec L hL)); (· repeat (first | exact lends_nil | (refine lends_cons ?_ ?_; (· (refine lend_ints ?_; first | rfl | omega)))))
      repeat (first | (refine step_ops ?_; (first | (refine m_mov (by conv => lhs; whnf) ?_) | (refine m_not rfl ?_) | (refine m_len_ro rfl ?_))) | refine end_ops ?_ | refine seq_ops ?_ | (refine cond_f rfl ?_ ?_; (· first | rfl | assumption | (refine decide_eq_false ?_; first | assumption | omega) | (refine nf ?_; first | assumption | omega) | (simp [*]; done))) | refine skip_then ?_)
      (refine step_ops ?_); (apply m_callt (implNoneOfRank_spec L.length (befR L))); (· repeat (first | exact lends_nil | (refine lends_cons ?_ ?_; (· exact lend_v)))); (· first | exact allv_ints _ | rfl | (simp; done)); (· first | rfl | (simp; done))
      repeat (first | (refine step_ops ?_; (first | (refine m_mov (by conv => lhs; whnf) ?_) | (refine m_ext rfl rfl ?_))) | refine end_ops ?_ | refine AW_ret ?_ | refine ret_done ?_)
      refine outs_tup2 (outs_ints rfl (by rw [e]) (by rw [e])) (outs_b e2)
    · have en : nextRank L = befR L + 1 := if_neg hh
      rw [en] at e e2
      repeat (first | (refine step_ops ?_; (first | (refine m_mov (by conv => lhs; whnf) ?_) | (refine m_nils ?_))) | refine end_ops ?_ | refine seq_ops ?_ | refine AW_seq ?_)
      (refine step_ops ?_); (apply m_call (implIsExchange_spec L hL)); (· repeat (first | exact lends_nil | (refine lends_cons ?_ ?_; (· (refine lend_ints ?_; first | rfl | omega)))))
      repeat (first | (refine step_ops ?_; (first | (refine m_mov (by conv => lhs; whnf) ?_) | (refine m_not rfl ?_))) | refine end_ops ?_ | refine seq_ops ?_ | (refine cond_f rfl ?_ ?_; (· first | rfl | assumption | (refine decide_eq_false ?_; first | assumption | omega) | (refine nf ?_; first | assumption | omega) | (simp [*]; done))) | refine skip_then ?_)
      (refine step_ops ?_); (apply m_call (noneBefore_spec L h)); (· repeat (first | exact lends_nil | (refine lends_cons ?_ ?_; (· (refine lend_ints ?_; first | rfl | omega)))))
      repeat (first | (refine step_ops ?_; (refine m_mov (by conv => lhs; whnf) ?_)) | refine end_ops ?_ | refine seq_ops ?_ | refine AW_seq ?_)
      (refine step_ops ?_); (apply m_call (hasOwn_spec L hL)); (· repeat (first | exact lends_nil | (refine lends_cons ?_ ?_; (· (refine lend_ints ?_; first | rfl | omega)))))
      repeat (first | (refine step_ops ?_; (first | (refine m_mov (by conv => lhs; whnf) ?_) | (refine m_add rfl rfl ?_ ?_ ?_; (· omega); (· omega)) | (refine m_not rfl ?_) | (refine m_len_ro rfl ?_))) | refine end_ops ?_ | refine seq_ops ?_ | refine AW_ops ?_ | (refine cond_t rfl ?_ ?_; (· first | rfl | assumption | (refine decide_eq_true ?_; first | assumption | omega) | (refine nt ?_; first | assumption | omega) | (simp [*]; done))) | refine norm_then ?_)
      (refine step_ops ?_); (apply m_callt (implNoneOfRank_spec L.length (befR L + 1))); (· repeat (first | exact lends_nil | (refine lends_cons ?_ ?_; (· exact lend_v)))); (· first | exact allv_ints _ | rfl | (simp; done)); (· first | rfl | (simp; done))
      repeat (first | (refine step_ops ?_; (first | (refine m_mov (by conv => lhs; whnf) ?_) | (refine m_ext rfl rfl ?_))) | refine end_ops ?_ | refine AW_ret ?_ | refine ret_done ?_)
      refine outs_tup2 (outs_ints rfl (by rw [e]) (by rw [e])) (outs_b e2)
  · have hno : ¬ NextOk L := fun hn => h hn.1
    have e : nextRes L = [] := if_neg hno
    repeat (first | (refine step_ops ?_; (first | (refine m_mov (by conv => lhs; whnf) ?_) | (refine m_nils ?_))) | refine end_ops ?_ | refine seq_ops ?_ | refine AW_seq ?_)
    (refine step_ops ?_); (apply m_call (implIsExchange_spec L hL)); (· repeat (first | exact lends_nil | (refine lends_cons ?_ ?_; (· (refine lend_ints ?_; first | rfl | omega)))))
    repeat (first | (refine step_ops ?_; (first | (refine m_mov (by conv => lhs; whnf) ?_) | (refine m_not rfl ?_) | (refine m_nils ?_))) | refine end_ops ?_ | refine seq_ops ?_ | (refine cond_t rfl ?_ ?_; (· first | rfl | assumption | (refine decide_eq_true ?_; first | assumption | omega) | (refine nt ?_; first | assumption | omega) | (simp [*]; done))) | refine AW_ret ?_ | refine ret_done ?_ | refine ret_then ?_)
    refine outs_tup2 (outs_ints rfl (by rw [e]; rfl) (by rw [e]; rfl)) (outs_b ?_)
    simp [hno]

theorem specFirstNone_spec (n : Int) : Sp Try.prog 19 [.i n] (.tup [newInts (ofRes n 0), .b (decide (OfOk n 0))]) := by
  refine spec_of Try.func19 rfl cc19 rfl ?_
  unfold ac19
  by_cases h : 1 ≤ n ∧ n ≤ 12
  · obtain ⟨g, hg⟩ := Int.eq_ofNat_of_zero_le (show 0 ≤ n by omega)
    subst hg
    have hb := noneN_le g (by omega)
    by_cases h2 : noneN g = 0
    · have hok : ¬ OfOk g 0 := fun hh => by have := hh.2.2; rw [Int.toNat_natCast] at this; omega
      have e : ofRes g 0 = [] := if_neg hok
      repeat (first | (refine step_ops ?_; (first | (refine m_mov (by conv => lhs; whnf) ?_) | (refine m_nils ?_))) | refine end_ops ?_ | refine seq_ops ?_ | refine AW_seq ?_)
      (refine step_ops ?_); (apply m_call (exGuests_spec g)); (· repeat (first | exact lends_nil | (refine lends_cons ?_ ?_; (· exact lend_v))))
      repeat (refine step_ops ?_; ((try (refine g_yes rfl ?_ ?_; (· first | rfl | assumption | (refine decide_eq_true ?_; first | assumption | omega) | (refine nt ?_; first | assumption | omega) | (simp [*]; done) | (refine decide_eq_false ?_; first | assumption | omega) | (refine nf ?_; first | assumption | omega)))); (first | (refine m_mov (by conv => lhs; whnf) ?_) | (refine m_not rfl ?_))))
      (refine step_ops ?_); (refine g_yes rfl ?_ ?_; (· first | (first | rfl | assumption | (refine decide_eq_true ?_; first | assumption | omega) | (refine nt ?_; first | assumption | omega) | (simp [*]; done)) | (first | rfl | assumption | (refine decide_eq_false ?_; first | assumption | omega) | (refine nf ?_; first | assumption | omega) | (simp [*]; done))); (apply m_call (exNone_spec g (by omega)))); (· repeat (first | exact lends_nil | (refine lends_cons ?_ ?_; (· exact lend_v))))
      repeat (first | (refine step_ops ?_; ((try (refine g_yes rfl ?_ ?_; (· first | rfl | assumption | (refine decide_eq_true ?_; first | assumption | omega) | (refine nt ?_; first | assumption | omega) | (simp [*]; done) | (refine decide_eq_false ?_; first | assumption | omega) | (refine nf ?_; first | assumption | omega)))); (first | (refine m_mov (by conv => lhs; whnf) ?_) | (refine m_eql rfl rfl ?_) | (refine m_pick_f rfl ?_ (by conv => lhs; whnf) ?_; (· first | rfl | assumption | (refine decide_eq_false ?_; first | assumption | omega) | (refine nf ?_; first | assumption | omega) | (simp [*]; done))) | (refine m_nils ?_)))) | refine end_ops ?_ | refine seq_ops ?_ | (refine cond_t rfl ?_ ?_; (· first | rfl | assumption | (refine decide_eq_true ?_; first | assumption | omega) | (refine nt ?_; first | assumption | omega) | (simp [*]; done))) | refine AW_ret ?_ | refine ret_done ?_ | refine ret_then ?_)
      refine outs_tup2 (outs_ints rfl (by rw [e]; rfl) (by rw [e]; rfl)) (outs_b ?_)
      simp [hok]
    · have hok : OfOk g 0 := ⟨h, by omega, by rw [Int.toNat_natCast]; omega⟩
      have e : ofRes g 0 = rankG g 0 := by rw [ofRes, if_pos hok, Int.toNat_natCast]
      repeat (first | (refine step_ops ?_; (first | (refine m_mov (by conv => lhs; whnf) ?_) | (refine m_nils ?_))) | refine end_ops ?_ | refine seq_ops ?_ | refine AW_seq ?_)
      (refine step_ops ?_); (apply m_call (exGuests_spec g)); (· repeat (first | exact lends_nil | (refine lends_cons ?_ ?_; (· exact lend_v))))
      repeat (refine step_ops ?_; ((try (refine g_yes rfl ?_ ?_; (· first | rfl | assumption | (refine decide_eq_true ?_; first | assumption | omega) | (refine nt ?_; first | assumption | omega) | (simp [*]; done) | (refine decide_eq_false ?_; first | assumption | omega) | (refine nf ?_; first | assumption | omega)))); (first | (refine m_mov (by conv => lhs; whnf) ?_) | (refine m_not rfl ?_))))
      (refine step_ops ?_); (refine g_yes rfl ?_ ?_; (· first | (first | rfl | assumption | (refine decide_eq_true ?_; first | assumption | omega) | (refine nt ?_; first | assumption | omega) | (simp [*]; done)) | (first | rfl | assumption | (refine decide_eq_false ?_; first | assumption | omega) | (refine nf ?_; first | assumption | omega) | (simp [*]; done))); (apply m_call (exNone_spec g (by omega)))); (· repeat (first | exact lends_nil | (refine lends_cons ?_ ?_; (· exact lend_v))))
      repeat (first | (refine step_ops ?_; ((try (refine g_yes rfl ?_ ?_; (· first | rfl | assumption | (refine decide_eq_true ?_; first | assumption | omega) | (refine nt ?_; first | assumption | omega) | (simp [*]; done) | (refine decide_eq_false ?_; first | assumption | omega) | (refine nf ?_; first | assumption | omega)))); (first | (refine m_mov (by conv => lhs; whnf) ?_) | (refine m_eql rfl rfl ?_) | (refine m_pick_f rfl ?_ (by conv => lhs; whnf) ?_; (· first | rfl | assumption | (refine decide_eq_false ?_; first | assumption | omega) | (refine nf ?_; first | assumption | omega) | (simp [*]; done)))))) | refine end_ops ?_ | refine seq_ops ?_ | (refine cond_f rfl ?_ ?_; (· first | rfl | assumption | (refine decide_eq_false ?_; first | assumption | omega) | (refine nf ?_; first | assumption | omega) | (simp [*]; done))) | refine skip_then ?_)
      (refine step_ops ?_); (apply m_callo (exRanked_spec g (by omega) 0 (by omega) (by omega))); (· repeat (first | exact lends_nil | (refine lends_cons ?_ ?_; (· exact lend_v)))); (· first | exact allv_ints _ | rfl | (simp; done))
      repeat (first | (refine step_ops ?_; (refine m_mov (by conv => lhs; whnf) ?_)) | refine end_ops ?_ | refine AW_ret ?_ | refine ret_done ?_)
      refine outs_tup2 (outs_ints rfl (by rw [e]) (by rw [e])) (outs_b ?_)
      simp [hok]
  · have hok : ¬ OfOk n 0 := fun hh => h hh.1
    have e : ofRes n 0 = [] := if_neg hok
    repeat (first | (refine step_ops ?_; (first | (refine m_mov (by conv => lhs; whnf) ?_) | (refine m_nils ?_))) | refine end_ops ?_ | refine seq_ops ?_ | refine AW_seq ?_)
    (refine step_ops ?_); (apply m_call (exGuests_spec n)); (· repeat (first | exact lends_nil | (refine lends_cons ?_ ?_; (· exact lend_v))))
    repeat (first | (refine step_ops ?_; (first | (first | (refine m_mov (by conv => lhs; whnf) ?_) | (refine m_not rfl ?_) | (refine m_pick_t rfl ?_ (by conv => lhs; whnf) ?_; (· first | rfl | assumption | (refine decide_eq_true ?_; first | assumption | omega) | (refine nt ?_; first | assumption | omega) | (simp [*]; done))) | (refine m_nils ?_)) | (refine g_noF rfl ?_ ?_; (· first | rfl | assumption | (refine decide_eq_true ?_; first | assumption | omega) | (refine nt ?_; first | assumption | omega) | (simp [*]; done))))) | refine end_ops ?_ | refine seq_ops ?_ | (refine cond_t rfl ?_ ?_; (· first | rfl | assumption | (refine decide_eq_true ?_; first | assumption | omega) | (refine nt ?_; first | assumption | omega) | (simp [*]; done))) | refine AW_ret ?_ | refine ret_done ?_ | refine ret_then ?_)
    refine outs_tup2 (outs_ints rfl (by rw [e]; rfl) (by rw [e]; rfl)) (outs_b ?_)
    simp [hok]

theorem implFirstNone_spec (n : Int) : Sp Try.prog 18 [.i n] (.tup [newInts (ofRes n 0), .b (decide (OfOk n 0))]) := by
  refine spec_of Try.func18 rfl cc18 rfl ?_
  unfold ac18
  repeat (first | (refine step_ops ?_; (first | (refine m_mov (by conv => lhs; whnf) ?_) | (refine m_nils ?_))) | refine end_ops ?_ | refine seq_ops ?_)
  (refine step_ops ?_); (apply m_callt (implNoneOfRank_spec n 0)); (· repeat (first | exact lends_nil | (refine lends_cons ?_ ?_; (· exact lend_v)))); (· first | exact allv_ints _ | rfl | (simp; done)); (· first | rfl | (simp; done))
  repeat (first | (refine step_ops ?_; (first | (refine m_mov (by conv => lhs; whnf) ?_) | (refine m_ext rfl rfl ?_))) | refine end_ops ?_ | refine AW_ret ?_ | refine ret_done ?_)
  exact outs_tup2 (outs_ints rfl rfl rfl) (outs_b rfl)
end Go.Proofs.Ytgjlaajkakecpaa
