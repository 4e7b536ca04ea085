/- The last parts of the law FnNoneRankedOfAll: an exchange of a rank; the first one; counts by own coats. -/
import Derived.Test.YtgjlaajkakecpaaSpNr
namespace Go.Am
theorem g_un {P : Program} {own : Bool} {s : AS} {K : AS → Prop} {d : Option Nat} {op : AOp} {t : Nat} {w : Bool} (h : s.tm t = .v undef) (k : K (s.put d (.v undef))) : aop1 P own ⟨d, op, some (t, w)⟩ s K := .inr ⟨h, k⟩
end Go.Am
namespace Go.Proofs.Ytgjlaajkakecpaa
open Go.Am
attribute [local irreducible] AW Outs Weak Lends Lend Sp aops atree aop1 Then Round InBlock Done
attribute [local irreducible] SpM DoneM
/-- The second part of a code, the first one, and what is done of two. -/
def sndC : ACode → ACode
  | .seq _ y => y
  | c => c
def fstC : ACode → ACode
  | .seq x _ => x
  | c => c
def sndN : Nat → ACode → ACode
  | 0, c => c
  | n + 1, c => sndN n (sndC c)
theorem xor_self (b : Bool) : (true ^^ (b == b)) = false := by cases b <;> rfl
def nrF : ACode := sndN 22 ac4
def nrE : ACode := sndN 21 ac4
def nrD : ACode := sndN 20 ac4
theorem nr6 (m p : Int) : AW Try.prog (min Try.f4.ntmps pbase) nrF (st [(5, .i p), (47, newInts (ofRes m p)), (48, .b (decide (OfOk m p)))] []) (Done [12].reverse (.b true)) := by
  by_cases h : OfOk m p
  · obtain ⟨h1, h2, h3⟩ := ofRes_ok h
    have hc := implRankOfNone_spec (ofRes m p) (by have := h.1; omega)
    unfold rankR at hc
    rw [if_pos h2, decide_eq_true h2, h3] at hc
    rw [decide_eq_true h]
    generalize ofRes m p = R at *
    unfold nrF
    unfold ac4
    simp only [sndN, sndC]
    repeat (first | (refine step_ops ?_; (refine m_mov (by conv => lhs; whnf) ?_)) | refine end_ops ?_ | refine seq_ops ?_ | (refine cond_t rfl ?_ ?_; (· first | rfl | assumption | (refine decide_eq_true ?_; first | assumption | omega) | (refine nt ?_; first | assumption | omega) | (simp [*]; done))) | refine AW_seq ?_)
    refine step_ops ?_; (apply m_call (hc)); (· repeat (first | exact lends_nil | (refine lends_cons ?_ ?_; (· (refine lend_ints ?_; first | rfl | omega)))))
    repeat (first | (refine step_ops ?_; ((try (refine g_yes rfl ?_ ?_; (· first | rfl | assumption | (refine decide_eq_true ?_; first | assumption | omega) | (refine nt ?_; first | assumption | omega) | (simp [*]; done) | (refine decide_eq_false ?_; first | assumption | omega) | (refine nf ?_; first | assumption | omega)))); (first | (refine m_mov (by conv => lhs; whnf) ?_) | (refine m_eql rfl rfl ?_) | (refine m_pick_t rfl ?_ (by conv => lhs; whnf) ?_; (· first | rfl | assumption | (refine decide_eq_true ?_; first | assumption | omega) | (refine nt ?_; first | assumption | omega) | (simp [*]; done))) | (refine m_ext rfl rfl ?_)))) | refine end_ops ?_ | refine seq_ops ?_ | refine AW_ret ?_ | refine ret_done ?_ | refine ret_then ?_)
    exact outs_b (by simp)
  · rw [decide_eq_false h]
    unfold nrF
    unfold ac4
    simp only [sndN, sndC]
    repeat (first | (refine step_ops ?_; (refine m_mov (by conv => lhs; whnf) ?_)) | refine end_ops ?_ | refine seq_ops ?_ | (refine cond_f rfl ?_ ?_; (· first | rfl | assumption | (refine decide_eq_false ?_; first | assumption | omega) | (refine nf ?_; first | assumption | omega) | (simp [*]; done))) | refine skip_then ?_ | refine AW_seq ?_ | refine AW_ret ?_ | refine ret_done ?_)
    exact outs_b rfl
theorem nr5 (g m p : Int) : AW Try.prog (min Try.f4.ntmps pbase) nrE (st [(29, newInts (ofRes g 0)), (30, .b (decide (OfOk g 0))), (5, .i p), (47, newInts (ofRes m p)), (48, .b (decide (OfOk m p)))] []) (Done [12].reverse (.b true)) := by
  have h6 := nr6 m p
  have hp : nrE = .seq (fstC nrE) nrF := rfl
  rw [hp]
  clear hp
  generalize nrF = c6 at *
  by_cases h : OfOk g 0
  · obtain ⟨h1, h2, h3⟩ := ofRes_ok h
    have hc := implRankOfNone_spec (ofRes g 0) (by have := h.1; omega)
    unfold rankR at hc
    rw [if_pos h2, decide_eq_true h2, h3] at hc
    rw [decide_eq_true h]
    generalize ofRes g 0 = R at *
    unfold nrE
    unfold ac4
    simp only [sndN, sndC, fstC]
    repeat (first | (refine step_ops ?_; (refine m_mov (by conv => lhs; whnf) ?_)) | refine end_ops ?_ | refine seq_ops ?_ | (refine cond_t rfl ?_ ?_; (· first | rfl | assumption | (refine decide_eq_true ?_; first | assumption | omega) | (refine nt ?_; first | assumption | omega) | (simp [*]; done))) | refine AW_seq ?_)
    refine step_ops ?_; (apply m_call (hc)); (· repeat (first | exact lends_nil | (refine lends_cons ?_ ?_; (· (refine lend_ints ?_; first | rfl | omega)))))
    repeat (first | (refine step_ops ?_; ((try (refine g_yes rfl ?_ ?_; (· first | rfl | assumption | (refine decide_eq_true ?_; first | assumption | omega) | (refine nt ?_; first | assumption | omega) | (simp [*]; done) | (refine decide_eq_false ?_; first | assumption | omega) | (refine nf ?_; first | assumption | omega)))); (first | (refine m_mov (by conv => lhs; whnf) ?_) | (refine m_neq rfl rfl ?_) | (refine m_not rfl ?_) | (refine m_pick_f rfl ?_ (by conv => lhs; whnf) ?_; (· first | rfl | assumption | (refine decide_eq_false ?_; first | assumption | omega) | (refine nf ?_; first | assumption | omega) | (simp [*]; done))) | (refine m_ext rfl rfl ?_)))) | refine end_ops ?_ | refine seq_ops ?_ | (refine cond_f rfl ?_ ?_; (· first | rfl | assumption | (refine decide_eq_false ?_; first | assumption | omega) | (refine nf ?_; first | assumption | omega) | (simp [*]; done))) | refine skip_then ?_)
    refine AW_weak (weak_st ?_ ?_ rfl rfl) h6
    · (repeat' (first | exact trivial | refine And.intro ?_ ?_)) <;> (first | rfl | skip)
    · trivial
  · rw [decide_eq_false h]
    unfold nrE
    unfold ac4
    simp only [sndN, sndC, fstC]
    repeat (first | (refine step_ops ?_; (refine m_mov (by conv => lhs; whnf) ?_)) | refine end_ops ?_ | refine seq_ops ?_ | (refine cond_f rfl ?_ ?_; (· first | rfl | assumption | (refine decide_eq_false ?_; first | assumption | omega) | (refine nf ?_; first | assumption | omega) | (simp [*]; done))) | refine skip_then ?_ | refine AW_seq ?_)
    refine AW_weak (weak_st ?_ ?_ rfl rfl) h6
    · (repeat' (first | exact trivial | refine And.intro ?_ ?_)) <;> (first | rfl | skip)
    · trivial
theorem nr4 (g m p : Int) : AW Try.prog (min Try.f4.ntmps pbase) nrD (st [(1, .i g), (33, .i (countNoneR g)), (34, .b (decide (1 ≤ g ∧ g ≤ 12))), (37, .i ((chnR g).1 : Nat)), (38, .i ((chnR g).2 : Nat)), (29, newInts (ofRes g 0)), (30, .b (decide (OfOk g 0))), (5, .i p), (47, newInts (ofRes m p)), (48, .b (decide (OfOk m p)))] []) (Done [12].reverse (.b true)) := by
  have h5 := nr5 g m p
  have hp : nrD = .seq (fstC nrD) nrE := rfl
  rw [hp]
  clear hp
  generalize nrE = c5 at *
  by_cases h : 1 ≤ g ∧ g ≤ 12
  · obtain ⟨G, rfl⟩ := Int.eq_ofNat_of_zero_le (show 0 ≤ g by omega)
    have e1 : countNoneR ((G : Nat) : Int) = noneN G := by rw [countNoneR, if_pos h, Int.toNat_natCast]
    have e2 : chnR ((G : Nat) : Int) = low (noneN G).toNat (fac G).toNat := by rw [chnR, if_pos h, Int.toNat_natCast]
    have ha := own_all G (by omega) (by omega)
    have hs := own_sums G (by omega)
    have ht := oTimes_spec G (by omega)
    have hf := fac_le G (by omega)
    rw [decide_eq_true h, e1, e2]
    generalize low (noneN G).toNat (fac G).toNat = P at *
    generalize ofRes ((G : Nat) : Int) 0 = R1 at *
    generalize decide (OfOk ((G : Nat) : Int) 0) = B1 at *
    generalize ofRes m p = R2 at *
    generalize decide (OfOk m p) = B2 at *
    unfold nrD
    unfold ac4
    simp only [sndN, sndC, fstC]
    repeat (first | (refine step_ops ?_; (refine m_mov (by conv => lhs; whnf) ?_)) | refine end_ops ?_ | refine seq_ops ?_ | (refine cond_t rfl ?_ ?_; (· first | rfl | assumption | (refine decide_eq_true ?_; first | assumption | omega) | (refine nt ?_; first | assumption | omega) | (simp [*]; done))) | refine AW_seq ?_ | refine AW_block ?_)
    refine AW_loop (α := Nat) (fun k => k ≤ G + 1) (fun k => st [(1, .i (G : Nat)), (33, .i (noneN G)), (37, .i (P.1 : Nat)), (38, .i (P.2 : Nat)), (51, .i (ownS G k)), (52, .i (ownW G k)), (53, .i (k : Nat)), (29, newInts R1), (30, .b B1), (5, .i p), (47, newInts R2), (48, .b B2)] []) (fun k => G + 1 - k) 0 (Nat.zero_le _) (weak_st ?_ ?_ rfl rfl) ?_
    · (repeat' (first | exact trivial | refine And.intro ?_ ?_)) <;> (first | rfl | skip)
    · trivial
    intro k hk
    by_cases hc : k < G + 1
    · obtain ⟨o1, o2⟩ := countOwn_at (G := G) (k := k) (by omega) (by omega) (by omega)
      have hco := implCountOwn_spec (G : Nat) (k : Nat)
      rw [o2, decide_eq_true o1] at hco
      have b1 := hs k (by omega)
      have b2 := hs (k + 1) (by omega)
      have b3 : ownS G (k + 1) = ownS G k + ownV2 G k := rfl
      have b4 : ownW G (k + 1) = ownW G k + (k : Int) * ownV2 G k := rfl
      have hz : k = 0 → ownV2 G k = noneN G := fun e => by rw [e]; exact ha.2.2.1
      generalize ownV2 G k = v at *
      by_cases hk0 : k = 0
      · have hv := hz hk0
        subst hv
        subst hk0
        repeat (first | (refine step_ops ?_; (first | (refine m_mov (by conv => lhs; whnf) ?_) | (refine m_leq rfl rfl ?_))) | refine end_ops ?_ | refine seq_ops ?_ | (refine cond_t rfl ?_ ?_; (· first | rfl | assumption | (refine decide_eq_true ?_; first | assumption | omega) | (refine nt ?_; first | assumption | omega) | (simp [*]; done))) | refine skip_then ?_ | refine AW_seq ?_ | refine AW_block ?_)
        refine step_ops ?_; (apply m_call (hco)); (· repeat (first | exact lends_nil | (refine lends_cons ?_ ?_; (· exact lend_v))))
        repeat (first | (refine step_ops ?_; ((try (refine g_yes rfl ?_ ?_; (· first | rfl | assumption | (refine decide_eq_true ?_; first | assumption | omega) | (refine nt ?_; first | assumption | omega) | (simp [*]; done) | (refine decide_eq_false ?_; first | assumption | omega) | (refine nf ?_; first | assumption | omega)))); (first | (refine m_mov (by conv => lhs; whnf) ?_) | (refine m_eql rfl rfl ?_) | (refine m_neq rfl rfl ?_) | (refine m_add rfl rfl ?_ ?_ ?_; (· omega); (· omega)) | (refine m_mul rfl rfl ?_ ?_ ?_; (· first | omega | (simp; done)); (· first | omega | (simp; done))) | (refine m_not rfl ?_) | (refine m_pick_t rfl ?_ (by conv => lhs; whnf) ?_; (· first | rfl | assumption | (refine decide_eq_true ?_; first | assumption | omega) | (refine nt ?_; first | assumption | omega) | (simp [*]; done))) | (refine m_pick_f rfl ?_ (by conv => lhs; whnf) ?_; (· first | rfl | assumption | (refine decide_eq_false ?_; first | assumption | omega) | (refine nf ?_; first | assumption | omega) | (simp [*]; done))) | (refine m_ext rfl rfl ?_)))) | refine end_ops ?_ | refine seq_ops ?_ | refine AW_ops ?_ | (refine cond_f rfl ?_ ?_; (· first | rfl | assumption | (refine decide_eq_false ?_; first | assumption | omega) | (refine nf ?_; first | assumption | omega) | (simp [*]; done))) | refine skip_then ?_ | refine AW_seq ?_ | refine norm_then ?_ | refine norm_block ?_)
        refine next_round (0 + 1) (by omega) (weak_st ?_ ?_ rfl rfl) (by omega)
        · rw [b3, b4]; (repeat' (first | exact trivial | refine And.intro ?_ ?_)) <;> (first | rfl | skip)
        · trivial
      · repeat (first | (refine step_ops ?_; (first | (refine m_mov (by conv => lhs; whnf) ?_) | (refine m_leq rfl rfl ?_))) | refine end_ops ?_ | refine seq_ops ?_ | (refine cond_t rfl ?_ ?_; (· first | rfl | assumption | (refine decide_eq_true ?_; first | assumption | omega) | (refine nt ?_; first | assumption | omega) | (simp [*]; done))) | refine skip_then ?_ | refine AW_seq ?_ | refine AW_block ?_)
        refine step_ops ?_; (apply m_call (hco)); (· repeat (first | exact lends_nil | (refine lends_cons ?_ ?_; (· exact lend_v))))
        repeat (first | ((first | (refine step_ops ?_; (first | ((try (refine g_yes rfl ?_ ?_; (· first | rfl | assumption | (refine decide_eq_true ?_; first | assumption | omega) | (refine nt ?_; first | assumption | omega) | (simp [*]; done) | (refine decide_eq_false ?_; first | assumption | omega) | (refine nf ?_; first | assumption | omega)))); (first | (refine m_mov (by conv => lhs; whnf) ?_) | (refine m_eql rfl rfl ?_) | (refine m_add rfl rfl ?_ ?_ ?_; (· omega); (· omega)) | (refine m_mul rfl rfl ?_ ?_ ?_; (· first | omega | (simp; done)); (· first | omega | (simp; done))) | (refine m_not rfl ?_) | (refine m_pick_f rfl ?_ (by conv => lhs; whnf) ?_; (· first | rfl | assumption | (refine decide_eq_false ?_; first | assumption | omega) | (refine nf ?_; first | assumption | omega) | (simp [*]; done))) | (refine m_ext rfl rfl ?_))) | (refine g_noT rfl ?_ ?_; (· first | rfl | assumption | (refine decide_eq_false ?_; first | assumption | omega) | (refine nf ?_; first | assumption | omega) | (simp [*]; done))))) | refine end_ops ?_ | refine seq_ops ?_ | refine AW_ops ?_ | (refine cond_f rfl ?_ ?_; (· first | rfl | assumption | (refine decide_eq_false ?_; first | assumption | omega) | (refine nf ?_; first | assumption | omega) | (simp [*]; done))) | refine skip_then ?_ | refine AW_seq ?_ | refine norm_then ?_ | refine norm_block ?_)) | (refine step_ops ?_; refine g_un rfl ?_))
        refine next_round (k + 1) (by omega) (weak_st ?_ ?_ rfl rfl) (by omega)
        · rw [b3, b4]; (repeat' (first | exact trivial | refine And.intro ?_ ?_)) <;> (first | rfl | skip)
        · trivial
    · obtain rfl : k = G + 1 := by omega
      rw [ha.1, ha.2.1]
      have hx := ha.2.2.2.2.1
      have q1 : 0 ≤ noneN G * ((P.2 : Nat) : Int) := Int.mul_nonneg ha.2.2.2.1.1 (by omega)
      have q2 : noneN G * ((P.2 : Nat) : Int) ≤ 479001600 * 479001600 := Int.mul_le_mul ha.2.2.2.1.2 (by omega) (by omega) (by omega)
      generalize noneN G = v at *
      generalize hF : fac G = F at *
      have q3 : 0 ≤ ((P.1 : Nat) : Int) * F := by rw [← hx]; exact q1
      have q4 : ((P.1 : Nat) : Int) * F ≤ 479001600 * 479001600 := by rw [← hx]; exact q2
      repeat (first | (refine step_ops ?_; (first | (refine m_mov (by conv => lhs; whnf) ?_) | (refine m_leq rfl rfl ?_))) | refine end_ops ?_ | refine seq_ops ?_ | (refine cond_f rfl ?_ ?_; (· first | rfl | assumption | (refine decide_eq_false ?_; first | assumption | omega) | (refine nf ?_; first | assumption | omega) | (simp [*]; done))) | refine AW_seq ?_ | refine norm_then ?_ | refine exit_then ?_ | refine exit_round ?_ | refine AW_exit ?_ | refine exit_block ?_)
      refine step_ops ?_; (apply m_call (ht)); (· repeat (first | exact lends_nil | (refine lends_cons ?_ ?_; (· exact lend_v))))
      repeat (first | (refine step_ops ?_; ((try (refine g_yes rfl ?_ ?_; (· first | rfl | assumption | (refine decide_eq_true ?_; first | assumption | omega) | (refine nt ?_; first | assumption | omega) | (simp [*]; done) | (refine decide_eq_false ?_; first | assumption | omega) | (refine nf ?_; first | assumption | omega)))); (first | (refine m_mov (by conv => lhs; whnf) ?_) | (refine m_neq rfl rfl ?_) | (refine m_mul rfl rfl ?_ ?_ ?_; (· first | omega | (simp; done)); (· first | omega | (simp; done))) | (refine m_pick_f rfl ?_ (by conv => lhs; whnf) ?_; (· first | rfl | assumption | (refine decide_eq_false ?_; first | assumption | omega) | (refine nf ?_; first | assumption | omega) | (simp [*]; done)))))) | refine end_ops ?_ | (refine cond_f rfl ?_ ?_; (· first | rfl | assumption | (refine decide_eq_false ?_; first | assumption | omega) | (refine nf ?_; first | assumption | omega) | (simp [*]; done))) | refine skip_then ?_)
      refine AW_weak (weak_st ?_ ?_ rfl rfl) h5
      · (repeat' (first | exact trivial | refine And.intro ?_ ?_)) <;> (first | rfl | skip)
      · trivial
  · rw [decide_eq_false h]
    unfold nrD
    unfold ac4
    simp only [sndN, sndC, fstC]
    repeat (first | (refine step_ops ?_; (refine m_mov (by conv => lhs; whnf) ?_)) | refine end_ops ?_ | refine seq_ops ?_ | (refine cond_f rfl ?_ ?_; (· first | rfl | assumption | (refine decide_eq_false ?_; first | assumption | omega) | (refine nf ?_; first | assumption | omega) | (simp [*]; done))) | refine skip_then ?_ | refine AW_seq ?_)
    refine AW_weak (weak_st ?_ ?_ rfl rfl) h5
    · (repeat' (first | exact trivial | refine And.intro ?_ ?_)) <;> (first | rfl | skip)
    · trivial
end Go.Proofs.Ytgjlaajkakecpaa
