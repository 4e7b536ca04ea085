/- Contracts: the exchange without own coats that has a rank. -/
import Derived.Test.YtgjlaajkakecpaaSpNb
namespace Go.Proofs.Ytgjlaajkakecpaa
open Go.Am
attribute [local irreducible] AW Outs Weak Lends Lend Sp aops atree aop1 Then Round InBlock Done

def rankG (g : Nat) (r : Int) : List Int := unrF g g [] r
theorem unr_step {g n : Nat} {M : List Int} {r : Int} {y : Nat} {s : Int} (h : pickF M g M.length g 0 r = some (y, s)) : unrF g (n + 1) M r = unrF g n (M ++ [(y : Int)]) s := by
  simp only [unrF]; rw [h]

theorem exRanked_spec (g : Nat) (hg : g ≤ 12) (r : Int) (h0 : 0 ≤ r) (h1 : r < noneN g) : Sp Try.prog 36 [.i g, .i r] (newInts (rankG g r)) := by
  refine spec_of Try.func36 rfl cc36 rfl ?_
  unfold ac36
  repeat (first | (refine step_ops ?_; (first | (refine m_mov (by conv => lhs; whnf) ?_) | (refine m_nils ?_))) | refine end_ops ?_ | refine seq_ops ?_ | refine AW_seq ?_ | refine AW_block ?_)
  refine AW_loop (α := List Int × Int) (fun q => Part q.1 g ∧ q.1.length ≤ g ∧ (q.1.length < g → 0 ≤ q.2 ∧ q.2 < lft q.1 g) ∧ unrF g (g - q.1.length) q.1 q.2 = rankG g r) (fun q => st [(0, .i g), (1, .i q.2), (5, .sl 5 1 0 q.1.length), (6, .i q.1.length)] [(5, (true, q.1.map AV.i))]) (fun q => g - q.1.length) ([], r)
    ⟨⟨by simp, by simp⟩, by simp, fun _ => ⟨h0, by rw [lft_none g hg]; exact h1⟩, rfl⟩ (weak_st ?_ ?_ rfl rfl) ?_
  · (repeat' (first | exact trivial | refine And.intro ?_ ?_)) <;> (first | rfl | skip)
  · exact ⟨rfl, trivial⟩
  rintro ⟨M, r1⟩ ⟨hp, hl, hr, hu⟩
  dsimp only at hp hl hr hu ⊢
  by_cases hc : M.length < g
  · obtain ⟨hr0, hr1⟩ := hr hc
    have hll := lft_le M g hg
    obtain ⟨y, s, hpick, hyg, hcan, hs0, hs1⟩ := pickF_some M g hp hc hg r1 hr1 g 0 r1 (by omega) hr0 (by simp [smTo])
    obtain ⟨n, hn⟩ : ∃ n, g - M.length = n + 1 := ⟨g - M.length - 1, by omega⟩
    rw [hn, unr_step hpick] at hu
    repeat (first | (refine step_ops ?_; (first | (refine m_mov (by conv => lhs; whnf) ?_) | (refine m_lss rfl rfl ?_))) | refine end_ops ?_ | refine seq_ops ?_ | (refine cond_t rfl ?_ ?_; (· first | rfl | assumption | (refine decide_eq_true ?_; first | assumption | omega) | (refine nt ?_; first | assumption | omega) | (simp [*]; done))) | refine skip_then ?_ | refine AW_seq ?_ | refine AW_block ?_)
    refine AW_loop (α := Nat × Int) (fun q => q.1 ≤ g ∧ 0 ≤ q.2 ∧ q.2 ≤ 479001600 ∧ pickF M g M.length (g - q.1) q.1 q.2 = some (y, s)) (fun q => st [(0, .i g), (1, .i q.2), (5, .sl 5 1 0 M.length), (6, .i M.length), (7, .i q.1)] [(5, (true, M.map AV.i))]) (fun q => g - q.1) (0, r1) ⟨by simp, hr0, by dsimp only; omega, hpick⟩ (weak_st ?_ ?_ rfl rfl) ?_
    · (repeat' (first | exact trivial | refine And.intro ?_ ?_)) <;> (first | rfl | skip)
    · exact ⟨rfl, trivial⟩
    rintro ⟨x, r2⟩ ⟨hx, hr20, hr21, hpk⟩
    dsimp only at hx hr20 hr21 hpk ⊢
    by_cases hcx : x < g
    · obtain ⟨m, hm⟩ : ∃ m, g - x = m + 1 := ⟨g - x - 1, by omega⟩
      have em : g - (x + 1) = m := by omega
      rw [hm, pickF] at hpk
      have hlx := lft_le (M ++ [(x : Int)]) g hg
      have hlen : (M ++ [(x : Int)]).length = M.length + 1 := by rw [List.length_append]; rfl
      by_cases hne : x = M.length
      · have hne' : (x : Int) = (M.length : Int) := by omega
        rw [if_neg fun hh => hh.1 hne] at hpk
        repeat (first | (refine step_ops ?_; (first | (first | (refine m_mov (by conv => lhs; whnf) ?_) | (refine m_lss rfl rfl ?_) | (refine m_eql rfl rfl ?_) | (refine m_add rfl rfl ?_ ?_ ?_; (· omega); (· omega)) | (refine m_pick_t rfl ?_ (by conv => lhs; whnf) ?_; (· first | rfl | assumption | (refine decide_eq_true ?_; first | assumption | omega) | (refine nt ?_; first | assumption | omega) | (simp [*]; done)))) | (refine g_noF rfl ?_ ?_; (· first | rfl | assumption | (refine decide_eq_true ?_; first | assumption | omega) | (refine nt ?_; first | assumption | omega) | (simp [*]; done))))) | refine end_ops ?_ | refine seq_ops ?_ | refine AW_ops ?_ | (refine cond_t rfl ?_ ?_; (· first | rfl | assumption | (refine decide_eq_true ?_; first | assumption | omega) | (refine nt ?_; first | assumption | omega) | (simp [*]; done))) | refine skip_then ?_ | refine AW_seq ?_ | refine norm_then ?_ | refine exit_then ?_ | refine AW_block ?_ | refine AW_exit ?_ | refine exit_block ?_)
        refine next_round (x + 1, r2) ⟨by dsimp only; omega, hr20, hr21, by dsimp only; rw [em]; exact hpk⟩ (weak_st ?_ ?_ rfl rfl) ?_
        · (repeat' (first | exact trivial | refine And.intro ?_ ?_)) <;> (first | rfl | skip)
        · exact ⟨rfl, trivial⟩
        · dsimp only; omega
      · have hne' : ¬ (x : Int) = (M.length : Int) := by omega
        by_cases hmm : (x : Int) ∈ M
        · rw [if_neg fun hh => hh.2 hmm] at hpk
          repeat (first | (refine step_ops ?_; ((try (refine g_yes rfl ?_ ?_; (· first | rfl | assumption | (refine decide_eq_true ?_; first | assumption | omega) | (refine nt ?_; first | assumption | omega) | (simp [*]; done) | (refine decide_eq_false ?_; first | assumption | omega) | (refine nf ?_; first | assumption | omega)))); (first | (refine m_mov (by conv => lhs; whnf) ?_) | (refine m_lss rfl rfl ?_) | (refine m_eql rfl rfl ?_)))) | refine end_ops ?_ | refine seq_ops ?_ | (refine cond_t rfl ?_ ?_; (· first | rfl | assumption | (refine decide_eq_true ?_; first | assumption | omega) | (refine nt ?_; first | assumption | omega) | (simp [*]; done))) | refine skip_then ?_ | refine AW_seq ?_ | refine AW_block ?_)
          (refine step_ops ?_); (refine g_yes rfl ?_ ?_; (· first | (first | rfl | assumption | (refine decide_eq_true ?_; first | assumption | omega) | (refine nt ?_; first | assumption | omega) | (simp [*]; done)) | (first | rfl | assumption | (refine decide_eq_false ?_; first | assumption | omega) | (refine nf ?_; first | assumption | omega) | (simp [*]; done))); (apply m_call (l1Has_spec M _ (by omega)))); (· repeat (first | exact lends_nil | (refine lends_cons ?_ ?_; (· (first | exact lend_v | (refine lend_sli (by rfl) ?_; first | rfl | omega | (simp; done)))))))
          repeat (first | (refine step_ops ?_; (first | (refine m_mov (by conv => lhs; whnf) ?_) | (refine m_add rfl rfl ?_ ?_ ?_; (· omega); (· omega)) | (refine m_pick_f rfl ?_ (by conv => lhs; whnf) ?_; (· first | rfl | assumption | (refine decide_eq_false ?_; first | assumption | omega) | (refine nf ?_; first | assumption | omega) | (simp [*]; done))))) | refine end_ops ?_ | refine AW_ops ?_ | (refine cond_t rfl ?_ ?_; (· first | rfl | assumption | (refine decide_eq_true ?_; first | assumption | omega) | (refine nt ?_; first | assumption | omega) | (simp [*]; done))) | refine norm_then ?_ | refine exit_then ?_ | refine AW_exit ?_ | refine exit_block ?_)
          refine next_round (x + 1, r2) ⟨by dsimp only; omega, hr20, hr21, by dsimp only; rw [em]; exact hpk⟩ (weak_st ?_ ?_ rfl rfl) ?_
          · (repeat' (first | exact trivial | refine And.intro ?_ ?_)) <;> (first | rfl | skip)
          · exact ⟨rfl, trivial⟩
          · dsimp only; omega
        · rw [if_pos ⟨hne, hmm⟩] at hpk
          by_cases hlt : r2 < lft (M ++ [(x : Int)]) g
          · rw [if_pos hlt] at hpk
            have hys : y = x ∧ s = r2 := by cases hpk; exact ⟨rfl, rfl⟩
            rw [hys.1, hys.2] at hu hs1
            rw [hys.2] at hs0
            repeat (first | (refine step_ops ?_; ((try (refine g_yes rfl ?_ ?_; (· first | rfl | assumption | (refine decide_eq_true ?_; first | assumption | omega) | (refine nt ?_; first | assumption | omega) | (simp [*]; done) | (refine decide_eq_false ?_; first | assumption | omega) | (refine nf ?_; first | assumption | omega)))); (first | (refine m_mov (by conv => lhs; whnf) ?_) | (refine m_lss rfl rfl ?_) | (refine m_eql rfl rfl ?_)))) | refine end_ops ?_ | refine seq_ops ?_ | (refine cond_t rfl ?_ ?_; (· first | rfl | assumption | (refine decide_eq_true ?_; first | assumption | omega) | (refine nt ?_; first | assumption | omega) | (simp [*]; done))) | refine skip_then ?_ | refine AW_seq ?_ | refine AW_block ?_)
            (refine step_ops ?_); (refine g_yes rfl ?_ ?_; (· first | (first | rfl | assumption | (refine decide_eq_true ?_; first | assumption | omega) | (refine nt ?_; first | assumption | omega) | (simp [*]; done)) | (first | rfl | assumption | (refine decide_eq_false ?_; first | assumption | omega) | (refine nf ?_; first | assumption | omega) | (simp [*]; done))); (apply m_call (l1Has_spec M _ (by omega)))); (· repeat (first | exact lends_nil | (refine lends_cons ?_ ?_; (· (first | exact lend_v | (refine lend_sli (by rfl) ?_; first | rfl | omega | (simp; done)))))))
            repeat (first | (refine step_ops ?_; (first | (refine m_mov (by conv => lhs; whnf) ?_) | (refine m_pick_f rfl ?_ (by conv => lhs; whnf) ?_; (· first | rfl | assumption | (refine decide_eq_false ?_; first | assumption | omega) | (refine nf ?_; first | assumption | omega) | (simp [*]; done))))) | refine end_ops ?_ | refine seq_ops ?_ | (refine cond_f rfl ?_ ?_; (· first | rfl | assumption | (refine decide_eq_false ?_; first | assumption | omega) | (refine nf ?_; first | assumption | omega) | (simp [*]; done))) | refine skip_then ?_)
            (refine step_ops ?_); (apply m_callo (l1Own_spec M (by omega))); (· repeat (first | exact lends_nil | (refine lends_cons ?_ ?_; (· (refine lend_sli (by rfl) ?_; first | rfl | omega | (simp; done)))))); (· first | exact allv_ints _ | rfl | (simp; done))
            repeat (first | (refine step_ops ?_; (first | (refine m_mov (by conv => lhs; whnf) ?_) | (refine m_bsl1 rfl rfl ?_) | (refine m_app1i rfl (by decide) (by rfl) (by first | rfl | omega | (simp; done)) rfl rfl ?_ (by decide) ?_; (· first | omega | (simp; omega))))) | refine end_ops ?_ | refine seq_ops ?_)
            (refine step_ops ?_); (apply m_call (exLeft_spec (M ++ [(x : Int)]) g (by omega) hg)); (· repeat (first | exact lends_nil | (refine lends_cons ?_ ?_; (· (first | exact lend_v | (refine lend_sli (by rfl) ?_; first | rfl | omega | (simp; done)))))))
            repeat (first | (refine step_ops ?_; (first | (refine m_mov (by conv => lhs; whnf) ?_) | (refine m_lss rfl rfl ?_) | (refine m_add rfl rfl ?_ ?_ ?_; (· omega); (· omega)))) | refine end_ops ?_ | refine seq_ops ?_ | refine AW_ops ?_ | (refine cond_t rfl ?_ ?_; (· first | rfl | assumption | (refine decide_eq_true ?_; first | assumption | omega) | (refine nt ?_; first | assumption | omega) | (simp [*]; done))) | refine AW_seq ?_ | refine norm_then ?_ | refine exit_then ?_ | refine norm_block ?_ | refine exit_round ?_ | refine AW_exit ?_ | refine exit_block ?_ | (refine exit_other ?_ ?_; (· decide)))
            refine next_round (M ++ [(x : Int)], r2) ⟨hp.snoc hcx hmm, by dsimp only; omega, fun _ => ⟨hs0, hs1⟩, ?_⟩ (Weak.trans (weak_move (r := 32) (q := 5) rfl (by decide) (by decide)) (weak_st ?_ ?_ rfl rfl)) ?_
            · dsimp only
              rw [hlen, ← hu]
              congr 1
              omega
            · refine ⟨rfl, rfl, rfl, ?_, trivial⟩
              show AV.i ((M.length : Int) + 1) = AV.i ((M ++ [(x : Int)]).length : Nat)
              rw [hlen]; rfl
            · exact ⟨rfl, trivial⟩
            · dsimp only; omega
          · rw [if_neg hlt] at hpk
            repeat (first | (refine step_ops ?_; ((try (refine g_yes rfl ?_ ?_; (· first | rfl | assumption | (refine decide_eq_true ?_; first | assumption | omega) | (refine nt ?_; first | assumption | omega) | (simp [*]; done) | (refine decide_eq_false ?_; first | assumption | omega) | (refine nf ?_; first | assumption | omega)))); (first | (refine m_mov (by conv => lhs; whnf) ?_) | (refine m_lss rfl rfl ?_) | (refine m_eql rfl rfl ?_)))) | refine end_ops ?_ | refine seq_ops ?_ | (refine cond_t rfl ?_ ?_; (· first | rfl | assumption | (refine decide_eq_true ?_; first | assumption | omega) | (refine nt ?_; first | assumption | omega) | (simp [*]; done))) | refine skip_then ?_ | refine AW_seq ?_ | refine AW_block ?_)
            (refine step_ops ?_); (refine g_yes rfl ?_ ?_; (· first | (first | rfl | assumption | (refine decide_eq_true ?_; first | assumption | omega) | (refine nt ?_; first | assumption | omega) | (simp [*]; done)) | (first | rfl | assumption | (refine decide_eq_false ?_; first | assumption | omega) | (refine nf ?_; first | assumption | omega) | (simp [*]; done))); (apply m_call (l1Has_spec M _ (by omega)))); (· repeat (first | exact lends_nil | (refine lends_cons ?_ ?_; (· (first | exact lend_v | (refine lend_sli (by rfl) ?_; first | rfl | omega | (simp; done)))))))
            repeat (first | (refine step_ops ?_; (first | (refine m_mov (by conv => lhs; whnf) ?_) | (refine m_pick_f rfl ?_ (by conv => lhs; whnf) ?_; (· first | rfl | assumption | (refine decide_eq_false ?_; first | assumption | omega) | (refine nf ?_; first | assumption | omega) | (simp [*]; done))))) | refine end_ops ?_ | refine seq_ops ?_ | (refine cond_f rfl ?_ ?_; (· first | rfl | assumption | (refine decide_eq_false ?_; first | assumption | omega) | (refine nf ?_; first | assumption | omega) | (simp [*]; done))) | refine skip_then ?_)
            (refine step_ops ?_); (apply m_callo (l1Own_spec M (by omega))); (· repeat (first | exact lends_nil | (refine lends_cons ?_ ?_; (· (refine lend_sli (by rfl) ?_; first | rfl | omega | (simp; done)))))); (· first | exact allv_ints _ | rfl | (simp; done))
            repeat (first | (refine step_ops ?_; (first | (refine m_mov (by conv => lhs; whnf) ?_) | (refine m_bsl1 rfl rfl ?_) | (refine m_app1i rfl (by decide) (by rfl) (by first | rfl | omega | (simp; done)) rfl rfl ?_ (by decide) ?_; (· first | omega | (simp; omega))))) | refine end_ops ?_ | refine seq_ops ?_)
            (refine step_ops ?_); (apply m_call (exLeft_spec (M ++ [(x : Int)]) g (by omega) hg)); (· repeat (first | exact lends_nil | (refine lends_cons ?_ ?_; (· (first | exact lend_v | (refine lend_sli (by rfl) ?_; first | rfl | omega | (simp; done)))))))
            repeat (first | (refine step_ops ?_; (first | (refine m_mov (by conv => lhs; whnf) ?_) | (refine m_lss rfl rfl ?_) | (refine m_add rfl rfl ?_ ?_ ?_; (· omega); (· omega)) | (refine m_sub rfl rfl ?_ ?_ ?_; (· omega); (· omega)))) | refine end_ops ?_ | refine seq_ops ?_ | refine AW_ops ?_ | (refine cond_f rfl ?_ ?_; (· first | rfl | assumption | (refine decide_eq_false ?_; first | assumption | omega) | (refine nf ?_; first | assumption | omega) | (simp [*]; done))) | refine skip_then ?_ | refine AW_seq ?_ | refine norm_then ?_ | refine norm_block ?_)
            refine next_round (x + 1, r2 - lft (M ++ [(x : Int)]) g) ⟨by dsimp only; omega, by dsimp only; omega, by dsimp only; omega, by dsimp only; rw [em]; exact hpk⟩ (weak_st ?_ ?_ rfl rfl) ?_
            · (repeat' (first | exact trivial | refine And.intro ?_ ?_)) <;> (first | rfl | skip)
            · exact ⟨rfl, trivial⟩
            · dsimp only; omega
    · have e : g - x = 0 := by omega
      rw [e, pickF] at hpk
      cases hpk
  · repeat (first | (refine step_ops ?_; (first | (refine m_mov (by conv => lhs; whnf) ?_) | (refine m_lss rfl rfl ?_))) | refine end_ops ?_ | refine seq_ops ?_ | (refine cond_f rfl ?_ ?_; (· first | rfl | assumption | (refine decide_eq_false ?_; first | assumption | omega) | (refine nf ?_; first | assumption | omega) | (simp [*]; done))) | refine AW_seq ?_ | refine AW_ret ?_ | refine ret_done ?_ | refine norm_then ?_ | refine exit_then ?_ | refine exit_round ?_ | refine AW_exit ?_ | refine exit_block ?_)
    have e : g - M.length = 0 := by omega
    rw [e, unrF] at hu
    exact outs_ints rfl (by rw [hu]) (by rw [hu])

theorem rankG_len (g : Nat) (hg : g ≤ 12) (r : Int) (h0 : 0 ≤ r) (h1 : r < noneN g) : (rankG g r).length = g := by
  suffices hh : ∀ (n : Nat) (M : List Int) (r : Int), n + M.length = g → Part M g → (M.length < g → 0 ≤ r ∧ r < lft M g) → (unrF g n M r).length = g from hh g [] r (by simp) ⟨by simp, by simp⟩ fun _ => ⟨h0, by rw [lft_none g hg]; exact h1⟩
  intro n
  induction n with
  | zero => intro M r hn _ _; simp only [unrF]; omega
  | succ n ih =>
    intro M r hn hp hr
    obtain ⟨hr0, hr1⟩ := hr (by omega)
    obtain ⟨y, s, hpick, hyg, hcan, hs0, hs1⟩ := pickF_some M g hp (by omega) hg r hr1 g 0 r (by omega) hr0 (by simp [smTo])
    rw [unr_step hpick]
    exact ih _ _ (by rw [List.length_append, List.length_singleton]; omega) (hp.snoc hyg hcan.2) fun _ => ⟨hs0, hs1⟩

/-- What NoneOfRank tells. -/
def OfOk (n r : Int) : Prop := (1 ≤ n ∧ n ≤ 12) ∧ 0 ≤ r ∧ r ≤ noneN n.toNat - 1
instance (n r : Int) : Decidable (OfOk n r) := inferInstanceAs (Decidable (_ ∧ _))
def ofRes (n r : Int) : List Int := if OfOk n r then rankG n.toNat r else []
theorem ofRes_le (n r : Int) : (ofRes n r).length ≤ 12 := by
  unfold ofRes
  split
  · rename_i h
    rw [rankG_len n.toNat (by have := h.1; omega) r h.2.1 (by have := h.2.2; omega)]
    have := h.1; omega
  · simp
theorem noneN_le : ∀ g < 13, 0 ≤ noneN g ∧ noneN g ≤ 1000000000 := by decide +kernel
theorem ap_table : ∀ g < 13, (apOut g g).getD g 0 = noneN g := by decide +kernel

theorem specNoneOfRank_spec (n r : Int) : Sp Try.prog 27 [.i n, .i r] (.tup [newInts (ofRes n r), .b (decide (OfOk n r))]) := by
  refine spec_of Try.func27 rfl cc27 rfl ?_
  unfold ac27
  by_cases h : 1 ≤ n ∧ n ≤ 12
  · obtain ⟨g, hg⟩ := Int.eq_ofNat_of_zero_le (show 0 ≤ n by omega)
    subst hg
    have hb := noneN_le g (by omega)
    by_cases h2 : 0 ≤ r ∧ r ≤ noneN g - 1
    · have hok : OfOk g r := ⟨h, h2.1, by rw [Int.toNat_natCast]; exact h2.2⟩
      have e : ofRes g r = rankG g r := by rw [ofRes, if_pos hok, Int.toNat_natCast]
      repeat (first | (refine step_ops ?_; (first | (refine m_mov (by conv => lhs; whnf) ?_) | (refine m_nils ?_))) | refine end_ops ?_ | refine seq_ops ?_ | refine AW_seq ?_)
      (refine step_ops ?_); (apply m_call (exGuests_spec g)); (· repeat (first | exact lends_nil | (refine lends_cons ?_ ?_; (· exact lend_v))))
      repeat (refine step_ops ?_; ((try (refine g_yes rfl ?_ ?_; (· first | rfl | assumption | (refine decide_eq_true ?_; first | assumption | omega) | (refine nt ?_; first | assumption | omega) | (simp [*]; done) | (refine decide_eq_false ?_; first | assumption | omega) | (refine nf ?_; first | assumption | omega)))); (first | (refine m_mov (by conv => lhs; whnf) ?_) | (refine m_not rfl ?_))))
      (refine step_ops ?_); (refine g_yes rfl ?_ ?_; (· first | (first | rfl | assumption | (refine decide_eq_true ?_; first | assumption | omega) | (refine nt ?_; first | assumption | omega) | (simp [*]; done)) | (first | rfl | assumption | (refine decide_eq_false ?_; first | assumption | omega) | (refine nf ?_; first | assumption | omega) | (simp [*]; done))); (apply m_call (exNone_spec g (by omega)))); (· repeat (first | exact lends_nil | (refine lends_cons ?_ ?_; (· exact lend_v))))
      repeat (refine step_ops ?_; ((try (refine g_yes rfl ?_ ?_; (· first | rfl | assumption | (refine decide_eq_true ?_; first | assumption | omega) | (refine nt ?_; first | assumption | omega) | (simp [*]; done) | (refine decide_eq_false ?_; first | assumption | omega) | (refine nf ?_; first | assumption | omega)))); (refine m_sub rfl rfl ?_ ?_ ?_; (· omega); (· omega))))
      (refine step_ops ?_); (refine g_yes rfl ?_ ?_; (· first | (first | rfl | assumption | (refine decide_eq_true ?_; first | assumption | omega) | (refine nt ?_; first | assumption | omega) | (simp [*]; done)) | (first | rfl | assumption | (refine decide_eq_false ?_; first | assumption | omega) | (refine nf ?_; first | assumption | omega) | (simp [*]; done))); (apply m_call (l1In_spec r 0 (noneN g - 1)))); (· repeat (first | exact lends_nil | (refine lends_cons ?_ ?_; (· exact lend_v))))
      repeat (first | (refine step_ops ?_; ((try (refine g_yes rfl ?_ ?_; (· first | rfl | assumption | (refine decide_eq_true ?_; first | assumption | omega) | (refine nt ?_; first | assumption | omega) | (simp [*]; done) | (refine decide_eq_false ?_; first | assumption | omega) | (refine nf ?_; first | assumption | omega)))); (first | (refine m_mov (by conv => lhs; whnf) ?_) | (refine m_not rfl ?_) | (refine m_pick_f rfl ?_ (by conv => lhs; whnf) ?_; (· first | rfl | assumption | (refine decide_eq_false ?_; first | assumption | omega) | (refine nf ?_; first | assumption | omega) | (simp [*]; done)))))) | refine end_ops ?_ | refine seq_ops ?_ | (refine cond_f rfl ?_ ?_; (· first | rfl | assumption | (refine decide_eq_false ?_; first | assumption | omega) | (refine nf ?_; first | assumption | omega) | (simp [*]; done))) | refine skip_then ?_)
      (refine step_ops ?_); (apply m_callo (exRanked_spec g (by omega) r h2.1 (by omega))); (· repeat (first | exact lends_nil | (refine lends_cons ?_ ?_; (· exact lend_v)))); (· first | exact allv_ints _ | rfl | (simp; done))
      repeat (first | (refine step_ops ?_; (refine m_mov (by conv => lhs; whnf) ?_)) | refine end_ops ?_ | refine AW_ret ?_ | refine ret_done ?_)
      refine outs_tup2 (outs_ints rfl (by rw [e]) (by rw [e])) (outs_b ?_)
      simp [hok]
    · have hok : ¬ OfOk g r := fun hh => h2 (by have := hh.2; rw [Int.toNat_natCast] at this; exact this)
      have e : ofRes g r = [] := if_neg hok
      repeat (first | (refine step_ops ?_; (first | (refine m_mov (by conv => lhs; whnf) ?_) | (refine m_nils ?_))) | refine end_ops ?_ | refine seq_ops ?_ | refine AW_seq ?_)
      (refine step_ops ?_); (apply m_call (exGuests_spec g)); (· repeat (first | exact lends_nil | (refine lends_cons ?_ ?_; (· exact lend_v))))
      repeat (refine step_ops ?_; ((try (refine g_yes rfl ?_ ?_; (· first | rfl | assumption | (refine decide_eq_true ?_; first | assumption | omega) | (refine nt ?_; first | assumption | omega) | (simp [*]; done) | (refine decide_eq_false ?_; first | assumption | omega) | (refine nf ?_; first | assumption | omega)))); (first | (refine m_mov (by conv => lhs; whnf) ?_) | (refine m_not rfl ?_))))
      (refine step_ops ?_); (refine g_yes rfl ?_ ?_; (· first | (first | rfl | assumption | (refine decide_eq_true ?_; first | assumption | omega) | (refine nt ?_; first | assumption | omega) | (simp [*]; done)) | (first | rfl | assumption | (refine decide_eq_false ?_; first | assumption | omega) | (refine nf ?_; first | assumption | omega) | (simp [*]; done))); (apply m_call (exNone_spec g (by omega)))); (· repeat (first | exact lends_nil | (refine lends_cons ?_ ?_; (· exact lend_v))))
      repeat (refine step_ops ?_; ((try (refine g_yes rfl ?_ ?_; (· first | rfl | assumption | (refine decide_eq_true ?_; first | assumption | omega) | (refine nt ?_; first | assumption | omega) | (simp [*]; done) | (refine decide_eq_false ?_; first | assumption | omega) | (refine nf ?_; first | assumption | omega)))); (refine m_sub rfl rfl ?_ ?_ ?_; (· omega); (· omega))))
      (refine step_ops ?_); (refine g_yes rfl ?_ ?_; (· first | (first | rfl | assumption | (refine decide_eq_true ?_; first | assumption | omega) | (refine nt ?_; first | assumption | omega) | (simp [*]; done)) | (first | rfl | assumption | (refine decide_eq_false ?_; first | assumption | omega) | (refine nf ?_; first | assumption | omega) | (simp [*]; done))); (apply m_call (l1In_spec r 0 (noneN g - 1)))); (· repeat (first | exact lends_nil | (refine lends_cons ?_ ?_; (· exact lend_v))))
      repeat (first | (refine step_ops ?_; ((try (refine g_yes rfl ?_ ?_; (· first | rfl | assumption | (refine decide_eq_true ?_; first | assumption | omega) | (refine nt ?_; first | assumption | omega) | (simp [*]; done) | (refine decide_eq_false ?_; first | assumption | omega) | (refine nf ?_; first | assumption | omega)))); (first | (refine m_mov (by conv => lhs; whnf) ?_) | (refine m_not rfl ?_) | (refine m_pick_f rfl ?_ (by conv => lhs; whnf) ?_; (· first | rfl | assumption | (refine decide_eq_false ?_; first | assumption | omega) | (refine nf ?_; first | assumption | omega) | (simp [*]; done))) | (refine m_nils ?_)))) | refine end_ops ?_ | refine seq_ops ?_ | (refine cond_t rfl ?_ ?_; (· first | rfl | assumption | (refine decide_eq_true ?_; first | assumption | omega) | (refine nt ?_; first | assumption | omega) | (simp [*]; done))) | refine AW_ret ?_ | refine ret_done ?_ | refine ret_then ?_)
      refine outs_tup2 (outs_ints rfl (by rw [e]; rfl) (by rw [e]; rfl)) (outs_b ?_)
      simp [hok]
  · have hok : ¬ OfOk n r := fun hh => h hh.1
    have e : ofRes n r = [] := if_neg hok
    repeat (first | (refine step_ops ?_; (first | (refine m_mov (by conv => lhs; whnf) ?_) | (refine m_nils ?_))) | refine end_ops ?_ | refine seq_ops ?_ | refine AW_seq ?_)
    (refine step_ops ?_); (apply m_call (exGuests_spec n)); (· repeat (first | exact lends_nil | (refine lends_cons ?_ ?_; (· exact lend_v))))
    repeat (first | (refine step_ops ?_; (first | (first | (refine m_mov (by conv => lhs; whnf) ?_) | (refine m_not rfl ?_) | (refine m_pick_t rfl ?_ (by conv => lhs; whnf) ?_; (· first | rfl | assumption | (refine decide_eq_true ?_; first | assumption | omega) | (refine nt ?_; first | assumption | omega) | (simp [*]; done))) | (refine m_nils ?_)) | (refine g_noF rfl ?_ ?_; (· first | rfl | assumption | (refine decide_eq_true ?_; first | assumption | omega) | (refine nt ?_; first | assumption | omega) | (simp [*]; done))))) | refine end_ops ?_ | refine seq_ops ?_ | (refine cond_t rfl ?_ ?_; (· first | rfl | assumption | (refine decide_eq_true ?_; first | assumption | omega) | (refine nt ?_; first | assumption | omega) | (simp [*]; done))) | refine AW_ret ?_ | refine ret_done ?_ | refine ret_then ?_)
    refine outs_tup2 (outs_ints rfl (by rw [e]; rfl) (by rw [e]; rfl)) (outs_b ?_)
    simp [hok]

/-- The list as it is filled. -/
def fillZ (M : List Int) (g : Nat) : List Int := M ++ List.replicate (g - M.length) 0
theorem fillZ_len (M : List Int) (g : Nat) (h : M.length ≤ g) : (fillZ M g).length = g := by simp [fillZ]; omega
theorem fillZ_set (M : List Int) (g : Nat) (x : Int) (h : M.length < g) : (fillZ M g).set M.length x = fillZ (M ++ [x]) g := by
  unfold fillZ
  have e : g - M.length = (g - (M.length + 1)) + 1 := by omega
  rw [e, List.replicate_succ, List.set_append_right _ _ (Nat.le_refl _), Nat.sub_self, List.set_cons_zero, List.append_assoc]
  simp

theorem implNoneOfRank_spec (n r : Int) : Sp Try.prog 14 [.i n, .i r] (.tup [newInts (ofRes n r), .b (decide (OfOk n r))]) := by
  refine spec_of Try.func14 rfl cc14 rfl ?_
  unfold ac14
  by_cases h : 1 ≤ n ∧ n ≤ 12
  · obtain ⟨g, hgn⟩ := Int.eq_ofNat_of_zero_le (show 0 ≤ n by omega)
    subst hgn
    have hg : g ≤ 12 := by omega
    have hb := noneN_le g (by omega)
    have hap := ap_table g (by omega)
    by_cases h2 : r < 0
    · have hok : ¬ OfOk g r := fun hh => by have := hh.2; omega
      have e : ofRes g r = [] := if_neg hok
      repeat (first | (refine step_ops ?_; (first | (refine m_mov (by conv => lhs; whnf) ?_) | (refine m_nils ?_))) | refine end_ops ?_ | refine seq_ops ?_ | refine AW_seq ?_)
      refine step_ops ?_; (apply m_call (isGuestCount_spec g)); (· repeat (first | exact lends_nil | (refine lends_cons ?_ ?_; (· exact lend_v))))
      repeat (first | (refine step_ops ?_; (first | ((try (refine g_yes rfl ?_ ?_; (· first | rfl | assumption | (refine decide_eq_true ?_; first | assumption | omega) | (refine nt ?_; first | assumption | omega) | (simp [*]; done) | (refine decide_eq_false ?_; first | assumption | omega) | (refine nf ?_; first | assumption | omega)))); (first | (refine m_mov (by conv => lhs; whnf) ?_) | (refine m_lss rfl rfl ?_) | (refine m_not rfl ?_) | (refine m_pick_t rfl ?_ (by conv => lhs; whnf) ?_; (· first | rfl | assumption | (refine decide_eq_true ?_; first | assumption | omega) | (refine nt ?_; first | assumption | omega) | (simp [*]; done))) | (refine m_pick_f rfl ?_ (by conv => lhs; whnf) ?_; (· first | rfl | assumption | (refine decide_eq_false ?_; first | assumption | omega) | (refine nf ?_; first | assumption | omega) | (simp [*]; done))) | (refine m_nils ?_))) | (refine g_noF rfl ?_ ?_; (· first | rfl | assumption | (refine decide_eq_true ?_; first | assumption | omega) | (refine nt ?_; first | assumption | omega) | (simp [*]; done))))) | refine end_ops ?_ | refine seq_ops ?_ | (refine cond_t rfl ?_ ?_; (· first | rfl | assumption | (refine decide_eq_true ?_; first | assumption | omega) | (refine nt ?_; first | assumption | omega) | (simp [*]; done))) | refine AW_ret ?_ | refine ret_done ?_ | refine ret_then ?_)
      refine outs_tup2 (outs_ints rfl (by rw [e]; rfl) (by rw [e]; rfl)) (outs_b ?_)
      simp [hok]
    by_cases h3 : noneN g ≤ r
    · have hok : ¬ OfOk g r := fun hh => by have := hh.2; rw [Int.toNat_natCast] at this; omega
      have e : ofRes g r = [] := if_neg hok
      repeat (first | (refine step_ops ?_; (first | (refine m_mov (by conv => lhs; whnf) ?_) | (refine m_nils ?_))) | refine end_ops ?_ | refine seq_ops ?_ | refine AW_seq ?_)
      refine step_ops ?_; (apply m_call (isGuestCount_spec g)); (· repeat (first | exact lends_nil | (refine lends_cons ?_ ?_; (· exact lend_v))))
      repeat (refine step_ops ?_; ((try (refine g_yes rfl ?_ ?_; (· first | rfl | assumption | (refine decide_eq_true ?_; first | assumption | omega) | (refine nt ?_; first | assumption | omega) | (simp [*]; done) | (refine decide_eq_false ?_; first | assumption | omega) | (refine nf ?_; first | assumption | omega)))); (first | (refine m_mov (by conv => lhs; whnf) ?_) | (refine m_lss rfl rfl ?_) | (refine m_not rfl ?_) | (refine m_pick_f rfl ?_ (by conv => lhs; whnf) ?_; (· first | rfl | assumption | (refine decide_eq_false ?_; first | assumption | omega) | (refine nf ?_; first | assumption | omega) | (simp [*]; done))))))
      refine step_ops ?_; (refine g_yes rfl ?_ ?_; (· first | (first | rfl | assumption | (refine decide_eq_true ?_; first | assumption | omega) | (refine nt ?_; first | assumption | omega) | (simp [*]; done)) | (first | rfl | assumption | (refine decide_eq_false ?_; first | assumption | omega) | (refine nf ?_; first | assumption | omega) | (simp [*]; done))); (apply m_call (countApart_spec g g hg hg))); (· repeat (first | exact lends_nil | (refine lends_cons ?_ ?_; (· exact lend_v))))
      rw [hap]
      repeat (first | (refine step_ops ?_; ((try (refine g_yes rfl ?_ ?_; (· first | rfl | assumption | (refine decide_eq_true ?_; first | assumption | omega) | (refine nt ?_; first | assumption | omega) | (simp [*]; done) | (refine decide_eq_false ?_; first | assumption | omega) | (refine nf ?_; first | assumption | omega)))); (first | (refine m_mov (by conv => lhs; whnf) ?_) | (refine m_geq rfl rfl ?_) | (refine m_pick_f rfl ?_ (by conv => lhs; whnf) ?_; (· first | rfl | assumption | (refine decide_eq_false ?_; first | assumption | omega) | (refine nf ?_; first | assumption | omega) | (simp [*]; done))) | (refine m_nils ?_)))) | refine end_ops ?_ | refine seq_ops ?_ | (refine cond_t rfl ?_ ?_; (· first | rfl | assumption | (refine decide_eq_true ?_; first | assumption | omega) | (refine nt ?_; first | assumption | omega) | (simp [*]; done))) | refine AW_ret ?_ | refine ret_done ?_ | refine ret_then ?_)
      refine outs_tup2 (outs_ints rfl (by rw [e]; rfl) (by rw [e]; rfl)) (outs_b ?_)
      simp [hok]
    · have hok : OfOk g r := ⟨h, by omega, by rw [Int.toNat_natCast]; omega⟩
      have e : ofRes g r = rankG g r := by rw [ofRes, if_pos hok, Int.toNat_natCast]
      repeat (first | (refine step_ops ?_; (first | (refine m_mov (by conv => lhs; whnf) ?_) | (refine m_nils ?_))) | refine end_ops ?_ | refine seq_ops ?_ | refine AW_seq ?_)
      refine step_ops ?_; (apply m_call (isGuestCount_spec g)); (· repeat (first | exact lends_nil | (refine lends_cons ?_ ?_; (· exact lend_v))))
      repeat (refine step_ops ?_; ((try (refine g_yes rfl ?_ ?_; (· first | rfl | assumption | (refine decide_eq_true ?_; first | assumption | omega) | (refine nt ?_; first | assumption | omega) | (simp [*]; done) | (refine decide_eq_false ?_; first | assumption | omega) | (refine nf ?_; first | assumption | omega)))); (first | (refine m_mov (by conv => lhs; whnf) ?_) | (refine m_lss rfl rfl ?_) | (refine m_not rfl ?_) | (refine m_pick_f rfl ?_ (by conv => lhs; whnf) ?_; (· first | rfl | assumption | (refine decide_eq_false ?_; first | assumption | omega) | (refine nf ?_; first | assumption | omega) | (simp [*]; done))))))
      refine step_ops ?_; (refine g_yes rfl ?_ ?_; (· first | (first | rfl | assumption | (refine decide_eq_true ?_; first | assumption | omega) | (refine nt ?_; first | assumption | omega) | (simp [*]; done)) | (first | rfl | assumption | (refine decide_eq_false ?_; first | assumption | omega) | (refine nf ?_; first | assumption | omega) | (simp [*]; done))); (apply m_call (countApart_spec g g hg hg))); (· repeat (first | exact lends_nil | (refine lends_cons ?_ ?_; (· exact lend_v))))
      rw [hap]
      repeat (first | (refine step_ops ?_; ((try (refine g_yes rfl ?_ ?_; (· first | rfl | assumption | (refine decide_eq_true ?_; first | assumption | omega) | (refine nt ?_; first | assumption | omega) | (simp [*]; done) | (refine decide_eq_false ?_; first | assumption | omega) | (refine nf ?_; first | assumption | omega)))); (first | (refine m_mov (by conv => lhs; whnf) ?_) | (refine m_geq rfl rfl ?_) | (refine m_pick_f rfl ?_ (by conv => lhs; whnf) ?_; (· first | rfl | assumption | (refine decide_eq_false ?_; first | assumption | omega) | (refine nf ?_; first | assumption | omega) | (simp [*]; done))) | (refine m_alloc ?_) | (refine m_bld_1 (by conv => lhs; whnf) (by decide)  (by rfl) ?_) | (refine m_stall rfl rfl rfl ?_ ?_ ?_ ?_; (· first | rfl | (simp [*]; done)); (· first | rfl | (simp [*]; done)); (· first | rfl | (simp [cellOk, Value.oneCell']; done)))))) | refine end_ops ?_ | refine seq_ops ?_ | (refine cond_f rfl ?_ ?_; (· first | rfl | assumption | (refine decide_eq_false ?_; first | assumption | omega) | (refine nf ?_; first | assumption | omega) | (simp [*]; done))) | refine skip_then ?_)
      refine step_ops ?_
      refine m_mk rfl rfl (by omega) (by omega) ?_
      repeat (first | (refine step_ops ?_; (first | (refine m_mov (by conv => lhs; whnf) ?_) | (refine m_len_sl rfl ?_))) | refine end_ops ?_ | refine seq_ops ?_ | refine AW_seq ?_ | refine AW_block ?_)
      refine AW_loop (α := List Int × Int) (fun q => Part q.1 g ∧ q.1.length ≤ g ∧ (q.1.length < g → 0 ≤ q.2 ∧ q.2 < lft q.1 g) ∧ unrF g (g - q.1.length) q.1 q.2 = rankG g r) (fun q => st [(0, .i g), (1, .i q.2), (6, .pt 6 0), (7, .sl 29 1 0 g), (31, .i g), (32, .i q.1.length)] [(6, (true, rackV g q.1)), (29, (true, (fillZ q.1 g).map AV.i))]) (fun q => g - q.1.length) ([], r)
        ⟨⟨by simp, by simp⟩, by simp, fun _ => ⟨by dsimp only; omega, by dsimp only; rw [lft_none g hg]; omega⟩, rfl⟩ (weak_st ?_ ?_ rfl rfl) ?_
      · (repeat' (first | exact trivial | refine And.intro ?_ ?_)) <;> (first | rfl | skip)
      · refine ⟨?_, ?_, trivial⟩
        · rw [rackV_nil]; rfl
        · show some (true, (List.replicate g (List.map AV.v [Value.int IntKind.i64 0])).flatten) = some (true, (fillZ [] g).map AV.i)
          simp [fillZ]
      rintro ⟨M, r1⟩ ⟨hp, hl, hr, hu⟩
      dsimp only at hp hl hr hu ⊢
      by_cases hc : M.length < g
      · obtain ⟨hr0, hr1⟩ := hr hc
        have hll := lft_le M g hg
        obtain ⟨y, s, hpick, hyg, hcan, hs0, hs1⟩ := pickF_some M g hp hc hg r1 hr1 g 0 r1 (by omega) hr0 (by simp [smTo])
        obtain ⟨n, hn⟩ : ∃ n, g - M.length = n + 1 := ⟨g - M.length - 1, by omega⟩
        rw [hn, unr_step hpick] at hu
        repeat (first | (refine step_ops ?_; (first | (refine m_mov (by conv => lhs; whnf) ?_) | (refine m_lss rfl rfl ?_))) | refine end_ops ?_ | refine seq_ops ?_ | (refine cond_t rfl ?_ ?_; (· first | rfl | assumption | (refine decide_eq_true ?_; first | assumption | omega) | (refine nt ?_; first | assumption | omega) | (simp [*]; done))) | refine skip_then ?_ | refine AW_seq ?_ | refine AW_block ?_)
        refine AW_loop (α := Nat × Int) (fun q => q.1 ≤ g ∧ 0 ≤ q.2 ∧ q.2 ≤ 479001600 ∧ pickF M g M.length (g - q.1) q.1 q.2 = some (y, s)) (fun q => st [(0, .i g), (1, .i q.2), (6, .pt 6 0), (7, .sl 29 1 0 g), (8, .i M.length), (31, .i g), (32, .i M.length), (35, .i g), (36, .i q.1)] [(6, (true, rackV g M)), (29, (true, (fillZ M g).map AV.i))]) (fun q => g - q.1) (0, r1) ⟨by simp, hr0, by dsimp only; omega, hpick⟩ (weak_st ?_ ?_ rfl rfl) ?_
        · (repeat' (first | exact trivial | refine And.intro ?_ ?_)) <;> (first | rfl | skip)
        · exact ⟨rfl, rfl, trivial⟩
        rintro ⟨x, r2⟩ ⟨hx, hr20, hr21, hpk⟩
        dsimp only at hx hr20 hr21 hpk ⊢
        have hrl := rackV_len g M
        have hrp := rackV_plain g M
        by_cases hcx : x < g
        · obtain ⟨m, hm⟩ : ∃ m, g - x = m + 1 := ⟨g - x - 1, by omega⟩
          have em : g - (x + 1) = m := by omega
          rw [hm, pickF] at hpk
          have hlx := lft_le (M ++ [(x : Int)]) g hg
          have hlen : (M ++ [(x : Int)]).length = M.length + 1 := by rw [List.length_append]; rfl
          have hle : lft (M ++ [(x : Int)]) g = apD (g - (M.length + 1)) (freeTo (M ++ [(x : Int)]) (M.length + 1) (g - (M.length + 1))) := by unfold lft; rw [hlen]
          have hrl2 := rackV_len g (M ++ [(x : Int)])
          have hrp2 := rackV_plain g (M ++ [(x : Int)])
          have hok2 := rackV_ok g (M ++ [(x : Int)]) true
          have hzl := fillZ_len M g hl
          by_cases hcan : MayTake M M.length x
          · rw [if_pos hcan] at hpk
            by_cases hlt : r2 < lft (M ++ [(x : Int)]) g
            · rw [if_pos hlt] at hpk
              have hys : y = x ∧ s = r2 := by cases hpk; exact ⟨rfl, rfl⟩
              rw [hys.1, hys.2] at hu hs1
              rw [hys.2] at hs0
              have hlt' := hlt
              rw [hle] at hlt'
              repeat (first | (refine step_ops ?_; (first | (refine m_mov (by conv => lhs; whnf) ?_) | (refine m_lss rfl rfl ?_) | (refine m_ldall rfl rfl ?_ ?_; (· first | rfl | (simp; done) | (simp [*]; done))))) | refine end_ops ?_ | refine seq_ops ?_ | (refine cond_t rfl ?_ ?_; (· first | rfl | assumption | (refine decide_eq_true ?_; first | assumption | omega) | (refine nt ?_; first | assumption | omega) | (simp [*]; done))) | refine skip_then ?_ | refine AW_seq ?_ | refine AW_block ?_)
              refine step_ops ?_; (apply m_call (canTake_spec g M M.length x (by omega))); (· repeat (first | exact lends_nil | (refine lends_cons ?_ ?_; (· (first | exact lend_v | (refine lend_agg ?_; first | rfl | assumption | (simp [plainV]; done)))))))
              repeat (first | (refine step_ops ?_; (first | (refine m_mov (by conv => lhs; whnf) ?_) | (refine m_not rfl ?_) | (refine m_ldall rfl rfl ?_ ?_; (· first | rfl | (simp; done) | (simp [*]; done))))) | refine end_ops ?_ | refine seq_ops ?_ | (refine cond_f rfl ?_ ?_; (· first | rfl | assumption | (refine decide_eq_false ?_; first | assumption | omega) | (refine nf ?_; first | assumption | omega) | (simp [*]; done))) | refine skip_then ?_)
              refine step_ops ?_; (apply m_call (without_spec g M x (by omega))); (· repeat (first | exact lends_nil | (refine lends_cons ?_ ?_; (· (first | exact lend_v | (refine lend_agg ?_; first | rfl | assumption | (simp [plainV]; done)))))))
              repeat (first | (refine step_ops ?_; (first | (refine m_mov (by conv => lhs; whnf) ?_) | (refine m_add rfl rfl ?_ ?_ ?_; (· omega); (· omega)) | (refine m_alloc ?_) | (refine m_ldall rfl rfl ?_ ?_; (· first | rfl | (simp; done) | (simp [*]; done))) | (refine m_stall rfl rfl rfl ?_ ?_ ?_ ?_; (· first | rfl | (simp [*]; done)); (· first | rfl | (simp [*]; done)); (· first | rfl | (simp [cellOk, Value.oneCell']; done))))) | refine end_ops ?_ | refine seq_ops ?_)
              refine step_ops ?_; (apply m_call (countNone_spec g (M ++ [(x : Int)]) (M.length + 1) (by omega) hg)); (· repeat (first | exact lends_nil | (refine lends_cons ?_ ?_; (· (first | exact lend_v | (refine lend_agg ?_; first | rfl | assumption | (simp [plainV]; done)))))))
              repeat (first | ((first | refine step_ops ?_ | refine step_tree ?_); (first | (refine m_mov (by conv => lhs; whnf) ?_) | (refine m_lss rfl rfl ?_) | (refine m_idx1_sl rfl rfl ?_ ?_; (· omega)))) | refine end_ops ?_ | refine seq_ops ?_ | refine seq_tree ?_ | (refine cond_t rfl ?_ ?_; (· first | rfl | assumption | (refine decide_eq_true ?_; first | assumption | omega) | (refine nt ?_; first | assumption | omega) | (simp [*]; done))) | refine AW_seq ?_)
              refine step_two ?_ ?_
              all_goals
                repeat (first | ((first | refine step_ops ?_ | refine step_tree ?_); (first | (refine m_mov (by conv => lhs; whnf) ?_) | (refine m_add rfl rfl ?_ ?_ ?_; (· omega); (· omega)) | (apply m_st; (· rfl); (· rfl); (· rfl); (· first | omega | (simp; done) | (simp; omega)); (· rfl)) | (refine m_ldall rfl rfl ?_ ?_; (· first | rfl | (simp; done) | (simp [*]; done))) | (refine m_stall rfl rfl rfl ?_ ?_ ?_ ?_; (· first | rfl | (simp [*]; done)); (· first | rfl | (simp [*]; done)); (· first | rfl | (simp [cellOk, Value.oneCell']; done))))) | refine end_ops ?_ | refine AW_ops ?_ | refine end_tree ?_ | refine norm_then ?_ | refine exit_then ?_ | refine norm_block ?_ | refine exit_round ?_ | refine AW_exit ?_ | refine exit_block ?_ | (refine exit_other ?_ ?_; (· decide)))
                refine next_round (M ++ [(x : Int)], r2) ⟨hp.snoc hcx hcan.2, by dsimp only; omega, fun _ => ⟨hs0, hs1⟩, ?_⟩ (weak_st ?_ ?_ rfl rfl) ?_
                · dsimp only
                  rw [hlen, ← hu]
                  congr 1
                  omega
                · refine ⟨rfl, rfl, rfl, rfl, rfl, ?_, trivial⟩
                  show AV.i ((M.length : Int) + 1) = AV.i ((M ++ [(x : Int)]).length : Nat)
                  rw [hlen]; rfl
                · refine ⟨rfl, ?_, trivial⟩
                  show some (true, ((fillZ M g).map AV.i).set M.length (AV.i x)) = some (true, (fillZ (M ++ [(x : Int)]) g).map AV.i)
                  rw [← fillZ_set M g x hc, List.map_set]
                · dsimp only; omega
            · rw [if_neg hlt] at hpk
              have hlt' := hlt
              rw [hle] at hlt' hlx hpk
              repeat (first | (refine step_ops ?_; (first | (refine m_mov (by conv => lhs; whnf) ?_) | (refine m_lss rfl rfl ?_) | (refine m_ldall rfl rfl ?_ ?_; (· first | rfl | (simp; done) | (simp [*]; done))))) | refine end_ops ?_ | refine seq_ops ?_ | (refine cond_t rfl ?_ ?_; (· first | rfl | assumption | (refine decide_eq_true ?_; first | assumption | omega) | (refine nt ?_; first | assumption | omega) | (simp [*]; done))) | refine skip_then ?_ | refine AW_seq ?_ | refine AW_block ?_)
              refine step_ops ?_; (apply m_call (canTake_spec g M M.length x (by omega))); (· repeat (first | exact lends_nil | (refine lends_cons ?_ ?_; (· (first | exact lend_v | (refine lend_agg ?_; first | rfl | assumption | (simp [plainV]; done)))))))
              repeat (first | (refine step_ops ?_; (first | (refine m_mov (by conv => lhs; whnf) ?_) | (refine m_not rfl ?_) | (refine m_ldall rfl rfl ?_ ?_; (· first | rfl | (simp; done) | (simp [*]; done))))) | refine end_ops ?_ | refine seq_ops ?_ | (refine cond_f rfl ?_ ?_; (· first | rfl | assumption | (refine decide_eq_false ?_; first | assumption | omega) | (refine nf ?_; first | assumption | omega) | (simp [*]; done))) | refine skip_then ?_)
              refine step_ops ?_; (apply m_call (without_spec g M x (by omega))); (· repeat (first | exact lends_nil | (refine lends_cons ?_ ?_; (· (first | exact lend_v | (refine lend_agg ?_; first | rfl | assumption | (simp [plainV]; done)))))))
              repeat (first | (refine step_ops ?_; (first | (refine m_mov (by conv => lhs; whnf) ?_) | (refine m_add rfl rfl ?_ ?_ ?_; (· omega); (· omega)) | (refine m_alloc ?_) | (refine m_ldall rfl rfl ?_ ?_; (· first | rfl | (simp; done) | (simp [*]; done))) | (refine m_stall rfl rfl rfl ?_ ?_ ?_ ?_; (· first | rfl | (simp [*]; done)); (· first | rfl | (simp [*]; done)); (· first | rfl | (simp [cellOk, Value.oneCell']; done))))) | refine end_ops ?_ | refine seq_ops ?_)
              refine step_ops ?_; (apply m_call (countNone_spec g (M ++ [(x : Int)]) (M.length + 1) (by omega) hg)); (· repeat (first | exact lends_nil | (refine lends_cons ?_ ?_; (· (first | exact lend_v | (refine lend_agg ?_; first | rfl | assumption | (simp [plainV]; done)))))))
              repeat (first | (refine step_ops ?_; (first | (refine m_mov (by conv => lhs; whnf) ?_) | (refine m_lss rfl rfl ?_) | (refine m_add rfl rfl ?_ ?_ ?_; (· omega); (· omega)) | (refine m_sub rfl rfl ?_ ?_ ?_; (· omega); (· omega)))) | refine end_ops ?_ | refine seq_ops ?_ | refine AW_ops ?_ | (refine cond_f rfl ?_ ?_; (· first | rfl | assumption | (refine decide_eq_false ?_; first | assumption | omega) | (refine nf ?_; first | assumption | omega) | (simp [*]; done))) | refine skip_then ?_ | refine AW_seq ?_ | refine norm_then ?_ | refine norm_block ?_)
              refine next_round (x + 1, r2 - apD (g - (M.length + 1)) (freeTo (M ++ [(x : Int)]) (M.length + 1) (g - (M.length + 1)))) ⟨by dsimp only; omega, by dsimp only; omega, by dsimp only; omega, by dsimp only; rw [em]; exact hpk⟩ (weak_st ?_ ?_ rfl rfl) ?_
              · (repeat' (first | exact trivial | refine And.intro ?_ ?_)) <;> (first | rfl | skip)
              · exact ⟨rfl, rfl, trivial⟩
              · dsimp only; omega
          · rw [if_neg hcan] at hpk
            repeat (first | (refine step_ops ?_; (first | (refine m_mov (by conv => lhs; whnf) ?_) | (refine m_lss rfl rfl ?_) | (refine m_ldall rfl rfl ?_ ?_; (· first | rfl | (simp; done) | (simp [*]; done))))) | refine end_ops ?_ | refine seq_ops ?_ | (refine cond_t rfl ?_ ?_; (· first | rfl | assumption | (refine decide_eq_true ?_; first | assumption | omega) | (refine nt ?_; first | assumption | omega) | (simp [*]; done))) | refine skip_then ?_ | refine AW_seq ?_ | refine AW_block ?_)
            refine step_ops ?_; (apply m_call (canTake_spec g M M.length x (by omega))); (· repeat (first | exact lends_nil | (refine lends_cons ?_ ?_; (· (first | exact lend_v | (refine lend_agg ?_; first | rfl | assumption | (simp [plainV]; done)))))))
            repeat (first | (refine step_ops ?_; (first | (refine m_mov (by conv => lhs; whnf) ?_) | (refine m_add rfl rfl ?_ ?_ ?_; (· omega); (· omega)) | (refine m_not rfl ?_))) | refine end_ops ?_ | refine AW_ops ?_ | (refine cond_t rfl ?_ ?_; (· first | rfl | assumption | (refine decide_eq_true ?_; first | assumption | omega) | (refine nt ?_; first | assumption | omega) | (simp [*]; done))) | refine norm_then ?_ | refine exit_then ?_ | refine AW_exit ?_ | refine exit_block ?_)
            refine next_round (x + 1, r2) ⟨by dsimp only; omega, hr20, hr21, by dsimp only; rw [em]; exact hpk⟩ (weak_st ?_ ?_ rfl rfl) ?_
            · (repeat' (first | exact trivial | refine And.intro ?_ ?_)) <;> (first | rfl | skip)
            · exact ⟨rfl, rfl, trivial⟩
            · dsimp only; omega
        · have e : g - x = 0 := by omega
          rw [e, pickF] at hpk
          cases hpk
      · repeat (first | (refine step_ops ?_; (first | (refine m_mov (by conv => lhs; whnf) ?_) | (refine m_lss rfl rfl ?_))) | refine end_ops ?_ | refine seq_ops ?_ | (refine cond_f rfl ?_ ?_; (· first | rfl | assumption | (refine decide_eq_false ?_; first | assumption | omega) | (refine nf ?_; first | assumption | omega) | (simp [*]; done))) | refine AW_seq ?_ | refine AW_ret ?_ | refine ret_done ?_ | refine norm_then ?_ | refine exit_then ?_ | refine exit_round ?_ | refine AW_exit ?_ | refine exit_block ?_)
        have e2 : g - M.length = 0 := by omega
        rw [e2, unrF] at hu
        have e3 : fillZ M g = M := by unfold fillZ; rw [e2]; simp
        refine outs_tup2 (outs_ints rfl (by rw [e, e3, hu]) (by rw [e, ← hu]; omega)) (outs_b ?_)
        simp [hok]
  · have hok : ¬ OfOk n r := fun hh => h hh.1
    have e : ofRes n r = [] := if_neg hok
    repeat (first | (refine step_ops ?_; (first | (refine m_mov (by conv => lhs; whnf) ?_) | (refine m_nils ?_))) | refine end_ops ?_ | refine seq_ops ?_ | refine AW_seq ?_)
    refine step_ops ?_; (apply m_call (isGuestCount_spec n)); (· repeat (first | exact lends_nil | (refine lends_cons ?_ ?_; (· exact lend_v))))
    repeat (first | (refine step_ops ?_; (first | (first | (refine m_mov (by conv => lhs; whnf) ?_) | (refine m_not rfl ?_) | (refine m_pick_t rfl ?_ (by conv => lhs; whnf) ?_; (· first | rfl | assumption | (refine decide_eq_true ?_; first | assumption | omega) | (refine nt ?_; first | assumption | omega) | (simp [*]; done))) | (refine m_nils ?_)) | (refine g_noF rfl ?_ ?_; (· first | rfl | assumption | (refine decide_eq_true ?_; first | assumption | omega) | (refine nt ?_; first | assumption | omega) | (simp [*]; done))))) | refine end_ops ?_ | refine seq_ops ?_ | (refine cond_t rfl ?_ ?_; (· first | rfl | assumption | (refine decide_eq_true ?_; first | assumption | omega) | (refine nt ?_; first | assumption | omega) | (simp [*]; done))) | refine AW_ret ?_ | refine ret_done ?_ | refine ret_then ?_)
    refine outs_tup2 (outs_ints rfl (by rw [e]; rfl) (by rw [e]; rfl)) (outs_b ?_)
    simp [hok]
end Go.Proofs.Ytgjlaajkakecpaa
