/- The abstract machine, contracts: part 4 of what this claim needs. -/
import Derived.Test.YtgjlaajkakecpaaZs3
set_option linter.unusedSectionVars false
namespace Go.Proofs.Ytgjlaajkakecpaa
variable [Go.Am.CodeBlk]
open Go.Am
attribute [local irreducible] AW Outs Weak Lends Lend Sp aops atree aop1 Then Round InBlock Done
def rankG (g : Nat) (r : Int) : List Int := unrF g g [] r
theorem unr_step {g n : Nat} {M : List Int} {r : Int} {y : Nat} {s : Int} (h : pickF M g M.length g 0 r = some (y, s)) : unrF g (n + 1) M r = unrF g n (M ++ [(y : Int)]) s := by
  simp only [unrF]; rw [h]
theorem exRanked_spec (g : Nat) (hg : g ≤ 12) (r : Int) (h0 : 0 ≤ r) (h1 : r < noneN g) : Sp Try.prog 36 [.i g, .i r] (newInts (rankG g r)) := by
  refine spec_of Try.func36 rfl cc36 rfl ?_
  unfold ac36
  repeat (first | (refine step_ops ?_; (first | (refine m_mov (by conv => lhs; whnf) ?_) | (refine m_nils ?_))) | refine end_ops ?_ | refine seq_ops ?_ | refine AW_seq ?_ | refine AW_block ?_)
  refine AW_loop (α := List Int × Int) (fun q => Part q.1 g ∧ q.1.length ≤ g ∧ (q.1.length < g → 0 ≤ q.2 ∧ q.2 < lft q.1 g) ∧ unrF g (g - q.1.length) q.1 q.2 = rankG g r) (fun q => st [(0, .i g), (1, .i q.2), (5, .sl 5 1 0 q.1.length), (6, .i q.1.length)] [(5, (true, q.1.map AV.i))]) (fun q => g - q.1.length) ([], r)
    ⟨⟨by simp, by simp⟩, by simp, fun _ => ⟨h0, by rw [lft_none g hg]; exact h1⟩, rfl⟩ (weak_st ?_ ?_ rfl rfl) ?_
  · (repeat' (first | exact trivial | refine And.intro ?_ ?_)) <;> (first | rfl | skip)
  · exact ⟨rfl, trivial⟩
  rintro ⟨M, r1⟩ ⟨hp, hl, hr, hu⟩
  dsimp only at hp hl hr hu ⊢
  by_cases hc : M.length < g
  · obtain ⟨hr0, hr1⟩ := hr hc
    have hll := lft_le M g hg
    obtain ⟨y, s, hpick, hyg, hcan, hs0, hs1⟩ := pickF_some M g hp hc hg r1 hr1 g 0 r1 (by omega) hr0 (by simp [smTo])
    obtain ⟨n, hn⟩ : ∃ n, g - M.length = n + 1 := ⟨g - M.length - 1, by omega⟩
    rw [hn, unr_step hpick] at hu
    repeat (first | (refine step_ops ?_; (first | (refine m_mov (by conv => lhs; whnf) ?_) | (refine m_lss rfl rfl ?_))) | refine end_ops ?_ | refine seq_ops ?_ | (refine cond_t rfl ?_ ?_; (· first | rfl | assumption | (refine decide_eq_true ?_; first | assumption | omega) | (refine nt ?_; first | assumption | omega) | (simp [*]; done))) | refine skip_then ?_ | refine AW_seq ?_ | refine AW_block ?_)
    refine AW_loop (α := Nat × Int) (fun q => q.1 ≤ g ∧ 0 ≤ q.2 ∧ q.2 ≤ 479001600 ∧ pickF M g M.length (g - q.1) q.1 q.2 = some (y, s)) (fun q => st [(0, .i g), (1, .i q.2), (5, .sl 5 1 0 M.length), (6, .i M.length), (7, .i q.1)] [(5, (true, M.map AV.i))]) (fun q => g - q.1) (0, r1) ⟨by simp, hr0, by dsimp only; omega, hpick⟩ (weak_st ?_ ?_ rfl rfl) ?_
    · (repeat' (first | exact trivial | refine And.intro ?_ ?_)) <;> (first | rfl | skip)
    · exact ⟨rfl, trivial⟩
    rintro ⟨x, r2⟩ ⟨hx, hr20, hr21, hpk⟩
    dsimp only at hx hr20 hr21 hpk ⊢
    by_cases hcx : x < g
    · obtain ⟨m, hm⟩ : ∃ m, g - x = m + 1 := ⟨g - x - 1, by omega⟩
      have em : g - (x + 1) = m := by omega
      rw [hm, pickF] at hpk
      have hlx := lft_le (M ++ [(x : Int)]) g hg
      have hlen : (M ++ [(x : Int)]).length = M.length + 1 := by rw [List.length_append]; rfl
      by_cases hne : x = M.length
      · have hne' : (x : Int) = (M.length : Int) := by omega
        rw [if_neg fun hh => hh.1 hne] at hpk
        repeat (first | (refine step_ops ?_; (first | (first | (refine m_mov (by conv => lhs; whnf) ?_) | (refine m_lss rfl rfl ?_) | (refine m_eql rfl rfl ?_) | (refine m_add rfl rfl ?_ ?_ ?_; (· omega); (· omega)) | (refine m_pick_t rfl ?_ (by conv => lhs; whnf) ?_; (· first | rfl | assumption | (refine decide_eq_true ?_; first | assumption | omega) | (refine nt ?_; first | assumption | omega) | (simp [*]; done)))) | (refine g_noF rfl ?_ ?_; (· first | rfl | assumption | (refine decide_eq_true ?_; first | assumption | omega) | (refine nt ?_; first | assumption | omega) | (simp [*]; done))))) | refine end_ops ?_ | refine seq_ops ?_ | refine AW_ops ?_ | (refine cond_t rfl ?_ ?_; (· first | rfl | assumption | (refine decide_eq_true ?_; first | assumption | omega) | (refine nt ?_; first | assumption | omega) | (simp [*]; done))) | refine skip_then ?_ | refine AW_seq ?_ | refine norm_then ?_ | refine exit_then ?_ | refine AW_block ?_ | refine AW_exit ?_ | refine exit_block ?_)
        refine next_round (x + 1, r2) ⟨by dsimp only; omega, hr20, hr21, by dsimp only; rw [em]; exact hpk⟩ (weak_st ?_ ?_ rfl rfl) ?_
        · (repeat' (first | exact trivial | refine And.intro ?_ ?_)) <;> (first | rfl | skip)
        · exact ⟨rfl, trivial⟩
        · dsimp only; omega
      · have hne' : ¬ (x : Int) = (M.length : Int) := by omega
        by_cases hmm : (x : Int) ∈ M
        · rw [if_neg fun hh => hh.2 hmm] at hpk
          repeat (first | (refine step_ops ?_; ((try (refine g_yes rfl ?_ ?_; (· first | rfl | assumption | (refine decide_eq_true ?_; first | assumption | omega) | (refine nt ?_; first | assumption | omega) | (simp [*]; done) | (refine decide_eq_false ?_; first | assumption | omega) | (refine nf ?_; first | assumption | omega)))); (first | (refine m_mov (by conv => lhs; whnf) ?_) | (refine m_lss rfl rfl ?_) | (refine m_eql rfl rfl ?_)))) | refine end_ops ?_ | refine seq_ops ?_ | (refine cond_t rfl ?_ ?_; (· first | rfl | assumption | (refine decide_eq_true ?_; first | assumption | omega) | (refine nt ?_; first | assumption | omega) | (simp [*]; done))) | refine skip_then ?_ | refine AW_seq ?_ | refine AW_block ?_)
          (refine step_ops ?_); (refine g_yes rfl ?_ ?_; (· first | (first | rfl | assumption | (refine decide_eq_true ?_; first | assumption | omega) | (refine nt ?_; first | assumption | omega) | (simp [*]; done)) | (first | rfl | assumption | (refine decide_eq_false ?_; first | assumption | omega) | (refine nf ?_; first | assumption | omega) | (simp [*]; done))); (apply m_call (l1Has_spec M _ (by omega)))); (· repeat (first | exact lends_nil | (refine lends_cons ?_ ?_; (· (first | exact lend_v | (refine lend_sli (by rfl) ?_; first | rfl | omega | (simp; done)))))))
          repeat (first | (refine step_ops ?_; (first | (refine m_mov (by conv => lhs; whnf) ?_) | (refine m_add rfl rfl ?_ ?_ ?_; (· omega); (· omega)) | (refine m_pick_f rfl ?_ (by conv => lhs; whnf) ?_; (· first | rfl | assumption | (refine decide_eq_false ?_; first | assumption | omega) | (refine nf ?_; first | assumption | omega) | (simp [*]; done))))) | refine end_ops ?_ | refine AW_ops ?_ | (refine cond_t rfl ?_ ?_; (· first | rfl | assumption | (refine decide_eq_true ?_; first | assumption | omega) | (refine nt ?_; first | assumption | omega) | (simp [*]; done))) | refine norm_then ?_ | refine exit_then ?_ | refine AW_exit ?_ | refine exit_block ?_)
          refine next_round (x + 1, r2) ⟨by dsimp only; omega, hr20, hr21, by dsimp only; rw [em]; exact hpk⟩ (weak_st ?_ ?_ rfl rfl) ?_
          · (repeat' (first | exact trivial | refine And.intro ?_ ?_)) <;> (first | rfl | skip)
          · exact ⟨rfl, trivial⟩
          · dsimp only; omega
        · rw [if_pos ⟨hne, hmm⟩] at hpk
          by_cases hlt : r2 < lft (M ++ [(x : Int)]) g
          · rw [if_pos hlt] at hpk
            have hys : y = x ∧ s = r2 := by cases hpk; exact ⟨rfl, rfl⟩
            rw [hys.1, hys.2] at hu hs1
            rw [hys.2] at hs0
            repeat (first | (refine step_ops ?_; ((try (refine g_yes rfl ?_ ?_; (· first | rfl | assumption | (refine decide_eq_true ?_; first | assumption | omega) | (refine nt ?_; first | assumption | omega) | (simp [*]; done) | (refine decide_eq_false ?_; first | assumption | omega) | (refine nf ?_; first | assumption | omega)))); (first | (refine m_mov (by conv => lhs; whnf) ?_) | (refine m_lss rfl rfl ?_) | (refine m_eql rfl rfl ?_)))) | refine end_ops ?_ | refine seq_ops ?_ | (refine cond_t rfl ?_ ?_; (· first | rfl | assumption | (refine decide_eq_true ?_; first | assumption | omega) | (refine nt ?_; first | assumption | omega) | (simp [*]; done))) | refine skip_then ?_ | refine AW_seq ?_ | refine AW_block ?_)
            (refine step_ops ?_); (refine g_yes rfl ?_ ?_; (· first | (first | rfl | assumption | (refine decide_eq_true ?_; first | assumption | omega) | (refine nt ?_; first | assumption | omega) | (simp [*]; done)) | (first | rfl | assumption | (refine decide_eq_false ?_; first | assumption | omega) | (refine nf ?_; first | assumption | omega) | (simp [*]; done))); (apply m_call (l1Has_spec M _ (by omega)))); (· repeat (first | exact lends_nil | (refine lends_cons ?_ ?_; (· (first | exact lend_v | (refine lend_sli (by rfl) ?_; first | rfl | omega | (simp; done)))))))
            repeat (first | (refine step_ops ?_; (first | (refine m_mov (by conv => lhs; whnf) ?_) | (refine m_pick_f rfl ?_ (by conv => lhs; whnf) ?_; (· first | rfl | assumption | (refine decide_eq_false ?_; first | assumption | omega) | (refine nf ?_; first | assumption | omega) | (simp [*]; done))))) | refine end_ops ?_ | refine seq_ops ?_ | (refine cond_f rfl ?_ ?_; (· first | rfl | assumption | (refine decide_eq_false ?_; first | assumption | omega) | (refine nf ?_; first | assumption | omega) | (simp [*]; done))) | refine skip_then ?_)
            (refine step_ops ?_); (apply m_callo (l1Own_spec M (by omega))); (· repeat (first | exact lends_nil | (refine lends_cons ?_ ?_; (· (refine lend_sli (by rfl) ?_; first | rfl | omega | (simp; done)))))); (· first | exact allv_ints _ | rfl | (simp; done))
            repeat (first | (refine step_ops ?_; (first | (refine m_mov (by conv => lhs; whnf) ?_) | (refine m_bsl1 rfl rfl ?_) | (refine m_app1i rfl (by decide) (by rfl) (by first | rfl | omega | (simp; done)) rfl rfl ?_ (by decide) ?_; (· first | omega | (simp; omega))))) | refine end_ops ?_ | refine seq_ops ?_)
            (refine step_ops ?_); (apply m_call (exLeft_spec (M ++ [(x : Int)]) g (by omega) hg)); (· repeat (first | exact lends_nil | (refine lends_cons ?_ ?_; (· (first | exact lend_v | (refine lend_sli (by rfl) ?_; first | rfl | omega | (simp; done)))))))
            repeat (first | (refine step_ops ?_; (first | (refine m_mov (by conv => lhs; whnf) ?_) | (refine m_lss rfl rfl ?_) | (refine m_add rfl rfl ?_ ?_ ?_; (· omega); (· omega)))) | refine end_ops ?_ | refine seq_ops ?_ | refine AW_ops ?_ | (refine cond_t rfl ?_ ?_; (· first | rfl | assumption | (refine decide_eq_true ?_; first | assumption | omega) | (refine nt ?_; first | assumption | omega) | (simp [*]; done))) | refine AW_seq ?_ | refine norm_then ?_ | refine exit_then ?_ | refine norm_block ?_ | refine exit_round ?_ | refine AW_exit ?_ | refine exit_block ?_ | (refine exit_other ?_ ?_; (· decide)))
            refine next_round (M ++ [(x : Int)], r2) ⟨hp.snoc hcx hmm, by dsimp only; omega, fun _ => ⟨hs0, hs1⟩, ?_⟩ (Weak.trans (weak_move (r := 32) (q := 5) rfl (by decide) (by decide)) (weak_st ?_ ?_ rfl rfl)) ?_
            · dsimp only
              rw [hlen, ← hu]
              congr 1
              omega
            · refine ⟨rfl, rfl, rfl, ?_, trivial⟩
              show AV.i ((M.length : Int) + 1) = AV.i ((M ++ [(x : Int)]).length : Nat)
              rw [hlen]; rfl
            · exact ⟨rfl, trivial⟩
            · dsimp only; omega
          · rw [if_neg hlt] at hpk
            repeat (first | (refine step_ops ?_; ((try (refine g_yes rfl ?_ ?_; (· first | rfl | assumption | (refine decide_eq_true ?_; first | assumption | omega) | (refine nt ?_; first | assumption | omega) | (simp [*]; done) | (refine decide_eq_false ?_; first | assumption | omega) | (refine nf ?_; first | assumption | omega)))); (first | (refine m_mov (by conv => lhs; whnf) ?_) | (refine m_lss rfl rfl ?_) | (refine m_eql rfl rfl ?_)))) | refine end_ops ?_ | refine seq_ops ?_ | (refine cond_t rfl ?_ ?_; (· first | rfl | assumption | (refine decide_eq_true ?_; first | assumption | omega) | (refine nt ?_; first | assumption | omega) | (simp [*]; done))) | refine skip_then ?_ | refine AW_seq ?_ | refine AW_block ?_)
            (refine step_ops ?_); (refine g_yes rfl ?_ ?_; (· first | (first | rfl | assumption | (refine decide_eq_true ?_; first | assumption | omega) | (refine nt ?_; first | assumption | omega) | (simp [*]; done)) | (first | rfl | assumption | (refine decide_eq_false ?_; first | assumption | omega) | (refine nf ?_; first | assumption | omega) | (simp [*]; done))); (apply m_call (l1Has_spec M _ (by omega)))); (· repeat (first | exact lends_nil | (refine lends_cons ?_ ?_; (· (first | exact lend_v | (refine lend_sli (by rfl) ?_; first | rfl | omega | (simp; done)))))))
            repeat (first | (refine step_ops ?_; (first | (refine m_mov (by conv => lhs; whnf) ?_) | (refine m_pick_f rfl ?_ (by conv => lhs; whnf) ?_; (· first | rfl | assumption | (refine decide_eq_false ?_; first | assumption | omega) | (refine nf ?_; first | assumption | omega) | (simp [*]; done))))) | refine end_ops ?_ | refine seq_ops ?_ | (refine cond_f rfl ?_ ?_; (· first | rfl | assumption | (refine decide_eq_false ?_; first | assumption | omega) | (refine nf ?_; first | assumption | omega) | (simp [*]; done))) | refine skip_then ?_)
            (refine step_ops ?_); (apply m_callo (l1Own_spec M (by omega))); (· repeat (first | exact lends_nil | (refine lends_cons ?_ ?_; (· (refine lend_sli (by rfl) ?_; first | rfl | omega | (simp; done)))))); (· first | exact allv_ints _ | rfl | (simp; done))
            repeat (first | (refine step_ops ?_; (first | (refine m_mov (by conv => lhs; whnf) ?_) | (refine m_bsl1 rfl rfl ?_) | (refine m_app1i rfl (by decide) (by rfl) (by first | rfl | omega | (simp; done)) rfl rfl ?_ (by decide) ?_; (· first | omega | (simp; omega))))) | refine end_ops ?_ | refine seq_ops ?_)
            (refine step_ops ?_); (apply m_call (exLeft_spec (M ++ [(x : Int)]) g (by omega) hg)); (· repeat (first | exact lends_nil | (refine lends_cons ?_ ?_; (· (first | exact lend_v | (refine lend_sli (by rfl) ?_; first | rfl | omega | (simp; done)))))))
            repeat (first | (refine step_ops ?_; (first | (refine m_mov (by conv => lhs; whnf) ?_) | (refine m_lss rfl rfl ?_) | (refine m_add rfl rfl ?_ ?_ ?_; (· omega); (· omega)) | (refine m_sub rfl rfl ?_ ?_ ?_; (· omega); (· omega)))) | refine end_ops ?_ | refine seq_ops ?_ | refine AW_ops ?_ | (refine cond_f rfl ?_ ?_; (· first | rfl | assumption | (refine decide_eq_false ?_; first | assumption | omega) | (refine nf ?_; first | assumption | omega) | (simp [*]; done))) | refine skip_then ?_ | refine AW_seq ?_ | refine norm_then ?_ | refine norm_block ?_)
            refine next_round (x + 1, r2 - lft (M ++ [(x : Int)]) g) ⟨by dsimp only; omega, by dsimp only; omega, by dsimp only; omega, by dsimp only; rw [em]; exact hpk⟩ (weak_st ?_ ?_ rfl rfl) ?_
            · (repeat' (first | exact trivial | refine And.intro ?_ ?_)) <;> (first | rfl | skip)
            · exact ⟨rfl, trivial⟩
            · dsimp only; omega
    · have e : g - x = 0 := by omega
      rw [e, pickF] at hpk
      cases hpk
  · repeat (first | (refine step_ops ?_; (first | (refine m_mov (by conv => lhs; whnf) ?_) | (refine m_lss rfl rfl ?_))) | refine end_ops ?_ | refine seq_ops ?_ | (refine cond_f rfl ?_ ?_; (· first | rfl | assumption | (refine decide_eq_false ?_; first | assumption | omega) | (refine nf ?_; first | assumption | omega) | (simp [*]; done))) | refine AW_seq ?_ | refine AW_ret ?_ | refine ret_done ?_ | refine norm_then ?_ | refine exit_then ?_ | refine exit_round ?_ | refine AW_exit ?_ | refine exit_block ?_)
    have e : g - M.length = 0 := by omega
    rw [e, unrF] at hu
    exact outs_ints rfl (by rw [hu]) (by rw [hu])
theorem rankG_len (g : Nat) (hg : g ≤ 12) (r : Int) (h0 : 0 ≤ r) (h1 : r < noneN g) : (rankG g r).length = g := by
  suffices hh : ∀ (n : Nat) (M : List Int) (r : Int), n + M.length = g → Part M g → (M.length < g → 0 ≤ r ∧ r < lft M g) → (unrF g n M r).length = g from hh g [] r (by simp) ⟨by simp, by simp⟩ fun _ => ⟨h0, by rw [lft_none g hg]; exact h1⟩
  intro n
  induction n with
  | zero => intro M r hn _ _; simp only [unrF]; omega
  | succ n ih =>
    intro M r hn hp hr
    obtain ⟨hr0, hr1⟩ := hr (by omega)
    obtain ⟨y, s, hpick, hyg, hcan, hs0, hs1⟩ := pickF_some M g hp (by omega) hg r hr1 g 0 r (by omega) hr0 (by simp [smTo])
    rw [unr_step hpick]
    exact ih _ _ (by rw [List.length_append, List.length_singleton]; omega) (hp.snoc hyg hcan.2) fun _ => ⟨hs0, hs1⟩
/-- What NoneOfRank tells. -/
def OfOk (n r : Int) : Prop := (1 ≤ n ∧ n ≤ 12) ∧ 0 ≤ r ∧ r ≤ noneN n.toNat - 1
instance (n r : Int) : Decidable (OfOk n r) := inferInstanceAs (Decidable (_ ∧ _))
def ofRes (n r : Int) : List Int := if OfOk n r then rankG n.toNat r else []
theorem ofRes_le (n r : Int) : (ofRes n r).length ≤ 12 := by
  unfold ofRes
  split
  · rename_i h
    rw [rankG_len n.toNat (by have := h.1; omega) r h.2.1 (by have := h.2.2; omega)]
    have := h.1; omega
  · simp
theorem noneN_le : ∀ g < 13, 0 ≤ noneN g ∧ noneN g ≤ 1000000000 := by decide +kernel
theorem ap_table : ∀ g < 13, (apOut g g).getD g 0 = noneN g := by decide +kernel
theorem specNoneOfRank_spec (n r : Int) : Sp Try.prog 27 [.i n, .i r] (.tup [newInts (ofRes n r), .b (decide (OfOk n r))]) := by
  refine spec_of Try.func27 rfl cc27 rfl ?_
  unfold ac27
  by_cases h : 1 ≤ n ∧ n ≤ 12
  · obtain ⟨g, hg⟩ := Int.eq_ofNat_of_zero_le (show 0 ≤ n by omega)
    subst hg
    have hb := noneN_le g (by omega)
    by_cases h2 : 0 ≤ r ∧ r ≤ noneN g - 1
    · have hok : OfOk g r := ⟨h, h2.1, by rw [Int.toNat_natCast]; exact h2.2⟩
      have e : ofRes g r = rankG g r := by rw [ofRes, if_pos hok, Int.toNat_natCast]
      repeat (first | (refine step_ops ?_; (first | (refine m_mov (by conv => lhs; whnf) ?_) | (refine m_nils ?_))) | refine end_ops ?_ | refine seq_ops ?_ | refine AW_seq ?_)
      (refine step_ops ?_); (apply m_call (exGuests_spec g)); (· repeat (first | exact lends_nil | (refine lends_cons ?_ ?_; (· exact lend_v))))
      repeat (refine step_ops ?_; ((try (refine g_yes rfl ?_ ?_; (· first | rfl | assumption | (refine decide_eq_true ?_; first | assumption | omega) | (refine nt ?_; first | assumption | omega) | (simp [*]; done) | (refine decide_eq_false ?_; first | assumption | omega) | (refine nf ?_; first | assumption | omega)))); (first | (refine m_mov (by conv => lhs; whnf) ?_) | (refine m_not rfl ?_))))
      (refine step_ops ?_); (refine g_yes rfl ?_ ?_; (· first | (first | rfl | assumption | (refine decide_eq_true ?_; first | assumption | omega) | (refine nt ?_; first | assumption | omega) | (simp [*]; done)) | (first | rfl | assumption | (refine decide_eq_false ?_; first | assumption | omega) | (refine nf ?_; first | assumption | omega) | (simp [*]; done))); (apply m_call (exNone_spec g (by omega)))); (· repeat (first | exact lends_nil | (refine lends_cons ?_ ?_; (· exact lend_v))))
      repeat (refine step_ops ?_; ((try (refine g_yes rfl ?_ ?_; (· first | rfl | assumption | (refine decide_eq_true ?_; first | assumption | omega) | (refine nt ?_; first | assumption | omega) | (simp [*]; done) | (refine decide_eq_false ?_; first | assumption | omega) | (refine nf ?_; first | assumption | omega)))); (refine m_sub rfl rfl ?_ ?_ ?_; (· omega); (· omega))))
      (refine step_ops ?_); (refine g_yes rfl ?_ ?_; (· first | (first | rfl | assumption | (refine decide_eq_true ?_; first | assumption | omega) | (refine nt ?_; first | assumption | omega) | (simp [*]; done)) | (first | rfl | assumption | (refine decide_eq_false ?_; first | assumption | omega) | (refine nf ?_; first | assumption | omega) | (simp [*]; done))); (apply m_call (l1In_spec r 0 (noneN g - 1)))); (· repeat (first | exact lends_nil | (refine lends_cons ?_ ?_; (· exact lend_v))))
      repeat (first | (refine step_ops ?_; ((try (refine g_yes rfl ?_ ?_; (· first | rfl | assumption | (refine decide_eq_true ?_; first | assumption | omega) | (refine nt ?_; first | assumption | omega) | (simp [*]; done) | (refine decide_eq_false ?_; first | assumption | omega) | (refine nf ?_; first | assumption | omega)))); (first | (refine m_mov (by conv => lhs; whnf) ?_) | (refine m_not rfl ?_) | (refine m_pick_f rfl ?_ (by conv => lhs; whnf) ?_; (· first | rfl | assumption | (refine decide_eq_false ?_; first | assumption | omega) | (refine nf ?_; first | assumption | omega) | (simp [*]; done)))))) | refine end_ops ?_ | refine seq_ops ?_ | (refine cond_f rfl ?_ ?_; (· first | rfl | assumption | (refine decide_eq_false ?_; first | assumption | omega) | (refine nf ?_; first | assumption | omega) | (simp [*]; done))) | refine skip_then ?_)
      (refine step_ops ?_); (apply m_callo (exRanked_spec g (by omega) r h2.1 (by omega))); (· repeat (first | exact lends_nil | (refine lends_cons ?_ ?_; (· exact lend_v)))); (· first | exact allv_ints _ | rfl | (simp; done))
      repeat (first | (refine step_ops ?_; (refine m_mov (by conv => lhs; whnf) ?_)) | refine end_ops ?_ | refine AW_ret ?_ | refine ret_done ?_)
      refine outs_tup2 (outs_ints rfl (by rw [e]) (by rw [e])) (outs_b ?_)
      simp [hok]
    · have hok : ¬ OfOk g r := fun hh => h2 (by have := hh.2; rw [Int.toNat_natCast] at this; exact this)
      have e : ofRes g r = [] := if_neg hok
      repeat (first | (refine step_ops ?_; (first | (refine m_mov (by conv => lhs; whnf) ?_) | (refine m_nils ?_))) | refine end_ops ?_ | refine seq_ops ?_ | refine AW_seq ?_)
      (refine step_ops ?_); (apply m_call (exGuests_spec g)); (· repeat (first | exact lends_nil | (refine lends_cons ?_ ?_; (· exact lend_v))))
      repeat (refine step_ops ?_; ((try (refine g_yes rfl ?_ ?_; (· first | rfl | assumption | (refine decide_eq_true ?_; first | assumption | omega) | (refine nt ?_; first | assumption | omega) | (simp [*]; done) | (refine decide_eq_false ?_; first | assumption | omega) | (refine nf ?_; first | assumption | omega)))); (first | (refine m_mov (by conv => lhs; whnf) ?_) | (refine m_not rfl ?_))))
      (refine step_ops ?_); (refine g_yes rfl ?_ ?_; (· first | (first | rfl | assumption | (refine decide_eq_true ?_; first | assumption | omega) | (refine nt ?_; first | assumption | omega) | (simp [*]; done)) | (first | rfl | assumption | (refine decide_eq_false ?_; first | assumption | omega) | (refine nf ?_; first | assumption | omega) | (simp [*]; done))); (apply m_call (exNone_spec g (by omega)))); (· repeat (first | exact lends_nil | (refine lends_cons ?_ ?_; (· exact lend_v))))
      repeat (refine step_ops ?_; ((try (refine g_yes rfl ?_ ?_; (· first | rfl | assumption | (refine decide_eq_true ?_; first | assumption | omega) | (refine nt ?_; first | assumption | omega) | (simp [*]; done) | (refine decide_eq_false ?_; first | assumption | omega) | (refine nf ?_; first | assumption | omega)))); (refine m_sub rfl rfl ?_ ?_ ?_; (· omega); (· omega))))
      (refine step_ops ?_); (refine g_yes rfl ?_ ?_; (· first | (first | rfl | assumption | (refine decide_eq_true ?_; first | assumption | omega) | (refine nt ?_; first | assumption | omega) | (simp [*]; done)) | (first | rfl | assumption | (refine decide_eq_false ?_; first | assumption | omega) | (refine nf ?_; first | assumption | omega) | (simp [*]; done))); (apply m_call (l1In_spec r 0 (noneN g - 1)))); (· repeat (first | exact lends_nil | (refine lends_cons ?_ ?_; (· exact lend_v))))
      repeat (first | (refine step_ops ?_; ((try (refine g_yes rfl ?_ ?_; (· first | rfl | assumption | (refine decide_eq_true ?_; first | assumption | omega) | (refine nt ?_; first | assumption | omega) | (simp [*]; done) | (refine decide_eq_false ?_; first | assumption | omega) | (refine nf ?_; first | assumption | omega)))); (first | (refine m_mov (by conv => lhs; whnf) ?_) | (refine m_not rfl ?_) | (refine m_pick_f rfl ?_ (by conv => lhs; whnf) ?_; (· first | rfl | assumption | (refine decide_eq_false ?_; first | assumption | omega) | (refine nf ?_; first | assumption | omega) | (simp [*]; done))) | (refine m_nils ?_)))) | refine end_ops ?_ | refine seq_ops ?_ | (refine cond_t rfl ?_ ?_; (· first | rfl | assumption | (refine decide_eq_true ?_; first | assumption | omega) | (refine nt ?_; first | assumption | omega) | (simp [*]; done))) | refine AW_ret ?_ | refine ret_done ?_ | refine ret_then ?_)
      refine outs_tup2 (outs_ints rfl (by rw [e]; rfl) (by rw [e]; rfl)) (outs_b ?_)
      simp [hok]
  · have hok : ¬ OfOk n r := fun hh => h hh.1
    have e : ofRes n r = [] := if_neg hok
    repeat (first | (refine step_ops ?_; (first | (refine m_mov (by conv => lhs; whnf) ?_) | (refine m_nils ?_))) | refine end_ops ?_ | refine seq_ops ?_ | refine AW_seq ?_)
    (refine step_ops ?_); (apply m_call (exGuests_spec n)); (· repeat (first | exact lends_nil | (refine lends_cons ?_ ?_; (· exact lend_v))))
    repeat (first | (refine step_ops ?_; (first | (first | (refine m_mov (by conv => lhs; whnf) ?_) | (refine m_not rfl ?_) | (refine m_pick_t rfl ?_ (by conv => lhs; whnf) ?_; (· first | rfl | assumption | (refine decide_eq_true ?_; first | assumption | omega) | (refine nt ?_; first | assumption | omega) | (simp [*]; done))) | (refine m_nils ?_)) | (refine g_noF rfl ?_ ?_; (· first | rfl | assumption | (refine decide_eq_true ?_; first | assumption | omega) | (refine nt ?_; first | assumption | omega) | (simp [*]; done))))) | refine end_ops ?_ | refine seq_ops ?_ | (refine cond_t rfl ?_ ?_; (· first | rfl | assumption | (refine decide_eq_true ?_; first | assumption | omega) | (refine nt ?_; first | assumption | omega) | (simp [*]; done))) | refine AW_ret ?_ | refine ret_done ?_ | refine ret_then ?_)
    refine outs_tup2 (outs_ints rfl (by rw [e]; rfl) (by rw [e]; rfl)) (outs_b ?_)
    simp [hok]
/-- The list asx it is filled. -/
def fillZ (M : List Int) (g : Nat) : List Int := M ++ List.replicate (g - M.length) 0
theorem fillZ_len (M : List Int) (g : Nat) (h : M.length ≤ g) : (fillZ M g).length = g := by simp [fillZ]; omega
theorem fillZ_set (M : List Int) (g : Nat) (x : Int) (h : M.length < g) : (fillZ M g).set M.length x = fillZ (M ++ [x]) g := by
  unfold fillZ
  have e : g - M.length = (g - (M.length + 1)) + 1 := by omega
  rw [e, List.replicate_succ, List.set_append_right _ _ (Nat.le_refl _), Nat.sub_self, List.set_cons_zero, List.append_assoc]
  simp
theorem implNoneOfRank_spec (n r : Int) : Sp Try.prog 14 [.i n, .i r] (.tup [newInts (ofRes n r), .b (decide (OfOk n r))]) := by
  refine spec_of Try.func14 rfl cc14 rfl ?_
  unfold ac14
  by_cases h : 1 ≤ n ∧ n ≤ 12
  · obtain ⟨g, hgn⟩ := Int.eq_ofNat_of_zero_le (show 0 ≤ n by omega)
    subst hgn
    have hg : g ≤ 12 := by omega
    have hb := noneN_le g (by omega)
    have hap := ap_table g (by omega)
    by_cases h2 : r < 0
    · have hok : ¬ OfOk g r := fun hh => by have := hh.2; omega
      have e : ofRes g r = [] := if_neg hok
      repeat (first | (refine step_ops ?_; (first | (refine m_mov (by conv => lhs; whnf) ?_) | (refine m_nils ?_))) | refine end_ops ?_ | refine seq_ops ?_ | refine AW_seq ?_)
      refine step_ops ?_; (apply m_call (isGuestCount_spec g)); (· repeat (first | exact lends_nil | (refine lends_cons ?_ ?_; (· exact lend_v))))
      repeat (first | (refine step_ops ?_; (first | ((try (refine g_yes rfl ?_ ?_; (· first | rfl | assumption | (refine decide_eq_true ?_; first | assumption | omega) | (refine nt ?_; first | assumption | omega) | (simp [*]; done) | (refine decide_eq_false ?_; first | assumption | omega) | (refine nf ?_; first | assumption | omega)))); (first | (refine m_mov (by conv => lhs; whnf) ?_) | (refine m_lss rfl rfl ?_) | (refine m_not rfl ?_) | (refine m_pick_t rfl ?_ (by conv => lhs; whnf) ?_; (· first | rfl | assumption | (refine decide_eq_true ?_; first | assumption | omega) | (refine nt ?_; first | assumption | omega) | (simp [*]; done))) | (refine m_pick_f rfl ?_ (by conv => lhs; whnf) ?_; (· first | rfl | assumption | (refine decide_eq_false ?_; first | assumption | omega) | (refine nf ?_; first | assumption | omega) | (simp [*]; done))) | (refine m_nils ?_))) | (refine g_noF rfl ?_ ?_; (· first | rfl | assumption | (refine decide_eq_true ?_; first | assumption | omega) | (refine nt ?_; first | assumption | omega) | (simp [*]; done))))) | refine end_ops ?_ | refine seq_ops ?_ | (refine cond_t rfl ?_ ?_; (· first | rfl | assumption | (refine decide_eq_true ?_; first | assumption | omega) | (refine nt ?_; first | assumption | omega) | (simp [*]; done))) | refine AW_ret ?_ | refine ret_done ?_ | refine ret_then ?_)
      refine outs_tup2 (outs_ints rfl (by rw [e]; rfl) (by rw [e]; rfl)) (outs_b ?_)
      simp [hok]
    by_cases h3 : noneN g ≤ r
    · have hok : ¬ OfOk g r := fun hh => by have := hh.2; rw [Int.toNat_natCast] at this; omega
      have e : ofRes g r = [] := if_neg hok
      repeat (first | (refine step_ops ?_; (first | (refine m_mov (by conv => lhs; whnf) ?_) | (refine m_nils ?_))) | refine end_ops ?_ | refine seq_ops ?_ | refine AW_seq ?_)
      refine step_ops ?_; (apply m_call (isGuestCount_spec g)); (· repeat (first | exact lends_nil | (refine lends_cons ?_ ?_; (· exact lend_v))))
      repeat (refine step_ops ?_; ((try (refine g_yes rfl ?_ ?_; (· first | rfl | assumption | (refine decide_eq_true ?_; first | assumption | omega) | (refine nt ?_; first | assumption | omega) | (simp [*]; done) | (refine decide_eq_false ?_; first | assumption | omega) | (refine nf ?_; first | assumption | omega)))); (first | (refine m_mov (by conv => lhs; whnf) ?_) | (refine m_lss rfl rfl ?_) | (refine m_not rfl ?_) | (refine m_pick_f rfl ?_ (by conv => lhs; whnf) ?_; (· first | rfl | assumption | (refine decide_eq_false ?_; first | assumption | omega) | (refine nf ?_; first | assumption | omega) | (simp [*]; done))))))
      refine step_ops ?_; (refine g_yes rfl ?_ ?_; (· first | (first | rfl | assumption | (refine decide_eq_true ?_; first | assumption | omega) | (refine nt ?_; first | assumption | omega) | (simp [*]; done)) | (first | rfl | assumption | (refine decide_eq_false ?_; first | assumption | omega) | (refine nf ?_; first | assumption | omega) | (simp [*]; done))); (apply m_call (countApart_spec g g hg hg))); (· repeat (first | exact lends_nil | (refine lends_cons ?_ ?_; (· exact lend_v))))
      rw [hap]
      repeat (first | (refine step_ops ?_; ((try (refine g_yes rfl ?_ ?_; (· first | rfl | assumption | (refine decide_eq_true ?_; first | assumption | omega) | (refine nt ?_; first | assumption | omega) | (simp [*]; done) | (refine decide_eq_false ?_; first | assumption | omega) | (refine nf ?_; first | assumption | omega)))); (first | (refine m_mov (by conv => lhs; whnf) ?_) | (refine m_geq rfl rfl ?_) | (refine m_pick_f rfl ?_ (by conv => lhs; whnf) ?_; (· first | rfl | assumption | (refine decide_eq_false ?_; first | assumption | omega) | (refine nf ?_; first | assumption | omega) | (simp [*]; done))) | (refine m_nils ?_)))) | refine end_ops ?_ | refine seq_ops ?_ | (refine cond_t rfl ?_ ?_; (· first | rfl | assumption | (refine decide_eq_true ?_; first | assumption | omega) | (refine nt ?_; first | assumption | omega) | (simp [*]; done))) | refine AW_ret ?_ | refine ret_done ?_ | refine ret_then ?_)
      refine outs_tup2 (outs_ints rfl (by rw [e]; rfl) (by rw [e]; rfl)) (outs_b ?_)
      simp [hok]
    · have hok : OfOk g r := ⟨h, by omega, by rw [Int.toNat_natCast]; omega⟩
      have e : ofRes g r = rankG g r := by rw [ofRes, if_pos hok, Int.toNat_natCast]
      repeat (first | (refine step_ops ?_; (first | (refine m_mov (by conv => lhs; whnf) ?_) | (refine m_nils ?_))) | refine end_ops ?_ | refine seq_ops ?_ | refine AW_seq ?_)
      refine step_ops ?_; (apply m_call (isGuestCount_spec g)); (· repeat (first | exact lends_nil | (refine lends_cons ?_ ?_; (· exact lend_v))))
      repeat (refine step_ops ?_; ((try (refine g_yes rfl ?_ ?_; (· first | rfl | assumption | (refine decide_eq_true ?_; first | assumption | omega) | (refine nt ?_; first | assumption | omega) | (simp [*]; done) | (refine decide_eq_false ?_; first | assumption | omega) | (refine nf ?_; first | assumption | omega)))); (first | (refine m_mov (by conv => lhs; whnf) ?_) | (refine m_lss rfl rfl ?_) | (refine m_not rfl ?_) | (refine m_pick_f rfl ?_ (by conv => lhs; whnf) ?_; (· first | rfl | assumption | (refine decide_eq_false ?_; first | assumption | omega) | (refine nf ?_; first | assumption | omega) | (simp [*]; done))))))
      refine step_ops ?_; (refine g_yes rfl ?_ ?_; (· first | (first | rfl | assumption | (refine decide_eq_true ?_; first | assumption | omega) | (refine nt ?_; first | assumption | omega) | (simp [*]; done)) | (first | rfl | assumption | (refine decide_eq_false ?_; first | assumption | omega) | (refine nf ?_; first | assumption | omega) | (simp [*]; done))); (apply m_call (countApart_spec g g hg hg))); (· repeat (first | exact lends_nil | (refine lends_cons ?_ ?_; (· exact lend_v))))
      rw [hap]
      repeat (first | (refine step_ops ?_; ((try (refine g_yes rfl ?_ ?_; (· first | rfl | assumption | (refine decide_eq_true ?_; first | assumption | omega) | (refine nt ?_; first | assumption | omega) | (simp [*]; done) | (refine decide_eq_false ?_; first | assumption | omega) | (refine nf ?_; first | assumption | omega)))); (first | (refine m_mov (by conv => lhs; whnf) ?_) | (refine m_geq rfl rfl ?_) | (refine m_pick_f rfl ?_ (by conv => lhs; whnf) ?_; (· first | rfl | assumption | (refine decide_eq_false ?_; first | assumption | omega) | (refine nf ?_; first | assumption | omega) | (simp [*]; done))) | (refine m_alloc ?_) | (refine m_bld_1 (by conv => lhs; whnf) (by decide)  (by rfl) ?_) | (refine m_stall rfl rfl rfl ?_ ?_ ?_ ?_; (· first | rfl | (simp [*]; done)); (· first | rfl | (simp [*]; done)); (· first | rfl | (simp [cellOk, Value.oneCell']; done)))))) | refine end_ops ?_ | refine seq_ops ?_ | (refine cond_f rfl ?_ ?_; (· first | rfl | assumption | (refine decide_eq_false ?_; first | assumption | omega) | (refine nf ?_; first | assumption | omega) | (simp [*]; done))) | refine skip_then ?_)
      refine step_ops ?_
      refine m_mk rfl rfl (by omega) (by omega) ?_
      repeat (first | (refine step_ops ?_; (first | (refine m_mov (by conv => lhs; whnf) ?_) | (refine m_len_sl rfl ?_))) | refine end_ops ?_ | refine seq_ops ?_ | refine AW_seq ?_ | refine AW_block ?_)
      refine AW_loop (α := List Int × Int) (fun q => Part q.1 g ∧ q.1.length ≤ g ∧ (q.1.length < g → 0 ≤ q.2 ∧ q.2 < lft q.1 g) ∧ unrF g (g - q.1.length) q.1 q.2 = rankG g r) (fun q => st [(0, .i g), (1, .i q.2), (6, .pt 6 0), (7, .sl 29 1 0 g), (31, .i g), (32, .i q.1.length)] [(6, (true, rackV g q.1)), (29, (true, (fillZ q.1 g).map AV.i))]) (fun q => g - q.1.length) ([], r)
        ⟨⟨by simp, by simp⟩, by simp, fun _ => ⟨by dsimp only; omega, by dsimp only; rw [lft_none g hg]; omega⟩, rfl⟩ (weak_st ?_ ?_ rfl rfl) ?_
      · (repeat' (first | exact trivial | refine And.intro ?_ ?_)) <;> (first | rfl | skip)
      · refine ⟨?_, ?_, trivial⟩
        · rw [rackV_nil]; rfl
        · show some (true, (List.replicate g (List.map AV.v [Value.int IntKind.i64 0])).flatten) = some (true, (fillZ [] g).map AV.i)
          simp [fillZ]
      rintro ⟨M, r1⟩ ⟨hp, hl, hr, hu⟩
      dsimp only at hp hl hr hu ⊢
      by_cases hc : M.length < g
      · obtain ⟨hr0, hr1⟩ := hr hc
        have hll := lft_le M g hg
        obtain ⟨y, s, hpick, hyg, hcan, hs0, hs1⟩ := pickF_some M g hp hc hg r1 hr1 g 0 r1 (by omega) hr0 (by simp [smTo])
        obtain ⟨n, hn⟩ : ∃ n, g - M.length = n + 1 := ⟨g - M.length - 1, by omega⟩
        rw [hn, unr_step hpick] at hu
        repeat (first | (refine step_ops ?_; (first | (refine m_mov (by conv => lhs; whnf) ?_) | (refine m_lss rfl rfl ?_))) | refine end_ops ?_ | refine seq_ops ?_ | (refine cond_t rfl ?_ ?_; (· first | rfl | assumption | (refine decide_eq_true ?_; first | assumption | omega) | (refine nt ?_; first | assumption | omega) | (simp [*]; done))) | refine skip_then ?_ | refine AW_seq ?_ | refine AW_block ?_)
        refine AW_loop (α := Nat × Int) (fun q => q.1 ≤ g ∧ 0 ≤ q.2 ∧ q.2 ≤ 479001600 ∧ pickF M g M.length (g - q.1) q.1 q.2 = some (y, s)) (fun q => st [(0, .i g), (1, .i q.2), (6, .pt 6 0), (7, .sl 29 1 0 g), (8, .i M.length), (31, .i g), (32, .i M.length), (35, .i g), (36, .i q.1)] [(6, (true, rackV g M)), (29, (true, (fillZ M g).map AV.i))]) (fun q => g - q.1) (0, r1) ⟨by simp, hr0, by dsimp only; omega, hpick⟩ (weak_st ?_ ?_ rfl rfl) ?_
        · (repeat' (first | exact trivial | refine And.intro ?_ ?_)) <;> (first | rfl | skip)
        · exact ⟨rfl, rfl, trivial⟩
        rintro ⟨x, r2⟩ ⟨hx, hr20, hr21, hpk⟩
        dsimp only at hx hr20 hr21 hpk ⊢
        have hrl := rackV_len g M
        have hrp := rackV_plain g M
        by_cases hcx : x < g
        · obtain ⟨m, hm⟩ : ∃ m, g - x = m + 1 := ⟨g - x - 1, by omega⟩
          have em : g - (x + 1) = m := by omega
          rw [hm, pickF] at hpk
          have hlx := lft_le (M ++ [(x : Int)]) g hg
          have hlen : (M ++ [(x : Int)]).length = M.length + 1 := by rw [List.length_append]; rfl
          have hle : lft (M ++ [(x : Int)]) g = apD (g - (M.length + 1)) (freeTo (M ++ [(x : Int)]) (M.length + 1) (g - (M.length + 1))) := by unfold lft; rw [hlen]
          have hrl2 := rackV_len g (M ++ [(x : Int)])
          have hrp2 := rackV_plain g (M ++ [(x : Int)])
          have hok2 := rackV_ok g (M ++ [(x : Int)]) true
          have hzl := fillZ_len M g hl
          by_cases hcan : MayTake M M.length x
          · rw [if_pos hcan] at hpk
            by_cases hlt : r2 < lft (M ++ [(x : Int)]) g
            · rw [if_pos hlt] at hpk
              have hys : y = x ∧ s = r2 := by cases hpk; exact ⟨rfl, rfl⟩
              rw [hys.1, hys.2] at hu hs1
              rw [hys.2] at hs0
              have hlt' := hlt
              rw [hle] at hlt'
              repeat (first | (refine step_ops ?_; (first | (refine m_mov (by conv => lhs; whnf) ?_) | (refine m_lss rfl rfl ?_) | (refine m_ldall rfl rfl ?_ ?_; (· first | rfl | (simp; done) | (simp [*]; done))))) | refine end_ops ?_ | refine seq_ops ?_ | (refine cond_t rfl ?_ ?_; (· first | rfl | assumption | (refine decide_eq_true ?_; first | assumption | omega) | (refine nt ?_; first | assumption | omega) | (simp [*]; done))) | refine skip_then ?_ | refine AW_seq ?_ | refine AW_block ?_)
              refine step_ops ?_; (apply m_call (canTake_spec g M M.length x (by omega))); (· repeat (first | exact lends_nil | (refine lends_cons ?_ ?_; (· (first | exact lend_v | (refine lend_agg ?_; first | rfl | assumption | (simp [plainV]; done)))))))
              repeat (first | (refine step_ops ?_; (first | (refine m_mov (by conv => lhs; whnf) ?_) | (refine m_not rfl ?_) | (refine m_ldall rfl rfl ?_ ?_; (· first | rfl | (simp; done) | (simp [*]; done))))) | refine end_ops ?_ | refine seq_ops ?_ | (refine cond_f rfl ?_ ?_; (· first | rfl | assumption | (refine decide_eq_false ?_; first | assumption | omega) | (refine nf ?_; first | assumption | omega) | (simp [*]; done))) | refine skip_then ?_)
              refine step_ops ?_; (apply m_call (without_spec g M x (by omega))); (· repeat (first | exact lends_nil | (refine lends_cons ?_ ?_; (· (first | exact lend_v | (refine lend_agg ?_; first | rfl | assumption | (simp [plainV]; done)))))))
              repeat (first | (refine step_ops ?_; (first | (refine m_mov (by conv => lhs; whnf) ?_) | (refine m_add rfl rfl ?_ ?_ ?_; (· omega); (· omega)) | (refine m_alloc ?_) | (refine m_ldall rfl rfl ?_ ?_; (· first | rfl | (simp; done) | (simp [*]; done))) | (refine m_stall rfl rfl rfl ?_ ?_ ?_ ?_; (· first | rfl | (simp [*]; done)); (· first | rfl | (simp [*]; done)); (· first | rfl | (simp [cellOk, Value.oneCell']; done))))) | refine end_ops ?_ | refine seq_ops ?_)
              refine step_ops ?_; (apply m_call (countNone_spec g (M ++ [(x : Int)]) (M.length + 1) (by omega) hg)); (· repeat (first | exact lends_nil | (refine lends_cons ?_ ?_; (· (first | exact lend_v | (refine lend_agg ?_; first | rfl | assumption | (simp [plainV]; done)))))))
              repeat (first | ((first | refine step_ops ?_ | refine step_tree ?_); (first | (refine m_mov (by conv => lhs; whnf) ?_) | (refine m_lss rfl rfl ?_) | (refine m_idx1_sl rfl rfl ?_ ?_; (· omega)))) | refine end_ops ?_ | refine seq_ops ?_ | refine seq_tree ?_ | (refine cond_t rfl ?_ ?_; (· first | rfl | assumption | (refine decide_eq_true ?_; first | assumption | omega) | (refine nt ?_; first | assumption | omega) | (simp [*]; done))) | refine AW_seq ?_)
              refine step_two ?_ ?_
              all_goals
                repeat (first | ((first | refine step_ops ?_ | refine step_tree ?_); (first | (refine m_mov (by conv => lhs; whnf) ?_) | (refine m_add rfl rfl ?_ ?_ ?_; (· omega); (· omega)) | (apply m_st; (· rfl); (· rfl); (· rfl); (· first | omega | (simp; done) | (simp; omega)); (· rfl)) | (refine m_ldall rfl rfl ?_ ?_; (· first | rfl | (simp; done) | (simp [*]; done))) | (refine m_stall rfl rfl rfl ?_ ?_ ?_ ?_; (· first | rfl | (simp [*]; done)); (· first | rfl | (simp [*]; done)); (· first | rfl | (simp [cellOk, Value.oneCell']; done))))) | refine end_ops ?_ | refine AW_ops ?_ | refine end_tree ?_ | refine norm_then ?_ | refine exit_then ?_ | refine norm_block ?_ | refine exit_round ?_ | refine AW_exit ?_ | refine exit_block ?_ | (refine exit_other ?_ ?_; (· decide)))
                refine next_round (M ++ [(x : Int)], r2) ⟨hp.snoc hcx hcan.2, by dsimp only; omega, fun _ => ⟨hs0, hs1⟩, ?_⟩ (weak_st ?_ ?_ rfl rfl) ?_
                · dsimp only
                  rw [hlen, ← hu]
                  congr 1
                  omega
                · refine ⟨rfl, rfl, rfl, rfl, rfl, ?_, trivial⟩
                  show AV.i ((M.length : Int) + 1) = AV.i ((M ++ [(x : Int)]).length : Nat)
                  rw [hlen]; rfl
                · refine ⟨rfl, ?_, trivial⟩
                  show some (true, ((fillZ M g).map AV.i).set M.length (AV.i x)) = some (true, (fillZ (M ++ [(x : Int)]) g).map AV.i)
                  rw [← fillZ_set M g x hc, List.map_set]
                · dsimp only; omega
            · rw [if_neg hlt] at hpk
              have hlt' := hlt
              rw [hle] at hlt' hlx hpk
              repeat (first | (refine step_ops ?_; (first | (refine m_mov (by conv => lhs; whnf) ?_) | (refine m_lss rfl rfl ?_) | (refine m_ldall rfl rfl ?_ ?_; (· first | rfl | (simp; done) | (simp [*]; done))))) | refine end_ops ?_ | refine seq_ops ?_ | (refine cond_t rfl ?_ ?_; (· first | rfl | assumption | (refine decide_eq_true ?_; first | assumption | omega) | (refine nt ?_; first | assumption | omega) | (simp [*]; done))) | refine skip_then ?_ | refine AW_seq ?_ | refine AW_block ?_)
              refine step_ops ?_; (apply m_call (canTake_spec g M M.length x (by omega))); (· repeat (first | exact lends_nil | (refine lends_cons ?_ ?_; (· (first | exact lend_v | (refine lend_agg ?_; first | rfl | assumption | (simp [plainV]; done)))))))
              repeat (first | (refine step_ops ?_; (first | (refine m_mov (by conv => lhs; whnf) ?_) | (refine m_not rfl ?_) | (refine m_ldall rfl rfl ?_ ?_; (· first | rfl | (simp; done) | (simp [*]; done))))) | refine end_ops ?_ | refine seq_ops ?_ | (refine cond_f rfl ?_ ?_; (· first | rfl | assumption | (refine decide_eq_false ?_; first | assumption | omega) | (refine nf ?_; first | assumption | omega) | (simp [*]; done))) | refine skip_then ?_)
              refine step_ops ?_; (apply m_call (without_spec g M x (by omega))); (· repeat (first | exact lends_nil | (refine lends_cons ?_ ?_; (· (first | exact lend_v | (refine lend_agg ?_; first | rfl | assumption | (simp [plainV]; done)))))))
              repeat (first | (refine step_ops ?_; (first | (refine m_mov (by conv => lhs; whnf) ?_) | (refine m_add rfl rfl ?_ ?_ ?_; (· omega); (· omega)) | (refine m_alloc ?_) | (refine m_ldall rfl rfl ?_ ?_; (· first | rfl | (simp; done) | (simp [*]; done))) | (refine m_stall rfl rfl rfl ?_ ?_ ?_ ?_; (· first | rfl | (simp [*]; done)); (· first | rfl | (simp [*]; done)); (· first | rfl | (simp [cellOk, Value.oneCell']; done))))) | refine end_ops ?_ | refine seq_ops ?_)
              refine step_ops ?_; (apply m_call (countNone_spec g (M ++ [(x : Int)]) (M.length + 1) (by omega) hg)); (· repeat (first | exact lends_nil | (refine lends_cons ?_ ?_; (· (first | exact lend_v | (refine lend_agg ?_; first | rfl | assumption | (simp [plainV]; done)))))))
              repeat (first | (refine step_ops ?_; (first | (refine m_mov (by conv => lhs; whnf) ?_) | (refine m_lss rfl rfl ?_) | (refine m_add rfl rfl ?_ ?_ ?_; (· omega); (· omega)) | (refine m_sub rfl rfl ?_ ?_ ?_; (· omega); (· omega)))) | refine end_ops ?_ | refine seq_ops ?_ | refine AW_ops ?_ | (refine cond_f rfl ?_ ?_; (· first | rfl | assumption | (refine decide_eq_false ?_; first | assumption | omega) | (refine nf ?_; first | assumption | omega) | (simp [*]; done))) | refine skip_then ?_ | refine AW_seq ?_ | refine norm_then ?_ | refine norm_block ?_)
              refine next_round (x + 1, r2 - apD (g - (M.length + 1)) (freeTo (M ++ [(x : Int)]) (M.length + 1) (g - (M.length + 1)))) ⟨by dsimp only; omega, by dsimp only; omega, by dsimp only; omega, by dsimp only; rw [em]; exact hpk⟩ (weak_st ?_ ?_ rfl rfl) ?_
              · (repeat' (first | exact trivial | refine And.intro ?_ ?_)) <;> (first | rfl | skip)
              · exact ⟨rfl, rfl, trivial⟩
              · dsimp only; omega
          · rw [if_neg hcan] at hpk
            repeat (first | (refine step_ops ?_; (first | (refine m_mov (by conv => lhs; whnf) ?_) | (refine m_lss rfl rfl ?_) | (refine m_ldall rfl rfl ?_ ?_; (· first | rfl | (simp; done) | (simp [*]; done))))) | refine end_ops ?_ | refine seq_ops ?_ | (refine cond_t rfl ?_ ?_; (· first | rfl | assumption | (refine decide_eq_true ?_; first | assumption | omega) | (refine nt ?_; first | assumption | omega) | (simp [*]; done))) | refine skip_then ?_ | refine AW_seq ?_ | refine AW_block ?_)
            refine step_ops ?_; (apply m_call (canTake_spec g M M.length x (by omega))); (· repeat (first | exact lends_nil | (refine lends_cons ?_ ?_; (· (first | exact lend_v | (refine lend_agg ?_; first | rfl | assumption | (simp [plainV]; done)))))))
            repeat (first | (refine step_ops ?_; (first | (refine m_mov (by conv => lhs; whnf) ?_) | (refine m_add rfl rfl ?_ ?_ ?_; (· omega); (· omega)) | (refine m_not rfl ?_))) | refine end_ops ?_ | refine AW_ops ?_ | (refine cond_t rfl ?_ ?_; (· first | rfl | assumption | (refine decide_eq_true ?_; first | assumption | omega) | (refine nt ?_; first | assumption | omega) | (simp [*]; done))) | refine norm_then ?_ | refine exit_then ?_ | refine AW_exit ?_ | refine exit_block ?_)
            refine next_round (x + 1, r2) ⟨by dsimp only; omega, hr20, hr21, by dsimp only; rw [em]; exact hpk⟩ (weak_st ?_ ?_ rfl rfl) ?_
            · (repeat' (first | exact trivial | refine And.intro ?_ ?_)) <;> (first | rfl | skip)
            · exact ⟨rfl, rfl, trivial⟩
            · dsimp only; omega
        · have e : g - x = 0 := by omega
          rw [e, pickF] at hpk
          cases hpk
      · repeat (first | (refine step_ops ?_; (first | (refine m_mov (by conv => lhs; whnf) ?_) | (refine m_lss rfl rfl ?_))) | refine end_ops ?_ | refine seq_ops ?_ | (refine cond_f rfl ?_ ?_; (· first | rfl | assumption | (refine decide_eq_false ?_; first | assumption | omega) | (refine nf ?_; first | assumption | omega) | (simp [*]; done))) | refine AW_seq ?_ | refine AW_ret ?_ | refine ret_done ?_ | refine norm_then ?_ | refine exit_then ?_ | refine exit_round ?_ | refine AW_exit ?_ | refine exit_block ?_)
        have e2 : g - M.length = 0 := by omega
        rw [e2, unrF] at hu
        have e3 : fillZ M g = M := by unfold fillZ; rw [e2]; simp
        refine outs_tup2 (outs_ints rfl (by rw [e, e3, hu]) (by rw [e, ← hu]; omega)) (outs_b ?_)
        simp [hok]
  · have hok : ¬ OfOk n r := fun hh => h hh.1
    have e : ofRes n r = [] := if_neg hok
    repeat (first | (refine step_ops ?_; (first | (refine m_mov (by conv => lhs; whnf) ?_) | (refine m_nils ?_))) | refine end_ops ?_ | refine seq_ops ?_ | refine AW_seq ?_)
    refine step_ops ?_; (apply m_call (isGuestCount_spec n)); (· repeat (first | exact lends_nil | (refine lends_cons ?_ ?_; (· exact lend_v))))
    repeat (first | (refine step_ops ?_; (first | (first | (refine m_mov (by conv => lhs; whnf) ?_) | (refine m_not rfl ?_) | (refine m_pick_t rfl ?_ (by conv => lhs; whnf) ?_; (· first | rfl | assumption | (refine decide_eq_true ?_; first | assumption | omega) | (refine nt ?_; first | assumption | omega) | (simp [*]; done))) | (refine m_nils ?_)) | (refine g_noF rfl ?_ ?_; (· first | rfl | assumption | (refine decide_eq_true ?_; first | assumption | omega) | (refine nt ?_; first | assumption | omega) | (simp [*]; done))))) | refine end_ops ?_ | refine seq_ops ?_ | (refine cond_t rfl ?_ ?_; (· first | rfl | assumption | (refine decide_eq_true ?_; first | assumption | omega) | (refine nt ?_; first | assumption | omega) | (simp [*]; done))) | refine AW_ret ?_ | refine ret_done ?_ | refine ret_then ?_)
    refine outs_tup2 (outs_ints rfl (by rw [e]; rfl) (by rw [e]; rfl)) (outs_b ?_)
    simp [hok]
end Go.Proofs.Ytgjlaajkakecpaa
namespace Go.Proofs.Ytgjlaajkakecpaa
variable [Go.Am.CodeBlk]
open Go.Am
attribute [local irreducible] AW Outs Weak Lends Lend Sp aops atree aop1 Then Round InBlock Done
def nextRank (L : List Int) : Int := if HasOwn L then befR L else befR L + 1
/-- What NextNone tells. -/
def NextOk (L : List Int) : Prop := IsEx L ∧ OfOk L.length (nextRank L)
instance (L : List Int) : Decidable (NextOk L) := inferInstanceAs (Decidable (_ ∧ _))
def nextRes (L : List Int) : List Int := if NextOk L then rankG L.length (nextRank L) else []
theorem nextRes_le (L : List Int) : (nextRes L).length ≤ 12 := by
  unfold nextRes
  split
  · rename_i h
    have e : ofRes L.length (nextRank L) = rankG L.length (nextRank L) := by rw [ofRes, if_pos h.2, Int.toNat_natCast]
    rw [← e]; exact ofRes_le _ _
  · simp
theorem befR_le (L : List Int) (h : IsEx L) : 0 ≤ befR L ∧ befR L ≤ 100000000000 := by
  have h12 := h.2.1
  suffices hh : ∀ (n k : Nat) (a : Int), k + n = L.length → 0 ≤ a → a ≤ 5748019200 * k → 0 ≤ befF L L.length n k a ∧ befF L L.length n k a ≤ 100000000000 from hh L.length 0 0 (by omega) (by omega) (by omega)
  intro n
  induction n with
  | zero => intro k a hk h0 h1; simp only [befF]; omega
  | succ n ih =>
    intro k a hk h0 h1
    have hb := bef_le L h k (by omega) a h0 h1
    simp only [befF]
    split
    · omega
    · exact ih (k + 1) _ (by omega) hb.1 hb.2
theorem specNextNone_spec (L : List Int) (hL : L.length ≤ 1048576) : Sp Try.prog 8 [ints L] (.tup [newInts (nextRes L), .b (decide (NextOk L))]) := by
  refine spec_of Try.func8 rfl cc8 rfl ?_
  unfold ac8
  by_cases h : IsEx L
  · have h12 := h.2.1
    have hbl := befR_le L h
    have hb := noneN_le L.length (by omega)
    have ho := ownList_nil L
    by_cases hh : HasOwn L
    · have h1 : ¬ ((ownList L L.length).length : Int) = 0 := by have := ho.2 hh; omega
      have en : nextRank L = befR L := if_pos hh
      by_cases hr : noneN L.length ≤ befR L
      · have hno : ¬ NextOk L := fun hn => by have := hn.2.2; rw [Int.toNat_natCast, en] at this; omega
        have e : nextRes L = [] := if_neg hno
        repeat (first | (refine step_ops ?_; (first | (refine m_mov (by conv => lhs; whnf) ?_) | (refine m_nils ?_))) | refine end_ops ?_ | refine seq_ops ?_ | refine AW_seq ?_)
        (refine step_ops ?_); (apply m_call (exGood_spec L hL)); (· repeat (first | exact lends_nil | (refine lends_cons ?_ ?_; (· (refine lend_ints ?_; first | rfl | omega)))))
        repeat (first | (refine step_ops ?_; (first | (refine m_mov (by conv => lhs; whnf) ?_) | (refine m_not rfl ?_))) | refine end_ops ?_ | refine seq_ops ?_ | (refine cond_f rfl ?_ ?_; (· first | rfl | assumption | (refine decide_eq_false ?_; first | assumption | omega) | (refine nf ?_; first | assumption | omega) | (simp [*]; done))) | refine skip_then ?_)
        (refine step_ops ?_); (apply m_call (exBefore_spec L h)); (· repeat (first | exact lends_nil | (refine lends_cons ?_ ?_; (· (refine lend_ints ?_; first | rfl | omega)))))
        repeat (first | (refine step_ops ?_; (refine m_mov (by conv => lhs; whnf) ?_)) | refine end_ops ?_ | refine seq_ops ?_ | refine AW_seq ?_)
        (refine step_ops ?_); (apply m_callo (exOwn_spec L hL)); (· repeat (first | exact lends_nil | (refine lends_cons ?_ ?_; (· (refine lend_ints ?_; first | rfl | omega))))); (· first | exact allv_ints _ | rfl | (simp; done))
        repeat (first | (refine step_ops ?_; (first | (refine m_mov (by conv => lhs; whnf) ?_) | (refine m_eql rfl rfl ?_) | (refine m_len_ro rfl ?_) | (refine m_len_sl rfl ?_))) | refine end_ops ?_ | refine seq_ops ?_ | (refine cond_f rfl ?_ ?_; (· first | rfl | assumption | (refine decide_eq_false ?_; first | assumption | omega) | (refine nf ?_; first | assumption | omega) | (simp [*]; done))) | refine skip_then ?_ | refine AW_seq ?_)
        (refine step_ops ?_); (apply m_call (exNone_spec L.length (by omega))); (· repeat (first | exact lends_nil | (refine lends_cons ?_ ?_; (· exact lend_v))))
        repeat (first | (refine step_ops ?_; (first | (refine m_mov (by conv => lhs; whnf) ?_) | (refine m_geq rfl rfl ?_) | (refine m_nils ?_))) | refine end_ops ?_ | refine seq_ops ?_ | (refine cond_t rfl ?_ ?_; (· first | rfl | assumption | (refine decide_eq_true ?_; first | assumption | omega) | (refine nt ?_; first | assumption | omega) | (simp [*]; done))) | refine AW_ret ?_ | refine ret_done ?_ | refine ret_then ?_)
        refine outs_tup2 (outs_ints rfl (by rw [e]; rfl) (by rw [e]; rfl)) (outs_b ?_)
        simp [hno]
      · have hno : NextOk L := ⟨h, ⟨by have := h.1; omega, by omega⟩, by rw [en]; exact hbl.1, by rw [Int.toNat_natCast, en]; omega⟩
        have e : nextRes L = rankG L.length (befR L) := by rw [nextRes, if_pos hno, en]
        repeat (first | (refine step_ops ?_; (first | (refine m_mov (by conv => lhs; whnf) ?_) | (refine m_nils ?_))) | refine end_ops ?_ | refine seq_ops ?_ | refine AW_seq ?_)
        (refine step_ops ?_); (apply m_call (exGood_spec L hL)); (· repeat (first | exact lends_nil | (refine lends_cons ?_ ?_; (· (refine lend_ints ?_; first | rfl | omega)))))
        repeat (first | (refine step_ops ?_; (first | (refine m_mov (by conv => lhs; whnf) ?_) | (refine m_not rfl ?_))) | refine end_ops ?_ | refine seq_ops ?_ | (refine cond_f rfl ?_ ?_; (· first | rfl | assumption | (refine decide_eq_false ?_; first | assumption | omega) | (refine nf ?_; first | assumption | omega) | (simp [*]; done))) | refine skip_then ?_)
        (refine step_ops ?_); (apply m_call (exBefore_spec L h)); (· repeat (first | exact lends_nil | (refine lends_cons ?_ ?_; (· (refine lend_ints ?_; first | rfl | omega)))))
        repeat (first | (refine step_ops ?_; (refine m_mov (by conv => lhs; whnf) ?_)) | refine end_ops ?_ | refine seq_ops ?_ | refine AW_seq ?_)
        (refine step_ops ?_); (apply m_callo (exOwn_spec L hL)); (· repeat (first | exact lends_nil | (refine lends_cons ?_ ?_; (· (refine lend_ints ?_; first | rfl | omega))))); (· first | exact allv_ints _ | rfl | (simp; done))
        repeat (first | (refine step_ops ?_; (first | (refine m_mov (by conv => lhs; whnf) ?_) | (refine m_eql rfl rfl ?_) | (refine m_len_ro rfl ?_) | (refine m_len_sl rfl ?_))) | refine end_ops ?_ | refine seq_ops ?_ | (refine cond_f rfl ?_ ?_; (· first | rfl | assumption | (refine decide_eq_false ?_; first | assumption | omega) | (refine nf ?_; first | assumption | omega) | (simp [*]; done))) | refine skip_then ?_ | refine AW_seq ?_)
        (refine step_ops ?_); (apply m_call (exNone_spec L.length (by omega))); (· repeat (first | exact lends_nil | (refine lends_cons ?_ ?_; (· exact lend_v))))
        repeat (first | (refine step_ops ?_; (first | (refine m_mov (by conv => lhs; whnf) ?_) | (refine m_geq rfl rfl ?_) | (refine m_len_ro rfl ?_))) | refine end_ops ?_ | refine seq_ops ?_ | (refine cond_f rfl ?_ ?_; (· first | rfl | assumption | (refine decide_eq_false ?_; first | assumption | omega) | (refine nf ?_; first | assumption | omega) | (simp [*]; done))) | refine skip_then ?_)
        (refine step_ops ?_); (apply m_callo (exRanked_spec L.length h12 (befR L) hbl.1 (by omega))); (· repeat (first | exact lends_nil | (refine lends_cons ?_ ?_; (· exact lend_v)))); (· first | exact allv_ints _ | rfl | (simp; done))
        repeat (first | (refine step_ops ?_; (refine m_mov (by conv => lhs; whnf) ?_)) | refine end_ops ?_ | refine AW_ret ?_ | refine ret_done ?_)
        refine outs_tup2 (outs_ints rfl (by rw [e]) (by rw [e])) (outs_b ?_)
        simp [hno]
    · have h1 : ((ownList L L.length).length : Int) = 0 := by
        have : ¬ (0 < (ownList L L.length).length) := fun h => hh (ho.1 h)
        omega
      have en : nextRank L = befR L + 1 := if_neg hh
      by_cases hr : noneN L.length ≤ befR L + 1
      · have hno : ¬ NextOk L := fun hn => by have := hn.2.2; rw [Int.toNat_natCast, en] at this; omega
        have e : nextRes L = [] := if_neg hno
        repeat (first | (refine step_ops ?_; (first | (refine m_mov (by conv => lhs; whnf) ?_) | (refine m_nils ?_))) | refine end_ops ?_ | refine seq_ops ?_ | refine AW_seq ?_)
        (refine step_ops ?_); (apply m_call (exGood_spec L hL)); (· repeat (first | exact lends_nil | (refine lends_cons ?_ ?_; (· (refine lend_ints ?_; first | rfl | omega)))))
        repeat (first | (refine step_ops ?_; (first | (refine m_mov (by conv => lhs; whnf) ?_) | (refine m_not rfl ?_))) | refine end_ops ?_ | refine seq_ops ?_ | (refine cond_f rfl ?_ ?_; (· first | rfl | assumption | (refine decide_eq_false ?_; first | assumption | omega) | (refine nf ?_; first | assumption | omega) | (simp [*]; done))) | refine skip_then ?_)
        (refine step_ops ?_); (apply m_call (exBefore_spec L h)); (· repeat (first | exact lends_nil | (refine lends_cons ?_ ?_; (· (refine lend_ints ?_; first | rfl | omega)))))
        repeat (first | (refine step_ops ?_; (refine m_mov (by conv => lhs; whnf) ?_)) | refine end_ops ?_ | refine seq_ops ?_ | refine AW_seq ?_)
        (refine step_ops ?_); (apply m_callo (exOwn_spec L hL)); (· repeat (first | exact lends_nil | (refine lends_cons ?_ ?_; (· (refine lend_ints ?_; first | rfl | omega))))); (· first | exact allv_ints _ | rfl | (simp; done))
        repeat (first | (refine step_ops ?_; (first | (refine m_mov (by conv => lhs; whnf) ?_) | (refine m_eql rfl rfl ?_) | (refine m_add rfl rfl ?_ ?_ ?_; (· omega); (· omega)) | (refine m_len_ro rfl ?_) | (refine m_len_sl rfl ?_))) | refine end_ops ?_ | refine seq_ops ?_ | refine AW_ops ?_ | (refine cond_t rfl ?_ ?_; (· first | rfl | assumption | (refine decide_eq_true ?_; first | assumption | omega) | (refine nt ?_; first | assumption | omega) | (simp [*]; done))) | refine AW_seq ?_ | refine norm_then ?_)
        (refine step_ops ?_); (apply m_call (exNone_spec L.length (by omega))); (· repeat (first | exact lends_nil | (refine lends_cons ?_ ?_; (· exact lend_v))))
        repeat (first | (refine step_ops ?_; (first | (refine m_mov (by conv => lhs; whnf) ?_) | (refine m_geq rfl rfl ?_) | (refine m_nils ?_))) | refine end_ops ?_ | refine seq_ops ?_ | (refine cond_t rfl ?_ ?_; (· first | rfl | assumption | (refine decide_eq_true ?_; first | assumption | omega) | (refine nt ?_; first | assumption | omega) | (simp [*]; done))) | refine AW_ret ?_ | refine ret_done ?_ | refine ret_then ?_)
        refine outs_tup2 (outs_ints rfl (by rw [e]; rfl) (by rw [e]; rfl)) (outs_b ?_)
        simp [hno]
      · have hno : NextOk L := ⟨h, ⟨by have := h.1; omega, by omega⟩, by rw [en]; omega, by rw [Int.toNat_natCast, en]; omega⟩
        have e : nextRes L = rankG L.length (befR L + 1) := by rw [nextRes, if_pos hno, en]
        repeat (first | (refine step_ops ?_; (first | (refine m_mov (by conv => lhs; whnf) ?_) | (refine m_nils ?_))) | refine end_ops ?_ | refine seq_ops ?_ | refine AW_seq ?_)
        (refine step_ops ?_); (apply m_call (exGood_spec L hL)); (· repeat (first | exact lends_nil | (refine lends_cons ?_ ?_; (· (refine lend_ints ?_; first | rfl | omega)))))
        repeat (first | (refine step_ops ?_; (first | (refine m_mov (by conv => lhs; whnf) ?_) | (refine m_not rfl ?_))) | refine end_ops ?_ | refine seq_ops ?_ | (refine cond_f rfl ?_ ?_; (· first | rfl | assumption | (refine decide_eq_false ?_; first | assumption | omega) | (refine nf ?_; first | assumption | omega) | (simp [*]; done))) | refine skip_then ?_)
        (refine step_ops ?_); (apply m_call (exBefore_spec L h)); (· repeat (first | exact lends_nil | (refine lends_cons ?_ ?_; (· (refine lend_ints ?_; first | rfl | omega)))))
        repeat (first | (refine step_ops ?_; (refine m_mov (by conv => lhs; whnf) ?_)) | refine end_ops ?_ | refine seq_ops ?_ | refine AW_seq ?_)
        (refine step_ops ?_); (apply m_callo (exOwn_spec L hL)); (· repeat (first | exact lends_nil | (refine lends_cons ?_ ?_; (· (refine lend_ints ?_; first | rfl | omega))))); (· first | exact allv_ints _ | rfl | (simp; done))
        repeat (first | (refine step_ops ?_; (first | (refine m_mov (by conv => lhs; whnf) ?_) | (refine m_eql rfl rfl ?_) | (refine m_add rfl rfl ?_ ?_ ?_; (· omega); (· omega)) | (refine m_len_ro rfl ?_) | (refine m_len_sl rfl ?_))) | refine end_ops ?_ | refine seq_ops ?_ | refine AW_ops ?_ | (refine cond_t rfl ?_ ?_; (· first | rfl | assumption | (refine decide_eq_true ?_; first | assumption | omega) | (refine nt ?_; first | assumption | omega) | (simp [*]; done))) | refine AW_seq ?_ | refine norm_then ?_)
        (refine step_ops ?_); (apply m_call (exNone_spec L.length (by omega))); (· repeat (first | exact lends_nil | (refine lends_cons ?_ ?_; (· exact lend_v))))
        repeat (first | (refine step_ops ?_; (first | (refine m_mov (by conv => lhs; whnf) ?_) | (refine m_geq rfl rfl ?_) | (refine m_len_ro rfl ?_))) | refine end_ops ?_ | refine seq_ops ?_ | (refine cond_f rfl ?_ ?_; (· first | rfl | assumption | (refine decide_eq_false ?_; first | assumption | omega) | (refine nf ?_; first | assumption | omega) | (simp [*]; done))) | refine skip_then ?_)
        (refine step_ops ?_); (apply m_callo (exRanked_spec L.length h12 (befR L + 1) (by omega) (by omega))); (· repeat (first | exact lends_nil | (refine lends_cons ?_ ?_; (· exact lend_v)))); (· first | exact allv_ints _ | rfl | (simp; done))
        repeat (first | (refine step_ops ?_; (refine m_mov (by conv => lhs; whnf) ?_)) | refine end_ops ?_ | refine AW_ret ?_ | refine ret_done ?_)
        refine outs_tup2 (outs_ints rfl (by rw [e]) (by rw [e])) (outs_b ?_)
        simp [hno]
  · have hno : ¬ NextOk L := fun hn => h hn.1
    have e : nextRes L = [] := if_neg hno
    repeat (first | (refine step_ops ?_; (first | (refine m_mov (by conv => lhs; whnf) ?_) | (refine m_nils ?_))) | refine end_ops ?_ | refine seq_ops ?_ | refine AW_seq ?_)
    (refine step_ops ?_); (apply m_call (exGood_spec L hL)); (· repeat (first | exact lends_nil | (refine lends_cons ?_ ?_; (· (refine lend_ints ?_; first | rfl | omega)))))
    repeat (first | (refine step_ops ?_; (first | (refine m_mov (by conv => lhs; whnf) ?_) | (refine m_not rfl ?_) | (refine m_nils ?_))) | refine end_ops ?_ | refine seq_ops ?_ | (refine cond_t rfl ?_ ?_; (· first | rfl | assumption | (refine decide_eq_true ?_; first | assumption | omega) | (refine nt ?_; first | assumption | omega) | (simp [*]; done))) | refine AW_ret ?_ | refine ret_done ?_ | refine ret_then ?_)
    refine outs_tup2 (outs_ints rfl (by rw [e]; rfl) (by rw [e]; rfl)) (outs_b ?_)
    simp [hno]
theorem implNextNone_spec (L : List Int) (hL : L.length ≤ 1048576) : Sp Try.prog 7 [ints L] (.tup [newInts (nextRes L), .b (decide (NextOk L))]) := by
  refine spec_of Try.func7 rfl cc7 rfl ?_
  unfold ac7
  by_cases h : IsEx L
  · have h12 := h.2.1
    have hbl := befR_le L h
    have e : ofRes L.length (nextRank L) = nextRes L := by
      by_cases hh : OfOk L.length (nextRank L)
      · rw [ofRes, nextRes, if_pos hh, if_pos ⟨h, hh⟩, Int.toNat_natCast]
      · rw [ofRes, nextRes, if_neg hh, if_neg fun hn => hh hn.2]
    have e2 : decide (OfOk L.length (nextRank L)) = decide (NextOk L) := decide_eq_decide.2 ⟨fun hh => ⟨h, hh⟩, fun hh => hh.2⟩
    by_cases hh : HasOwn L
    · have en : nextRank L = befR L := if_pos hh
      rw [en] at e e2
      repeat (first | (refine step_ops ?_; (first | (refine m_mov (by conv => lhs; whnf) ?_) | (refine m_nils ?_))) | refine end_ops ?_ | refine seq_ops ?_ | refine AW_seq ?_)
      (refine step_ops ?_); (apply m_call (implIsExchange_spec L hL)); (· repeat (first | exact lends_nil | (refine lends_cons ?_ ?_; (· (refine lend_ints ?_; first | rfl | omega)))))
      repeat (first | (refine step_ops ?_; (first | (refine m_mov (by conv => lhs; whnf) ?_) | (refine m_not rfl ?_))) | refine end_ops ?_ | refine seq_ops ?_ | (refine cond_f rfl ?_ ?_; (· first | rfl | assumption | (refine decide_eq_false ?_; first | assumption | omega) | (refine nf ?_; first | assumption | omega) | (simp [*]; done))) | refine skip_then ?_)
      (refine step_ops ?_); (apply m_call (noneBefore_spec L h)); (· repeat (first | exact lends_nil | (refine lends_cons ?_ ?_; (· (refine lend_ints ?_; first | rfl | omega)))))
      repeat (first | (refine step_ops ?_; (refine m_mov (by conv => lhs; whnf) ?_)) | refine end_ops ?_ | refine seq_ops ?_ | refine AW_seq ?_)
      (refine step_ops ?_); (apply m_call (hasOwn_spec L hL)); (· repeat (first | exact lends_nil | (refine lends_cons ?_ ?_; (· (refine lend_ints ?_; first | rfl | omega)))))
      repeat (first | (refine step_ops ?_; (first | (refine m_mov (by conv => lhs; whnf) ?_) | (refine m_not rfl ?_) | (refine m_len_ro rfl ?_))) | refine end_ops ?_ | refine seq_ops ?_ | (refine cond_f rfl ?_ ?_; (· first | rfl | assumption | (refine decide_eq_false ?_; first | assumption | omega) | (refine nf ?_; first | assumption | omega) | (simp [*]; done))) | refine skip_then ?_)
      (refine step_ops ?_); (apply m_callt (implNoneOfRank_spec L.length (befR L))); (· repeat (first | exact lends_nil | (refine lends_cons ?_ ?_; (· exact lend_v)))); (· first | exact allv_ints _ | rfl | (simp; done)); (· first | rfl | (simp; done))
      repeat (first | (refine step_ops ?_; (first | (refine m_mov (by conv => lhs; whnf) ?_) | (refine m_ext rfl rfl ?_))) | refine end_ops ?_ | refine AW_ret ?_ | refine ret_done ?_)
      refine outs_tup2 (outs_ints rfl (by rw [e]) (by rw [e])) (outs_b e2)
    · have en : nextRank L = befR L + 1 := if_neg hh
      rw [en] at e e2
      repeat (first | (refine step_ops ?_; (first | (refine m_mov (by conv => lhs; whnf) ?_) | (refine m_nils ?_))) | refine end_ops ?_ | refine seq_ops ?_ | refine AW_seq ?_)
      (refine step_ops ?_); (apply m_call (implIsExchange_spec L hL)); (· repeat (first | exact lends_nil | (refine lends_cons ?_ ?_; (· (refine lend_ints ?_; first | rfl | omega)))))
      repeat (first | (refine step_ops ?_; (first | (refine m_mov (by conv => lhs; whnf) ?_) | (refine m_not rfl ?_))) | refine end_ops ?_ | refine seq_ops ?_ | (refine cond_f rfl ?_ ?_; (· first | rfl | assumption | (refine decide_eq_false ?_; first | assumption | omega) | (refine nf ?_; first | assumption | omega) | (simp [*]; done))) | refine skip_then ?_)
      (refine step_ops ?_); (apply m_call (noneBefore_spec L h)); (· repeat (first | exact lends_nil | (refine lends_cons ?_ ?_; (· (refine lend_ints ?_; first | rfl | omega)))))
      repeat (first | (refine step_ops ?_; (refine m_mov (by conv => lhs; whnf) ?_)) | refine end_ops ?_ | refine seq_ops ?_ | refine AW_seq ?_)
      (refine step_ops ?_); (apply m_call (hasOwn_spec L hL)); (· repeat (first | exact lends_nil | (refine lends_cons ?_ ?_; (· (refine lend_ints ?_; first | rfl | omega)))))
      repeat (first | (refine step_ops ?_; (first | (refine m_mov (by conv => lhs; whnf) ?_) | (refine m_add rfl rfl ?_ ?_ ?_; (· omega); (· omega)) | (refine m_not rfl ?_) | (refine m_len_ro rfl ?_))) | refine end_ops ?_ | refine seq_ops ?_ | refine AW_ops ?_ | (refine cond_t rfl ?_ ?_; (· first | rfl | assumption | (refine decide_eq_true ?_; first | assumption | omega) | (refine nt ?_; first | assumption | omega) | (simp [*]; done))) | refine norm_then ?_)
      (refine step_ops ?_); (apply m_callt (implNoneOfRank_spec L.length (befR L + 1))); (· repeat (first | exact lends_nil | (refine lends_cons ?_ ?_; (· exact lend_v)))); (· first | exact allv_ints _ | rfl | (simp; done)); (· first | rfl | (simp; done))
      repeat (first | (refine step_ops ?_; (first | (refine m_mov (by conv => lhs; whnf) ?_) | (refine m_ext rfl rfl ?_))) | refine end_ops ?_ | refine AW_ret ?_ | refine ret_done ?_)
      refine outs_tup2 (outs_ints rfl (by rw [e]) (by rw [e])) (outs_b e2)
  · have hno : ¬ NextOk L := fun hn => h hn.1
    have e : nextRes L = [] := if_neg hno
    repeat (first | (refine step_ops ?_; (first | (refine m_mov (by conv => lhs; whnf) ?_) | (refine m_nils ?_))) | refine end_ops ?_ | refine seq_ops ?_ | refine AW_seq ?_)
    (refine step_ops ?_); (apply m_call (implIsExchange_spec L hL)); (· repeat (first | exact lends_nil | (refine lends_cons ?_ ?_; (· (refine lend_ints ?_; first | rfl | omega)))))
    repeat (first | (refine step_ops ?_; (first | (refine m_mov (by conv => lhs; whnf) ?_) | (refine m_not rfl ?_) | (refine m_nils ?_))) | refine end_ops ?_ | refine seq_ops ?_ | (refine cond_t rfl ?_ ?_; (· first | rfl | assumption | (refine decide_eq_true ?_; first | assumption | omega) | (refine nt ?_; first | assumption | omega) | (simp [*]; done))) | refine AW_ret ?_ | refine ret_done ?_ | refine ret_then ?_)
    refine outs_tup2 (outs_ints rfl (by rw [e]; rfl) (by rw [e]; rfl)) (outs_b ?_)
    simp [hno]
theorem specFirstNone_spec (n : Int) : Sp Try.prog 19 [.i n] (.tup [newInts (ofRes n 0), .b (decide (OfOk n 0))]) := by
  refine spec_of Try.func19 rfl cc19 rfl ?_
  unfold ac19
  by_cases h : 1 ≤ n ∧ n ≤ 12
  · obtain ⟨g, hg⟩ := Int.eq_ofNat_of_zero_le (show 0 ≤ n by omega)
    subst hg
    have hb := noneN_le g (by omega)
    by_cases h2 : noneN g = 0
    · have hok : ¬ OfOk g 0 := fun hh => by have := hh.2.2; rw [Int.toNat_natCast] at this; omega
      have e : ofRes g 0 = [] := if_neg hok
      repeat (first | (refine step_ops ?_; (first | (refine m_mov (by conv => lhs; whnf) ?_) | (refine m_nils ?_))) | refine end_ops ?_ | refine seq_ops ?_ | refine AW_seq ?_)
      (refine step_ops ?_); (apply m_call (exGuests_spec g)); (· repeat (first | exact lends_nil | (refine lends_cons ?_ ?_; (· exact lend_v))))
      repeat (refine step_ops ?_; ((try (refine g_yes rfl ?_ ?_; (· first | rfl | assumption | (refine decide_eq_true ?_; first | assumption | omega) | (refine nt ?_; first | assumption | omega) | (simp [*]; done) | (refine decide_eq_false ?_; first | assumption | omega) | (refine nf ?_; first | assumption | omega)))); (first | (refine m_mov (by conv => lhs; whnf) ?_) | (refine m_not rfl ?_))))
      (refine step_ops ?_); (refine g_yes rfl ?_ ?_; (· first | (first | rfl | assumption | (refine decide_eq_true ?_; first | assumption | omega) | (refine nt ?_; first | assumption | omega) | (simp [*]; done)) | (first | rfl | assumption | (refine decide_eq_false ?_; first | assumption | omega) | (refine nf ?_; first | assumption | omega) | (simp [*]; done))); (apply m_call (exNone_spec g (by omega)))); (· repeat (first | exact lends_nil | (refine lends_cons ?_ ?_; (· exact lend_v))))
      repeat (first | (refine step_ops ?_; ((try (refine g_yes rfl ?_ ?_; (· first | rfl | assumption | (refine decide_eq_true ?_; first | assumption | omega) | (refine nt ?_; first | assumption | omega) | (simp [*]; done) | (refine decide_eq_false ?_; first | assumption | omega) | (refine nf ?_; first | assumption | omega)))); (first | (refine m_mov (by conv => lhs; whnf) ?_) | (refine m_eql rfl rfl ?_) | (refine m_pick_f rfl ?_ (by conv => lhs; whnf) ?_; (· first | rfl | assumption | (refine decide_eq_false ?_; first | assumption | omega) | (refine nf ?_; first | assumption | omega) | (simp [*]; done))) | (refine m_nils ?_)))) | refine end_ops ?_ | refine seq_ops ?_ | (refine cond_t rfl ?_ ?_; (· first | rfl | assumption | (refine decide_eq_true ?_; first | assumption | omega) | (refine nt ?_; first | assumption | omega) | (simp [*]; done))) | refine AW_ret ?_ | refine ret_done ?_ | refine ret_then ?_)
      refine outs_tup2 (outs_ints rfl (by rw [e]; rfl) (by rw [e]; rfl)) (outs_b ?_)
      simp [hok]
    · have hok : OfOk g 0 := ⟨h, by omega, by rw [Int.toNat_natCast]; omega⟩
      have e : ofRes g 0 = rankG g 0 := by rw [ofRes, if_pos hok, Int.toNat_natCast]
      repeat (first | (refine step_ops ?_; (first | (refine m_mov (by conv => lhs; whnf) ?_) | (refine m_nils ?_))) | refine end_ops ?_ | refine seq_ops ?_ | refine AW_seq ?_)
      (refine step_ops ?_); (apply m_call (exGuests_spec g)); (· repeat (first | exact lends_nil | (refine lends_cons ?_ ?_; (· exact lend_v))))
      repeat (refine step_ops ?_; ((try (refine g_yes rfl ?_ ?_; (· first | rfl | assumption | (refine decide_eq_true ?_; first | assumption | omega) | (refine nt ?_; first | assumption | omega) | (simp [*]; done) | (refine decide_eq_false ?_; first | assumption | omega) | (refine nf ?_; first | assumption | omega)))); (first | (refine m_mov (by conv => lhs; whnf) ?_) | (refine m_not rfl ?_))))
      (refine step_ops ?_); (refine g_yes rfl ?_ ?_; (· first | (first | rfl | assumption | (refine decide_eq_true ?_; first | assumption | omega) | (refine nt ?_; first | assumption | omega) | (simp [*]; done)) | (first | rfl | assumption | (refine decide_eq_false ?_; first | assumption | omega) | (refine nf ?_; first | assumption | omega) | (simp [*]; done))); (apply m_call (exNone_spec g (by omega)))); (· repeat (first | exact lends_nil | (refine lends_cons ?_ ?_; (· exact lend_v))))
      repeat (first | (refine step_ops ?_; ((try (refine g_yes rfl ?_ ?_; (· first | rfl | assumption | (refine decide_eq_true ?_; first | assumption | omega) | (refine nt ?_; first | assumption | omega) | (simp [*]; done) | (refine decide_eq_false ?_; first | assumption | omega) | (refine nf ?_; first | assumption | omega)))); (first | (refine m_mov (by conv => lhs; whnf) ?_) | (refine m_eql rfl rfl ?_) | (refine m_pick_f rfl ?_ (by conv => lhs; whnf) ?_; (· first | rfl | assumption | (refine decide_eq_false ?_; first | assumption | omega) | (refine nf ?_; first | assumption | omega) | (simp [*]; done)))))) | refine end_ops ?_ | refine seq_ops ?_ | (refine cond_f rfl ?_ ?_; (· first | rfl | assumption | (refine decide_eq_false ?_; first | assumption | omega) | (refine nf ?_; first | assumption | omega) | (simp [*]; done))) | refine skip_then ?_)
      (refine step_ops ?_); (apply m_callo (exRanked_spec g (by omega) 0 (by omega) (by omega))); (· repeat (first | exact lends_nil | (refine lends_cons ?_ ?_; (· exact lend_v)))); (· first | exact allv_ints _ | rfl | (simp; done))
      repeat (first | (refine step_ops ?_; (refine m_mov (by conv => lhs; whnf) ?_)) | refine end_ops ?_ | refine AW_ret ?_ | refine ret_done ?_)
      refine outs_tup2 (outs_ints rfl (by rw [e]) (by rw [e])) (outs_b ?_)
      simp [hok]
  · have hok : ¬ OfOk n 0 := fun hh => h hh.1
    have e : ofRes n 0 = [] := if_neg hok
    repeat (first | (refine step_ops ?_; (first | (refine m_mov (by conv => lhs; whnf) ?_) | (refine m_nils ?_))) | refine end_ops ?_ | refine seq_ops ?_ | refine AW_seq ?_)
    (refine step_ops ?_); (apply m_call (exGuests_spec n)); (· repeat (first | exact lends_nil | (refine lends_cons ?_ ?_; (· exact lend_v))))
    repeat (first | (refine step_ops ?_; (first | (first | (refine m_mov (by conv => lhs; whnf) ?_) | (refine m_not rfl ?_) | (refine m_pick_t rfl ?_ (by conv => lhs; whnf) ?_; (· first | rfl | assumption | (refine decide_eq_true ?_; first | assumption | omega) | (refine nt ?_; first | assumption | omega) | (simp [*]; done))) | (refine m_nils ?_)) | (refine g_noF rfl ?_ ?_; (· first | rfl | assumption | (refine decide_eq_true ?_; first | assumption | omega) | (refine nt ?_; first | assumption | omega) | (simp [*]; done))))) | refine end_ops ?_ | refine seq_ops ?_ | (refine cond_t rfl ?_ ?_; (· first | rfl | assumption | (refine decide_eq_true ?_; first | assumption | omega) | (refine nt ?_; first | assumption | omega) | (simp [*]; done))) | refine AW_ret ?_ | refine ret_done ?_ | refine ret_then ?_)
    refine outs_tup2 (outs_ints rfl (by rw [e]; rfl) (by rw [e]; rfl)) (outs_b ?_)
    simp [hok]
theorem implFirstNone_spec (n : Int) : Sp Try.prog 18 [.i n] (.tup [newInts (ofRes n 0), .b (decide (OfOk n 0))]) := by
  refine spec_of Try.func18 rfl cc18 rfl ?_
  unfold ac18
  repeat (first | (refine step_ops ?_; (first | (refine m_mov (by conv => lhs; whnf) ?_) | (refine m_nils ?_))) | refine end_ops ?_ | refine seq_ops ?_)
  (refine step_ops ?_); (apply m_callt (implNoneOfRank_spec n 0)); (· repeat (first | exact lends_nil | (refine lends_cons ?_ ?_; (· exact lend_v)))); (· first | exact allv_ints _ | rfl | (simp; done)); (· first | rfl | (simp; done))
  repeat (first | (refine step_ops ?_; (first | (refine m_mov (by conv => lhs; whnf) ?_) | (refine m_ext rfl rfl ?_))) | refine end_ops ?_ | refine AW_ret ?_ | refine ret_done ?_)
  exact outs_tup2 (outs_ints rfl rfl rfl) (outs_b rfl)
end Go.Proofs.Ytgjlaajkakecpaa
namespace Go.Proofs.Ytgjlaajkakecpaa
variable [Go.Am.CodeBlk]
open Go.Am
theorem befF_add (L : List Int) (g : Nat) : ∀ n k a, befF L g n k a = a + befF L g n k 0
  | 0, _, a => by simp [befF]
  | n + 1, k, a => by
    simp only [befF]
    split
    · omega
    · rw [befF_add L g n (k + 1) (a + _), befF_add L g n (k + 1) (0 + _)]; omega
theorem befF_own {L : List Int} {g n k : Nat} (h : L.getD k 0 = k) : befF L g (n + 1) k 0 = smTo (L.take k) g k (L.getD k 0).toNat := by
  simp only [befF]; rw [if_pos h]; omega
theorem befF_not {L : List Int} {g n k : Nat} (h : ¬ L.getD k 0 = k) : befF L g (n + 1) k 0 = smTo (L.take k) g k (L.getD k 0).toNat + befF L g n (k + 1) 0 := by
  simp only [befF]; rw [if_neg h, befF_add]; omega
theorem smTo_mono (M : List Int) (g i : Nat) (hg : g ≤ 12) {x y : Nat} (h : x ≤ y) : smTo M g i x ≤ smTo M g i y := by
  obtain ⟨d, rfl⟩ := Nat.le.dest h
  clear h
  induction d with
  | zero => exact Int.le_refl _
  | succ d ih =>
    have := lft_le (M ++ [((x + d : Nat) : Int)]) g hg
    rw [← Nat.add_assoc]
    simp only [smTo]
    split <;> omega
theorem smTo_next {M : List Int} {g i x : Nat} (h : MayTake M i x) : smTo M g i (x + 1) = smTo M g i x + lft (M ++ [(x : Int)]) g := by
  simp only [smTo]; rw [if_pos h]
theorem lft_full {M : List Int} {g : Nat} (h : M.length = g) : lft M g = 1 := by
  unfold lft
  rw [h, Nat.sub_self]
  rfl
theorem take_snoc {L : List Int} {k : Nat} (h : k < L.length) : L.take (k + 1) = L.take k ++ [L.getD k 0] := by
  rw [List.take_succ_eq_append_getElem h]
  simp [h]
theorem take_part {L : List Int} {g : Nat} (h : Part L g) (k : Nat) : Part (L.take k) g :=
  ⟨fun x hx => h.1 x (List.take_subset _ _ hx), h.2.sublist (List.take_sublist _ _)⟩
theorem take_not {L : List Int} {g k : Nat} (h : Part L g) (hk : k < L.length) : L.getD k 0 ∉ L.take k := by
  have h1 := (take_part h (k + 1)).2
  rw [take_snoc hk, List.nodup_append] at h1
  exact fun hm => h1.2.2 _ hm _ (List.mem_singleton.2 rfl) rfl
theorem part_get {L : List Int} {g k : Nat} (h : Part L g) (hk : k < L.length) : ∃ x : Nat, L.getD k 0 = x ∧ x < g := by
  have h1 := h.1 (L.getD k 0) (by simp [hk])
  obtain ⟨x, hx⟩ := Int.eq_ofNat_of_zero_le h1.1
  exact ⟨x, hx, by omega⟩
/-- What comes before a list from a place on, against all that go on from there. -/
theorem tail_le {L : List Int} {g : Nat} (hp : Part L g) (hl : L.length = g) (hg : g ≤ 12) : ∀ n k, k + n = g → 0 ≤ befF L g n k 0 ∧ befF L g n k 0 ≤ lft (L.take k) g ∧ ((∀ j, k ≤ j → j < g → L.getD j 0 ≠ j) → befF L g n k 0 < lft (L.take k) g)
  | 0, k, hk => by
    have e : L.take k = L := List.take_of_length_le (by omega)
    rw [e, lft_full hl]
    exact ⟨by simp [befF], by simp [befF], fun _ => by simp [befF]⟩
  | n + 1, k, hk => by
    have hkl : k < L.length := by omega
    obtain ⟨x, hx, hxg⟩ := part_get hp hkl
    have hlen : (L.take k).length = k := by rw [List.length_take]; omega
    have hall := smTo_all (take_part hp k) (by omega) hg
    rw [hlen] at hall
    have hsm := smTo_le (L.take k) g k x hg
    by_cases ho : L.getD k 0 = k
    · rw [befF_own ho, hx, Int.toNat_natCast]
      have hm := smTo_mono (L.take k) g k hg (show x ≤ g by omega)
      exact ⟨hsm.1, by omega, fun h => absurd ho (h k (Nat.le_refl _) (by omega))⟩
    · obtain ⟨i1, i2, i3⟩ := tail_le hp hl hg n (k + 1) (by omega)
      have hmay : MayTake (L.take k) k x := ⟨fun e => ho (by rw [hx, e]), by rw [← hx]; exact take_not hp hkl⟩
      have hnx := smTo_next (g := g) hmay
      have hm := smTo_mono (L.take k) g k hg (show x + 1 ≤ g by omega)
      rw [take_snoc hkl, hx] at i2 i3
      rw [befF_not ho, hx, Int.toNat_natCast]
      refine ⟨by omega, by omega, fun h => ?_⟩
      have := i3 fun j h1 h2 => h j (by omega) h2
      omega
/-- Two lists that go the same way to a place j: one of them has no own coat. -/
theorem bef_same {D L : List Int} {g : Nat} (hn : ∀ k, k < g → D.getD k 0 ≠ k) {j : Nat} (hj : j < g) (hD : D.length = g) (hL : L.length = g) (he : D.take j = L.take j) : ∀ k, k ≤ j → befF D g (g - k) k 0 - befF D g (g - j) j 0 = befF L g (g - k) k 0 - befF L g (g - j) j 0 := by
  intro k hk
  obtain ⟨d, hd⟩ := Nat.le.dest hk
  induction d generalizing k with
  | zero => obtain rfl : k = j := by omega
            omega
  | succ d ih =>
    have h1 := ih (k + 1) (by omega) (by omega)
    have e : g - k = (g - (k + 1)) + 1 := by omega
    have hget : D.getD k 0 = L.getD k 0 := by
      have h2 : (D.take j).getD k 0 = (L.take j).getD k 0 := by rw [he]
      simpa [List.getD_eq_getElem?_getD, List.getElem?_take, show k < j by omega] using h2
    have htk : D.take k = L.take k := by
      have h2 : (D.take j).take k = (L.take j).take k := by rw [he]
      simpa [List.take_take, Nat.min_eq_left hk] using h2
    have hno := hn k (by omega)
    rw [e, befF_not hno, befF_not (by rw [← hget]; exact hno), hget, htk]
    omega
theorem ex_part {L : List Int} (h : IsEx L) : Part L L.length := ⟨h.2.2.1, h.2.2.2⟩
/-- An exchange without own coats ahead of an exchange has a lower rank; one behind it none lower, and a greater one if that has none, too. -/
theorem bef_lt {D L : List Int} (hD : IsEx D) (hn : ¬ HasOwn D) (hL : IsEx L) (hl : D.length = L.length) {j : Nat} (hj : j < L.length) (he : D.take j = L.take j) : (D.getD j 0 < L.getD j 0 → befR D < befR L) ∧ (L.getD j 0 < D.getD j 0 → befR L ≤ befR D ∧ (¬ HasOwn L → befR L < befR D)) := by
  have hg : L.length ≤ 12 := hL.2.1
  have hno : ∀ k, k < L.length → D.getD k 0 ≠ k := fun k hk hh => hn ⟨k, by omega, hh⟩
  have hpD : Part D L.length := by have := ex_part hD; rwa [hl] at this
  have hpL := ex_part hL
  have hs := bef_same hno hj hl rfl he 0 (Nat.zero_le _)
  rw [Nat.sub_zero] at hs
  unfold befR
  rw [hl]
  obtain ⟨d, hd, hdg⟩ := part_get hpD (show j < D.length by omega)
  obtain ⟨l, hlx, hlg⟩ := part_get hpL hj
  obtain ⟨n, hgn⟩ : ∃ n, L.length - j = n + 1 := ⟨L.length - j - 1, by omega⟩
  obtain ⟨t1, t2, t3⟩ := tail_le hpD hl hg n (j + 1) (by omega)
  obtain ⟨u1, u2, u3⟩ := tail_le hpL rfl hg n (j + 1) (by omega)
  have t4 := t3 fun i _ hi => hno i hi
  rw [take_snoc (by omega), hd, he] at t4 t2
  rw [take_snoc hj, hlx] at u2 u3
  have hmd : MayTake (L.take j) j d := ⟨fun e => hno j hj (by rw [hd, e]), by rw [← hd, ← he]; exact take_not hpD (by omega)⟩
  have nd := smTo_next (g := L.length) hmd
  rw [hgn, befF_not (hno j hj), hd, Int.toNat_natCast, he] at hs
  rw [hd, hlx]
  by_cases ho : L.getD j 0 = j
  · rw [befF_own ho, hlx, Int.toNat_natCast] at hs
    refine ⟨fun h => ?_, fun h => ⟨?_, fun h2 => absurd ⟨j, hj, ho⟩ h2⟩⟩
    · have := smTo_mono (L.take j) L.length j hg (show d + 1 ≤ l by omega)
      omega
    · have := smTo_mono (L.take j) L.length j hg (show l ≤ d by omega)
      omega
  · have hml : MayTake (L.take j) j l := ⟨fun e => ho (by rw [hlx, e]), by rw [← hlx]; exact take_not hpL hj⟩
    have nl := smTo_next (g := L.length) hml
    rw [befF_not ho, hlx, Int.toNat_natCast] at hs
    refine ⟨fun h => ?_, fun h => ⟨?_, fun h2 => ?_⟩⟩
    · have := smTo_mono (L.take j) L.length j hg (show d + 1 ≤ l by omega)
      omega
    · have := smTo_mono (L.take j) L.length j hg (show l + 1 ≤ d by omega)
      omega
    · have := smTo_mono (L.take j) L.length j hg (show l + 1 ≤ d by omega)
      have := u3 fun i _ hi hh => h2 ⟨i, hi, hh⟩
      omega
theorem pickF_sum (M : List Int) (g i : Nat) : ∀ n x r y s, pickF M g i n x r = some (y, s) → r + smTo M g i x = s + smTo M g i y
  | 0, x, r, y, s, h => by simp [pickF] at h
  | n + 1, x, r, y, s, h => by
    simp only [pickF] at h
    by_cases hc : MayTake M i x
    · rw [if_pos hc] at h
      by_cases hl : r < lft (M ++ [(x : Int)]) g
      · rw [if_pos hl] at h
        cases h
        rfl
      · rw [if_neg hl] at h
        have := pickF_sum M g i n (x + 1) _ y s h
        rw [smTo_next hc] at this
        omega
    · rw [if_neg hc] at h
      have := pickF_sum M g i n (x + 1) _ y s h
      simp only [smTo] at this
      rw [if_neg hc] at this
      exact this
theorem unr_ok (g : Nat) (hg : g ≤ 12) : ∀ n (M : List Int) (r : Int), n + M.length = g → Part M g → (∀ k, k < M.length → M.getD k 0 ≠ k) → 0 ≤ r → r < lft M g →
    (unrF g n M r).length = g ∧ Part (unrF g n M r) g ∧ (∀ k, k < g → (unrF g n M r).getD k 0 ≠ k) ∧ (unrF g n M r).take M.length = M ∧ befF (unrF g n M r) g n M.length 0 = r := by
  intro n
  induction n with
  | zero =>
    intro M r hn hp hno h0 h1
    rw [lft_full (by omega)] at h1
    simp only [unrF, befF]
    exact ⟨by omega, hp, fun k hk => hno k (by omega), List.take_of_length_le (Nat.le_refl _), by omega⟩
  | succ n ih =>
    intro M r hn hp hno h0 h1
    obtain ⟨y, s, hpick, hyg, hcan, hs0, hs1⟩ := pickF_some M g hp (by omega) hg r h1 g 0 r (by omega) h0 (by simp [smTo])
    have hsum := pickF_sum M g M.length g 0 r y s hpick
    have hz : smTo M g M.length 0 = 0 := rfl
    rw [unr_step hpick]
    have hlen : (M ++ [(y : Int)]).length = M.length + 1 := by rw [List.length_append]; rfl
    obtain ⟨a1, a2, a3, a4, a5⟩ := ih (M ++ [(y : Int)]) s (by rw [hlen]; omega) (hp.snoc hyg hcan.2) (fun k hk => by
      rw [hlen] at hk
      by_cases e : k < M.length
      · have := hno k e
        simpa [List.getD_eq_getElem?_getD, List.getElem?_append_left e] using this
      · obtain rfl : k = M.length := by omega
        have := hcan.1
        simp [List.getD_eq_getElem?_getD]
        omega) hs0 hs1
    generalize unrF g n (M ++ [(y : Int)]) s = R at *
    rw [hlen] at a4 a5
    have hkl : M.length < R.length := by omega
    rw [take_snoc hkl] at a4
    have hinj := List.append_inj a4 (by rw [List.length_take]; omega)
    have hy : R.getD M.length 0 = y := by simpa using hinj.2
    refine ⟨a1, a2, a3, hinj.1, ?_⟩
    rw [befF_not (a3 _ (by omega)), hy, Int.toNat_natCast, hinj.1, a5]
    omega
theorem rankG_ok {g : Nat} {r : Int} (h1 : 1 ≤ g) (hg : g ≤ 12) (h0 : 0 ≤ r) (hr : r < noneN g) : (rankG g r).length = g ∧ RankOk (rankG g r) ∧ befR (rankG g r) = r := by
  obtain ⟨a1, a2, a3, _, a5⟩ := unr_ok g hg g [] r (by simp) ⟨by simp, by simp⟩ (by simp) h0 (by rw [lft_none g hg]; exact hr)
  show (unrF g g [] r).length = g ∧ RankOk (unrF g g [] r) ∧ befR (unrF g g [] r) = r
  refine ⟨a1, ⟨⟨by omega, by omega, by rw [a1]; exact a2.1, a2.2⟩, fun ⟨k, hk, hh⟩ => a3 k (by omega) hh⟩, ?_⟩
  unfold befR
  rw [a1]
  exact a5
theorem first_diff : ∀ {a b : List Int}, a.length = b.length → a ≠ b → ∃ j, j < a.length ∧ a.take j = b.take j ∧ a.getD j 0 ≠ b.getD j 0
  | [], [], _, h => absurd rfl h
  | [], _ :: _, h, _ => by simp at h
  | _ :: _, [], h, _ => by simp at h
  | x :: a, y :: b, hl, h => by
    by_cases e : x = y
    · subst e
      obtain ⟨j, h1, h2, h3⟩ := first_diff (a := a) (b := b) (by simpa using hl) (fun hh => h (by rw [hh]))
      exact ⟨j + 1, by simpa using h1, by simp [h2], by simpa using h3⟩
    · exact ⟨0, by simp, rfl, by simpa using e⟩
/-- Ranks tell exchanges without own coats apart. -/
theorem bef_inj {D L : List Int} (hD : RankOk D) (hL : RankOk L) (hl : D.length = L.length) (he : befR D = befR L) : D = L := by
  refine Classical.byContradiction fun hne => ?_
  obtain ⟨j, h1, h2, h3⟩ := first_diff hl hne
  have h := bef_lt hD.1 hD.2 hL.1 hl (by omega) h2
  by_cases hlt : D.getD j 0 < L.getD j 0
  · have := h.1 hlt; omega
  · have := (h.2 (by omega)).2 hL.2; omega
/-- The rank of an exchange without own coats is one, and it leads back. -/
theorem rank_back {L : List Int} (h : RankOk L) : 0 ≤ befR L ∧ befR L < noneN L.length ∧ rankG L.length (befR L) = L := by
  have hl : 1 ≤ L.length ∧ L.length ≤ 12 := ⟨h.1.1, h.1.2.1⟩
  obtain ⟨t1, _, t3⟩ := tail_le (ex_part h.1) rfl hl.2 L.length 0 (by omega)
  have t4 := t3 fun j _ hj hh => h.2 ⟨j, hj, hh⟩
  rw [List.take_zero, lft_none _ hl.2] at t4
  have h0 : 0 ≤ befR L := t1
  have h1 : befR L < noneN L.length := t4
  obtain ⟨a1, a2, a3⟩ := rankG_ok hl.1 hl.2 h0 h1
  exact ⟨h0, h1, bef_inj a2 h a1 a3⟩
end Go.Proofs.Ytgjlaajkakecpaa
namespace Go.Proofs.Ytgjlaajkakecpaa
variable [Go.Am.CodeBlk]
open Go.Am
attribute [local irreducible] AW Outs Weak Lends Lend Sp aops atree aop1 Then Round InBlock Done
/-- A fraction in lowest terms. -/
def low (a b : Nat) : Nat × Nat := (a / Nat.gcd a b, b / Nat.gcd a b)
def fracV (p : Nat × Nat) : List AV := [.i p.1, .i p.2]
theorem partOf_spec (a b : Nat) (ha : a ≤ 1000000000000000000) (hb : b ≤ 1000000000000000000) (h1 : 1 ≤ b) : Sp Try.prog 45 [.i a, .i b] (.agg (fracV (low a b))) := by
  have hg : 0 < Nat.gcd a b := Nat.gcd_pos_of_pos_right _ h1
  have e1 : ((a / Nat.gcd a b : Nat) : Int) = (a : Int) / (Nat.gcd a b : Nat) := by simp
  have e2 : ((b / Nat.gcd a b : Nat) : Int) = (b : Int) / (Nat.gcd a b : Nat) := by simp
  unfold fracV low
  dsimp only
  rw [e1, e2]
  refine specC_of Try.func45 rfl cc45 (by rfl) ?_
  unfold ac45
  repeat (first | (refine step_ops ?_; (first | (refine m_mov (by conv => lhs; whnf) ?_) | (refine m_alloc ?_))) | refine end_ops ?_ | refine seq_ops ?_)
  refine step_ops ?_; (apply m_call (commonDivisor_spec a b)); (· repeat (first | exact lends_nil | (refine lends_cons ?_ ?_; (· exact lend_v))))
  repeat (first | ((first | refine step_ops ?_ | refine step_tree ?_); (first | (refine m_mov (by conv => lhs; whnf) ?_) | (refine m_bld_2 (by conv => lhs; whnf) (by conv => lhs; whnf) (by decide)  (by decide) (by rfl) (by rfl) ?_) | (refine m_stall rfl rfl rfl ?_ ?_ ?_ ?_; (· first | rfl | (simp [*]; done)); (· first | rfl | (simp [*]; done)); (· first | rfl | (simp [cellOk, Value.oneCell']; done))) | (refine m_quo rfl rfl ?_ ?_ ?_ ?_; (· omega); (· omega); (· omega)))) | refine end_ops ?_ | refine end_tree ?_ | refine seq_tree ?_ | refine AW_ret ?_)
  exact ret_donec rfl rfl rfl (outs_agg rfl)
theorem told_spec (p : Nat × Nat) : Sp Try.prog 47 [.agg (fracV p)] (.tup [.i p.1, .i p.2, .b true]) := by
  unfold fracV
  refine spec_of Try.func47 rfl cc47 rfl ?_
  unfold ac47
  repeat (first | ((first | refine step_ops ?_ | refine step_tree ?_); (first | (refine m_mov (by conv => lhs; whnf) ?_) | (apply m_ld_pt; (· rfl); (· rfl); (· rfl)) | (refine m_fa rfl ?_) | (refine m_box rfl ?_ ?_; (· first | rfl | (simp [cellOk, Value.oneCell']; done))))) | refine end_ops ?_ | refine seq_ops ?_ | refine end_tree ?_ | refine seq_tree ?_ | refine AW_ret ?_ | refine ret_done ?_)
  exact outs_tup3 (outs_i rfl) (outs_i rfl) (outs_b rfl)
theorem exLowN_spec (a b : Nat) (ha : a ≤ 1000000000000000000) (hb : b ≤ 1000000000000000000) (h1 : 1 ≤ b) : Sp Try.prog 48 [.i a, .i b] (.tup [.i (low a b).1, .i (low a b).2]) := by
  have e1 : (((low a b).1 : Nat) : Int) = (a : Int) / (Nat.gcd a b : Nat) := by simp [low]
  have e2 : (((low a b).2 : Nat) : Int) = (b : Int) / (Nat.gcd a b : Nat) := by simp [low]
  rw [e1, e2]
  refine spec_of Try.func48 rfl cc48 rfl ?_
  unfold ac48
  repeat (first | (refine step_ops ?_; (refine m_mov (by conv => lhs; whnf) ?_)) | refine end_ops ?_ | refine seq_ops ?_ | refine AW_seq ?_ | refine AW_block ?_)
  refine AW_loop (α := Nat × Nat) (fun q => Nat.gcd q.1 q.2 = Nat.gcd a b) (fun q => st [(0, .i a), (1, .i b), (6, .i q.1), (7, .i q.2)] []) (fun q => q.2) (a, b) rfl (weak_st ?_ ?_ rfl rfl) ?_
  · (repeat' (first | exact trivial | refine And.intro ?_ ?_)) <;> (first | rfl | skip)
  · trivial
  rintro ⟨u, v⟩ hq
  dsimp only at hq ⊢
  by_cases hc : v = 0
  · subst hc
    rw [Nat.gcd_zero_right] at hq
    have hu : 0 < u := by rw [hq]; exact Nat.gcd_pos_of_pos_right _ h1
    repeat (first | ((first | refine step_ops ?_ | refine step_tree ?_); (first | (refine m_mov (by conv => lhs; whnf) ?_) | (refine m_gtr rfl rfl ?_) | (refine m_quo rfl rfl ?_ ?_ ?_ ?_; (· omega); (· omega); (· omega)))) | refine end_ops ?_ | refine seq_ops ?_ | refine end_tree ?_ | refine seq_tree ?_ | (refine cond_f rfl ?_ ?_; (· first | rfl | assumption | (refine decide_eq_false ?_; first | assumption | omega) | (refine nf ?_; first | assumption | omega) | (simp [*]; done))) | refine AW_seq ?_ | refine AW_ret ?_ | refine ret_done ?_ | refine norm_then ?_ | refine exit_then ?_ | refine exit_round ?_ | refine AW_exit ?_ | refine exit_block ?_)
    refine outs_tup2 (outs_i ?_) (outs_i ?_) <;> rw [hq]
  · have hc' : 0 < (v : Int) := by omega
    repeat (first | ((first | refine step_ops ?_ | refine step_tree ?_); (first | (refine m_mov (by conv => lhs; whnf) ?_) | (refine m_gtr rfl rfl ?_) | (refine m_rem rfl rfl ?_ ?_ ?_; (· omega); (· omega)))) | refine end_ops ?_ | refine seq_ops ?_ | refine end_tree ?_ | refine AW_tree ?_ | (refine cond_t rfl ?_ ?_; (· first | rfl | assumption | (refine decide_eq_true ?_; first | assumption | omega) | (refine nt ?_; first | assumption | omega) | (simp [*]; done))) | refine skip_then ?_ | refine AW_seq ?_ | refine AW_block ?_ | refine norm_block ?_)
    refine next_round (v, u % v) ?_ (weak_st ?_ ?_ rfl rfl) ?_
    · dsimp only
      rw [← hq, Nat.gcd_comm u v, Nat.gcd_rec v u, Nat.gcd_comm]
    · (repeat' (first | exact trivial | refine And.intro ?_ ?_)) <;> (first | rfl | skip)
    · trivial
    · exact Nat.mod_lt _ (by omega)
end Go.Proofs.Ytgjlaajkakecpaa
namespace Go.Proofs.Ytgjlaajkakecpaa
variable [Go.Am.CodeBlk]
open Go.Am
attribute [local irreducible] AW Outs Weak Lends Lend Sp aops atree aop1 Then Round InBlock Done
theorem none_table : ∀ g < 13, (apOut g g).getD g 0 = noneN g := by decide +kernel
theorem none_le : ∀ g < 13, 0 ≤ noneN g ∧ noneN g ≤ 1000000000 := by decide +kernel
def chnR (n : Int) : Nat × Nat := if 1 ≤ n ∧ n ≤ 12 then low (noneN n.toNat).toNat (fac n.toNat).toNat else (0, 0)
def chnTup (n : Int) : AV := .tup [.i (chnR n).1, .i (chnR n).2, .b (decide (1 ≤ n ∧ n ≤ 12))]
theorem specChanceNone_spec (n : Int) : Sp Try.prog 22 [.i n] (chnTup n) := by
  unfold chnTup
  by_cases h : 1 ≤ n ∧ n ≤ 12
  · have e : chnR n = _ := if_pos h
    rw [e]
    obtain ⟨m, rfl⟩ := Int.eq_ofNat_of_zero_le (show 0 ≤ n by omega)
    have h1 := none_le m (by omega)
    have h2 := fac_le m (by omega)
    obtain ⟨p, hp⟩ := Int.eq_ofNat_of_zero_le h1.1
    obtain ⟨q, hq⟩ := Int.eq_ofNat_of_zero_le (show 0 ≤ fac m by omega)
    have s1 := exNone_spec m (by omega)
    have s2 := exTimes_spec m (by omega)
    have s3 := exLowN_spec p q (by omega) (by omega) (by omega)
    rw [hp] at s1
    rw [hq] at s2
    simp only [Int.toNat_natCast, hp, hq]
    generalize low p q = r at s3 ⊢
    refine spec_of Try.func22 rfl cc22 rfl ?_
    unfold ac22
    repeat (first | (refine step_ops ?_; (refine m_mov (by conv => lhs; whnf) ?_)) | refine end_ops ?_ | refine seq_ops ?_ | refine AW_seq ?_)
    (refine step_ops ?_); (apply m_call (exGuests_spec _)); (· repeat (first | exact lends_nil | (refine lends_cons ?_ ?_; (· exact lend_v))))
    repeat (first | (refine step_ops ?_; (first | (refine m_mov (by conv => lhs; whnf) ?_) | (refine m_not rfl ?_))) | refine end_ops ?_ | refine seq_ops ?_ | (refine cond_f rfl ?_ ?_; (· first | rfl | assumption | (refine decide_eq_false ?_; first | assumption | omega) | (refine nf ?_; first | assumption | omega) | (simp [*]; done))) | refine skip_then ?_)
    (refine step_ops ?_); (apply m_call (s1)); (· repeat (first | exact lends_nil | (refine lends_cons ?_ ?_; (· exact lend_v))))
    repeat (refine step_ops ?_; (refine m_mov (by conv => lhs; whnf) ?_))
    (refine step_ops ?_); (apply m_call (s2)); (· repeat (first | exact lends_nil | (refine lends_cons ?_ ?_; (· exact lend_v))))
    skip
    (refine step_ops ?_); (apply m_call (s3)); (· repeat (first | exact lends_nil | (refine lends_cons ?_ ?_; (· exact lend_v))))
    repeat (first | (refine step_ops ?_; (first | (refine m_mov (by conv => lhs; whnf) ?_) | (refine m_ext rfl rfl ?_))) | refine end_ops ?_ | refine seq_ops ?_ | refine AW_ret ?_ | refine ret_done ?_)
    exact outs_tup3 (outs_i rfl) (outs_i rfl) (outs_b (decide_eq_true h).symm)
  · have e : chnR n = (0, 0) := if_neg h
    rw [e]
    refine spec_of Try.func22 rfl cc22 rfl ?_
    unfold ac22
    repeat (first | (refine step_ops ?_; (refine m_mov (by conv => lhs; whnf) ?_)) | refine end_ops ?_ | refine seq_ops ?_ | refine AW_seq ?_)
    (refine step_ops ?_); (apply m_call (exGuests_spec _)); (· repeat (first | exact lends_nil | (refine lends_cons ?_ ?_; (· exact lend_v))))
    repeat (first | (refine step_ops ?_; (first | (refine m_mov (by conv => lhs; whnf) ?_) | (refine m_not rfl ?_))) | refine end_ops ?_ | refine seq_ops ?_ | (refine cond_t rfl ?_ ?_; (· first | rfl | assumption | (refine decide_eq_true ?_; first | assumption | omega) | (refine nt ?_; first | assumption | omega) | (simp [*]; done))) | refine AW_ret ?_ | refine ret_done ?_ | refine ret_then ?_)
    exact outs_tup3 (outs_i rfl) (outs_i rfl) (outs_b (decide_eq_false h).symm)
theorem implChanceNone_spec (n : Int) : Sp Try.prog 21 [.i n] (chnTup n) := by
  unfold chnTup
  by_cases h : 1 ≤ n ∧ n ≤ 12
  · have e : chnR n = _ := if_pos h
    rw [e]
    obtain ⟨m, rfl⟩ := Int.eq_ofNat_of_zero_le (show 0 ≤ n by omega)
    have h1 := none_le m (by omega)
    have h2 := fac_le m (by omega)
    obtain ⟨p, hp⟩ := Int.eq_ofNat_of_zero_le h1.1
    obtain ⟨q, hq⟩ := Int.eq_ofNat_of_zero_le (show 0 ≤ fac m by omega)
    have s1 := countApart_spec m m (by omega) (by omega)
    have s2 := factorial_spec m (by omega)
    have s3 := partOf_spec p q (by omega) (by omega) (by omega)
    rw [none_table m (by omega), hp] at s1
    rw [hq] at s2
    simp only [Int.toNat_natCast, hp, hq]
    generalize low p q = r at s3 ⊢
    have s4 := told_spec r
    unfold fracV at s3 s4
    refine spec_of Try.func21 rfl cc21 rfl ?_
    unfold ac21
    repeat (first | (refine step_ops ?_; (refine m_mov (by conv => lhs; whnf) ?_)) | refine end_ops ?_ | refine seq_ops ?_ | refine AW_seq ?_)
    (refine step_ops ?_); (apply m_call (isGuestCount_spec _)); (· repeat (first | exact lends_nil | (refine lends_cons ?_ ?_; (· exact lend_v))))
    repeat (first | (refine step_ops ?_; (first | (refine m_mov (by conv => lhs; whnf) ?_) | (refine m_not rfl ?_))) | refine end_ops ?_ | refine seq_ops ?_ | (refine cond_f rfl ?_ ?_; (· first | rfl | assumption | (refine decide_eq_false ?_; first | assumption | omega) | (refine nf ?_; first | assumption | omega) | (simp [*]; done))) | refine skip_then ?_)
    (refine step_ops ?_); (apply m_call (s1)); (· repeat (first | exact lends_nil | (refine lends_cons ?_ ?_; (· exact lend_v))))
    repeat (refine step_ops ?_; (refine m_mov (by conv => lhs; whnf) ?_))
    (refine step_ops ?_); (apply m_call (s2)); (· repeat (first | exact lends_nil | (refine lends_cons ?_ ?_; (· exact lend_v))))
    skip
    (refine step_ops ?_); (apply m_call (s3)); (· repeat (first | exact lends_nil | (refine lends_cons ?_ ?_; (· exact lend_v))))
    skip
    (refine step_ops ?_); (apply m_call (s4)); (· repeat (first | exact lends_nil | (refine lends_cons ?_ ?_; (· (refine lend_agg ?_; first | rfl | assumption | (simp [plainV]; done))))))
    repeat (first | (refine step_ops ?_; (first | (refine m_mov (by conv => lhs; whnf) ?_) | (refine m_ext rfl rfl ?_))) | refine end_ops ?_ | refine AW_ret ?_ | refine ret_done ?_)
    exact outs_tup3 (outs_i rfl) (outs_i rfl) (outs_b (decide_eq_true h).symm)
  · have e : chnR n = (0, 0) := if_neg h
    rw [e]
    refine spec_of Try.func21 rfl cc21 rfl ?_
    unfold ac21
    repeat (first | (refine step_ops ?_; (refine m_mov (by conv => lhs; whnf) ?_)) | refine end_ops ?_ | refine seq_ops ?_ | refine AW_seq ?_)
    (refine step_ops ?_); (apply m_call (isGuestCount_spec _)); (· repeat (first | exact lends_nil | (refine lends_cons ?_ ?_; (· exact lend_v))))
    repeat (first | (refine step_ops ?_; (first | (refine m_mov (by conv => lhs; whnf) ?_) | (refine m_not rfl ?_))) | refine end_ops ?_ | refine seq_ops ?_ | (refine cond_t rfl ?_ ?_; (· first | rfl | assumption | (refine decide_eq_true ?_; first | assumption | omega) | (refine nt ?_; first | assumption | omega) | (simp [*]; done))) | refine AW_ret ?_ | refine ret_done ?_ | refine ret_then ?_)
    exact outs_tup3 (outs_i rfl) (outs_i rfl) (outs_b (decide_eq_false h).symm)
end Go.Proofs.Ytgjlaajkakecpaa
namespace Go.Proofs.Ytgjlaajkakecpaa
variable [Go.Am.CodeBlk]
open Go.Am
attribute [local irreducible] AW Outs Weak Lends Lend Sp aops atree aop1 Then Round InBlock Done
def countNoneR (n : Int) : Int := if 1 ≤ n ∧ n ≤ 12 then noneN n.toNat else 0
theorem specCountNone_spec (n : Int) : Sp Try.prog 20 [.i n] (.tup [.i (countNoneR n), .b (decide (1 ≤ n ∧ n ≤ 12))]) := by
  refine spec_of Try.func20 rfl cc20 rfl ?_
  unfold ac20
  by_cases h : 1 ≤ n ∧ n ≤ 12
  · have e : countNoneR n = noneN n.toNat := if_pos h
    obtain ⟨m, rfl⟩ := Int.eq_ofNat_of_zero_le (show 0 ≤ n by omega)
    repeat (first | (refine step_ops ?_; (refine m_mov (by conv => lhs; whnf) ?_)) | refine end_ops ?_ | refine seq_ops ?_ | refine AW_seq ?_)
    (refine step_ops ?_); (apply m_call (exGuests_spec _)); (· repeat (first | exact lends_nil | (refine lends_cons ?_ ?_; (· exact lend_v))))
    repeat (first | (refine step_ops ?_; (first | (refine m_mov (by conv => lhs; whnf) ?_) | (refine m_not rfl ?_))) | refine end_ops ?_ | refine seq_ops ?_ | (refine cond_f rfl ?_ ?_; (· first | rfl | assumption | (refine decide_eq_false ?_; first | assumption | omega) | (refine nf ?_; first | assumption | omega) | (simp [*]; done))) | refine skip_then ?_)
    (refine step_ops ?_); (apply m_call (exNone_spec m (by omega))); (· repeat (first | exact lends_nil | (refine lends_cons ?_ ?_; (· exact lend_v))))
    repeat (first | (refine step_ops ?_; (refine m_mov (by conv => lhs; whnf) ?_)) | refine end_ops ?_ | refine AW_ret ?_ | refine ret_done ?_)
    refine outs_tup2 (outs_i ?_) (outs_b ?_)
    · rw [e]; rfl
    · exact (decide_eq_true h).symm
  · have e : countNoneR n = 0 := if_neg h
    repeat (first | (refine step_ops ?_; (refine m_mov (by conv => lhs; whnf) ?_)) | refine end_ops ?_ | refine seq_ops ?_ | refine AW_seq ?_)
    (refine step_ops ?_); (apply m_call (exGuests_spec _)); (· repeat (first | exact lends_nil | (refine lends_cons ?_ ?_; (· exact lend_v))))
    repeat (first | (refine step_ops ?_; (first | (refine m_mov (by conv => lhs; whnf) ?_) | (refine m_not rfl ?_))) | refine end_ops ?_ | refine seq_ops ?_ | (refine cond_t rfl ?_ ?_; (· first | rfl | assumption | (refine decide_eq_true ?_; first | assumption | omega) | (refine nt ?_; first | assumption | omega) | (simp [*]; done))) | refine AW_ret ?_ | refine ret_done ?_ | refine ret_then ?_)
    refine outs_tup2 (outs_i ?_) (outs_b ?_)
    · rw [e]
    · exact (decide_eq_false h).symm
theorem implCountNone_spec (n : Int) : Sp Try.prog 15 [.i n] (.tup [.i (countNoneR n), .b (decide (1 ≤ n ∧ n ≤ 12))]) := by
  refine spec_of Try.func15 rfl cc15 rfl ?_
  unfold ac15
  by_cases h : 1 ≤ n ∧ n ≤ 12
  · have e : countNoneR n = noneN n.toNat := if_pos h
    obtain ⟨m, rfl⟩ := Int.eq_ofNat_of_zero_le (show 0 ≤ n by omega)
    repeat (first | (refine step_ops ?_; (refine m_mov (by conv => lhs; whnf) ?_)) | refine end_ops ?_ | refine seq_ops ?_ | refine AW_seq ?_)
    (refine step_ops ?_); (apply m_call (isGuestCount_spec _)); (· repeat (first | exact lends_nil | (refine lends_cons ?_ ?_; (· exact lend_v))))
    repeat (first | (refine step_ops ?_; (first | (refine m_mov (by conv => lhs; whnf) ?_) | (refine m_not rfl ?_))) | refine end_ops ?_ | refine seq_ops ?_ | (refine cond_f rfl ?_ ?_; (· first | rfl | assumption | (refine decide_eq_false ?_; first | assumption | omega) | (refine nf ?_; first | assumption | omega) | (simp [*]; done))) | refine skip_then ?_)
    (refine step_ops ?_); (apply m_call (countApart_spec m m (by omega) (by omega))); (· repeat (first | exact lends_nil | (refine lends_cons ?_ ?_; (· exact lend_v))))
    repeat (first | (refine step_ops ?_; (refine m_mov (by conv => lhs; whnf) ?_)) | refine end_ops ?_ | refine AW_ret ?_ | refine ret_done ?_)
    refine outs_tup2 (outs_i ?_) (outs_b ?_)
    · rw [e, none_table m (by omega)]; rfl
    · exact (decide_eq_true h).symm
  · have e : countNoneR n = 0 := if_neg h
    repeat (first | (refine step_ops ?_; (refine m_mov (by conv => lhs; whnf) ?_)) | refine end_ops ?_ | refine seq_ops ?_ | refine AW_seq ?_)
    (refine step_ops ?_); (apply m_call (isGuestCount_spec _)); (· repeat (first | exact lends_nil | (refine lends_cons ?_ ?_; (· exact lend_v))))
    repeat (first | (refine step_ops ?_; (first | (refine m_mov (by conv => lhs; whnf) ?_) | (refine m_not rfl ?_))) | refine end_ops ?_ | refine seq_ops ?_ | (refine cond_t rfl ?_ ?_; (· first | rfl | assumption | (refine decide_eq_true ?_; first | assumption | omega) | (refine nt ?_; first | assumption | omega) | (simp [*]; done))) | refine AW_ret ?_ | refine ret_done ?_ | refine ret_then ?_)
    refine outs_tup2 (outs_i ?_) (outs_b ?_)
    · rw [e]
    · exact (decide_eq_false h).symm
end Go.Proofs.Ytgjlaajkakecpaa
namespace Go.Proofs.Ytgjlaajkakecpaa
variable [Go.Am.CodeBlk]
open Go.Am
attribute [local irreducible] AW Outs Weak Lends Lend Sp aops atree aop1 Then Round InBlock Done
theorem own_table : ∀ g < 13, ∀ o < g + 1, (1 ≤ fac o * fac (g - o) ∧ fac o * fac (g - o) ≤ 479001600) ∧
    (0 ≤ fac g / (fac o * fac (g - o)) * noneN (g - o) ∧ fac g / (fac o * fac (g - o)) * noneN (g - o) ≤ 479001600) ∧
    chz g o o * noneN (g - o) = fac g / (fac o * fac (g - o)) * noneN (g - o) := by decide +kernel
def OwnOk (n o : Int) : Prop := (1 ≤ n ∧ n ≤ 12) ∧ 0 ≤ o ∧ o ≤ n
instance (n o : Int) : Decidable (OwnOk n o) := inferInstanceAs (Decidable (_ ∧ _))
def countOwnR (n o : Int) : Int := if OwnOk n o then chz n.toNat o.toNat o.toNat * noneN (n.toNat - o.toNat) else 0
theorem factorial_int (n : Int) (h0 : 0 ≤ n) (h : n ≤ 12) : Sp Try.prog 46 [.i n] (.i (fac n.toNat)) := by
  obtain ⟨m, rfl⟩ := Int.eq_ofNat_of_zero_le h0
  exact factorial_spec m (by omega)
theorem exNone_int (n : Int) (h0 : 0 ≤ n) (h : n ≤ 12) : Sp Try.prog 35 [.i n] (.i (noneN n.toNat)) := by
  obtain ⟨m, rfl⟩ := Int.eq_ofNat_of_zero_le h0
  exact exNone_spec m (by omega)
theorem countApart_int (n : Int) (h0 : 0 ≤ n) (h : n ≤ 12) : Sp Try.prog 39 [.i n, .i n] (.i (noneN n.toNat)) := by
  obtain ⟨m, rfl⟩ := Int.eq_ofNat_of_zero_le h0
  have h := countApart_spec m m (by omega) (by omega)
  rw [none_table m (by omega)] at h
  exact h
theorem specCountOwn_spec (n o : Int) : Sp Try.prog 25 [.i n, .i o] (.tup [.i (countOwnR n o), .b (decide (OwnOk n o))]) := by
  refine spec_of Try.func25 rfl cc25 rfl ?_
  unfold ac25
  by_cases hok : OwnOk n o
  · have e : countOwnR n o = _ := if_pos hok
    obtain ⟨h, ho⟩ := id hok
    obtain ⟨m, rfl⟩ := Int.eq_ofNat_of_zero_le (show 0 ≤ n by omega)
    obtain ⟨p, rfl⟩ := Int.eq_ofNat_of_zero_le ho.1
    have ht := own_table m (by omega) p (by omega)
    have tm : ((m : Int) - (p : Int)).toNat = m - p := by omega
    have s1 := exNone_int ((m : Int) - p) (by omega) (by omega)
    rw [tm] at s1
    repeat (first | (refine step_ops ?_; (refine m_mov (by conv => lhs; whnf) ?_)) | refine end_ops ?_ | refine seq_ops ?_ | refine AW_seq ?_)
    (refine step_ops ?_); (apply m_call (exGuests_spec _)); (· repeat (first | exact lends_nil | (refine lends_cons ?_ ?_; (· exact lend_v))))
    repeat (refine step_ops ?_; ((try (refine g_yes rfl ?_ ?_; (· first | rfl | assumption | (refine decide_eq_true ?_; first | assumption | omega) | (refine nt ?_; first | assumption | omega) | (simp [*]; done) | (refine decide_eq_false ?_; first | assumption | omega) | (refine nf ?_; first | assumption | omega)))); (first | (refine m_mov (by conv => lhs; whnf) ?_) | (refine m_not rfl ?_))))
    (refine step_ops ?_); (refine g_yes rfl ?_ ?_; (· first | (first | rfl | assumption | (refine decide_eq_true ?_; first | assumption | omega) | (refine nt ?_; first | assumption | omega) | (simp [*]; done)) | (first | rfl | assumption | (refine decide_eq_false ?_; first | assumption | omega) | (refine nf ?_; first | assumption | omega) | (simp [*]; done))); (apply m_call (l1In_spec _ _ _))); (· repeat (first | exact lends_nil | (refine lends_cons ?_ ?_; (· exact lend_v))))
    repeat (first | (refine step_ops ?_; ((try (refine g_yes rfl ?_ ?_; (· first | rfl | assumption | (refine decide_eq_true ?_; first | assumption | omega) | (refine nt ?_; first | assumption | omega) | (simp [*]; done) | (refine decide_eq_false ?_; first | assumption | omega) | (refine nf ?_; first | assumption | omega)))); (first | (refine m_mov (by conv => lhs; whnf) ?_) | (refine m_not rfl ?_) | (refine m_pick_f rfl ?_ (by conv => lhs; whnf) ?_; (· first | rfl | assumption | (refine decide_eq_false ?_; first | assumption | omega) | (refine nf ?_; first | assumption | omega) | (simp [*]; done)))))) | refine end_ops ?_ | refine seq_ops ?_ | (refine cond_f rfl ?_ ?_; (· first | rfl | assumption | (refine decide_eq_false ?_; first | assumption | omega) | (refine nf ?_; first | assumption | omega) | (simp [*]; done))) | refine skip_then ?_)
    (refine step_ops ?_); (apply m_call (exChoose_spec m p (by omega) (by omega))); (· repeat (first | exact lends_nil | (refine lends_cons ?_ ?_; (· exact lend_v))))
    repeat (refine step_ops ?_; (first | (refine m_mov (by conv => lhs; whnf) ?_) | (refine m_sub rfl rfl ?_ ?_ ?_; (· omega); (· omega))))
    (refine step_ops ?_); (apply m_call (s1)); (· repeat (first | exact lends_nil | (refine lends_cons ?_ ?_; (· exact lend_v))))
    repeat (first | (refine step_ops ?_; (first | (refine m_mov (by conv => lhs; whnf) ?_) | (refine m_mul rfl rfl ?_ ?_ ?_; (· first | omega | (simp; done)); (· first | omega | (simp; done))))) | refine end_ops ?_ | refine AW_ret ?_ | refine ret_done ?_)
    refine outs_tup2 (outs_i ?_) (outs_b ?_)
    · rw [e]; rfl
    · exact (decide_eq_true hok).symm
  · have e : countOwnR n o = 0 := if_neg hok
    by_cases h : 1 ≤ n ∧ n ≤ 12
    · have ho : ¬ (0 ≤ o ∧ o ≤ n) := fun ho => hok ⟨h, ho⟩
      repeat (first | (refine step_ops ?_; (refine m_mov (by conv => lhs; whnf) ?_)) | refine end_ops ?_ | refine seq_ops ?_ | refine AW_seq ?_)
      (refine step_ops ?_); (apply m_call (exGuests_spec _)); (· repeat (first | exact lends_nil | (refine lends_cons ?_ ?_; (· exact lend_v))))
      repeat (refine step_ops ?_; ((try (refine g_yes rfl ?_ ?_; (· first | rfl | assumption | (refine decide_eq_true ?_; first | assumption | omega) | (refine nt ?_; first | assumption | omega) | (simp [*]; done) | (refine decide_eq_false ?_; first | assumption | omega) | (refine nf ?_; first | assumption | omega)))); (first | (refine m_mov (by conv => lhs; whnf) ?_) | (refine m_not rfl ?_))))
      (refine step_ops ?_); (refine g_yes rfl ?_ ?_; (· first | (first | rfl | assumption | (refine decide_eq_true ?_; first | assumption | omega) | (refine nt ?_; first | assumption | omega) | (simp [*]; done)) | (first | rfl | assumption | (refine decide_eq_false ?_; first | assumption | omega) | (refine nf ?_; first | assumption | omega) | (simp [*]; done))); (apply m_call (l1In_spec _ _ _))); (· repeat (first | exact lends_nil | (refine lends_cons ?_ ?_; (· exact lend_v))))
      repeat (first | (refine step_ops ?_; ((try (refine g_yes rfl ?_ ?_; (· first | rfl | assumption | (refine decide_eq_true ?_; first | assumption | omega) | (refine nt ?_; first | assumption | omega) | (simp [*]; done) | (refine decide_eq_false ?_; first | assumption | omega) | (refine nf ?_; first | assumption | omega)))); (first | (refine m_mov (by conv => lhs; whnf) ?_) | (refine m_not rfl ?_) | (refine m_pick_f rfl ?_ (by conv => lhs; whnf) ?_; (· first | rfl | assumption | (refine decide_eq_false ?_; first | assumption | omega) | (refine nf ?_; first | assumption | omega) | (simp [*]; done)))))) | refine end_ops ?_ | refine seq_ops ?_ | (refine cond_t rfl ?_ ?_; (· first | rfl | assumption | (refine decide_eq_true ?_; first | assumption | omega) | (refine nt ?_; first | assumption | omega) | (simp [*]; done))) | refine AW_ret ?_ | refine ret_done ?_ | refine ret_then ?_)
      refine outs_tup2 (outs_i ?_) (outs_b ?_)
      · rw [e]
      · exact (decide_eq_false hok).symm
    · repeat (first | (refine step_ops ?_; (refine m_mov (by conv => lhs; whnf) ?_)) | refine end_ops ?_ | refine seq_ops ?_ | refine AW_seq ?_)
      (refine step_ops ?_); (apply m_call (exGuests_spec _)); (· repeat (first | exact lends_nil | (refine lends_cons ?_ ?_; (· exact lend_v))))
      repeat (first | (refine step_ops ?_; (first | (first | (refine m_mov (by conv => lhs; whnf) ?_) | (refine m_not rfl ?_) | (refine m_pick_t rfl ?_ (by conv => lhs; whnf) ?_; (· first | rfl | assumption | (refine decide_eq_true ?_; first | assumption | omega) | (refine nt ?_; first | assumption | omega) | (simp [*]; done)))) | (refine g_noF rfl ?_ ?_; (· first | rfl | assumption | (refine decide_eq_true ?_; first | assumption | omega) | (refine nt ?_; first | assumption | omega) | (simp [*]; done))))) | refine end_ops ?_ | refine seq_ops ?_ | (refine cond_t rfl ?_ ?_; (· first | rfl | assumption | (refine decide_eq_true ?_; first | assumption | omega) | (refine nt ?_; first | assumption | omega) | (simp [*]; done))) | refine AW_ret ?_ | refine ret_done ?_ | refine ret_then ?_)
      refine outs_tup2 (outs_i ?_) (outs_b ?_)
      · rw [e]
      · exact (decide_eq_false hok).symm
theorem countChoices_spec (n k : Nat) (hn : n ≤ 12) (hk : k ≤ n) : Sp Try.prog 52 [.i n, .i k] (.i (fac n / (fac k * fac (n - k)))) := by
  refine spec_of Try.func52 rfl cc52 rfl ?_
  unfold ac52
  have ht := own_table n (by omega) k (by omega)
  have hf := fac_le n (by omega)
  have tm : ((n : Int) - (k : Int)).toNat = n - k := by omega
  have s2 := factorial_int ((n : Int) - k) (by omega) (by omega)
  rw [tm] at s2
  repeat (first | (refine step_ops ?_; (refine m_mov (by conv => lhs; whnf) ?_)) | refine end_ops ?_ | refine seq_ops ?_)
  (refine step_ops ?_); (apply m_call (factorial_spec n (by omega))); (· repeat (first | exact lends_nil | (refine lends_cons ?_ ?_; (· exact lend_v))))
  repeat (refine step_ops ?_; (refine m_mov (by conv => lhs; whnf) ?_))
  (refine step_ops ?_); (apply m_call (factorial_spec k (by omega))); (· repeat (first | exact lends_nil | (refine lends_cons ?_ ?_; (· exact lend_v))))
  repeat (refine step_ops ?_; (first | (refine m_mov (by conv => lhs; whnf) ?_) | (refine m_sub rfl rfl ?_ ?_ ?_; (· omega); (· omega))))
  (refine step_ops ?_); (apply m_call (s2)); (· repeat (first | exact lends_nil | (refine lends_cons ?_ ?_; (· exact lend_v))))
  repeat (first | (refine step_ops ?_; (first | (refine m_mov (by conv => lhs; whnf) ?_) | (refine m_mul rfl rfl ?_ ?_ ?_; (· first | omega | (simp; done)); (· first | omega | (simp; done))) | (refine m_quo rfl rfl ?_ ?_ ?_ ?_; (· omega); (· omega); (· omega)))) | refine end_ops ?_ | refine AW_ret ?_ | refine ret_done ?_)
  exact outs_i rfl
theorem implCountOwn_spec (n o : Int) : Sp Try.prog 24 [.i n, .i o] (.tup [.i (countOwnR n o), .b (decide (OwnOk n o))]) := by
  refine spec_of Try.func24 rfl cc24 rfl ?_
  unfold ac24
  by_cases hok : OwnOk n o
  · have e : countOwnR n o = _ := if_pos hok
    obtain ⟨h, ho⟩ := id hok
    obtain ⟨m, rfl⟩ := Int.eq_ofNat_of_zero_le (show 0 ≤ n by omega)
    obtain ⟨p, rfl⟩ := Int.eq_ofNat_of_zero_le ho.1
    have ht := own_table m (by omega) p (by omega)
    have hf := fac_le m (by omega)
    have tm : ((m : Int) - (p : Int)).toNat = m - p := by omega
    have s1 := countApart_int ((m : Int) - p) (by omega) (by omega)
    rw [tm] at s1
    have hno : ¬ (p : Int) < 0 := by omega
    have hno2 : ¬ (m : Int) < p := by omega
    repeat (first | (refine step_ops ?_; (refine m_mov (by conv => lhs; whnf) ?_)) | refine end_ops ?_ | refine seq_ops ?_ | refine AW_seq ?_)
    (refine step_ops ?_); (apply m_call (isGuestCount_spec _)); (· repeat (first | exact lends_nil | (refine lends_cons ?_ ?_; (· exact lend_v))))
    repeat (first | (refine step_ops ?_; ((try (refine g_yes rfl ?_ ?_; (· first | rfl | assumption | (refine decide_eq_true ?_; first | assumption | omega) | (refine nt ?_; first | assumption | omega) | (simp [*]; done) | (refine decide_eq_false ?_; first | assumption | omega) | (refine nf ?_; first | assumption | omega)))); (first | (refine m_mov (by conv => lhs; whnf) ?_) | (refine m_lss rfl rfl ?_) | (refine m_gtr rfl rfl ?_) | (refine m_sub rfl rfl ?_ ?_ ?_; (· omega); (· omega)) | (refine m_not rfl ?_) | (refine m_pick_f rfl ?_ (by conv => lhs; whnf) ?_; (· first | rfl | assumption | (refine decide_eq_false ?_; first | assumption | omega) | (refine nf ?_; first | assumption | omega) | (simp [*]; done)))))) | refine end_ops ?_ | refine seq_ops ?_ | (refine cond_f rfl ?_ ?_; (· first | rfl | assumption | (refine decide_eq_false ?_; first | assumption | omega) | (refine nf ?_; first | assumption | omega) | (simp [*]; done))) | refine skip_then ?_)
    (refine step_ops ?_); (apply m_call (countChoices_spec m p (by omega) (by omega))); (· repeat (first | exact lends_nil | (refine lends_cons ?_ ?_; (· exact lend_v))))
    repeat (refine step_ops ?_; (refine m_mov (by conv => lhs; whnf) ?_))
    (refine step_ops ?_); (apply m_call (s1)); (· repeat (first | exact lends_nil | (refine lends_cons ?_ ?_; (· exact lend_v))))
    repeat (first | (refine step_ops ?_; (first | (refine m_mov (by conv => lhs; whnf) ?_) | (refine m_mul rfl rfl ?_ ?_ ?_; (· first | omega | (simp; done)); (· first | omega | (simp; done))))) | refine end_ops ?_ | refine AW_ret ?_ | refine ret_done ?_)
    refine outs_tup2 (outs_i ?_) (outs_b ?_)
    · rw [e, ← ht.2.2]; rfl
    · exact (decide_eq_true hok).symm
  · have e : countOwnR n o = 0 := if_neg hok
    by_cases h : 1 ≤ n ∧ n ≤ 12
    · by_cases h0 : o < 0
      · repeat (first | (refine step_ops ?_; (refine m_mov (by conv => lhs; whnf) ?_)) | refine end_ops ?_ | refine seq_ops ?_ | refine AW_seq ?_)
        (refine step_ops ?_); (apply m_call (isGuestCount_spec _)); (· repeat (first | exact lends_nil | (refine lends_cons ?_ ?_; (· exact lend_v))))
        repeat (first | (refine step_ops ?_; (first | ((try (refine g_yes rfl ?_ ?_; (· first | rfl | assumption | (refine decide_eq_true ?_; first | assumption | omega) | (refine nt ?_; first | assumption | omega) | (simp [*]; done) | (refine decide_eq_false ?_; first | assumption | omega) | (refine nf ?_; first | assumption | omega)))); (first | (refine m_mov (by conv => lhs; whnf) ?_) | (refine m_lss rfl rfl ?_) | (refine m_not rfl ?_) | (refine m_pick_t rfl ?_ (by conv => lhs; whnf) ?_; (· first | rfl | assumption | (refine decide_eq_true ?_; first | assumption | omega) | (refine nt ?_; first | assumption | omega) | (simp [*]; done))) | (refine m_pick_f rfl ?_ (by conv => lhs; whnf) ?_; (· first | rfl | assumption | (refine decide_eq_false ?_; first | assumption | omega) | (refine nf ?_; first | assumption | omega) | (simp [*]; done))))) | (refine g_noF rfl ?_ ?_; (· first | rfl | assumption | (refine decide_eq_true ?_; first | assumption | omega) | (refine nt ?_; first | assumption | omega) | (simp [*]; done))))) | refine end_ops ?_ | refine seq_ops ?_ | (refine cond_t rfl ?_ ?_; (· first | rfl | assumption | (refine decide_eq_true ?_; first | assumption | omega) | (refine nt ?_; first | assumption | omega) | (simp [*]; done))) | refine AW_ret ?_ | refine ret_done ?_ | refine ret_then ?_)
        refine outs_tup2 (outs_i ?_) (outs_b ?_)
        · rw [e]
        · exact (decide_eq_false hok).symm
      · have h2 : n < o := by
          have : ¬ (0 ≤ o ∧ o ≤ n) := fun ho => hok ⟨h, ho⟩
          omega
        repeat (first | (refine step_ops ?_; (refine m_mov (by conv => lhs; whnf) ?_)) | refine end_ops ?_ | refine seq_ops ?_ | refine AW_seq ?_)
        (refine step_ops ?_); (apply m_call (isGuestCount_spec _)); (· repeat (first | exact lends_nil | (refine lends_cons ?_ ?_; (· exact lend_v))))
        repeat (first | (refine step_ops ?_; ((try (refine g_yes rfl ?_ ?_; (· first | rfl | assumption | (refine decide_eq_true ?_; first | assumption | omega) | (refine nt ?_; first | assumption | omega) | (simp [*]; done) | (refine decide_eq_false ?_; first | assumption | omega) | (refine nf ?_; first | assumption | omega)))); (first | (refine m_mov (by conv => lhs; whnf) ?_) | (refine m_lss rfl rfl ?_) | (refine m_gtr rfl rfl ?_) | (refine m_not rfl ?_) | (refine m_pick_f rfl ?_ (by conv => lhs; whnf) ?_; (· first | rfl | assumption | (refine decide_eq_false ?_; first | assumption | omega) | (refine nf ?_; first | assumption | omega) | (simp [*]; done)))))) | refine end_ops ?_ | refine seq_ops ?_ | (refine cond_t rfl ?_ ?_; (· first | rfl | assumption | (refine decide_eq_true ?_; first | assumption | omega) | (refine nt ?_; first | assumption | omega) | (simp [*]; done))) | refine AW_ret ?_ | refine ret_done ?_ | refine ret_then ?_)
        refine outs_tup2 (outs_i ?_) (outs_b ?_)
        · rw [e]
        · exact (decide_eq_false hok).symm
    · repeat (first | (refine step_ops ?_; (refine m_mov (by conv => lhs; whnf) ?_)) | refine end_ops ?_ | refine seq_ops ?_ | refine AW_seq ?_)
      (refine step_ops ?_); (apply m_call (isGuestCount_spec _)); (· repeat (first | exact lends_nil | (refine lends_cons ?_ ?_; (· exact lend_v))))
      repeat (first | (refine step_ops ?_; (first | (first | (refine m_mov (by conv => lhs; whnf) ?_) | (refine m_not rfl ?_) | (refine m_pick_t rfl ?_ (by conv => lhs; whnf) ?_; (· first | rfl | assumption | (refine decide_eq_true ?_; first | assumption | omega) | (refine nt ?_; first | assumption | omega) | (simp [*]; done)))) | (refine g_noF rfl ?_ ?_; (· first | rfl | assumption | (refine decide_eq_true ?_; first | assumption | omega) | (refine nt ?_; first | assumption | omega) | (simp [*]; done))))) | refine end_ops ?_ | refine seq_ops ?_ | (refine cond_t rfl ?_ ?_; (· first | rfl | assumption | (refine decide_eq_true ?_; first | assumption | omega) | (refine nt ?_; first | assumption | omega) | (simp [*]; done))) | refine AW_ret ?_ | refine ret_done ?_ | refine ret_then ?_)
      refine outs_tup2 (outs_i ?_) (outs_b ?_)
      · rw [e]
      · exact (decide_eq_false hok).symm
end Go.Proofs.Ytgjlaajkakecpaa
namespace Go.Proofs.Ytgjlaajkakecpaa
variable [Go.Am.CodeBlk]
open Go.Am
attribute [local irreducible] AW Outs Weak Lends Lend Sp aops atree aop1 Then Round InBlock Done
/-- The order of two lists: -1, 0, 1. -/
def lexC : List Int → List Int → Int
  | [], [] => 0
  | [], _ :: _ => -1
  | _ :: _, [] => 1
  | x :: a, y :: b => if x < y then -1 else if y < x then 1 else lexC a b
theorem lexC_step {a b : List Int} {i : Nat} (h1 : i < a.length) (h2 : i < b.length) : lexC (a.drop i) (b.drop i) = if a.getD i 0 < b.getD i 0 then -1 else if b.getD i 0 < a.getD i 0 then 1 else lexC (a.drop (i + 1)) (b.drop (i + 1)) := by
  rw [List.drop_eq_getElem_cons h1, List.drop_eq_getElem_cons h2]
  simp [lexC, h1, h2]
theorem lexC_right {a b : List Int} {i : Nat} (h1 : i < a.length) (h2 : b.length ≤ i) : lexC (a.drop i) (b.drop i) = 1 := by
  rw [List.drop_eq_getElem_cons h1, List.drop_of_length_le h2]
  rfl
theorem lexC_end {a b : List Int} {i : Nat} (h1 : a.length ≤ i) : lexC (a.drop i) (b.drop i) = if i < b.length then -1 else 0 := by
  rw [List.drop_of_length_le h1]
  by_cases h : i < b.length
  · rw [List.drop_eq_getElem_cons h, if_pos h]; rfl
  · rw [List.drop_of_length_le (by omega), if_neg h]; rfl
theorem lexC_irr : ∀ a : List Int, lexC a a = 0
  | [] => rfl
  | x :: a => by simp [lexC, lexC_irr a]
theorem lexC_same : ∀ (p : List Int) (a b : List Int), lexC (p ++ a) (p ++ b) = lexC a b
  | [], _, _ => rfl
  | x :: p, a, b => by simp [lexC, lexC_same p a b]
theorem lexC_at {a b : List Int} {j : Nat} (h1 : j < a.length) (h2 : j < b.length) (he : a.take j = b.take j) : (a.getD j 0 < b.getD j 0 → lexC a b = -1) ∧ (b.getD j 0 < a.getD j 0 → lexC a b = 1) := by
  have e : lexC a b = lexC (a.drop j) (b.drop j) := by
    conv => lhs; rw [← List.take_append_drop j a, ← List.take_append_drop j b, he]
    exact lexC_same _ _ _
  rw [e, lexC_step h1 h2]
  exact ⟨fun h => by rw [if_pos h], fun h => by rw [if_neg (by omega), if_pos h]⟩
theorem oLess_spec (a b : List Int) (ha : a.length ≤ 1048576) (hb : b.length ≤ 1048576) : Sp Try.prog 16 [ints a, ints b] (.b (decide (lexC a b < 0))) := by
  have h0 : lexC (a.drop 0) (b.drop 0) = lexC a b := rfl
  generalize lexC a b = T at h0 ⊢
  refine spec_of Try.func16 rfl cc16 rfl ?_
  unfold ac16
  repeat (first | (refine step_ops ?_; (refine m_mov (by conv => lhs; whnf) ?_)) | refine end_ops ?_ | refine seq_ops ?_ | refine AW_seq ?_ | refine AW_block ?_)
  refine AW_loop (α := Nat) (fun k => k ≤ a.length ∧ (k ≤ b.length) ∧ lexC (a.drop k) (b.drop k) = T) (fun k => st [(0, ints a), (1, ints b), (5, .i (k : Nat))] []) (fun k => a.length - k) 0 ⟨Nat.zero_le _, Nat.zero_le _, h0⟩ (weak_st ?_ ?_ rfl rfl) ?_
  · (repeat' (first | exact trivial | refine And.intro ?_ ?_)) <;> (first | rfl | skip)
  · trivial
  rintro k ⟨hk, hkb, he⟩
  by_cases hc : k < a.length
  · by_cases hc2 : k < b.length
    · rw [lexC_step hc hc2] at he
      by_cases hx : a.getD k 0 = b.getD k 0
      · rw [if_neg (by omega), if_neg (by omega)] at he
        repeat (first | ((first | refine step_ops ?_ | refine step_tree ?_); ((try (refine g_yes rfl ?_ ?_; (· first | rfl | assumption | (refine decide_eq_true ?_; first | assumption | omega) | (refine nt ?_; first | assumption | omega) | (simp [*]; done) | (refine decide_eq_false ?_; first | assumption | omega) | (refine nf ?_; first | assumption | omega)))); (first | (refine m_mov (by conv => lhs; whnf) ?_) | (refine m_lss rfl rfl ?_) | (refine m_neq rfl rfl ?_) | (refine m_add rfl rfl ?_ ?_ ?_; (· omega); (· omega)) | (refine m_len_ro rfl ?_) | (refine m_idx1_ro rfl rfl ?_ ?_; (· omega)) | (refine m_ld_rpi rfl ?_ ?_; (· omega)) | (refine m_pick_t rfl ?_ (by conv => lhs; whnf) ?_; (· first | rfl | assumption | (refine decide_eq_true ?_; first | assumption | omega) | (refine nt ?_; first | assumption | omega) | (simp [*]; done)))))) | refine end_ops ?_ | refine seq_ops ?_ | refine AW_ops ?_ | refine end_tree ?_ | refine seq_tree ?_ | (refine cond_t rfl ?_ ?_; (· first | rfl | assumption | (refine decide_eq_true ?_; first | assumption | omega) | (refine nt ?_; first | assumption | omega) | (simp [*]; done))) | (refine cond_f rfl ?_ ?_; (· first | rfl | assumption | (refine decide_eq_false ?_; first | assumption | omega) | (refine nf ?_; first | assumption | omega) | (simp [*]; done))) | refine skip_then ?_ | refine AW_seq ?_ | refine norm_then ?_ | refine AW_block ?_ | refine norm_block ?_ | refine AW_skip ?_)
        refine next_round (k + 1) ⟨hc, hc2, he⟩ (weak_st ?_ ?_ rfl rfl) ?_
        · (repeat' (first | exact trivial | refine And.intro ?_ ?_)) <;> (first | rfl | skip)
        · trivial
        · omega
      · by_cases hlt : a.getD k 0 < b.getD k 0
        · rw [if_pos hlt] at he
          subst he
          repeat (first | ((first | refine step_ops ?_ | refine step_tree ?_); ((try (refine g_yes rfl ?_ ?_; (· first | rfl | assumption | (refine decide_eq_true ?_; first | assumption | omega) | (refine nt ?_; first | assumption | omega) | (simp [*]; done) | (refine decide_eq_false ?_; first | assumption | omega) | (refine nf ?_; first | assumption | omega)))); (first | (refine m_mov (by conv => lhs; whnf) ?_) | (refine m_lss rfl rfl ?_) | (refine m_neq rfl rfl ?_) | (refine m_len_ro rfl ?_) | (refine m_idx1_ro rfl rfl ?_ ?_; (· omega)) | (refine m_ld_rpi rfl ?_ ?_; (· omega)) | (refine m_pick_t rfl ?_ (by conv => lhs; whnf) ?_; (· first | rfl | assumption | (refine decide_eq_true ?_; first | assumption | omega) | (refine nt ?_; first | assumption | omega) | (simp [*]; done)))))) | refine end_ops ?_ | refine seq_ops ?_ | refine end_tree ?_ | refine seq_tree ?_ | (refine cond_t rfl ?_ ?_; (· first | rfl | assumption | (refine decide_eq_true ?_; first | assumption | omega) | (refine nt ?_; first | assumption | omega) | (simp [*]; done))) | refine skip_then ?_ | refine AW_seq ?_ | refine AW_ret ?_ | refine ret_done ?_ | refine ret_then ?_ | refine AW_block ?_ | refine ret_block ?_ | refine ret_round ?_)
          exact outs_b (decide_eq_decide.2 ⟨fun _ => by omega, fun _ => by omega⟩)
        · rw [if_neg hlt, if_pos (by omega)] at he
          subst he
          repeat (first | ((first | refine step_ops ?_ | refine step_tree ?_); ((try (refine g_yes rfl ?_ ?_; (· first | rfl | assumption | (refine decide_eq_true ?_; first | assumption | omega) | (refine nt ?_; first | assumption | omega) | (simp [*]; done) | (refine decide_eq_false ?_; first | assumption | omega) | (refine nf ?_; first | assumption | omega)))); (first | (refine m_mov (by conv => lhs; whnf) ?_) | (refine m_lss rfl rfl ?_) | (refine m_neq rfl rfl ?_) | (refine m_len_ro rfl ?_) | (refine m_idx1_ro rfl rfl ?_ ?_; (· omega)) | (refine m_ld_rpi rfl ?_ ?_; (· omega)) | (refine m_pick_t rfl ?_ (by conv => lhs; whnf) ?_; (· first | rfl | assumption | (refine decide_eq_true ?_; first | assumption | omega) | (refine nt ?_; first | assumption | omega) | (simp [*]; done)))))) | refine end_ops ?_ | refine seq_ops ?_ | refine end_tree ?_ | refine seq_tree ?_ | (refine cond_t rfl ?_ ?_; (· first | rfl | assumption | (refine decide_eq_true ?_; first | assumption | omega) | (refine nt ?_; first | assumption | omega) | (simp [*]; done))) | refine skip_then ?_ | refine AW_seq ?_ | refine AW_ret ?_ | refine ret_done ?_ | refine ret_then ?_ | refine AW_block ?_ | refine ret_block ?_ | refine ret_round ?_)
          exact outs_b (decide_eq_decide.2 ⟨fun _ => by omega, fun _ => by omega⟩)
    · rw [lexC_right hc (by omega)] at he
      subst he
      have : ¬ a.length < b.length := by omega
      repeat (first | (refine step_ops ?_; ((try (refine g_yes rfl ?_ ?_; (· first | rfl | assumption | (refine decide_eq_true ?_; first | assumption | omega) | (refine nt ?_; first | assumption | omega) | (simp [*]; done) | (refine decide_eq_false ?_; first | assumption | omega) | (refine nf ?_; first | assumption | omega)))); (first | (refine m_mov (by conv => lhs; whnf) ?_) | (refine m_lss rfl rfl ?_) | (refine m_len_ro rfl ?_) | (refine m_pick_t rfl ?_ (by conv => lhs; whnf) ?_; (· first | rfl | assumption | (refine decide_eq_true ?_; first | assumption | omega) | (refine nt ?_; first | assumption | omega) | (simp [*]; done)))))) | refine end_ops ?_ | refine seq_ops ?_ | (refine cond_f rfl ?_ ?_; (· first | rfl | assumption | (refine decide_eq_false ?_; first | assumption | omega) | (refine nf ?_; first | assumption | omega) | (simp [*]; done))) | refine AW_seq ?_ | refine AW_ret ?_ | refine ret_done ?_ | refine norm_then ?_ | refine exit_then ?_ | refine exit_round ?_ | refine AW_exit ?_ | refine exit_block ?_)
      exact outs_b (decide_eq_decide.2 ⟨fun _ => by omega, fun _ => by omega⟩)
  · rw [lexC_end (by omega)] at he
    by_cases hl : k < b.length
    · rw [if_pos hl] at he
      subst he
      have : a.length < b.length := by omega
      repeat (first | (refine step_ops ?_; (first | (first | (refine m_mov (by conv => lhs; whnf) ?_) | (refine m_lss rfl rfl ?_) | (refine m_len_ro rfl ?_) | (refine m_pick_f rfl ?_ (by conv => lhs; whnf) ?_; (· first | rfl | assumption | (refine decide_eq_false ?_; first | assumption | omega) | (refine nf ?_; first | assumption | omega) | (simp [*]; done)))) | (refine g_noT rfl ?_ ?_; (· first | rfl | assumption | (refine decide_eq_false ?_; first | assumption | omega) | (refine nf ?_; first | assumption | omega) | (simp [*]; done))))) | refine end_ops ?_ | refine seq_ops ?_ | (refine cond_f rfl ?_ ?_; (· first | rfl | assumption | (refine decide_eq_false ?_; first | assumption | omega) | (refine nf ?_; first | assumption | omega) | (simp [*]; done))) | refine AW_seq ?_ | refine AW_ret ?_ | refine ret_done ?_ | refine norm_then ?_ | refine exit_then ?_ | refine exit_round ?_ | refine AW_exit ?_ | refine exit_block ?_)
      exact outs_b (decide_eq_decide.2 ⟨fun _ => by omega, fun _ => by omega⟩)
    · rw [if_neg hl] at he
      subst he
      have : ¬ a.length < b.length := by omega
      repeat (first | (refine step_ops ?_; (first | (first | (refine m_mov (by conv => lhs; whnf) ?_) | (refine m_lss rfl rfl ?_) | (refine m_len_ro rfl ?_) | (refine m_pick_f rfl ?_ (by conv => lhs; whnf) ?_; (· first | rfl | assumption | (refine decide_eq_false ?_; first | assumption | omega) | (refine nf ?_; first | assumption | omega) | (simp [*]; done)))) | (refine g_noT rfl ?_ ?_; (· first | rfl | assumption | (refine decide_eq_false ?_; first | assumption | omega) | (refine nf ?_; first | assumption | omega) | (simp [*]; done))))) | refine end_ops ?_ | refine seq_ops ?_ | (refine cond_f rfl ?_ ?_; (· first | rfl | assumption | (refine decide_eq_false ?_; first | assumption | omega) | (refine nf ?_; first | assumption | omega) | (simp [*]; done))) | refine AW_seq ?_ | refine AW_ret ?_ | refine ret_done ?_ | refine norm_then ?_ | refine exit_then ?_ | refine exit_round ?_ | refine AW_exit ?_ | refine exit_block ?_)
      exact outs_b (decide_eq_decide.2 ⟨fun _ => by omega, fun _ => by omega⟩)
theorem oOwn_spec (L : List Int) (hL : L.length ≤ 1048576) : Sp Try.prog 13 [ints L] (.i ((ownList L L.length).length : Nat)) := by
  refine spec_of Try.func13 rfl cc13 rfl ?_
  unfold ac13
  repeat (first | (refine step_ops ?_; (first | (refine m_mov (by conv => lhs; whnf) ?_) | (refine m_len_ro rfl ?_))) | refine end_ops ?_ | refine seq_ops ?_ | refine AW_seq ?_ | refine AW_block ?_)
  refine AW_loop (α := Nat) (fun k => k ≤ L.length) (fun k => st [(3, .i ((ownList L k).length : Nat)), (6, ints L), (7, .i L.length), (8, .i (k : Nat))] []) (fun k => L.length - k) 0 (by omega) (weak_st ?_ ?_ rfl rfl) ?_
  · (repeat' (first | exact trivial | refine And.intro ?_ ?_)) <;> (first | rfl | skip)
  · trivial
  intro k hk
  have hle := ownList_le L k
  by_cases hc : k < L.length
  · by_cases ho : L.getD k 0 = k
    · have ho' : (k : Int) = L.getD k 0 := ho.symm
      have hy := ownList_yes ho
      repeat (first | (refine step_ops ?_; (first | (refine m_mov (by conv => lhs; whnf) ?_) | (refine m_lss rfl rfl ?_) | (refine m_eql rfl rfl ?_) | (refine m_add rfl rfl ?_ ?_ ?_; (· omega); (· omega)) | (refine m_idx1_ro rfl rfl ?_ ?_; (· omega)) | (refine m_ld_rpi rfl ?_ ?_; (· omega)))) | refine end_ops ?_ | refine seq_ops ?_ | refine AW_ops ?_ | (refine cond_t rfl ?_ ?_; (· first | rfl | assumption | (refine decide_eq_true ?_; first | assumption | omega) | (refine nt ?_; first | assumption | omega) | (simp [*]; done))) | refine skip_then ?_ | refine AW_seq ?_ | refine norm_then ?_ | refine AW_block ?_ | refine norm_block ?_)
      refine next_round (k + 1) (by omega) (weak_st ?_ ?_ rfl rfl) ?_
      · rw [hy, List.length_append]; (repeat' (first | exact trivial | refine And.intro ?_ ?_)) <;> (first | rfl | skip)
      · trivial
      · omega
    · have ho' : ¬ (k : Int) = L.getD k 0 := fun h => ho h.symm
      have hy := ownList_no ho
      repeat (first | (refine step_ops ?_; (first | (refine m_mov (by conv => lhs; whnf) ?_) | (refine m_lss rfl rfl ?_) | (refine m_eql rfl rfl ?_) | (refine m_add rfl rfl ?_ ?_ ?_; (· omega); (· omega)) | (refine m_idx1_ro rfl rfl ?_ ?_; (· omega)) | (refine m_ld_rpi rfl ?_ ?_; (· omega)))) | refine end_ops ?_ | refine seq_ops ?_ | refine AW_ops ?_ | (refine cond_t rfl ?_ ?_; (· first | rfl | assumption | (refine decide_eq_true ?_; first | assumption | omega) | (refine nt ?_; first | assumption | omega) | (simp [*]; done))) | (refine cond_f rfl ?_ ?_; (· first | rfl | assumption | (refine decide_eq_false ?_; first | assumption | omega) | (refine nf ?_; first | assumption | omega) | (simp [*]; done))) | refine skip_then ?_ | refine AW_seq ?_ | refine norm_then ?_ | refine AW_block ?_ | refine norm_block ?_ | refine AW_skip ?_)
      refine next_round (k + 1) (by omega) (weak_st ?_ ?_ rfl rfl) ?_
      · rw [hy]; (repeat' (first | exact trivial | refine And.intro ?_ ?_)) <;> (first | rfl | skip)
      · trivial
      · omega
  · obtain rfl : k = L.length := by omega
    repeat (first | (refine step_ops ?_; (first | (refine m_mov (by conv => lhs; whnf) ?_) | (refine m_lss rfl rfl ?_))) | refine end_ops ?_ | refine seq_ops ?_ | (refine cond_f rfl ?_ ?_; (· first | rfl | assumption | (refine decide_eq_false ?_; first | assumption | omega) | (refine nf ?_; first | assumption | omega) | (simp [*]; done))) | refine AW_seq ?_ | refine AW_ret ?_ | refine ret_done ?_ | refine norm_then ?_ | refine exit_then ?_ | refine exit_round ?_ | refine AW_exit ?_ | refine exit_block ?_)
    exact outs_i rfl
theorem oTimes_spec (n : Nat) (h : n ≤ 12) : Sp Try.prog 28 [.i n] (.i (fac n)) := by
  refine spec_of Try.func28 rfl cc28 rfl ?_
  unfold ac28
  repeat (first | (refine step_ops ?_; (refine m_mov (by conv => lhs; whnf) ?_)) | refine end_ops ?_ | refine seq_ops ?_ | refine AW_seq ?_ | refine AW_block ?_)
  refine AW_loop (α := Nat) (fun j => j + 1 ≤ n ∨ j = 0) (fun j => st [(0, .i n), (3, .i (fac (j + 1))), (4, .i ((j : Int) + 2))] []) (fun j => n - j) 0 (.inr rfl) (weak_st ?_ ?_ rfl rfl) ?_
  · (repeat' (first | exact trivial | refine And.intro ?_ ?_)) <;> (first | rfl | skip)
  · trivial
  intro j hj
  by_cases hc : (j : Int) + 2 ≤ n
  · have hb := fac_le (j + 2) (by omega)
    have e : fac (j + 2) = fac (j + 1) * ((j : Int) + 2) := rfl
    rw [e] at hb
    repeat (first | (refine step_ops ?_; (first | (refine m_mov (by conv => lhs; whnf) ?_) | (refine m_leq rfl rfl ?_) | (refine m_add rfl rfl ?_ ?_ ?_; (· omega); (· omega)) | (refine m_mul rfl rfl ?_ ?_ ?_; (· first | omega | (simp; done)); (· first | omega | (simp; done))))) | refine end_ops ?_ | refine seq_ops ?_ | refine AW_ops ?_ | (refine cond_t rfl ?_ ?_; (· first | rfl | assumption | (refine decide_eq_true ?_; first | assumption | omega) | (refine nt ?_; first | assumption | omega) | (simp [*]; done))) | refine skip_then ?_ | refine AW_seq ?_ | refine norm_then ?_ | refine AW_block ?_ | refine norm_block ?_)
    refine next_round (j + 1) (by omega) (weak_st ?_ ?_ rfl rfl) ?_
    · (repeat' (first | exact trivial | refine And.intro ?_ ?_)) <;> (first | rfl | skip)
    · trivial
    · omega
  · repeat (first | (refine step_ops ?_; (first | (refine m_mov (by conv => lhs; whnf) ?_) | (refine m_leq rfl rfl ?_))) | refine end_ops ?_ | refine seq_ops ?_ | (refine cond_f rfl ?_ ?_; (· first | rfl | assumption | (refine decide_eq_false ?_; first | assumption | omega) | (refine nf ?_; first | assumption | omega) | (simp [*]; done))) | refine AW_seq ?_ | refine AW_ret ?_ | refine ret_done ?_ | refine norm_then ?_ | refine exit_then ?_ | refine exit_round ?_ | refine AW_exit ?_ | refine exit_block ?_)
    refine outs_i ?_
    rcases hj with hj | rfl
    · have : j + 1 = n := by omega
      rw [this]
    · have : n = 0 ∨ n = 1 := by omega
      rcases this with rfl | rfl <;> rfl
theorem oSame_self (L : List Int) (hL : L.length ≤ 1048576) : Sp Try.prog 11 [ints L, ints L] (.b true) := by
  refine spec_of Try.func11 rfl cc11 rfl ?_
  unfold ac11
  repeat (first | (refine step_ops ?_; (first | (refine m_mov (by conv => lhs; whnf) ?_) | (refine m_neq rfl rfl ?_) | (refine m_len_ro rfl ?_))) | refine end_ops ?_ | refine seq_ops ?_ | (refine cond_f rfl ?_ ?_; (· first | rfl | assumption | (refine decide_eq_false ?_; first | assumption | omega) | (refine nf ?_; first | assumption | omega) | (simp [*]; done))) | refine skip_then ?_ | refine AW_seq ?_ | refine AW_block ?_)
  refine AW_loop (α := Nat) (fun k => k ≤ L.length) (fun k => st [(0, ints L), (1, ints L), (12, .i L.length), (13, .i k)] []) (fun k => L.length - k) 0 (by omega) (weak_st ?_ ?_ rfl rfl) ?_
  · (repeat' (first | exact trivial | refine And.intro ?_ ?_)) <;> (first | rfl | skip)
  · trivial
  intro k hk
  by_cases hc : k < L.length
  · repeat (first | ((first | refine step_ops ?_ | refine step_tree ?_); (first | (refine m_mov (by conv => lhs; whnf) ?_) | (refine m_lss rfl rfl ?_) | (refine m_neq rfl rfl ?_) | (refine m_add rfl rfl ?_ ?_ ?_; (· omega); (· omega)) | (refine m_idx1_ro rfl rfl ?_ ?_; (· omega)) | (refine m_ld_rpi rfl ?_ ?_; (· omega)))) | refine end_ops ?_ | refine seq_ops ?_ | refine AW_ops ?_ | refine end_tree ?_ | refine seq_tree ?_ | (refine cond_t rfl ?_ ?_; (· first | rfl | assumption | (refine decide_eq_true ?_; first | assumption | omega) | (refine nt ?_; first | assumption | omega) | (simp [*]; done))) | (refine cond_f rfl ?_ ?_; (· first | rfl | assumption | (refine decide_eq_false ?_; first | assumption | omega) | (refine nf ?_; first | assumption | omega) | (simp [*]; done))) | refine skip_then ?_ | refine AW_seq ?_ | refine norm_then ?_ | refine AW_block ?_ | refine norm_block ?_ | refine AW_skip ?_)
    refine next_round (k + 1) (by omega) (weak_st ?_ ?_ rfl rfl) ?_
    · (repeat' (first | exact trivial | refine And.intro ?_ ?_)) <;> (first | rfl | skip)
    · trivial
    · omega
  · repeat (first | (refine step_ops ?_; (first | (refine m_mov (by conv => lhs; whnf) ?_) | (refine m_lss rfl rfl ?_))) | refine end_ops ?_ | refine seq_ops ?_ | (refine cond_f rfl ?_ ?_; (· first | rfl | assumption | (refine decide_eq_false ?_; first | assumption | omega) | (refine nf ?_; first | assumption | omega) | (simp [*]; done))) | refine AW_seq ?_ | refine AW_ret ?_ | refine ret_done ?_ | refine norm_then ?_ | refine exit_then ?_ | refine exit_round ?_ | refine AW_exit ?_ | refine exit_block ?_)
    exact outs_b rfl
theorem ofRes_ok {n r : Int} (h : OfOk n r) : (ofRes n r).length = n.toNat ∧ RankOk (ofRes n r) ∧ befR (ofRes n r) = r := by
  rw [ofRes, if_pos h]
  exact rankG_ok (by have := h.1; omega) (by have := h.1; omega) h.2.1 (by have := h.2.2; omega)
/-- An exchange without own coats of a rank not below that of a list comes behind it, if it is another one. -/
theorem bef_behind {D L : List Int} (hD : RankOk D) (hL : IsEx L) (hl : D.length = L.length) (hne : D ≠ L) (h : befR L ≤ befR D) : lexC L D < 0 := by
  obtain ⟨j, h1, h2, h3⟩ := first_diff hl hne
  have hc := bef_lt hD.1 hD.2 hL hl (by omega) h2
  by_cases hlt : D.getD j 0 < L.getD j 0
  · have := hc.1 hlt; omega
  · rw [(lexC_at (by omega) h1 h2.symm).1 (by omega)]; decide
/-- One of a lower rank does not come behind it. -/
theorem bef_ahead {D L : List Int} (hD : RankOk D) (hL : IsEx L) (hl : D.length = L.length) (h : D = L ∨ befR D < befR L) : ¬ lexC L D < 0 := by
  by_cases hne : D = L
  · rw [hne, lexC_irr]; decide
  · obtain ⟨j, h1, h2, h3⟩ := first_diff hl hne
    have hc := bef_lt hD.1 hD.2 hL hl (by omega) h2
    by_cases hlt : D.getD j 0 < L.getD j 0
    · rw [(lexC_at (by omega) h1 h2.symm).2 hlt]; decide
    · have := (hc.2 (by omega)).1
      rcases h with h | h
      · exact absurd h hne
      · omega
theorem nr_next {L : List Int} (h : NextOk L) : (nextRes L).length = L.length ∧ RankOk (nextRes L) ∧ befR (nextRes L) = nextRank L ∧ lexC L (nextRes L) < 0 ∧ (0 < nextRank L → OfOk L.length (nextRank L - 1) ∧ ¬ lexC L (ofRes L.length (nextRank L - 1)) < 0) := by
  have e : nextRes L = ofRes L.length (nextRank L) := by rw [nextRes, if_pos h, ofRes, if_pos h.2, Int.toNat_natCast]
  obtain ⟨a1, a2, a3⟩ := ofRes_ok h.2
  rw [← e] at a1 a2 a3
  rw [Int.toNat_natCast] at a1
  refine ⟨a1, a2, a3, bef_behind a2 h.1 a1 (fun hh => ?_) ?_, fun hp => ?_⟩
  · have h1 : ¬ HasOwn L := by rw [← hh]; exact a2.2
    have h2 : nextRank L = befR L + 1 := if_neg h1
    rw [hh, h2] at a3
    omega
  · rw [a3]
    unfold nextRank
    split <;> omega
  · have ho : OfOk L.length (nextRank L - 1) := ⟨h.2.1, by have := h.2.2; omega, by have := h.2.2; omega⟩
    obtain ⟨b1, b2, b3⟩ := ofRes_ok ho
    rw [Int.toNat_natCast] at b1
    refine ⟨ho, bef_ahead b2 h.1 b1 ?_⟩
    by_cases hw : HasOwn L
    · right
      rw [b3, nextRank, if_pos hw]; omega
    · left
      refine bef_inj b2 ⟨h.1, hw⟩ b1 ?_
      rw [b3, nextRank, if_neg hw]; omega
theorem nr_rank {L : List Int} (h : RankOk L) : OfOk L.length (befR L) ∧ ofRes L.length (befR L) = L ∧ countNoneR L.length = noneN L.length ∧ befR L < noneN L.length ∧ (NextOk L ↔ befR L + 1 < noneN L.length) := by
  obtain ⟨h0, h1, h2⟩ := rank_back h
  have hl : (1 : Int) ≤ L.length ∧ (L.length : Int) ≤ 12 := ⟨by have := h.1.1; omega, by have := h.1.2.1; omega⟩
  have ho : OfOk L.length (befR L) := ⟨hl, h0, by rw [Int.toNat_natCast]; omega⟩
  refine ⟨ho, ?_, ?_, h1, ?_⟩
  · rw [ofRes, if_pos ho, Int.toNat_natCast, h2]
  · rw [countNoneR, if_pos hl, Int.toNat_natCast]
  · unfold NextOk
    rw [nextRank, if_neg h.2]
    constructor
    · intro hh
      have := hh.2.2.2
      rw [Int.toNat_natCast] at this
      omega
    · intro hh
      exact ⟨h.1, hl, by omega, by rw [Int.toNat_natCast]; omega⟩
theorem rank_own (L : List Int) : RankOk L ↔ IsEx L ∧ ((ownList L L.length).length : Int) = 0 := by
  unfold RankOk
  rw [← ownList_nil]
  constructor
  · intro h; exact ⟨h.1, by omega⟩
  · intro h; exact ⟨h.1, by omega⟩
/-- The sums over own coats of some guests. -/
def ownV2 (G k : Nat) : Int := chz G k k * noneN (G - k)
def ownS (G : Nat) : Nat → Int
  | 0 => 0
  | k + 1 => ownS G k + ownV2 G k
def ownW (G : Nat) : Nat → Int
  | 0 => 0
  | k + 1 => ownW G k + (k : Int) * ownV2 G k
theorem own_sums : ∀ G < 13, ∀ k < G + 2, (0 ≤ ownV2 G k ∧ ownV2 G k ≤ 479001600) ∧ (0 ≤ ownS G k ∧ ownS G k ≤ 10000000000) ∧ 0 ≤ (k : Int) * ownV2 G k ∧ (k : Int) * ownV2 G k ≤ 10000000000 ∧ 0 ≤ ownW G k ∧ ownW G k ≤ 100000000000 := by decide +kernel
theorem own_all : ∀ G < 13, 1 ≤ G → ownS G (G + 1) = fac G ∧ ownW G (G + 1) = fac G ∧ ownV2 G 0 = noneN G ∧ (0 ≤ noneN G ∧ noneN G ≤ 479001600) ∧
    noneN G * ((low (noneN G).toNat (fac G).toNat).2 : Nat) = ((low (noneN G).toNat (fac G).toNat).1 : Nat) * fac G ∧ (low (noneN G).toNat (fac G).toNat).1 ≤ 479001600 ∧ (low (noneN G).toNat (fac G).toNat).2 ≤ 479001600 := by decide +kernel
theorem countOwn_at {G k : Nat} (h1 : 1 ≤ G) (hG : G ≤ 12) (hk : k ≤ G) : OwnOk G k ∧ countOwnR G k = ownV2 G k := by
  have h : OwnOk G k := ⟨⟨by omega, by omega⟩, by omega, by omega⟩
  refine ⟨h, ?_⟩
  rw [countOwnR, if_pos h, Int.toNat_natCast, Int.toNat_natCast]
  rfl
end Go.Proofs.Ytgjlaajkakecpaa
namespace Go.Am
variable [Go.Am.CodeBlk]
variable {P : Program} {N : Nat}
/-- Where such a call begins. -/
def enterH (asx : List AV) (hin : Hp) : AS := ⟨fun t => (asx[t]?).getD .any, hin⟩
theorem enterH_sim {w : World} {phi : Nat → Option Nat} {asx : List AV} {hin : Hp} {vs : Array Value} {n : Nat} (hg : GoodW w) (hgb : ∀ r b, (hin r).isSome = true → phi r = some b → b ∉ goodB) (hpb : ∀ r, (hin r).isSome = true → pbase ≤ r) (hinj : Inj hin phi) (hregs : Regs (ctxE w phi hin) hin)
    (hs : SimL asx (ctxE w phi hin) vs.toList) (hl : vs.size = asx.length) :
    Sim w (fun r => if (hin r).isSome then phi r else none) (min n pbase) (enterH asx hin) (vs ++ Array.replicate (n - vs.size) undef) w phi (ctxE w phi hin).ro where
  os := rfl
  tape := rfl
  output := rfl
  size := Nat.le_refl _
  kept := fun _ _ _ => rfl
  shp := fun b cur e f hb => ⟨cur, hb, rfl⟩
  npb := Nat.min_le_right _ _
  gd := ⟨hg, fun r b h => by split at h; exact hgb r b ‹_› h; cases h⟩
  rob := fun _ hb => hb.1
  inj := fun r r' b h1 h2 h3 h4 => hinj r r' b h1 h2 h3 h4
  liv := fun r c hc => by
    have hr : (hin r).isSome = true := by have h1 : hin r = some c := hc
                                          rw [h1]; rfl
    rcases hregs r c hc with ⟨h1, h2⟩ | ⟨b, cur, e, h1, h2, h3⟩ | ⟨b, o, h0, h1, h2, h3⟩
    · refine .inl ⟨h1, h2, fun _ => ?_⟩
      rw [if_pos hr]; exact h1
    · refine .inr (.inl ⟨b, cur, e, h1, h2, fun hb => hb.2 r hr h1, .inr ⟨hpb r hr, ?_⟩, h3⟩)
      rw [if_pos hr]; exact h1
    · refine .inr (.inr ⟨b, o, h0, h1, h2, h3, fun hb => hb.2 r hr h1, .inr ⟨hpb r hr, ?_⟩⟩)
      rw [if_pos hr]; exact h1
  tms := fun t => by
    simp only [enterH]
    cases hx : asx[t]? with
    | none => simp [SimV]
    | some x =>
      obtain ⟨y, hy, hsy⟩ := hs.get hx
      have hlt : t < vs.size := by
        have := (List.getElem?_eq_some_iff.1 hy).1
        simpa using this
      have hy' : vs[t] = y := by
        have := (List.getElem?_eq_some_iff.1 hy).2
        simpa using this
      have : (vs ++ Array.replicate (n - vs.size) undef).getD t undef = y := by
        simp [Array.getD_eq_getD_getElem?, Array.getElem?_append, hlt, hy']
      rw [this]
      exact hsy
  slots := by simp; omega
/-- What such a function owes at its end: s: names. -/
def DoneH (ts : List Nat) (res : AV) (hin hout : Hp) : Exit → AS → Prop
  | .normal, s | .ret, s => ∃ g : Nat → Nat, resAV s ts = renV g res ∧ (∀ r c, hout r = some c → ∃ c0, s.hp (g r) = some c0 ∧ (c0 = renR g c ∨ (c.2 = [] ∧ c0.2 = []))) ∧ (∀ r, (hin r).isSome = true → g r = r ∧ (hout r).isSome = true) ∧
      (∀ r, (hout r).isSome = true → hin r = none → g r < pbase) ∧ (∀ r r', (hout r).isSome = true → (hout r').isSome = true → g r = g r' → r = r')
  | _, _ => False
/-- What is asked of names and values alone. -/
structure Static (hin : Hp) (res : AV) (hout : Hp) : Prop where
  pb : ∀ r, (hin r).isSome = true → pbase ≤ r
  own : ∀ r c, hout r = some c → ownL false c.2 = true ∧ refsL (fun r => (hout r).isSome) c.2 = true
  res : ownV false res = true ∧ refsV (fun r => (hout r).isSome) res = true
/-- A block that is a region's own is new, if all that was lent is there still. -/
theorem Sim.mine_new {w0 w : World} {mu : Nat → Option Nat} {N : Nat} {s : AS} {tm : Array Value} {phi : Nat → Option Nat} {ro : Nat → Prop} (h : Sim w0 mu N s tm w phi ro) (hall : ∀ r b, mu r = some b → (s.hp r).isSome = true) {q b : Nat} (hq : (s.hp q).isSome = true) (hlt : q < pbase) (hp : phi q = some b) (hm : Mine w0 mu b) : w0.heap.size ≤ b := by
  rcases hm with h1 | ⟨r, hr, hmu⟩
  · exact h1
  exfalso
  have hs := hall r b hmu
  obtain ⟨c, hc⟩ := Option.isSome_iff_exists.1 hs
  have hge : pbase ≤ r := Nat.le_trans (by decide) hr
  have key : phi r = some b := by
    rcases h.liv r c hc with ⟨_, _, k3⟩ | ⟨b', _, _, k1, _, _, k4, _⟩ | ⟨b', _, _, k1, _, _, _, k4⟩
    · rw [k3 hge] at hmu; cases hmu
    · rcases k4 with k4 | k4
      · omega
      · rw [k4.2] at hmu; cases hmu; exact k1
    · rcases k4 with k4 | k4
      · omega
      · rw [k4.2] at hmu; cases hmu; exact k1
  have := h.inj q r b hq hs hp key
  omega
/-- With an open end. -/
def DoneX (ts : List Nat) {ι : Type} (ok : ι → Prop) (res : ι → AV) (hin : Hp) (hout : ι → Hp) (e : Exit) (s : AS) : Prop := ∃ i, ok i ∧ DoneH ts (res i) hin (hout i) e s
theorem specX_of {f : FuncId} {fn : Func} {code : Code} {ac : ACode} {ts : List Nat} {asx : List AV} {hin : Hp} {ι : Type} {ok : ι → Prop} {res : ι → AV} {hout : ι → Hp} (hf : P.funcs[f]? = some fn) (hb : fn.body = some code) (hc : ccode P (min fn.ntmps pbase) code = some ac) (hr : resTmps fn = some ts)
    (hpb : ∀ r, (hin r).isSome = true → pbase ≤ r) (hsta : ∀ i, ok i → Static hin (res i) (hout i)) (h : AW P (min fn.ntmps pbase) ac (enterH asx hin) (DoneX ts ok res hin hout)) : SpX P f asx hin ok res hout := by
  intro w vs phi hg hgb hinj hregs hs hl
  refine calls_of_wp hf hb (wp_mono (h code hc w _ _ w ⟨rfl, _, _, enterH_sim hg hgb hpb hinj hregs hs hl⟩) fun e a' w' hA => ?_)
  obtain ⟨s', h0, hf', phi', ro, hS⟩ := hA
  obtain ⟨i, hi, h1⟩ : ∃ i, ok i ∧ DoneH ts (res i) hin (hout i) e s' := h0
  have hst := hsta i hi
  clear h hsta
  have fin : (∃ g : Nat → Nat, resAV s' ts = renV g (res i) ∧ (∀ r c, hout i r = some c → ∃ c0, s'.hp (g r) = some c0 ∧ (c0 = renR g c ∨ (c.2 = [] ∧ c0.2 = []))) ∧ (∀ r, (hin r).isSome = true → g r = r ∧ (hout i r).isSome = true) ∧
      (∀ r, (hout i r).isSome = true → hin r = none → g r < pbase) ∧ (∀ r r', (hout i r).isSome = true → (hout i r').isSome = true → g r = g r' → r = r')) → a'.defers = [] ∧ ∃ v, (results fn a'.tmps).run P w' = .ok v w' ∧ ∃ i, ok i ∧
      ∃ v' phi', Ending.returned v = .returned v' ∧ w'.os = w.os ∧ w'.tape = w.tape ∧ w'.output = w.output ∧ w.heap.size ≤ w'.heap.size ∧
      (∀ r, (hin r).isSome = true → phi' r = phi r) ∧ (∀ b, b < w.heap.size → (∀ r, (hin r).isSome = true → phi r ≠ some b) → w'.heap[b]? = w.heap[b]?) ∧
      (∀ (b : Nat) (cur : Array Value) (e : TypeId) (f : Nat × Nat), w.heap[b]? = some (.cells cur e f) → ∃ cur' : Array Value, w'.heap[b]? = some (.cells cur' e f) ∧ cur'.size = cur.size) ∧
      Inj (hout i) phi' ∧ (∀ r b, (hout i r).isSome = true → hin r = none → phi' r = some b → w.heap.size ≤ b) ∧ Regs (ctxX w w' phi' (hout i)) (hout i) ∧ SimV (res i) (ctxX w w' phi' (hout i)) v' := by
    rintro ⟨g, hres, hhas, hstay, hfresh, hgi⟩
    have hlv : ∀ r, (hout i r).isSome = true → (s'.hp (g r)).isSome = true := by
      intro r hr
      obtain ⟨c, hc⟩ := Option.isSome_iff_exists.1 hr
      obtain ⟨c0, h1, _⟩ := hhas r c hc
      rw [h1]; rfl
    have hall : ∀ r b, (if (hin r).isSome = true then phi r else none) = some b → (s'.hp r).isSome = true := by
      intro r b hb
      split at hb
      · rename_i hi
        have := hlv r (hstay r hi).2
        rw [(hstay r hi).1] at this
        exact this
      · cases hb
    have hvt : SimV (resAV s' ts) (ctx w w' ro phi' s') (resVal a'.tmps ts) := simv_res hS ts
    rw [hres] at hvt
    refine ⟨hf', _, run_results hr a'.tmps w' P, i, hi, _, fun r => phi' (g r), rfl, hS.os, hS.tape, hS.output, hS.size, fun r hr => ?_, fun b hb hne => hS.kept b hb fun r hr => ?_, hS.shp, ?_, ?_, ?_, ?_⟩
    · obtain ⟨e1, e2⟩ := hstay r hr
      obtain ⟨c, hc⟩ := Option.isSome_iff_exists.1 e2
      obtain ⟨c0, hh, _⟩ := hhas r c hc
      rw [e1] at hh
      show phi' (g r) = phi r
      rw [e1]
      rcases hS.liv r _ hh with ⟨k1, _, k3⟩ | ⟨b, cur, e', k1, _, _, k4, _⟩ | ⟨b, o, _, k1, _, _, _, k4⟩
      case inr.inr =>
        rcases k4 with k4 | k4
        · have := hst.pb r hr; omega
        · have k5 := k4.2
          simp only [hr, if_true] at k5
          rw [k1, k5]
      · have k5 := k3 (hst.pb r hr)
        simp only [hr, if_true] at k5
        rw [k1, k5]
      · rcases k4 with k4 | k4
        · have := hst.pb r hr; omega
        · have k5 := k4.2
          simp only [hr, if_true] at k5
          rw [k1, k5]
    · split at hr
      · rename_i hrs; exact hne r hrs hr
      · cases hr
    · intro r r' b h1 h2 h3 h4
      exact hgi r r' h1 h2 (hS.inj _ _ b (hlv r h1) (hlv r' h2) h3 h4)
    · intro r b h1 h2 h3
      obtain ⟨c, hc⟩ := Option.isSome_iff_exists.1 h1
      have hlt := hfresh r h1 h2
      obtain ⟨c0, hh0, _⟩ := hhas r c hc
      rcases hS.liv _ _ hh0 with ⟨k1, _⟩ | ⟨b', _, _, k1, _, _, k4, _⟩ | ⟨b', _, _, k1, _, _, _, k4⟩
      · have h3' : phi' (g r) = some b := h3
        rw [k1] at h3'; cases h3'
      case inr.inr =>
        have h3' : phi' (g r) = some b := h3
        rw [k1] at h3'; cases h3'
        rcases k4 with k4 | k4
        · exact hS.mine_new hall (by rw [hh0]; rfl) k4.1 k1 k4.2
        · omega
      · have h3' : phi' (g r) = some b := h3
        rw [k1] at h3'; cases h3'
        rcases k4 with k4 | k4
        · exact hS.mine_new hall (by rw [hh0]; rfl) k4.1 k1 k4.2
        · omega
    · intro r c hc
      obtain ⟨ho, hrf⟩ := hst.own r c hc
      obtain ⟨c0, hh0, hc0⟩ := hhas r c hc
      rcases hS.liv _ _ hh0 with ⟨k1, k2, _⟩ | ⟨b, cur, e', k1, k2, _, _, k5⟩ | ⟨b, o, h0, k1, k2, k3, _⟩
      case inr.inr =>
        rcases hc0 with rfl | hc0
        · exact .inr (.inr ⟨b, o, renR_ob h0, k1, k2, k3⟩)
        · rw [h0] at hc0; simp at hc0
      · refine .inl ⟨k1, ?_⟩
        rcases hc0 with rfl | hc0
        · obtain ⟨fl, cs⟩ := c
          simp only [renR, renL_map] at k2
          exact List.map_eq_nil_iff.1 k2
        · exact hc0.1
      · rcases hc0 with rfl | hc0
        case inr => exact .inr (.inl ⟨b, cur, e', k1, k2, by unfold SimR; rw [hc0.1]; simp [SimL]⟩)
        refine .inr (.inl ?_)
        exact ⟨b, cur, e', k1, k2, simR_in (q := false) (C := ctxX w w' (fun r => phi' (g r)) (hout i)) (D := ctx w w' ro phi' s') rfl (fun e => by cases e) (fun _ => rfl) (fun _ r _ => rfl) ho hrf k5⟩
    · exact simV_in false g (ctxX w w' (fun r => phi' (g r)) (hout i)) (ctx w w' ro phi' s') rfl (fun e => by cases e) (fun _ => rfl) (fun _ r _ => rfl) (res i) _ hst.res.1 hst.res.2 hvt
  cases e with
  | normal => exact fin h1
  | ret => exact fin h1
  | exit id => exact h1.elim
  | goto l => exact h1.elim
  | panic c => exact h1.elim
  | outgrown => exact h1.elim
theorem ret_doneh {s : AS} {ts : List Nat} {res : AV} {hin hout : Hp} (g : Nat → Nat) (h1 : resAV s ts = renV g res) (h2 : ∀ r c, hout r = some c → ∃ c0, s.hp (g r) = some c0 ∧ (c0 = renR g c ∨ (c.2 = [] ∧ c0.2 = []))) (h3 : ∀ r, (hin r).isSome = true → g r = r ∧ (hout r).isSome = true)
    (h4 : ∀ r, (hout r).isSome = true → hin r = none → g r < pbase) (h5 : ∀ r r', (hout r).isSome = true → (hout r').isSome = true → g r = g r' → r = r') : DoneH ts res hin hout .ret s := ⟨g, h1, h2, h3, h4, h5⟩
/-- One with an open end. -/
theorem m_callx {s : AS} {K : AS → Prop} {d : Option Nat} {f : FuncId} {args : List Opd} {asx : List AV} {hin : Hp} {ι : Type} {ok : ι → Prop} {res : ι → AV} {hout hp' : ι → Hp} (g : Nat → Nat) (hs : SpX P f asx hin ok res hout) (ha : LendsH s.hp g hin (args.map s.ev) asx) (hne : ∃ i, ok i)
    (k : ∀ i, ok i → Lent s g hin (hout i) (hp' i) (res i) ∧ K (AS.put ⟨s.tm, hp' i⟩ d (renV g (res i)))) : aop1 P true ⟨d, .call f args, none⟩ s K := .inr (.inr (.inl ⟨rfl, asx, hin, ι, ok, res, hout, g, hp', hs, ha, hne, k⟩))
end Go.Am
namespace Go.Am
variable [Go.Am.CodeBlk]
variable {P : Program} {own : Bool} {N : Nat} {s : AS} {K : AS → Prop} {d : Option Nat}
/-- A region's cells under other names; one whose cells lead nowhere may be told asx one whose cells may. -/
def cellsRen (f : Nat → Nat) (c c' : Bool × List AV) : Prop := (c'.1 = true ∧ c = (true, c'.2)) ∨ (c'.1 = false ∧ (c = (false, renL f c'.2) ∨ (c'.2 = [] ∧ c.2 = []) ∨ (c = (true, c'.2) ∧ c'.2.all plainV = true)))
theorem look_mem {β : Type} {l : List (Nat × β)} {t : Nat} {x : β} (h : look l t = some x) : (t, x) ∈ l := by
  induction l with
  | nil => simp [look] at h
  | cons p l ih =>
    obtain ⟨k, y⟩ := p
    simp only [look] at h
    split at h
    · rename_i e; subst e; cases h; exact List.mem_cons_self ..
    · exact List.mem_cons_of_mem _ (ih h)
end Go.Am
namespace Go.Am
variable [Go.Am.CodeBlk]
variable {P : Program} {own : Bool} {N : Nat} {s : AS} {K : AS → Prop} {d : Option Nat}
def nbase : Nat := 8000000
theorem renL_ints (f : Nat → Nat) (l : List Int) : renL f (l.map AV.i) = l.map AV.i := by
  induction l with
  | nil => rfl
  | cons x l ih => simp only [List.map_cons, renL, renV, ih]
end Go.Am
namespace Go.Am
variable [Go.Am.CodeBlk]
/- Boards asx texts. -/
end Go.Am
namespace Go.Am
variable [Go.Am.CodeBlk]
variable {P : Program} {own : Bool} {d : Option Nat} {s : AS} {K : AS → Prop} {N : Nat}
/-- An operation, something being forgotten first. -/
theorem step_opsW {o : AOper} {l : List AOper} {s' : AS} {Q : AS → Prop} (hw : Weak s s') (h : aop1 P own o s' fun s' => aops P own l s' Q) : aops P own (o :: l) s Q := ⟨s', hw, h⟩

/- Results of which some lie in cells. -/
end Go.Am
namespace Go.Am
variable [Go.Am.CodeBlk]
variable {P : Program} {own : Bool} {N : Nat} {s : AS} {K : AS → Prop} {d : Option Nat}
/-- A nil slice in a slot is a slice of an empty region. -/
theorem weak_nilslot (t q z : Nat) (fl : Bool) (ht : s.tm t = .v (.slice none 0 0)) (hq : s.hp q = none) (hqp : q < pbase) : Weak s ((s.mem q (fl, [])).put (some t) (.sl q z 0 0)) := by
  intro w0 mu N a w hS
  obtain ⟨hf, phi, ro, hS⟩ := hS
  have hS1 := hS.born hq hqp (fl, []) none rfl
  refine ⟨hf, _, ro, { hS1 with tms := fun t' => ?_ }⟩
  by_cases e : t' = t
  · subst e
    have h := hS.tms t'
    rw [ht] at h
    simp only [SimV] at h
    show SimV (if t' = t' then .sl q z 0 0 else _) _ _
    rw [if_pos rfl]
    simp only [SimV]
    exact ⟨rfl, by simp [ctx, AS.mem, AS.put], .inl ⟨by simp [ctx], trivial, trivial, h⟩⟩
  · show SimV (if t' = t then .sl q z 0 0 else (s.mem q (fl, [])).tm t') _ _
    rw [if_neg e]
    exact hS1.tms t'
theorem look_isSome {β : Type} {l : List (Nat × β)} {t : Nat} : (look l t).isSome = true ↔ t ∈ l.map (·.1) := by
  induction l with
  | nil => simp [look]
  | cons p l ih =>
    obtain ⟨k, x⟩ := p
    simp only [look, List.map_cons, List.mem_cons]
    by_cases e : t = k
    · simp [e]
    · rw [if_neg e, ih]; simp [e]
theorem look_inj {g : Nat → Nat} : ∀ {l : List (Nat × (Bool × List AV))} {r r' : Nat}, (l.map fun p => g p.1).Nodup → r ∈ l.map (·.1) → r' ∈ l.map (·.1) → g r = g r' → r = r'
  | [], _, _, _, h, _, _ => by simp at h
  | (k, x) :: l, r, r', hn, h1, h2, e => by
    simp only [List.map_cons, List.nodup_cons, List.mem_cons] at hn h1 h2
    have key : ∀ q, q ∈ l.map (·.1) → g q ∈ l.map fun p => g p.1 := fun q hq => by
      obtain ⟨p, hp, rfl⟩ := List.mem_map.1 hq
      exact List.mem_map.2 ⟨p, hp, rfl⟩
    rcases h1 with rfl | h1
    · rcases h2 with rfl | h2
      · rfl
      · exact absurd (e ▸ key _ h2) hn.1
    · rcases h2 with rfl | h2
      · exact absurd (e ▸ key _ h1) hn.1
      · exact look_inj hn.2 h1 h2 e
/-- Each region of a list is there, under its name. -/
def HasI (s : AS) (g : Nat → Nat) : List (Nat × (Bool × List AV)) → Prop
  | [] => True
  | (r, c) :: l => s.hp (g r) = some (renR g c) ∧ HasI s g l
def HasO (s : AS) (g : Nat → Nat) : List (Nat × (Bool × List AV)) → Prop
  | [] => True
  | (r, c) :: l => (∃ c0, s.hp (g r) = some c0 ∧ (c0 = renR g c ∨ (c.2 = [] ∧ c0.2 = []))) ∧ HasO s g l
theorem HasI.all {g : Nat → Nat} : ∀ {l : List (Nat × (Bool × List AV))}, HasI s g l → ∀ p ∈ l, s.hp (g p.1) = some (renR g p.2)
  | [], _, _, hp => by simp at hp
  | _ :: _, h, p, hp => by
    rcases List.mem_cons.1 hp with rfl | hp
    · exact h.1
    · exact HasI.all h.2 p hp
theorem HasO.all {g : Nat → Nat} : ∀ {l : List (Nat × (Bool × List AV))}, HasO s g l → ∀ p ∈ l, ∃ c0, s.hp (g p.1) = some c0 ∧ (c0 = renR g p.2 ∨ (p.2.2 = [] ∧ c0.2 = []))
  | [], _, _, hp => by simp at hp
  | _ :: _, h, p, hp => by
    rcases List.mem_cons.1 hp with rfl | hp
    · exact h.1
    · exact HasO.all h.2 p hp
/-- What is asked of such lists. -/
theorem static_R {hl ho : List (Nat × (Bool × List AV))} {res : AV} (h1 : ∀ p ∈ hl, pbase ≤ p.1) (h2 : ∀ p ∈ ho, ownL false p.2.2 = true ∧ refsL (fun r => (look ho r).isSome) p.2.2 = true) (h3 : ownV false res = true ∧ refsV (fun r => (look ho r).isSome) res = true) : Static (look hl) res (look ho) :=
  ⟨fun r hr => by
    obtain ⟨p, hp, rfl⟩ := List.mem_map.1 (look_isSome.1 hr)
    exact h1 p hp, fun r c hc => h2 _ (look_mem hc), h3⟩
/-- The end of such a function. -/
theorem ret_R {ts : List Nat} {res : AV} {hl ho : List (Nat × (Bool × List AV))} (g : Nat → Nat) (h1 : resAV s ts = renV g res) (hO : HasO s g ho) (h3 : ∀ p ∈ hl, g p.1 = p.1 ∧ p.1 ∈ ho.map (·.1))
    (h4 : ∀ p ∈ ho, p.1 ∈ hl.map (·.1) ∨ g p.1 < pbase) (h5 : (ho.map fun p => g p.1).Nodup) : DoneH ts res (look hl) (look ho) .ret s := by
  have h2 := hO.all
  refine ret_doneh g h1 (fun r c hc => h2 _ (look_mem hc)) (fun r hr => ?_) (fun r hr hn => ?_) fun r r' a b e => look_inj h5 (look_isSome.1 a) (look_isSome.1 b) e
  · obtain ⟨p, hp, rfl⟩ := List.mem_map.1 (look_isSome.1 hr)
    exact ⟨(h3 p hp).1, look_isSome.2 (h3 p hp).2⟩
  · obtain ⟨p, hp, rfl⟩ := List.mem_map.1 (look_isSome.1 hr)
    rcases h4 p hp with k | k
    · have := look_isSome.2 k
      rw [hn] at this
      cases this
    · exact k
/-- Regions under other names; cells that lead nowhere stay asx they are. -/
def HasJ (s : AS) (f : Nat → Nat) : List (Nat × (Bool × List AV)) → Prop
  | [] => True
  | (r, (true, cs)) :: l => s.hp (f r) = some (true, cs) ∧ HasJ s f l
  | (r, (false, cs)) :: l => s.hp (f r) = some (false, renL f cs) ∧ HasJ s f l
theorem HasJ.at {f : Nat → Nat} : ∀ {h : List (Nat × (Bool × List AV))} {r : Nat} {c : Bool × List AV}, HasJ s f h → (r, c) ∈ h → ∃ c0, s.hp (f r) = some c0 ∧ cellsRen f c0 c
  | [], _, _, _, hm => by simp at hm
  | (k, (true, cs)) :: l, r, c, h, hm => by
    rcases List.mem_cons.1 hm with e | hm
    · cases e; exact ⟨_, h.1, .inl ⟨rfl, rfl⟩⟩
    · exact HasJ.at h.2 hm
  | (k, (false, cs)) :: l, r, c, h, hm => by
    rcases List.mem_cons.1 hm with e | hm
    · cases e; exact ⟨_, h.1, .inr ⟨rfl, .inl rfl⟩⟩
    · exact HasJ.at h.2 hm
end Go.Am
namespace Go.Am
variable [Go.Am.CodeBlk]
mutual
/-- Exact values, and slices and pointers that are read, all through. -/
def readV : AV → Bool
  | .v _ => true
  | .ro fr _ cs _ => !fr && readL cs
  | .rp cs => readL cs
  | .any => false
  | .sl _ _ _ _ => false
  | .pt _ _ => false
  | .agg _ => false
  | .tup _ => false
  | .mp _ => false
  | .itr _ => false
  | .ob _ => false
  | .fn _ _ _ => false
  | .rmp _ _ _ => false
  | .fu _ _ _ => false
  | .mit _ _ _ _ _ => false
def readL : List AV → Bool
  | [] => true
  | a :: l => readV a && readL l
end
mutual
theorem SimV.read : ∀ (x : AV) (C D : Ctx) (y : Value), readV x = true → D.heap = C.heap → (∀ b, C.ro b → D.ro b) → SimV x C y → SimV x D y
  | .v _, _, _, _, _, _, _, h => by simpa only [SimV] using h
  | .ro fr z cs n, C, D, y, hr, hh, hro, h => by
    simp only [readV, Bool.and_eq_true, Bool.not_eq_true'] at hr
    simp only [SimV] at h ⊢
    rcases h with h | ⟨b, o, cap, cur, e, fz, h1, h2, h3, h4, h5, h6, h7⟩
    · exact .inl h
    · exact .inr ⟨b, o, cap, cur, e, fz, h1, by rw [hh]; exact h2, hro b h3, h4, h5, (fun e => by rw [hr.1] at e; cases e), SimL.read cs C.out D.out _ hr.2 hh hro h7⟩
  | .rp cs, C, D, y, hr, hh, hro, h => by
    simp only [readV] at hr
    simp only [SimV] at h ⊢
    obtain ⟨b, o, cur, e, fz, h1, h2, h3, h4⟩ := h
    exact ⟨b, o, cur, e, fz, h1, by rw [hh]; exact h2, hro b h3, SimL.read cs C.out D.out _ hr hh hro h4⟩
  | .any, _, _, _, hr, _, _, _ => by simp [readV] at hr
  | .sl _ _ _ _, _, _, _, hr, _, _, _ => by simp [readV] at hr
  | .pt _ _, _, _, _, hr, _, _, _ => by simp [readV] at hr
  | .agg _, _, _, _, hr, _, _, _ => by simp [readV] at hr
  | .tup _, _, _, _, hr, _, _, _ => by simp [readV] at hr
  | .mp _, _, _, _, hr, _, _, _ => by simp [readV] at hr
  | .itr _, _, _, _, hr, _, _, _ => by simp [readV] at hr
  | .ob _, _, _, _, hr, _, _, _ => by simp [readV] at hr
  | .fn _ _ _, _, _, _, hr, _, _, _ => by simp [readV] at hr
  | .rmp _ _ _, _, _, _, hr, _, _, _ => by simp [readV] at hr
  | .fu _ _ _, _, _, _, hr, _, _, _ => by simp [readV] at hr
  | .mit _ _ _ _ _, _, _, _, hr, _, _, _ => by simp [readV] at hr
theorem SimL.read : ∀ (l : List AV) (C D : Ctx) (ys : List Value), readL l = true → D.heap = C.heap → (∀ b, C.ro b → D.ro b) → SimL l C ys → SimL l D ys
  | [], _, _, _, _, _, _, _ => by simp [SimL]
  | _ :: _, _, _, [], _, _, _, h => by simp [SimL] at h
  | a :: l, C, D, y :: ys, hr, hh, hro, h => by
    simp only [readL, Bool.and_eq_true] at hr
    simp only [SimL] at h ⊢
    exact ⟨SimV.read a C D y hr.1 hh hro h.1, SimL.read l C D ys hr.2 hh hro h.2⟩
end
end Go.Am
namespace Go.Am
variable [Go.Am.CodeBlk]
variable {P : Program} {own : Bool} {N : Nat} {s : AS} {K : AS → Prop} {d : Option Nat}
/-- What a value is to a callee that is lent regions under the names g. -/
def LendH1 (hp : Hp) (g : Nat → Nat) (hin : Hp) (x y : AV) : Prop := ∀ w0 mu N tm w phi ro v, Sim w0 mu N ⟨fun _ => .any, hp⟩ tm w phi ro → SimV x (ctx w0 w ro phi ⟨fun _ => .any, hp⟩) v → SimV y (ctxE w (fun r => phi (g r)) hin) v
theorem lendH_nil {hp : Hp} {g : Nat → Nat} {hin : Hp} : LendsH hp g hin [] [] := fun _ _ _ _ _ _ _ vs _ _ hl => ⟨by simp [SimL], hl⟩
theorem lendH_cons {hp : Hp} {g : Nat → Nat} {hin : Hp} {x y : AV} {xs ys : List AV} (h : LendH1 hp g hin x y) (hs : LendsH hp g hin xs ys) : LendsH hp g hin (x :: xs) (y :: ys) := by
  intro w0 mu N tm w phi ro vs hS hv hl
  cases vs with
  | nil => simp at hl
  | cons v vs =>
    simp only [SimL] at hv
    obtain ⟨h1, h2⟩ := hs w0 mu N tm w phi ro vs hS hv.2 (by simpa using hl)
    exact ⟨⟨h w0 mu N tm w phi ro v hS hv.1, h1⟩, by simpa using h2⟩
theorem lendH_v {hp : Hp} {g : Nat → Nat} {hin : Hp} {c : Value} : LendH1 hp g hin (.v c) (.v c) := fun _ _ _ _ _ _ _ _ _ h => by simpa [SimV] using h
/-- A block that somebody reads is not lent. -/
theorem not_lent {hp : Hp} {g : Nat → Nat} {hin : Hp} (hin1 : ∀ r c, hin r = some c → (hp (g r)).isSome = true) {w0 : World} {mu : Nat → Option Nat} {N : Nat} {tm : Array Value} {w : World} {phi : Nat → Option Nat} {ro : Nat → Prop} (hS : Sim w0 mu N ⟨fun _ => .any, hp⟩ tm w phi ro) {b : Nat} (hb : ro b) :
    b < w.heap.size ∧ ∀ r, (hin r).isSome = true → phi (g r) ≠ some b := by
  refine ⟨hS.rob b hb, fun r hr hp' => ?_⟩
  obtain ⟨c, hc⟩ := Option.isSome_iff_exists.1 hr
  obtain ⟨c', hc'⟩ := Option.isSome_iff_exists.1 (hin1 r c hc)
  rcases hS.liv _ _ hc' with ⟨h1, _⟩ | ⟨b', _, _, h1, _, h2, _⟩ | ⟨b', _, _, h1, _, _, h2, _⟩
  · rw [h1] at hp'; cases hp'
  · rw [h1] at hp'; cases hp'
    exact h2 hb
  · rw [h1] at hp'; cases hp'
    exact h2 hb
theorem lendH_ren {hp : Hp} {g : Nat → Nat} {hin : Hp} {x : AV} (hin1 : ∀ r c, hin r = some c → (hp (g r)).isSome = true) (ho : ownV true x = true) (hr : refsV (fun r => (hin r).isSome) x = true) : LendH1 hp g hin (renV g x) x := by
  intro w0 mu N tm w phi ro v hS hv
  exact simV_in true g (ctxE w (fun r => phi (g r)) hin) (ctx w0 w ro phi ⟨fun _ => .any, hp⟩) rfl (fun _ b hb => not_lent hin1 hS hb) (fun _ => rfl) (fun _ r _ => rfl) x v ho hr hv
/-- A region of mine that is not lent is read. -/
theorem lendH_sl {hp : Hp} {g : Nat → Nat} {hin : Hp} {q : Nat} {M : List Int} (hin1 : ∀ r c, hin r = some c → (hp (g r)).isSome = true) (hq : hp q = some (true, M.map AV.i)) (hne : ∀ r, (hin r).isSome = true → g r ≠ q) : LendH1 hp g hin (.sl q 1 0 M.length) (ints M) := by
  intro w0 mu N tm w phi ro v hS h
  simp only [SimV] at h ⊢
  rcases h.2.2 with ⟨h1, _, h3, h4⟩ | ⟨b, o, cap, cur, e, h1, h2, h3, h4, h5, h6, h7⟩
  · exact .inl ⟨h3, by rw [List.eq_nil_of_length_eq_zero h3]; rfl, none, 0, by rw [h4], by simp⟩
  · by_cases hn : M.length = 0
    · exact .inl ⟨hn, by rw [List.eq_nil_of_length_eq_zero hn]; rfl, some ⟨b, o, none⟩, cap, by rw [h2, hn], by simp⟩
    · have ho : o = 0 := by
        rcases h4 with h4 | h4
        · exact h4
        · exact absurd h4.1 hn
      subst ho
      have h1' : phi q = some b := h1
      have h3' : w.heap[b]? = some (.cells cur e (0, 0)) := h3
      rcases hS.liv q _ hq with ⟨h8, _⟩ | ⟨b', cur', e', h8, h9, h10, h11, h12⟩ | ⟨b', o', _, h8, h9, h10, _⟩
      · rw [h8] at h1'; cases h1'
      case inr.inr => exact ob_not_cells h8 h9 h10 h1 h3
      · rw [h8] at h1'
        cases h1'
        rw [h9] at h3'
        cases h3'
        refine .inr ⟨b, 0, cap, cur, e, (0, 0), h2, h9, ⟨lt_of_get h9, fun r hr hp' => ?_⟩, by simp, h5, by simp, ?_⟩
        · obtain ⟨c, hc⟩ := Option.isSome_iff_exists.1 hr
          exact hne r hr (hS.inj _ _ b (hin1 r c hc) (by show (hp q).isSome = true; rw [hq]; rfl) hp' h8)
        · simp only [SimR, if_true] at h12
          rw [List.drop_zero]
          exact simL_allv (allv_ints M) h12
end Go.Am
namespace Go.Am
variable [Go.Am.CodeBlk]
/-- A list of my own that is only read from now on. -/
theorem weak_frz {s : AS} (t r : Nat) {n : Nat} {cs : List AV} (ht : s.tm t = .sl r 1 0 n) (hr : s.hp r = some (true, cs)) (hl : cs.length = n) (hpl : cs.all plainV = true) : Weak s ((s.kill r).put (some t) (.ro false 1 cs n)) := by
  intro w0 mu N a w hS
  obtain ⟨hf, phi, ro, hS⟩ := hS
  have hv := hS.tms t
  rw [ht] at hv
  simp only [SimV] at hv
  obtain ⟨_, _, hv⟩ := hv
  have hk := hS.kill r
  have put1 : ∀ (ro' : Nat → Prop), Sim w0 mu N (s.kill r) a.tmps w phi ro' → SimV (.ro false 1 cs n) (ctx w0 w ro' phi (s.kill r)) (a.tmps.getD t undef) → Sim w0 mu N ((s.kill r).put (some t) (.ro false 1 cs n)) a.tmps w phi ro' := by
    intro ro' h1 h2
    refine { h1 with tms := fun t' => ?_ }
    by_cases e : t' = t
    · subst e
      show SimV (if t' = t' then .ro false 1 cs n else _) _ _
      rw [if_pos rfl]
      exact h2
    · show SimV (if t' = t then _ else (s.kill r).tm t') _ _
      rw [if_neg e]
      exact h1.tms t'
  rcases hS.liv r _ hr with ⟨h1, h2, _⟩ | ⟨b, cur, e, h1, h2, h3, h4, h5⟩ | ⟨b, o, h1, _⟩
  · have h2' : cs = [] := h2
    subst h2'
    have hn : n = 0 := by simpa using hl.symm
    subst hn
    rcases hv with ⟨_, _, _, hv⟩ | ⟨b, _, _, _, _, hp, _⟩
    · refine ⟨hf, phi, ro, put1 ro hk ?_⟩
      simp only [SimV]
      exact .inl ⟨trivial, trivial, none, 0, hv, by simp⟩
    · replace hp : phi r = some b := hp
      rw [h1] at hp; cases hp
  · rcases hv with ⟨hp, _⟩ | ⟨b', o, cap, cur', e', hp, hv, h6, h7, h8, h9, h10⟩
    · replace hp : phi r = none := hp
      rw [h1] at hp; cases hp
    · replace hp : phi r = some b' := hp
      rw [h1] at hp
      cases hp
      have h6' : w.heap[b]? = some (.cells cur' e' (0, 0)) := h6
      rw [h2] at h6'
      cases h6'
      have h11 := ro_more hk (lt_of_get h2) (fun q c hq hb => by
        have hqr : q ≠ r := fun he => by subst he; simp [AS.kill] at hq
        have hqs : (s.hp q).isSome = true := by
          have : ((s.kill r).hp q).isSome = true := by rw [hq]; rfl
          simpa [AS.kill, hqr] using this
        exact hqr (hS.inj q r b hqs (by rw [hr]; rfl) hb h1))
      refine ⟨hf, phi, _, put1 _ h11 ?_⟩
      simp only [SimV]
      by_cases hn : n = 0
      · subst hn
        have hcs : cs = [] := List.eq_nil_of_length_eq_zero hl
        subst hcs
        exact .inl ⟨rfl, rfl, _, cap, hv, by simp⟩
      · have ho : o = 0 := by
          rcases h7 with h7 | h7
          · exact h7
          · omega
        subst ho
        refine .inr ⟨b, 0, cap, cur, e, (0, 0), hv, h2, .inr rfl, by omega, h8, by simp, ?_⟩
        simp only [SimR, if_true] at h5
        have h12 : SimL cs (ctx w0 w (fun q => ro q ∨ q = b) phi (s.kill r)).out cur.toList := by
          refine simL_allv (C := (ctx w0 w ro phi s).out) hpl ?_
          exact h5
        simpa using h12
  · cases h1
    simp [plainV] at hpl
end Go.Am
namespace Go.Am
variable [Go.Am.CodeBlk]
section
variable {P : Program} {own : Bool} {s : AS} {K : AS → Prop} {d : Option Nat} {x y : Opd}
theorem m_binv {op : BinOp} {a b r : Value} (hx : s.ev x = .v a) (hy : s.ev y = .v b) (h : pbin op a b = some r) (kk : K (s.put d (.v r))) : aop1 P own ⟨d, .bin op x y, none⟩ s K := ⟨_, _, _, hx, hy, h, kk⟩
theorem m_and255 {z : Int} (hx : s.ev x = .v (.int .u64 z)) (hy : s.ev y = .v (.int .u64 255)) (kk : ∀ m : Nat, m < 256 → K (s.put d (.v (.int .u64 (m : Nat))))) : aop1 P own ⟨d, .bin .and x y, none⟩ s K := by
  have hm : (BitVec.ofInt IntKind.u64.bits z &&& BitVec.ofInt IntKind.u64.bits 255).toNat ≤ 255 := by
    rw [BitVec.toNat_and]
    exact Nat.le_trans Nat.and_le_right (by decide)
  refine ⟨_, _, _, hx, hy, ?_, kk (BitVec.ofInt IntKind.u64.bits z &&& BitVec.ofInt IntKind.u64.bits 255).toNat (by omega)⟩
  show some (Value.int .u64 (IntKind.u64.wrap _)) = _
  rw [IntKind.wrap_u64]
  congr 2
  generalize (BitVec.ofInt IntKind.u64.bits z &&& BitVec.ofInt IntKind.u64.bits 255).toNat = m at *
  omega
theorem m_cvtu {m : Nat} (hx : s.ev x = .v (.int .u64 (m : Nat))) (hm : m < 256) (kk : K (s.put d (.i (m : Nat)))) : aop1 P own ⟨d, .pu (.cvt .i64) [x], none⟩ s K := by
  refine ⟨_, ⟨_, _, congrArg (fun a => [a]) hx, rfl⟩, ?_⟩
  have : IntKind.i64.wrap (m : Int) = m := by rw [IntKind.wrap_i64]; omega
  rw [this]
  exact kk
theorem m_cvtb {m : UInt8} (hx : s.ev x = .v (.int .u8 m.toNat)) (kk : ∀ k : Nat, k < 256 → K (s.put d (.i (k : Nat)))) : aop1 P own ⟨d, .pu (.cvt .i64) [x], none⟩ s K := by
  refine ⟨_, ⟨_, _, congrArg (fun a => [a]) hx, rfl⟩, ?_⟩
  have hm : m.toNat < 256 := m.toNat_lt
  have : IntKind.i64.wrap (m.toNat : Int) = m.toNat := by rw [IntKind.wrap_i64]; omega
  rw [this]
  exact kk m.toNat hm
end
/-- A cursor: the bytes, where it stands, and its seed. -/
abbrev curC (v : Value) (a : Nat) (z : Int) : List AV := [.v v, .i (a : Nat), .v (.int .u64 z)]
abbrev curH (v : Value) (a : Nat) (z : Int) : List (Nat × (Bool × List AV)) := [(pbase, (true, curC v a z))]
theorem curH_pb (v : Value) (a : Nat) (z : Int) : ∀ r, ((look (curH v a z)) r).isSome = true → pbase ≤ r := by
  intro r hr
  have := look_isSome.1 hr
  simp at this
  omega
theorem cur_static {v v' : Value} {a a' : Nat} {z z' : Int} {x : Value} : Static (look (curH v a z)) (.v x) (look (curH v' a' z')) :=
  static_R (by simp) (fun p hp => by rw [List.mem_singleton] at hp; subst hp; exact ⟨rfl, rfl⟩) ⟨rfl, rfl⟩
theorem curH_at {v : Value} {a : Nat} {z : Int} {r : Nat} {c : Bool × List AV} (h : look (curH v a z) r = some c) : r = pbase ∧ c = (true, curC v a z) := by
  have := look_mem h
  rw [List.mem_singleton] at this
  exact ⟨congrArg Prod.fst this, congrArg Prod.snd this⟩
theorem curH_is {v : Value} {a : Nat} {z : Int} {r : Nat} (h : (look (curH v a z) r).isSome = true) : r = pbase := by
  obtain ⟨c, hc⟩ := Option.isSome_iff_exists.1 h
  exact (curH_at hc).1
theorem lend_cur {s : AS} {r : Nat} {v : Value} {a : Nat} {z : Int} (hr : s.hp r = some (true, curC v a z)) : LendH1 s.hp (fun _ => r) (look (curH v a z)) (.pt r 0) (.pt pbase 0) :=
  lendH_ren (x := .pt pbase 0) (fun q c hq => by show (s.hp r).isSome = true; rw [hr]; rfl) rfl rfl
theorem lend_curl {s : AS} {r q : Nat} {v : Value} {a : Nat} {z : Int} {M : List Int} (hr : s.hp r = some (true, curC v a z)) (hq : s.hp q = some (true, M.map AV.i)) (hne : r ≠ q) : LendH1 s.hp (fun _ => r) (look (curH v a z)) (.sl q 1 0 M.length) (ints M) :=
  lendH_sl (fun p c hp => by show (s.hp r).isSome = true; rw [hr]; rfl) hq fun p _ => hne
/-- A call that moves a cursor and tells a plain value. -/
theorem m_cur {P : Program} {s : AS} {K : AS → Prop} {d : Option Nat} {f : FuncId} {args : List Opd} {asx : List AV} {r : Nat} {v : Value} {a : Nat} {z : Int} {ι : Type} {ok : ι → Prop} {res : ι → Value} {a' : ι → Nat} {z' : ι → Int}
    (hs : SpX P f asx (look (curH v a z)) ok (fun i => .v (res i)) (fun i => look (curH v (a' i) (z' i)))) (hr : s.hp r = some (true, curC v a z)) (hl : LendsH s.hp (fun _ => r) (look (curH v a z)) (args.map s.ev) asx) (hne : ∃ i, ok i)
    (k : ∀ i, ok i → K ((s.mem r (true, curC v (a' i) (z' i))).put d (.v (res i)))) : aop1 P true ⟨d, .call f args, none⟩ s K := by
  refine m_callx (hp' := fun i => fun q => if q = r then some (true, curC v (a' i) (z' i)) else s.hp q) (fun _ => r) hs hl hne fun i hi => ⟨⟨fun q c hc => ?_, fun q q' h1 h2 _ => ?_, fun q hq => ?_, fun q hq hn => ?_, fun q c hc => ?_, fun q hq => ?_, fun q c hc => ?_, fun q c hc => ?_, rfl⟩, k i hi⟩
  · obtain ⟨rfl, rfl⟩ := curH_at hc
    exact hr
  · rw [curH_is h1, curH_is h2]
  · rw [curH_is hq]; rfl
  · rw [curH_is hq] at hn; cases hn
  · obtain ⟨rfl, rfl⟩ := curH_at hc
    show (if r = r then _ else _) = _
    rw [if_pos rfl]; rfl
  · have := hq pbase rfl
    show (if q = r then _ else _) = _
    rw [if_neg fun e => this e.symm]
  · obtain ⟨rfl, rfl⟩ := curH_at hc
    exact ⟨rfl, rfl⟩
  · obtain ⟨rfl, rfl⟩ := curH_at hc
    rfl
/-- A cursor and a new list. -/
abbrev curN (v : Value) (a : Nat) (z : Int) (L : List Int) : List (Nat × (Bool × List AV)) := [(pbase, (true, curC v a z)), (nbase, (true, L.map AV.i))]
theorem curN_at {v : Value} {a : Nat} {z : Int} {L : List Int} {r : Nat} {c : Bool × List AV} (h : look (curN v a z L) r = some c) : (r = pbase ∧ c = (true, curC v a z)) ∨ (r = nbase ∧ c = (true, L.map AV.i)) := by
  have := look_mem h
  simp only [List.mem_cons, List.not_mem_nil, or_false, Prod.mk.injEq] at this
  exact this
theorem ints_ownC (q : Bool) (L : List Int) : ownL q (L.map AV.i) = true := by
  induction L with
  | nil => rfl
  | cons a l ih => show (ownV q (AV.i a) && ownL q (l.map AV.i)) = true; rw [ih]; rfl
theorem ints_refsC (keep : Nat → Bool) (L : List Int) : refsL keep (L.map AV.i) = true := by
  induction L with
  | nil => rfl
  | cons a l ih => show (refsV keep (AV.i a) && refsL keep (l.map AV.i)) = true; rw [ih]; rfl
theorem curN_static {v v' : Value} {a a' : Nat} {z z' : Int} {L : List Int} {n : Nat} : Static (look (curH v a z)) (.sl nbase 1 0 n) (look (curN v' a' z' L)) :=
  static_R (by simp) (fun p hp => by
    rcases List.mem_cons.1 hp with rfl | hp
    · exact ⟨rfl, rfl⟩
    · rw [List.mem_singleton] at hp; subst hp; exact ⟨ints_ownC _ _, ints_refsC _ _⟩) ⟨rfl, rfl⟩
/-- A call that moves a cursor and hands out a new list. -/
theorem m_curL {P : Program} {s : AS} {K : AS → Prop} {d : Option Nat} {f : FuncId} {args : List Opd} {asx : List AV} {r q : Nat} {v : Value} {a : Nat} {z : Int} {ι : Type} {ok : ι → Prop} {L : ι → List Int} {a' : ι → Nat} {z' : ι → Int}
    (hs : SpX P f asx (look (curH v a z)) ok (fun i => .sl nbase 1 0 (L i).length) (fun i => look (curN v (a' i) (z' i) (L i)))) (hr : s.hp r = some (true, curC v a z)) (hq : s.hp q = none) (hqp : q < pbase) (hl : LendsH s.hp (fun p => if p = nbase then q else r) (look (curH v a z)) (args.map s.ev) asx) (hne : ∃ i, ok i)
    (k : ∀ i, ok i → K (((s.mem r (true, curC v (a' i) (z' i))).mem q (true, (L i).map AV.i)).put d (.sl q 1 0 (L i).length))) : aop1 P true ⟨d, .call f args, none⟩ s K := by
  have hrq : q ≠ r := fun e => by rw [e, hr] at hq; cases hq
  have hpn : pbase ≠ nbase := by decide
  refine m_callx (hp' := fun i => fun p => if p = q then some (true, (L i).map AV.i) else if p = r then some (true, curC v (a' i) (z' i)) else s.hp p) (fun p => if p = nbase then q else r) hs hl hne fun i hi => ⟨⟨fun p c hc => ?_, fun p p' h1 h2 e => ?_, fun p hp => ?_, fun p hp hn => ?_, fun p c hc => ?_, fun p hp => ?_, fun p c hc => ?_, fun p c hc => ?_, rfl⟩, k i hi⟩
  · obtain ⟨rfl, rfl⟩ := curH_at hc
    rw [if_neg (by decide)]
    exact hr
  · obtain ⟨c1, hc1⟩ := Option.isSome_iff_exists.1 h1
    obtain ⟨c2, hc2⟩ := Option.isSome_iff_exists.1 h2
    rcases curN_at hc1 with ⟨rfl, _⟩ | ⟨rfl, _⟩ <;> rcases curN_at hc2 with ⟨rfl, _⟩ | ⟨rfl, _⟩
    · rfl
    · simp [hpn] at e; exact absurd e.symm hrq
    · simp [hpn] at e; exact absurd e hrq
    · rfl
  · rw [curH_is hp]; rfl
  · obtain ⟨c1, hc1⟩ := Option.isSome_iff_exists.1 hp
    rcases curN_at hc1 with ⟨rfl, _⟩ | ⟨rfl, _⟩
    · cases hn
    · rw [if_pos rfl]; exact ⟨hq, hqp⟩
  · rcases curN_at hc with ⟨rfl, rfl⟩ | ⟨rfl, rfl⟩
    · show (if (if pbase = nbase then q else r) = q then _ else _) = _
      rw [if_neg hpn, if_neg (Ne.symm hrq), if_pos rfl]
      rfl
    · show (if (if nbase = nbase then q else r) = q then _ else _) = _
      rw [if_pos rfl, if_pos rfl]
      exact congrArg (fun c => some (true, c)) (renL_ints _ _).symm
  · have h1 := hp pbase rfl
    have h2 := hp nbase rfl
    rw [if_neg (by decide)] at h1
    rw [if_pos rfl] at h2
    show (if p = q then _ else if p = r then _ else _) = _
    rw [if_neg fun e => h2 e.symm, if_neg fun e => h1 e.symm]
  · obtain ⟨rfl, rfl⟩ := curH_at hc
    exact ⟨rfl, rfl⟩
  · rcases curN_at hc with ⟨rfl, rfl⟩ | ⟨rfl, rfl⟩
    · rfl
    · exact ints_ownC _ _
theorem lend_curN {s : AS} {r q : Nat} {v : Value} {a : Nat} {z : Int} (hr : s.hp r = some (true, curC v a z)) : LendH1 s.hp (fun p => if p = nbase then q else r) (look (curH v a z)) (.pt r 0) (.pt pbase 0) :=
  lendH_ren (x := .pt pbase 0) (fun p c hp => by
    have h : p = pbase := curH_is (by rw [hp]; rfl)
    subst h
    show (s.hp (if pbase = nbase then q else r)).isSome = true
    rw [if_neg (by decide), hr]; rfl) rfl rfl
theorem bys_cell {v : Value} {L : List UInt8} (hv : Bys v L) : v.oneCell' = true := by
  rcases hv with ⟨_, a, c, rfl⟩ | ⟨b, o, cap, cur, rfl, _⟩ <;> rfl
theorem m_bldC {P : Program} {own : Bool} {s : AS} {K : AS → Prop} {d : Option Nat} {x : Opd} {v : Value} (hv : v.oneCell' = true) (hx : s.ev x = .v v) (k : K (s.put d (.agg (curC v 0 0)))) :
    aop1 P own ⟨d, .pu (.bld [.slice none 0 0, .int .i64 0, .int .u64 0] [(0, 1)]) [x], none⟩ s K :=
  ⟨_, ⟨curC v 0 0, .inl ⟨rfl, (by decide : 0 < 3), (by rw [hx]; exact hv), (by rw [hx]; rfl)⟩, rfl⟩, k⟩
theorem m_boxC {P : Program} {own : Bool} {s : AS} {K : AS → Prop} {r : Nat} {x : Opd} {v : Value} (hv : v.oneCell' = true) (hx : s.ev x = .agg (curC v 0 0)) (k : K (((s.kill r).mem r (true, curC v 0 0)).put (some r) (.pt r 0))) :
    aop1 P own ⟨some r, .box 3 x, none⟩ s K :=
  ⟨r, true, rfl, .inr ⟨curC v 0 0, hx, (by show (v.oneCell' && _) = true; rw [hv]; rfl), k⟩⟩
end Go.Am
namespace Go.Proofs.Ytgjlaajkakecpaa
variable [Go.Am.CodeBlk]
open Go.Am
attribute [local irreducible] AW Outs Weak Lends Lend Sp aops atree aop1 Then Round InBlock Done
attribute [local irreducible] SpH SpX DoneH
/-- The second part of a code. -/
def sndA : ACode → ACode
  | .seq _ y => y
  | c => c
def fstA : ACode → ACode
  | .seq x _ => x
  | c => c
/-- The next byte, or what stands in its place. -/
theorem curNext_spec {v : Value} {L : List UInt8} (hv : Bys v L) (hL : L.length ≤ 1048576) (a : Nat) (ha : a ≤ 1000000) (z : Int) :
    SpX Try.prog 67 [.pt pbase 0] (Am.look (curH v a z)) (ι := Nat × Int) (fun i => i.1 < 256) (fun i => .i (i.1 : Nat)) (fun i => Am.look (curH v (a + 1) i.2)) := by
  have hpb := curH_pb v a z
  have hsta : ∀ i : Nat × Int, i.1 < 256 → Static (Am.look (curH v a z)) (.i (i.1 : Nat)) (Am.look (curH v (a + 1) i.2)) := fun i _ => cur_static
  refine specX_of Try.func67 rfl cc67 rfl hpb hsta ?_
  unfold ac67
  clear hpb hsta
  have key : ∀ (k : Nat), k < 256 → AW Try.prog (min Try.f67.ntmps pbase) (sndA (sndA (sndA ac67))) (st [(0, .pt pbase 0), (3, .i (k : Nat))] (curH v a z)) (DoneX [2] (fun i : Nat × Int => i.1 < 256) (fun i => .i (i.1 : Nat)) (Am.look (curH v a z)) (fun i => Am.look (curH v (a + 1) i.2))) := by
    intro k hk
    unfold ac67
    simp only [sndA]
    repeat (first | (refine step_ops ?_; (first | (refine m_mov (by conv => lhs; whnf) ?_) | (refine m_add rfl rfl ?_ ?_ ?_; (· omega); (· omega)) | (apply m_ld_pt; (· rfl); (· rfl); (· rfl)) | (apply m_st; (· rfl); (· rfl); (· rfl); (· first | omega | (simp; done) | (simp; omega)); (· rfl)) | (refine m_nchk rfl ?_) | (refine m_fa rfl ?_))) | refine end_ops ?_ | refine seq_ops ?_)
    refine step_ops ?_
    refine m_binv rfl rfl rfl ?_
    repeat (refine step_ops ?_; (first | (refine m_mov (by conv => lhs; whnf) ?_) | (refine m_cvt rfl ?_)))
    refine step_ops ?_
    refine m_binv rfl rfl rfl ?_
    refine step_ops ?_
    refine m_binv rfl rfl rfl ?_
    repeat (first | ((first | refine step_ops ?_ | refine step_tree ?_); (first | (refine m_mov (by conv => lhs; whnf) ?_) | (apply m_ld_pt; (· rfl); (· rfl); (· rfl)) | (apply m_st; (· rfl); (· rfl); (· rfl); (· first | omega | (simp; done) | (simp; omega)); (· rfl)) | (refine m_nchk rfl ?_) | (refine m_fa rfl ?_))) | refine end_ops ?_ | refine seq_tree ?_ | refine AW_seq ?_)
    refine step_tree ?_
    refine m_len_bys rfl hv ?_
    by_cases hle : ((a : Nat) : Int) + 1 ≤ L.length
    · repeat (first | ((first | refine step_ops ?_ | refine step_tree ?_); (first | (refine m_mov (by conv => lhs; whnf) ?_) | (refine m_leq rfl rfl ?_))) | refine end_ops ?_ | refine seq_ops ?_ | refine end_tree ?_ | (refine cond_t rfl ?_ ?_; (· first | rfl | assumption | (refine decide_eq_true ?_; first | assumption | omega) | (refine nt ?_; first | assumption | omega) | (simp [*]; done))) | refine AW_ret ?_ | refine ret_then ?_)
      exact ⟨(k, _), hk, ret_R id (by rfl) ⟨⟨_, rfl, .inl rfl⟩, trivial⟩ (by simp) (by simp) (by simp)⟩
    · repeat (first | ((first | refine step_ops ?_ | refine step_tree ?_); (first | (refine m_mov (by conv => lhs; whnf) ?_) | (refine m_leq rfl rfl ?_) | (apply m_ld_pt; (· rfl); (· rfl); (· rfl)) | (refine m_nchk rfl ?_) | (refine m_fa rfl ?_))) | refine seq_ops ?_ | refine end_tree ?_ | (refine cond_f rfl ?_ ?_; (· first | rfl | assumption | (refine decide_eq_false ?_; first | assumption | omega) | (refine nf ?_; first | assumption | omega) | (simp [*]; done))) | refine skip_then ?_)
      refine step_ops ?_
      refine m_binv rfl rfl rfl ?_
      refine step_ops ?_
      refine m_and255 rfl rfl fun m hm => ?_
      refine step_ops ?_
      refine m_cvtu rfl hm ?_
      repeat (first | (refine step_ops ?_; (refine m_mov (by conv => lhs; whnf) ?_)) | refine end_ops ?_ | refine AW_ret ?_)
      exact ⟨(m, _), hm, ret_R id (by rfl) ⟨⟨_, rfl, .inl rfl⟩, trivial⟩ (by simp) (by simp) (by simp)⟩
  have hp : ac67 = .seq (fstA ac67) (.seq (fstA (sndA ac67)) (.seq (fstA (sndA (sndA ac67))) (sndA (sndA (sndA ac67))))) := rfl
  change AW _ _ ac67 _ _
  rw [hp]
  clear hp
  generalize sndA (sndA (sndA ac67)) = c4 at *
  unfold ac67
  simp only [sndA, fstA]
  repeat (first | ((first | refine step_ops ?_ | refine step_tree ?_); (first | (refine m_mov (by conv => lhs; whnf) ?_) | (apply m_ld_pt; (· rfl); (· rfl); (· rfl)) | (refine m_nchk rfl ?_) | (refine m_fa rfl ?_))) | refine end_ops ?_ | refine seq_ops ?_ | refine seq_tree ?_ | refine AW_seq ?_)
  refine step_tree ?_
  refine m_len_bys rfl hv ?_
  by_cases hlt : ((a : Nat) : Int) < L.length
  · repeat (first | (refine step_tree ?_; (first | (refine m_mov (by conv => lhs; whnf) ?_) | (refine m_lss rfl rfl ?_) | (apply m_ld_pt; (· rfl); (· rfl); (· rfl)) | (refine m_nchk rfl ?_) | (refine m_fa rfl ?_))) | refine end_tree ?_ | refine AW_tree ?_ | (refine cond_t rfl ?_ ?_; (· first | rfl | assumption | (refine decide_eq_true ?_; first | assumption | omega) | (refine nt ?_; first | assumption | omega) | (simp [*]; done))))
    refine step_tree ?_
    refine m_idx_bys (j := a) rfl rfl hv (by omega) ?_
    refine step_tree ?_
    refine m_ld_rp (c := .v (.int .u8 (L.getD a 0).toNat)) rfl ?_ ?_
    · simp [byteVs, show a < L.length by omega]
    refine step_tree ?_
    refine m_cvtb rfl fun k hk => ?_
    repeat (first | (refine step_tree ?_; (refine m_mov (by conv => lhs; whnf) ?_)) | refine end_tree ?_ | refine norm_then ?_)
    refine AW_weak (weak_st ?_ ?_ rfl rfl) (key k hk)
    · (repeat' (first | exact trivial | refine And.intro ?_ ?_)) <;> (first | rfl | skip)
    · (repeat' (first | exact trivial | refine And.intro ?_ ?_)) <;> (first | rfl | skip)
  · repeat (first | (refine step_tree ?_; (refine m_lss rfl rfl ?_)) | refine end_tree ?_ | (refine cond_f rfl ?_ ?_; (· first | rfl | assumption | (refine decide_eq_false ?_; first | assumption | omega) | (refine nf ?_; first | assumption | omega) | (simp [*]; done))) | refine skip_then ?_)
    refine AW_weak (weak_st ?_ ?_ rfl rfl) (key 0 (by omega))
    · (repeat' (first | exact trivial | refine And.intro ?_ ?_)) <;> (first | rfl | skip)
    · (repeat' (first | exact trivial | refine And.intro ?_ ?_)) <;> (first | rfl | skip)
end Go.Proofs.Ytgjlaajkakecpaa
namespace Go.Proofs.Ytgjlaajkakecpaa
variable [Go.Am.CodeBlk]
open Go.Am
attribute [local irreducible] AW Outs Weak Lends Lend Sp aops atree aop1 Then Round InBlock Done
attribute [local irreducible] SpH SpX DoneH
theorem doneC {s : AS} {v : Value} {a : Nat} {z : Int} {t : Nat} {ι : Type} {ok : ι → Prop} {res : ι → Value} {fa : ι → Nat} {fz : ι → Int} (i : ι) (hi : ok i) (h1 : resAV s [t] = .v (res i)) (h2 : s.hp pbase = some (true, curC v (fa i) (fz i))) :
    DoneX [t] ok (fun i => .v (res i)) (Am.look (curH v a z)) (fun i => Am.look (curH v (fa i) (fz i))) .ret s :=
  ⟨i, hi, ret_R (hl := curH v a z) (ho := curH v (fa i) (fz i)) id h1 ⟨⟨_, h2, .inl rfl⟩, trivial⟩ (by simp) (by simp) (by simp)⟩
theorem curPick_spec {v : Value} {L : List UInt8} (hv : Bys v L) (hL : L.length ≤ 1048576) (a : Nat) (ha : a ≤ 999999) (z : Int) (n : Nat) (hn : n ≤ 65536) :
    SpX Try.prog 64 [.pt pbase 0, .i (n : Nat)] (Am.look (curH v a z)) (ι := Nat × Nat × Int) (fun i => i.1 < max n 1 ∧ i.2.1 ≤ a + 2) (fun i => .i (i.1 : Nat)) (fun i => Am.look (curH v i.2.1 i.2.2)) := by
  have hpb := curH_pb v a z
  have hsta : ∀ i : Nat × Nat × Int, i.1 < max n 1 ∧ i.2.1 ≤ a + 2 → Static (Am.look (curH v a z)) (.i (i.1 : Nat)) (Am.look (curH v i.2.1 i.2.2)) := fun i _ => cur_static
  refine specX_of Try.func64 rfl cc64 rfl hpb hsta ?_
  unfold ac64
  clear hpb hsta
  by_cases h1 : n ≤ 1
  · repeat (first | (refine step_ops ?_; (first | (refine m_mov (by conv => lhs; whnf) ?_) | (refine m_leq rfl rfl ?_))) | refine end_ops ?_ | refine seq_ops ?_ | (refine cond_t rfl ?_ ?_; (· first | rfl | assumption | (refine decide_eq_true ?_; first | assumption | omega) | (refine nt ?_; first | assumption | omega) | (simp [*]; done))) | refine AW_seq ?_ | refine AW_ret ?_ | refine ret_then ?_)
    exact doneC (i := (0, a, z)) ⟨show 0 < max n 1 by omega, show a ≤ a + 2 by omega⟩ rfl rfl
  · repeat (first | (refine step_ops ?_; (first | (refine m_mov (by conv => lhs; whnf) ?_) | (refine m_leq rfl rfl ?_))) | refine end_ops ?_ | refine seq_ops ?_ | (refine cond_f rfl ?_ ?_; (· first | rfl | assumption | (refine decide_eq_false ?_; first | assumption | omega) | (refine nf ?_; first | assumption | omega) | (simp [*]; done))) | refine skip_then ?_ | refine AW_seq ?_)
    refine step_ops ?_
    refine m_cur (curNext_spec hv hL a (by omega) z) rfl (lendH_cons (lend_cur rfl) lendH_nil) ⟨(0, 0), by decide⟩ ?_
    rintro ⟨m, z1⟩ hm
    dsimp only at hm ⊢
    by_cases h2 : n > 200
    · repeat (first | (refine step_ops ?_; (first | (refine m_mov (by conv => lhs; whnf) ?_) | (refine m_gtr rfl rfl ?_) | (refine m_mul rfl rfl ?_ ?_ ?_; (· first | omega | (simp; done)); (· first | omega | (simp; done))))) | refine end_ops ?_ | refine seq_ops ?_ | refine AW_ops ?_ | (refine cond_t rfl ?_ ?_; (· first | rfl | assumption | (refine decide_eq_true ?_; first | assumption | omega) | (refine nt ?_; first | assumption | omega) | (simp [*]; done))) | refine AW_seq ?_)
      refine step_ops ?_
      refine m_cur (curNext_spec hv hL (a + 1) (by omega) z1) rfl (lendH_cons (lend_cur rfl) lendH_nil) ⟨(0, 0), by decide⟩ ?_
      rintro ⟨m2, z2⟩ hm2
      dsimp only at hm2 ⊢
      repeat (first | (refine step_ops ?_; (first | (refine m_mov (by conv => lhs; whnf) ?_) | (refine m_add rfl rfl ?_ ?_ ?_; (· omega); (· omega)) | (refine m_rem rfl rfl ?_ ?_ ?_; (· omega); (· omega)))) | refine end_ops ?_ | refine seq_ops ?_ | refine AW_ret ?_ | refine norm_then ?_)
      refine doneC (i := ((m * 256 + m2) % n, a + 1 + 1, z2)) ⟨?_, show a + 1 + 1 ≤ a + 2 by omega⟩ ?_ rfl
      · have := Nat.mod_lt (m * 256 + m2) (show 0 < n by omega)
        show (m * 256 + m2) % n < max n 1
        omega
      · show AV.i (((m : Int) * 256 + m2) % n) = AV.i (((m * 256 + m2) % n : Nat) : Int)
        exact congrArg AV.i (by have h : ((m * 256 + m2 : Nat) : Int) = (m : Int) * 256 + m2 := by omega
                                rw [← h]; exact (Int.natCast_emod _ _).symm)
    · repeat (first | (refine step_ops ?_; (first | (refine m_mov (by conv => lhs; whnf) ?_) | (refine m_gtr rfl rfl ?_) | (refine m_rem rfl rfl ?_ ?_ ?_; (· omega); (· omega)))) | refine end_ops ?_ | refine seq_ops ?_ | (refine cond_f rfl ?_ ?_; (· first | rfl | assumption | (refine decide_eq_false ?_; first | assumption | omega) | (refine nf ?_; first | assumption | omega) | (simp [*]; done))) | refine skip_then ?_ | refine AW_seq ?_ | refine AW_ret ?_)
      refine doneC (i := (m % n, a + 1, z1)) ⟨?_, show a + 1 ≤ a + 2 by omega⟩ ?_ rfl
      · have := Nat.mod_lt m (show 0 < n by omega)
        show m % n < max n 1
        omega
      · show AV.i ((m : Int) % n) = AV.i ((m % n : Nat) : Int)
        exact congrArg AV.i (by omega)
/-- Is it the one of so many? -/
theorem curOne_spec {v : Value} {L : List UInt8} (hv : Bys v L) (hL : L.length ≤ 1048576) (a : Nat) (ha : a ≤ 999999) (z : Int) (n : Nat) (hn : n ≤ 65536) :
    SpX Try.prog 65 [.pt pbase 0, .i (n : Nat)] (Am.look (curH v a z)) (ι := Bool × Nat × Int) (fun i => i.2.1 ≤ a + 2) (fun i => .b i.1) (fun i => Am.look (curH v i.2.1 i.2.2)) := by
  have hpb := curH_pb v a z
  have hsta : ∀ i : Bool × Nat × Int, i.2.1 ≤ a + 2 → Static (Am.look (curH v a z)) (.b i.1) (Am.look (curH v i.2.1 i.2.2)) := fun i _ => cur_static
  refine specX_of Try.func65 rfl cc65 rfl hpb hsta ?_
  unfold ac65
  clear hpb hsta
  repeat (first | (refine step_ops ?_; (refine m_mov (by conv => lhs; whnf) ?_)) | refine end_ops ?_ | refine seq_ops ?_)
  refine step_ops ?_
  refine m_cur (curPick_spec hv hL a ha z n hn) rfl (lendH_cons (lend_cur rfl) (lendH_cons lendH_v lendH_nil)) ⟨(0, a, z), show 0 < max n 1 by omega, show a ≤ a + 2 by omega⟩ ?_
  rintro ⟨m, a1, z1⟩ ⟨hm, ha1⟩
  dsimp only at hm ha1 ⊢
  repeat (first | (refine step_ops ?_; (first | (refine m_mov (by conv => lhs; whnf) ?_) | (refine m_eql rfl rfl ?_))) | refine end_ops ?_ | refine AW_ret ?_)
  exact doneC (i := (decide ((m : Int) = 0), a1, z1)) ha1 rfl rfl
/-- An element of a list that is not empty. -/
theorem curAmong_spec {v : Value} {L : List UInt8} (hv : Bys v L) (hL : L.length ≤ 1048576) (a : Nat) (ha : a ≤ 999999) (z : Int) (M : List Int) (h1 : 1 ≤ M.length) (hM : M.length ≤ 1000) :
    SpX Try.prog 51 [.pt pbase 0, ints M] (Am.look (curH v a z)) (ι := Int × Nat × Int) (fun i => i.2.1 ≤ a + 2) (fun i => .i i.1) (fun i => Am.look (curH v i.2.1 i.2.2)) := by
  have hpb := curH_pb v a z
  have hsta : ∀ i : Int × Nat × Int, i.2.1 ≤ a + 2 → Static (Am.look (curH v a z)) (.i i.1) (Am.look (curH v i.2.1 i.2.2)) := fun i _ => cur_static
  refine specX_of Try.func51 rfl cc51 rfl hpb hsta ?_
  unfold ac51
  clear hpb hsta
  repeat (first | (refine step_ops ?_; (first | (refine m_mov (by conv => lhs; whnf) ?_) | (refine m_len_ro rfl ?_))) | refine end_ops ?_ | refine seq_ops ?_)
  refine step_ops ?_
  refine m_cur (curPick_spec hv hL a ha z M.length (by omega)) rfl (lendH_cons (lend_cur rfl) (lendH_cons lendH_v lendH_nil)) ⟨(0, a, z), show 0 < max M.length 1 by omega, show a ≤ a + 2 by omega⟩ ?_
  rintro ⟨m, a1, z1⟩ ⟨hm, ha1⟩
  dsimp only at hm ha1 ⊢
  have hml : m < M.length := by omega
  repeat (first | (refine step_ops ?_; (first | (refine m_mov (by conv => lhs; whnf) ?_) | (refine m_idx1_ro rfl rfl ?_ ?_; (· omega)) | (refine m_ld_rpi rfl ?_ ?_; (· omega)))) | refine end_ops ?_ | refine AW_ret ?_)
  exact doneC (i := (M.getD m 0, a1, z1)) ha1 rfl rfl
/-- A list that is written out. -/
def partsK : Nat → List Int → List (Nat × Opd)
  | _, [] => []
  | i, x :: M => (i, .c (.int .i64 x)) :: partsK (i + 1) M
theorem afill_ints (s : AS) : ∀ (M : List Int) (pre : List AV), afill s 1 true (pre ++ List.replicate M.length (AV.i 0)) (partsK pre.length M) (pre ++ M.map AV.i)
  | [], pre => by simp [afill, partsK]
  | x :: M, pre => by
    have h := afill_ints s M (pre ++ [AV.i x])
    have e : (pre ++ List.replicate (x :: M).length (AV.i 0)).set pre.length (AV.i x) = pre ++ [AV.i x] ++ List.replicate M.length (AV.i 0) := by
      rw [List.length_cons, List.replicate_succ, List.set_append_right _ _ (Nat.le_refl _), Nat.sub_self]
      simp
    simp only [partsK, afill]
    refine .inl ⟨trivial, by simp, rfl, ?_⟩
    show afill s 1 true ((pre ++ List.replicate (x :: M).length (AV.i 0)).set pre.length (AV.i x)) (partsK (pre.length + 1) M) (pre ++ (x :: M).map AV.i)
    have e4 : pre ++ (x :: M).map AV.i = pre ++ [AV.i x] ++ M.map AV.i := by simp
    rw [e, e4]
    rw [List.length_append] at h
    exact h
/-- A number of guests, or another number. -/
theorem curGuests_spec {v : Value} {L : List UInt8} (hv : Bys v L) (hL : L.length ≤ 1048576) (a : Nat) (ha : a ≤ 999999) (z : Int) :
    SpX Try.prog 50 [.pt pbase 0] (Am.look (curH v a z)) (ι := Int × Nat × Int) (fun i => i.2.1 ≤ a + 2) (fun i => .i i.1) (fun i => Am.look (curH v i.2.1 i.2.2)) := by
  have hpb := curH_pb v a z
  have hsta : ∀ i : Int × Nat × Int, i.2.1 ≤ a + 2 → Static (Am.look (curH v a z)) (.i i.1) (Am.look (curH v i.2.1 i.2.2)) := fun i _ => cur_static
  refine specX_of Try.func50 rfl cc50 rfl hpb hsta ?_
  unfold ac50
  clear hpb hsta
  repeat (first | (refine step_ops ?_; (refine m_mov (by conv => lhs; whnf) ?_)) | refine end_ops ?_ | refine seq_ops ?_)
  refine step_ops ?_
  refine m_bsl (fl := true) (out := [1, 2, 3, 4, 5, 6, 7, 8, 12, 13, 0, -1].map AV.i) (afill_ints _ [1, 2, 3, 4, 5, 6, 7, 8, 12, 13, 0, -1] []) ?_
  refine step_ops ?_
  refine m_cur (curAmong_spec hv hL a ha z [1, 2, 3, 4, 5, 6, 7, 8, 12, 13, 0, -1] (by decide) (by decide)) (r := pbase) rfl (lendH_cons (lend_cur rfl) (lendH_cons (lend_curl (M := [1, 2, 3, 4, 5, 6, 7, 8, 12, 13, 0, -1]) rfl rfl (by decide)) lendH_nil)) ⟨(0, a, z), show a ≤ a + 2 by omega⟩ ?_
  rintro ⟨m, a1, z1⟩ ha1
  dsimp only at ha1 ⊢
  repeat (first | (refine step_ops ?_; (refine m_mov (by conv => lhs; whnf) ?_)) | refine end_ops ?_ | refine AW_ret ?_)
  exact doneC (i := (m, a1, z1)) ha1 rfl rfl
theorem lend_cutS {hp : Nat → Option (Bool × List AV)} {r k : Nat} {M : List Int} (hr : hp r = some (true, M.map AV.i)) (hk : k ≤ M.length) : Lend hp (.sl r 1 (0 + 0 * 1) (k - 0)) (ints (M.take k)) := by
  have h := lend_sl (z := 1) (off := 0) (n := k) hr (by simp; omega) (allv_ints M)
  have e : ((M.map AV.i).drop 0).take (k * 1) = (M.take k).map AV.i := by rw [List.drop_zero, Nat.mul_one, List.map_take]
  have e2 : k = (M.take k).length := by rw [List.length_take]; omega
  rw [e] at h
  show Lend hp (.sl r 1 0 k) (.ro false 1 ((M.take k).map AV.i) (M.take k).length)
  rw [← e2]
  exact h
theorem elems_ok (M : List Int) (i j : Nat) : (((M.map AV.i).drop i).take j).all (cellOk true) = true := by
  rw [List.all_eq_true]
  intro x hx
  obtain ⟨y, _, rfl⟩ := List.mem_map.1 (List.mem_of_mem_drop (List.mem_of_mem_take hx))
  rfl
/-- A random exchange of few guests, asx a list: how long it is, is told. -/
theorem curSure_spec {v : Value} {L : List UInt8} (hv : Bys v L) (hL : L.length ≤ 1048576) (a : Nat) (ha : a ≤ 900000) (z : Int) (n : Nat) (hn : n ≤ 12) :
    SpX Try.prog 66 [.pt pbase 0, .i (n : Nat)] (Am.look (curH v a z)) (ι := List Int × Nat × Int) (fun i => i.1.length ≤ 12 ∧ i.2.1 ≤ a + 40) (fun i => .sl nbase 1 0 i.1.length) (fun i => Am.look (curN v i.2.1 i.2.2 i.1)) := by
  have hpb := curH_pb v a z
  have hsta : ∀ i : List Int × Nat × Int, i.1.length ≤ 12 ∧ i.2.1 ≤ a + 40 → Static (Am.look (curH v a z)) (.sl nbase 1 0 i.1.length) (Am.look (curN v i.2.1 i.2.2 i.1)) := fun i _ => curN_static
  refine specX_of Try.func66 rfl cc66 rfl hpb hsta ?_
  unfold ac66
  clear hpb hsta
  repeat (first | (refine step_ops ?_; (first | (refine m_mov (by conv => lhs; whnf) ?_) | (refine m_nils ?_))) | refine end_ops ?_ | refine seq_ops ?_)
  refine step_ops ?_
  refine m_cur (curPick_spec hv hL a (by omega) z n (by omega)) rfl (lendH_cons (lend_cur rfl) (lendH_cons lendH_v lendH_nil)) ⟨(0, a, z), show 0 < max n 1 by omega, show a ≤ a + 2 by omega⟩ ?_
  rintro ⟨m, a1, z1⟩ ⟨hm, ha1⟩
  dsimp only at hm ha1 ⊢
  repeat (first | (refine step_ops ?_; (first | (refine m_mov (by conv => lhs; whnf) ?_) | (refine m_add rfl rfl ?_ ?_ ?_; (· omega); (· omega)))) | refine end_ops ?_ | refine seq_ops ?_ | refine AW_seq ?_ | refine AW_block ?_)
  refine AW_loop (α := List Int × Nat × Int) (fun q => q.1.length ≤ m + 1 ∧ q.2.1 ≤ a + 2 + 2 * q.1.length) (fun q => st [(0, .pt pbase 0), (5, .sl 5 1 0 q.1.length), (6, .i (1 + (m : Int))), (7, .i q.1.length)] [(pbase, (true, curC v q.2.1 q.2.2)), (5, (true, q.1.map AV.i))]) (fun q => m + 1 - q.1.length) ([], a1, z1) ⟨by simp, by simp; omega⟩ (weak_st ?_ ?_ rfl rfl) ?_
  · (repeat' (first | exact trivial | refine And.intro ?_ ?_)) <;> (first | rfl | skip)
  · (repeat' (first | exact trivial | refine And.intro ?_ ?_)) <;> (first | rfl | skip)
  rintro ⟨M, a2, z2⟩ ⟨hM, ha2⟩
  dsimp only at hM ha2 ⊢
  by_cases hc : M.length < m + 1
  · repeat (first | (refine step_ops ?_; (first | (refine m_mov (by conv => lhs; whnf) ?_) | (refine m_lss rfl rfl ?_) | (refine m_add rfl rfl ?_ ?_ ?_; (· omega); (· omega)) | (refine m_len_sl rfl ?_))) | refine end_ops ?_ | refine seq_ops ?_ | (refine cond_t rfl ?_ ?_; (· first | rfl | assumption | (refine decide_eq_true ?_; first | assumption | omega) | (refine nt ?_; first | assumption | omega) | (simp [*]; done))) | refine skip_then ?_ | refine AW_seq ?_ | refine AW_block ?_)
    refine step_ops ?_
    refine m_cur (curPick_spec hv hL a2 (by omega) z2 (M.length + 1) (by omega)) rfl (lendH_cons (lend_cur rfl) (lendH_cons lendH_v lendH_nil)) ⟨(0, a2, z2), show 0 < max (M.length + 1) 1 by omega, show a2 ≤ a2 + 2 by omega⟩ ?_
    rintro ⟨k, a3, z3⟩ ⟨hk, ha3⟩
    dsimp only at hk ha3 ⊢
    repeat (first | (refine step_ops ?_; (refine m_mov (by conv => lhs; whnf) ?_)) | refine end_ops ?_ | refine seq_ops ?_)
    have hkM : k ≤ M.length := by omega
    have ht : (M.take k).length = k := by rw [List.length_take]; omega
    refine step_ops ?_
    refine m_cut_sl (l := 0) (h := k) rfl rfl ⟨_, rfl⟩ (Nat.zero_le _) hkM ?_
    refine step_ops ?_
    refine m_callo (l1Own_spec (M.take k) (by omega)) (lends_cons (lend_cutS rfl hkM) lends_nil) (allv_ints _) ?_
    repeat (first | (refine step_ops ?_; (first | (refine m_mov (by conv => lhs; whnf) ?_) | (refine m_bsl1 rfl rfl ?_) | (refine m_app1i rfl (by decide) (by rfl) (by first | rfl | omega | (simp; done)) rfl rfl ?_ (by decide) ?_; (· first | omega | (simp; omega))))) | refine end_ops ?_ | refine AW_ops ?_)
    refine step_ops ?_
    refine m_cut_sl (l := k) (h := M.length) rfl ⟨_, rfl⟩ rfl hkM (Nat.le_refl _) ?_
    refine step_ops ?_
    refine m_app (fl := true) (cs := (M.take k ++ [(M.length : Int)]).map AV.i) (m := M.length - k) rfl (by decide) rfl (by simp) (Elems.sl 5 (0 + k * 1) (M.length - k) true (M.map AV.i) rfl (by simp; omega)) (elems_ok M _ _) (show _ ≤ maxLen by unfold maxLen; simp; omega) (by simp; omega) ?_
    repeat (first | (refine step_ops ?_; (first | (refine m_mov (by conv => lhs; whnf) ?_) | (refine m_add rfl rfl ?_ ?_ ?_; (· omega); (· omega)))) | refine end_ops ?_ | refine AW_ops ?_ | refine norm_then ?_ | refine norm_block ?_)
    refine next_round (M.take k ++ [(M.length : Int)] ++ M.drop k, a3, z3) ⟨by simp; omega, by simp; omega⟩ (Weak.trans (weak_move (r := 35) (q := 5) rfl (by decide) (by decide)) (weak_st ?_ ?_ rfl rfl)) (by simp; omega)
    · have e1 : (M.take k ++ [(M.length : Int)] ++ M.drop k).length = M.length + 1 := by simp; omega
      have e2 : (M.take k ++ [(M.length : Int)]).length + (M.length - k) = M.length + 1 := by simp; omega
      rw [e1]
      refine ⟨rfl, ?_, rfl, ?_, trivial⟩
      · show AV.sl 5 1 0 ((M.take k ++ [(M.length : Int)]).length + (M.length - k)) = AV.sl 5 1 0 (M.length + 1)
        rw [e2]
      · rfl
    · refine ⟨rfl, ?_, trivial⟩
      show some (true, (M.take k ++ [(M.length : Int)]).map AV.i ++ ((M.map AV.i).drop (0 + k * 1)).take ((M.length - k) * 1)) = some (true, (M.take k ++ [(M.length : Int)] ++ M.drop k).map AV.i)
      have e3 : ((M.map AV.i).drop k).take (M.length - k) = (M.drop k).map AV.i := by rw [← List.map_drop]; exact List.take_of_length_le (by rw [List.length_map, List.length_drop]; omega)
      rw [Nat.zero_add, Nat.mul_one, Nat.mul_one, e3, ← List.map_append]
  · repeat (first | (refine step_ops ?_; (first | (refine m_mov (by conv => lhs; whnf) ?_) | (refine m_lss rfl rfl ?_))) | refine end_ops ?_ | refine seq_ops ?_ | (refine cond_f rfl ?_ ?_; (· first | rfl | assumption | (refine decide_eq_false ?_; first | assumption | omega) | (refine nf ?_; first | assumption | omega) | (simp [*]; done))) | refine AW_seq ?_ | refine AW_ret ?_ | refine norm_then ?_ | refine exit_then ?_ | refine exit_round ?_ | refine AW_exit ?_ | refine exit_block ?_)
    refine ⟨(M, a2, z2), ⟨show M.length ≤ 12 by omega, show a2 ≤ a + 40 by omega⟩, ret_R (hl := curH v a z) (ho := curN v a2 z2 M) (fun p => if p = nbase then 5 else p) ?_ ⟨⟨_, rfl, .inl rfl⟩, ⟨_, rfl, .inl ?_⟩, trivial⟩ ?_ ?_ ?_⟩
    · rfl
    · exact congrArg (Prod.mk true) (renL_ints _ _).symm
    · simp [pbase, nbase]
    · simp [pbase, nbase]
    · simp [pbase, nbase]
end Go.Proofs.Ytgjlaajkakecpaa
namespace Go.Proofs.Ytgjlaajkakecpaa
variable [Go.Am.CodeBlk]
open Go.Am
attribute [local irreducible] AW Outs Weak Lends Lend Sp aops atree aop1 Then Round InBlock Done
attribute [local irreducible] SpH SpX DoneH
def gL (q : Nat) : Nat → Nat := fun p => if p = nbase then q else p
theorem gL_p {q : Nat} : gL q pbase = pbase := if_neg (by decide)
theorem gL_n {q : Nat} : gL q nbase = q := if_pos rfl
theorem doneL {s : AS} {v : Value} {a a1 : Nat} {z z1 : Int} {M : List Int} {q n : Nat} {ok : List Int × Nat × Int → Prop} (hi : ok (M, a1, z1)) (h1 : resAV s [2] = .sl q 1 0 n) (hn : n = M.length) (h2 : s.hp pbase = some (true, curC v a1 z1)) (h3 : s.hp q = some (true, M.map AV.i)) (hq : q < pbase) :
    DoneX [2] ok (fun i => .sl nbase 1 0 i.1.length) (Am.look (curH v a z)) (fun i => Am.look (curN v i.2.1 i.2.2 i.1)) .ret s := by
  have hpn : pbase ≠ nbase := by decide
  have hpb : pbase = 4000000 := rfl
  refine ⟨(M, a1, z1), hi, ret_R (hl := curH v a z) (ho := curN v a1 z1 M) (gL q) ?_ ⟨⟨_, by rw [gL_p]; exact h2, .inl rfl⟩, ⟨_, by rw [gL_n]; exact h3, .inl ?_⟩, trivial⟩ ?_ ?_ ?_⟩
  · rw [h1, hn]
    show _ = AV.sl (gL q nbase) 1 0 M.length
    rw [gL_n]
  · exact congrArg (Prod.mk true) (renL_ints _ _).symm
  · intro p hp
    rw [List.mem_singleton] at hp
    subst hp
    exact ⟨gL_p, by simp⟩
  · intro p hp
    rcases List.mem_cons.1 hp with rfl | hp
    · exact .inl (by simp)
    · rw [List.mem_singleton] at hp; subst hp
      exact .inr (by rw [gL_n]; exact hq)
  · show [gL q pbase, gL q nbase].Nodup
    rw [gL_p, gL_n]
    simp; omega
theorem none_small : ∀ g < 7, 2 ≤ g → 1 ≤ noneN g ∧ noneN g ≤ 300 := by decide +kernel
theorem curExch_spec {v : Value} {L : List UInt8} (hv : Bys v L) (hL : L.length ≤ 1048576) (a : Nat) (ha : a ≤ 800000) (z : Int) :
    SpX Try.prog 55 [.pt pbase 0] (Am.look (curH v a z)) (ι := List Int × Nat × Int) (fun i => i.1.length ≤ 13 ∧ i.2.1 ≤ a + 100) (fun i => .sl nbase 1 0 i.1.length) (fun i => Am.look (curN v i.2.1 i.2.2 i.1)) := by
  have hpb := curH_pb v a z
  have hsta : ∀ i : List Int × Nat × Int, i.1.length ≤ 13 ∧ i.2.1 ≤ a + 100 → Static (Am.look (curH v a z)) (.sl nbase 1 0 i.1.length) (Am.look (curN v i.2.1 i.2.2 i.1)) := fun i _ => curN_static
  refine specX_of Try.func55 rfl cc55 rfl hpb hsta ?_
  unfold ac55
  clear hpb hsta
  repeat (first | (refine step_ops ?_; (first | (refine m_mov (by conv => lhs; whnf) ?_) | (refine m_nils ?_))) | refine end_ops ?_ | refine seq_ops ?_ | refine AW_seq ?_)
  refine step_ops ?_
  refine m_cur (curOne_spec hv hL a (by omega) z 12 (by omega)) rfl (lendH_cons (lend_cur rfl) (lendH_cons lendH_v lendH_nil)) ⟨(true, a, z), show a ≤ a + 2 by omega⟩ ?_
  rintro ⟨b, a1, z1⟩ ha1
  dsimp only at ha1 ⊢
  cases b with
  | true =>
    repeat (first | (refine step_ops ?_; (refine m_bsl1 rfl rfl ?_)) | refine end_ops ?_ | refine seq_ops ?_ | (refine cond_t rfl ?_ ?_; (· first | rfl | assumption | (refine decide_eq_true ?_; first | assumption | omega) | (refine nt ?_; first | assumption | omega) | (simp [*]; done))))
    refine step_ops ?_
    refine m_bsl (fl := true) (out := [0, 0].map AV.i) (afill_ints _ [0, 0] []) ?_
    repeat (refine step_ops ?_; (refine m_bsl1 rfl rfl ?_))
    refine step_ops ?_
    refine m_bsl (fl := true) (out := [0, 2].map AV.i) (afill_ints _ [0, 2] []) ?_
    refine step_ops ?_
    refine m_bsl (fl := true) (out := [0, 1, 2, 3, 4, 5, 6, 7, 8, 9, 10, 11, 12].map AV.i) (afill_ints _ [0, 1, 2, 3, 4, 5, 6, 7, 8, 9, 10, 11, 12] []) ?_
    refine step_ops ?_
    refine m_bsl (fl := true) (out := [1, 2, 3, 4, 5, 6, 7, 8, 9, 10, 11, 0].map AV.i) (afill_ints _ [1, 2, 3, 4, 5, 6, 7, 8, 9, 10, 11, 0] []) ?_
    refine step_ops ?_
    refine m_bsl (fl := false) (out := [.v (.slice none 0 0), .sl 6 1 0 1, .sl 7 1 0 2, .sl 8 1 0 1, .sl 9 1 0 2, .sl 10 1 0 13, .sl 11 1 0 12]) (by (iterate 7 (refine Or.inl ⟨rfl, by simp, rfl, ?_⟩)); rfl) ?_
    refine step_opsW (weak_st (l := [(0, .pt pbase 0), (12, .sl 12 1 0 7)]) (h := [(pbase, (true, curC v a1 z1)), (6, (true, [1].map AV.i)), (7, (true, [0, 0].map AV.i)), (8, (true, [-1].map AV.i)), (9, (true, [0, 2].map AV.i)), (10, (true, [0, 1, 2, 3, 4, 5, 6, 7, 8, 9, 10, 11, 12].map AV.i)), (11, (true, [1, 2, 3, 4, 5, 6, 7, 8, 9, 10, 11, 0].map AV.i)), (12, (false, [.v (.slice none 0 0), .sl 6 1 0 1, .sl 7 1 0 2, .sl 8 1 0 1, .sl 9 1 0 2, .sl 10 1 0 13, .sl 11 1 0 12]))]) ?_ ?_ rfl rfl) ?_
    · (repeat' (first | exact trivial | refine And.intro ?_ ?_)) <;> (first | rfl | skip)
    · (repeat' (first | exact trivial | refine And.intro ?_ ?_)) <;> (first | rfl | skip)
    refine m_mov rfl ?_
    refine step_ops ?_
    refine m_cur (curPick_spec hv hL a1 (by omega) z1 7 (by omega)) (r := pbase) rfl (lendH_cons (lend_cur rfl) (lendH_cons lendH_v lendH_nil)) ⟨(0, a1, z1), show 0 < max 7 1 by omega, show a1 ≤ a1 + 2 by omega⟩ ?_
    rintro ⟨k, a2, z2⟩ ⟨hk, ha2⟩
    dsimp only at hk ha2 ⊢
    have hk7 : k < 7 := by omega
    match k, hk7 with
    | 0, _ =>
      refine step_ops ?_
      refine m_idx1_sl (j := 0) rfl rfl (by omega) ?_
      refine step_ops ?_
      refine m_ld_pt rfl rfl rfl ?_
      refine step_opsW (weak_nilslot 16 5000 1 true rfl rfl (by decide)) ?_
      refine m_mov rfl ?_
      repeat (first | refine end_ops ?_ | refine AW_ret ?_ | refine ret_then ?_)
      exact doneL (q := 5000) (M := []) ⟨Nat.le_of_ble_eq_true rfl, show a2 ≤ a + 100 by omega⟩ rfl rfl rfl rfl (by decide)
    | 1, _ =>
      repeat (first | (refine step_ops ?_; (first | (refine m_mov (by conv => lhs; whnf) ?_) | (refine m_idx1_sl rfl rfl ?_ ?_; (· omega)) | (apply m_ld_pt; (· rfl); (· rfl); (· rfl)))) | refine end_ops ?_ | refine AW_ret ?_ | refine ret_then ?_)
      exact doneL (M := [1]) ⟨Nat.le_of_ble_eq_true rfl, show a2 ≤ a + 100 by omega⟩ rfl rfl rfl rfl (by decide)
    | 2, _ =>
      repeat (first | (refine step_ops ?_; (first | (refine m_mov (by conv => lhs; whnf) ?_) | (refine m_idx1_sl rfl rfl ?_ ?_; (· omega)) | (apply m_ld_pt; (· rfl); (· rfl); (· rfl)))) | refine end_ops ?_ | refine AW_ret ?_ | refine ret_then ?_)
      exact doneL (M := [0, 0]) ⟨Nat.le_of_ble_eq_true rfl, show a2 ≤ a + 100 by omega⟩ rfl rfl rfl rfl (by decide)
    | 3, _ =>
      repeat (first | (refine step_ops ?_; (first | (refine m_mov (by conv => lhs; whnf) ?_) | (refine m_idx1_sl rfl rfl ?_ ?_; (· omega)) | (apply m_ld_pt; (· rfl); (· rfl); (· rfl)))) | refine end_ops ?_ | refine AW_ret ?_ | refine ret_then ?_)
      exact doneL (M := [-1]) ⟨Nat.le_of_ble_eq_true rfl, show a2 ≤ a + 100 by omega⟩ rfl rfl rfl rfl (by decide)
    | 4, _ =>
      repeat (first | (refine step_ops ?_; (first | (refine m_mov (by conv => lhs; whnf) ?_) | (refine m_idx1_sl rfl rfl ?_ ?_; (· omega)) | (apply m_ld_pt; (· rfl); (· rfl); (· rfl)))) | refine end_ops ?_ | refine AW_ret ?_ | refine ret_then ?_)
      exact doneL (M := [0, 2]) ⟨Nat.le_of_ble_eq_true rfl, show a2 ≤ a + 100 by omega⟩ rfl rfl rfl rfl (by decide)
    | 5, _ =>
      repeat (first | (refine step_ops ?_; (first | (refine m_mov (by conv => lhs; whnf) ?_) | (refine m_idx1_sl rfl rfl ?_ ?_; (· omega)) | (apply m_ld_pt; (· rfl); (· rfl); (· rfl)))) | refine end_ops ?_ | refine AW_ret ?_ | refine ret_then ?_)
      exact doneL (M := [0, 1, 2, 3, 4, 5, 6, 7, 8, 9, 10, 11, 12]) ⟨Nat.le_of_ble_eq_true rfl, show a2 ≤ a + 100 by omega⟩ rfl rfl rfl rfl (by decide)
    | 6, _ =>
      repeat (first | (refine step_ops ?_; (first | (refine m_mov (by conv => lhs; whnf) ?_) | (refine m_idx1_sl rfl rfl ?_ ?_; (· omega)) | (apply m_ld_pt; (· rfl); (· rfl); (· rfl)))) | refine end_ops ?_ | refine AW_ret ?_ | refine ret_then ?_)
      exact doneL (M := [1, 2, 3, 4, 5, 6, 7, 8, 9, 10, 11, 0]) ⟨Nat.le_of_ble_eq_true rfl, show a2 ≤ a + 100 by omega⟩ rfl rfl rfl rfl (by decide)
  | false =>
    repeat (first | (refine step_ops ?_; (refine m_mov (by conv => lhs; whnf) ?_)) | refine end_ops ?_ | refine seq_ops ?_ | (refine cond_f rfl ?_ ?_; (· first | rfl | assumption | (refine decide_eq_false ?_; first | assumption | omega) | (refine nf ?_; first | assumption | omega) | (simp [*]; done))) | refine skip_then ?_ | refine AW_seq ?_)
    refine step_ops ?_
    refine m_cur (curOne_spec hv hL a1 (by omega) z1 4 (by omega)) rfl (lendH_cons (lend_cur rfl) (lendH_cons lendH_v lendH_nil)) ⟨(true, a1, z1), show a1 ≤ a1 + 2 by omega⟩ ?_
    rintro ⟨b, a2, z2⟩ ha2
    dsimp only at ha2 ⊢
    cases b with
    | true =>
      repeat (first | (refine step_ops ?_; (refine m_mov (by conv => lhs; whnf) ?_)) | refine end_ops ?_ | refine seq_ops ?_ | (refine cond_t rfl ?_ ?_; (· first | rfl | assumption | (refine decide_eq_true ?_; first | assumption | omega) | (refine nt ?_; first | assumption | omega) | (simp [*]; done))))
      refine step_ops ?_
      refine m_cur (curPick_spec hv hL a2 (by omega) z2 5 (by omega)) rfl (lendH_cons (lend_cur rfl) (lendH_cons lendH_v lendH_nil)) ⟨(0, a2, z2), show 0 < max 5 1 by omega, show a2 ≤ a2 + 2 by omega⟩ ?_
      rintro ⟨k, a3, z3⟩ ⟨hk, ha3⟩
      dsimp only at hk ha3 ⊢
      obtain ⟨hN1, hN2⟩ := none_small (k + 2) (by omega) (by omega)
      have he := exNone_spec (k + 2) (by omega)
      rw [show (((k + 2 : Nat) : Nat) : Int) = 2 + (k : Int) by omega] at he
      obtain ⟨w, hw⟩ := Int.eq_ofNat_of_zero_le (show 0 ≤ noneN (k + 2) by omega)
      rw [hw] at he hN1 hN2
      repeat (first | (refine step_ops ?_; (first | (refine m_mov (by conv => lhs; whnf) ?_) | (refine m_add rfl rfl ?_ ?_ ?_; (· omega); (· omega)))) | refine end_ops ?_ | refine seq_ops ?_)
      (refine step_ops ?_); (apply m_call (he)); (· repeat (first | exact lends_nil | (refine lends_cons ?_ ?_; (· exact lend_v))))
      skip
      refine step_ops ?_
      refine m_cur (curPick_spec hv hL a3 (by omega) z3 w (by omega)) rfl (lendH_cons (lend_cur rfl) (lendH_cons lendH_v lendH_nil)) ⟨(0, a3, z3), show 0 < max w 1 by omega, show a3 ≤ a3 + 2 by omega⟩ ?_
      rintro ⟨r, a4, z4⟩ ⟨hr, ha4⟩
      dsimp only at hr ha4 ⊢
      have hx := exRanked_spec (k + 2) (by omega) (r : Int) (by omega) (by rw [hw]; omega)
      rw [show (((k + 2 : Nat) : Nat) : Int) = 2 + (k : Int) by omega] at hx
      have hlen := rankG_len (k + 2) (by omega) (r : Int) (by omega) (by rw [hw]; omega)
      refine step_ops ?_
      refine m_callo hx (lends_cons lend_v (lends_cons lend_v lends_nil)) (allv_ints _) ?_
      repeat (first | (refine step_ops ?_; (refine m_mov (by conv => lhs; whnf) ?_)) | refine end_ops ?_ | refine AW_ret ?_ | refine ret_then ?_)
      exact doneL (M := rankG (k + 2) (r : Int)) ⟨show (rankG (k + 2) (r : Int)).length ≤ 13 by omega, show a4 ≤ a + 100 by omega⟩ rfl rfl rfl rfl (by decide)
    | false =>
      repeat (first | (refine step_ops ?_; (refine m_mov (by conv => lhs; whnf) ?_)) | refine end_ops ?_ | refine seq_ops ?_ | (refine cond_f rfl ?_ ?_; (· first | rfl | assumption | (refine decide_eq_false ?_; first | assumption | omega) | (refine nf ?_; first | assumption | omega) | (simp [*]; done))) | refine skip_then ?_)
      refine step_ops ?_
      refine m_curL (q := 1000) (curSure_spec hv hL a2 (by omega) z2 7 (by omega)) rfl rfl (by decide) (lendH_cons (lend_curN rfl) (lendH_cons lendH_v lendH_nil)) ⟨([], a2, z2), by simp, show a2 ≤ a2 + 40 by omega⟩ ?_
      rintro ⟨M, a3, z3⟩ ⟨hM, ha3⟩
      dsimp only at hM ha3 ⊢
      repeat (first | (refine step_ops ?_; (refine m_mov (by conv => lhs; whnf) ?_)) | refine end_ops ?_ | refine AW_ret ?_)
      exact doneL (M := M) ⟨show M.length ≤ 13 by omega, show a3 ≤ a + 100 by omega⟩ rfl rfl rfl rfl (by decide)
/-- An exchange that a law draws out of its bytes, asx a list. -/
theorem drawExch_spec {v : Value} {L : List UInt8} (hv : Bys v L) (hL : L.length ≤ 1048576) :
    SpX Try.prog 29 [.v v] (Am.look []) (ι := List Int) (fun M => M.length ≤ 13) (fun M => .sl nbase 1 0 M.length) (fun M => Am.look [(nbase, (true, M.map AV.i))]) := by
  have hpb : ∀ r, (Am.look ([] : List (Nat × (Bool × List AV))) r).isSome = true → pbase ≤ r := fun r hr => by simp [Am.look] at hr
  have hsta : ∀ M : List Int, M.length ≤ 13 → Static (Am.look []) (.sl nbase 1 0 M.length) (Am.look [(nbase, (true, M.map AV.i))]) := fun M _ =>
    static_R (by simp) (fun p hp => by rw [List.mem_singleton] at hp; subst hp; exact ⟨ints_ownC _ _, ints_refsC _ _⟩) ⟨rfl, rfl⟩
  refine specX_of Try.func29 rfl cc29 rfl hpb hsta ?_
  unfold ac29
  clear hpb hsta
  have hv1 := bys_cell hv
  have hc := curExch_spec hv hL 0 (by omega) 0
  repeat (first | (refine step_ops ?_; (first | (refine m_mov (by conv => lhs; whnf) ?_) | (refine m_nils ?_))) | refine end_ops ?_ | refine seq_ops ?_)
  refine step_ops ?_
  refine m_bldC hv1 rfl ?_
  refine step_ops ?_
  refine m_boxC hv1 rfl ?_
  repeat (first | (refine step_ops ?_; (refine m_mov (by conv => lhs; whnf) ?_)) | refine end_ops ?_ | refine seq_ops ?_)
  refine step_ops ?_
  refine m_curL (r := 6) (q := 1000) hc rfl rfl (by decide) (lendH_cons (lend_curN rfl) lendH_nil) ⟨([], 0, 0), by simp, show 0 ≤ 0 + 100 by omega⟩ ?_
  rintro ⟨M, a3, z3⟩ ⟨hM, ha3⟩
  dsimp only at hM ha3 ⊢
  repeat (first | (refine step_ops ?_; (refine m_mov (by conv => lhs; whnf) ?_)) | refine end_ops ?_ | refine AW_ret ?_)
  refine ⟨M, hM, ret_R (hl := []) (ho := [(nbase, (true, M.map AV.i))]) (fun _ => 1000) rfl ⟨⟨_, rfl, .inl (congrArg (Prod.mk true) (renL_ints _ _).symm)⟩, trivial⟩ (by simp) (by intro p hp; exact .inr (by decide)) (by simp)⟩
/-- Numbers that a law draws. -/
theorem drawNum_spec {v : Value} {L : List UInt8} (hv : Bys v L) (hL : L.length ≤ 1048576) :
    SpX Try.prog 43 [.v v] (Am.look []) (ι := Int) (fun _ => True) (fun m => .i m) (fun _ => Am.look []) := by
  have hpb : ∀ r, (Am.look ([] : List (Nat × (Bool × List AV))) r).isSome = true → pbase ≤ r := fun r hr => by simp [Am.look] at hr
  have hsta : ∀ m : Int, True → Static (Am.look []) (.i m) (Am.look []) := fun m _ => static_R (by simp) (by simp) ⟨rfl, rfl⟩
  refine specX_of Try.func43 rfl cc43 rfl hpb hsta ?_
  unfold ac43
  clear hpb hsta
  have hv1 := bys_cell hv
  have hc := curGuests_spec hv hL 0 (by omega) 0
  repeat (first | (refine step_ops ?_; (refine m_mov (by conv => lhs; whnf) ?_)) | refine end_ops ?_ | refine seq_ops ?_)
  refine step_ops ?_
  refine m_bldC hv1 rfl ?_
  refine step_ops ?_
  refine m_boxC hv1 rfl ?_
  repeat (first | (refine step_ops ?_; (refine m_mov (by conv => lhs; whnf) ?_)) | refine end_ops ?_ | refine seq_ops ?_)
  refine step_ops ?_
  refine m_cur (r := 6) hc rfl (lendH_cons (lend_cur rfl) lendH_nil) ⟨(0, 0, 0), show 0 ≤ 0 + 2 by omega⟩ ?_
  rintro ⟨m, a3, z3⟩ ha3
  dsimp only at ha3 ⊢
  repeat (first | (refine step_ops ?_; (refine m_mov (by conv => lhs; whnf) ?_)) | refine end_ops ?_ | refine AW_ret ?_)
  exact ⟨m, trivial, ret_R (hl := []) (ho := []) id rfl trivial (by simp) (by simp) (by simp)⟩
theorem drawPair_spec {v : Value} {L : List UInt8} (hv : Bys v L) (hL : L.length ≤ 1048576) :
    SpX Try.prog 23 [.v v] (Am.look []) (ι := Int × Int) (fun _ => True) (fun m => .tup [.i m.1, .i m.2]) (fun _ => Am.look []) := by
  have hpb : ∀ r, (Am.look ([] : List (Nat × (Bool × List AV))) r).isSome = true → pbase ≤ r := fun r hr => by simp [Am.look] at hr
  have hsta : ∀ m : Int × Int, True → Static (Am.look []) (.tup [.i m.1, .i m.2]) (Am.look []) := fun m _ => static_R (by simp) (by simp) ⟨rfl, rfl⟩
  refine specX_of Try.func23 rfl cc23 rfl hpb hsta ?_
  unfold ac23
  clear hpb hsta
  have hv1 := bys_cell hv
  have hc := curGuests_spec hv hL 0 (by omega) 0
  repeat (first | (refine step_ops ?_; (refine m_mov (by conv => lhs; whnf) ?_)) | refine end_ops ?_ | refine seq_ops ?_)
  refine step_ops ?_
  refine m_bldC hv1 rfl ?_
  refine step_ops ?_
  refine m_boxC hv1 rfl ?_
  repeat (first | (refine step_ops ?_; (refine m_mov (by conv => lhs; whnf) ?_)) | refine end_ops ?_ | refine seq_ops ?_)
  refine step_ops ?_
  refine m_cur (r := 7) hc rfl (lendH_cons (lend_cur rfl) lendH_nil) ⟨(0, 0, 0), show 0 ≤ 0 + 2 by omega⟩ ?_
  rintro ⟨m, a3, z3⟩ ha3
  dsimp only at ha3 ⊢
  repeat (refine step_ops ?_; (refine m_mov (by conv => lhs; whnf) ?_))
  refine step_ops ?_
  refine m_bsl (fl := true) (out := [0, 1, 2, 3, 5, 12, 13, -1].map AV.i) (afill_ints _ [0, 1, 2, 3, 5, 12, 13, -1] []) ?_
  refine step_ops ?_
  refine m_cur (r := 7) (curAmong_spec hv hL a3 (by omega) z3 [0, 1, 2, 3, 5, 12, 13, -1] (by decide) (by decide)) rfl (lendH_cons (lend_cur rfl) (lendH_cons (lend_curl (M := [0, 1, 2, 3, 5, 12, 13, -1]) rfl rfl (by decide)) lendH_nil)) ⟨(0, a3, z3), show a3 ≤ a3 + 2 by omega⟩ ?_
  rintro ⟨m2, a4, z4⟩ ha4
  dsimp only at ha4 ⊢
  repeat (first | (refine step_ops ?_; (refine m_mov (by conv => lhs; whnf) ?_)) | refine end_ops ?_ | refine AW_ret ?_)
  exact ⟨(m, m2), trivial, ret_R (hl := []) (ho := []) id rfl trivial (by simp) (by simp) (by simp)⟩
theorem drawRank_spec {v : Value} {L : List UInt8} (hv : Bys v L) (hL : L.length ≤ 1048576) :
    SpX Try.prog 26 [.v v] (Am.look []) (ι := Int × Int) (fun _ => True) (fun m => .tup [.i m.1, .i m.2]) (fun _ => Am.look []) := by
  have hpb : ∀ r, (Am.look ([] : List (Nat × (Bool × List AV))) r).isSome = true → pbase ≤ r := fun r hr => by simp [Am.look] at hr
  have hsta : ∀ m : Int × Int, True → Static (Am.look []) (.tup [.i m.1, .i m.2]) (Am.look []) := fun m _ => static_R (by simp) (by simp) ⟨rfl, rfl⟩
  refine specX_of Try.func26 rfl cc26 rfl hpb hsta ?_
  unfold ac26
  clear hpb hsta
  have hv1 := bys_cell hv
  have hc := curGuests_spec hv hL 0 (by omega) 0
  repeat (first | (refine step_ops ?_; (refine m_mov (by conv => lhs; whnf) ?_)) | refine end_ops ?_ | refine seq_ops ?_)
  refine step_ops ?_
  refine m_bldC hv1 rfl ?_
  refine step_ops ?_
  refine m_boxC hv1 rfl ?_
  repeat (first | (refine step_ops ?_; (refine m_mov (by conv => lhs; whnf) ?_)) | refine end_ops ?_ | refine seq_ops ?_)
  refine step_ops ?_
  refine m_cur (r := 7) hc rfl (lendH_cons (lend_cur rfl) lendH_nil) ⟨(0, 0, 0), show 0 ≤ 0 + 2 by omega⟩ ?_
  rintro ⟨m, a3, z3⟩ ha3
  dsimp only at ha3 ⊢
  repeat (refine step_ops ?_; (refine m_mov (by conv => lhs; whnf) ?_))
  refine step_ops ?_
  refine m_bsl (fl := true) (out := [0, 1, 2, 8, 9, 43, 44, 264, 1000000, -1, 4611686018427387904].map AV.i) (afill_ints _ [0, 1, 2, 8, 9, 43, 44, 264, 1000000, -1, 4611686018427387904] []) ?_
  refine step_ops ?_
  refine m_cur (r := 7) (curAmong_spec hv hL a3 (by omega) z3 [0, 1, 2, 8, 9, 43, 44, 264, 1000000, -1, 4611686018427387904] (by decide) (by decide)) rfl (lendH_cons (lend_cur rfl) (lendH_cons (lend_curl (M := [0, 1, 2, 8, 9, 43, 44, 264, 1000000, -1, 4611686018427387904]) rfl rfl (by decide)) lendH_nil)) ⟨(0, a3, z3), show a3 ≤ a3 + 2 by omega⟩ ?_
  rintro ⟨m2, a4, z4⟩ ha4
  dsimp only at ha4 ⊢
  repeat (first | (refine step_ops ?_; (refine m_mov (by conv => lhs; whnf) ?_)) | refine end_ops ?_ | refine AW_ret ?_)
  exact ⟨(m, m2), trivial, ret_R (hl := []) (ho := []) id rfl trivial (by simp) (by simp) (by simp)⟩
end Go.Proofs.Ytgjlaajkakecpaa
namespace Go.Am
variable [Go.Am.CodeBlk]
theorem g_unc {P : Program} {own : Bool} {s : AS} {K : AS → Prop} {d : Option Nat} {op : AOp} {t : Nat} {w : Bool} (h : s.tm t = .v undef) (k : K (s.put d (.v undef))) : aop1 P own ⟨d, op, some (t, w)⟩ s K := .inr ⟨h, k⟩
section
variable {P : Program} {s : AS} {K : AS → Prop} {d : Option Nat} {f : FuncId} {args : List Opd} {v : Value} {ι : Type} {ok : ι → Prop}
theorem draw_lends (ha : args.map s.ev = [.v v]) : LendsH s.hp (fun p => p) (look ([] : List (Nat × (Bool × List AV)))) (args.map s.ev) [.v v] := by
  rw [ha]; exact lendH_cons lendH_v lendH_nil
/-- A call that draws plain values. -/
theorem m_draw {res : ι → AV} (hs : SpX P f [.v v] (look ([] : List (Nat × (Bool × List AV)))) ok res (fun _ => look ([] : List (Nat × (Bool × List AV))))) (ha : args.map s.ev = [.v v]) (hne : ∃ i, ok i) (hr : ∀ i, ownV false (res i) = true ∧ renV (fun p => p) (res i) = res i)
    (k : ∀ i, ok i → K (s.put d (res i))) : aop1 P true ⟨d, .call f args, none⟩ s K := by
  refine m_callx (hp' := fun _ => s.hp) (fun p => p) hs (draw_lends ha) hne fun i hi => ⟨⟨fun q c hc => by simp [look] at hc, fun q q' h1 _ _ => by simp [look] at h1, fun q hq => by simp [look] at hq, fun q hq _ => by simp [look] at hq, fun q c hc => by simp [look] at hc, fun q _ => rfl, fun q c hc => by simp [look] at hc, fun q c hc => by simp [look] at hc, (hr i).1⟩, ?_⟩
  rw [(hr i).2]
  exact k i hi
/-- A call that draws a list. -/
theorem m_drawL {L : ι → List Int} {q : Nat} (hs : SpX P f [.v v] (look ([] : List (Nat × (Bool × List AV)))) ok (fun i => .sl nbase 1 0 (L i).length) (fun i => look [(nbase, (true, (L i).map AV.i))])) (ha : args.map s.ev = [.v v]) (hne : ∃ i, ok i) (hq : s.hp q = none) (hqp : q < pbase)
    (k : ∀ i, ok i → K ((s.mem q (true, (L i).map AV.i)).put d (.sl q 1 0 (L i).length))) : aop1 P true ⟨d, .call f args, none⟩ s K := by
  have hat : ∀ i p c, look [(nbase, (true, (L i).map AV.i))] p = some c → p = nbase ∧ c = (true, (L i).map AV.i) := fun i p c hc => by
    have := look_mem hc
    rw [List.mem_singleton] at this
    exact ⟨congrArg Prod.fst this, congrArg Prod.snd this⟩
  have hl : LendsH s.hp (fun _ => q) (look ([] : List (Nat × (Bool × List AV)))) (args.map s.ev) [.v v] := by rw [ha]; exact lendH_cons lendH_v lendH_nil
  refine m_callx (hp' := fun i => fun p => if p = q then some (true, (L i).map AV.i) else s.hp p) (fun _ => q) hs hl hne fun i hi => ⟨⟨fun p c hc => by simp [look] at hc, fun p p' h1 h2 _ => ?_, fun p hp => by simp [look] at hp, fun p hp _ => ⟨hq, hqp⟩, fun p c hc => ?_, fun p hp => ?_, fun p c hc => by simp [look] at hc, fun p c hc => ?_, rfl⟩, k i hi⟩
  · obtain ⟨c1, e1⟩ := Option.isSome_iff_exists.1 h1
    obtain ⟨c2, e2⟩ := Option.isSome_iff_exists.1 h2
    rw [(hat i _ _ e1).1, (hat i _ _ e2).1]
  · obtain ⟨rfl, rfl⟩ := hat i _ _ hc
    show (if q = q then _ else _) = _
    rw [if_pos rfl]
    exact congrArg (fun c => some (true, c)) (renL_ints _ _).symm
  · have := hp nbase rfl
    show (if p = q then _ else _) = _
    rw [if_neg fun e => this e.symm]
  · obtain ⟨rfl, rfl⟩ := hat i _ _ hc
    exact ints_ownC _ _
end
end Go.Am
namespace Go.Proofs.Ytgjlaajkakecpaa
variable [Go.Am.CodeBlk]
open Go.Am
attribute [local irreducible] AW Outs Weak Lends Lend Sp aops atree aop1 Then Round InBlock Done
attribute [local irreducible] SpH SpX DoneH
theorem drawNext_spec {v : Value} {L : List UInt8} (hv : Bys v L) (hL : L.length ≤ 1048576) :
    SpX Try.prog 6 [.v v] (Am.look []) (ι := List Int) (fun M => M.length ≤ 13) (fun M => .sl nbase 1 0 M.length) (fun M => Am.look [(nbase, (true, M.map AV.i))]) := by
  have hpb : ∀ r, (Am.look ([] : List (Nat × (Bool × List AV))) r).isSome = true → pbase ≤ r := fun r hr => by simp [Am.look] at hr
  have hsta : ∀ M : List Int, M.length ≤ 13 → Static (Am.look []) (.sl nbase 1 0 M.length) (Am.look [(nbase, (true, M.map AV.i))]) := fun M _ =>
    static_R (by simp) (fun p hp => by rw [List.mem_singleton] at hp; subst hp; exact ⟨ints_ownC _ _, ints_refsC _ _⟩) ⟨rfl, rfl⟩
  refine specX_of Try.func6 rfl cc6 rfl hpb hsta ?_
  unfold ac6
  clear hpb hsta
  repeat (first | (refine step_ops ?_; (first | (refine m_mov (by conv => lhs; whnf) ?_) | (refine m_nils ?_))) | refine end_ops ?_ | refine seq_ops ?_)
  refine step_ops ?_
  refine m_drawL (q := 1000) (drawExch_spec hv hL) rfl ⟨[], by simp⟩ rfl (by decide) ?_
  intro M hM
  repeat (first | (refine step_ops ?_; (refine m_mov (by conv => lhs; whnf) ?_)) | refine end_ops ?_ | refine AW_ret ?_)
  exact ⟨M, hM, ret_R (hl := []) (ho := [(nbase, (true, M.map AV.i))]) (fun _ => 1000) rfl ⟨⟨_, rfl, .inl (congrArg (Prod.mk true) (renL_ints _ _).symm)⟩, trivial⟩ (by simp) (by intro p hp; exact .inr (by decide)) (by simp)⟩
theorem drawFirst_spec {v : Value} {L : List UInt8} (hv : Bys v L) (hL : L.length ≤ 1048576) :
    SpX Try.prog 17 [.v v] (Am.look []) (ι := Int) (fun _ => True) (fun m => .i m) (fun _ => Am.look []) := by
  have hpb : ∀ r, (Am.look ([] : List (Nat × (Bool × List AV))) r).isSome = true → pbase ≤ r := fun r hr => by simp [Am.look] at hr
  have hsta : ∀ m : Int, True → Static (Am.look []) (.i m) (Am.look []) := fun m _ => static_R (by simp) (by simp) ⟨rfl, rfl⟩
  refine specX_of Try.func17 rfl cc17 rfl hpb hsta ?_
  unfold ac17
  clear hpb hsta
  repeat (first | (refine step_ops ?_; (refine m_mov (by conv => lhs; whnf) ?_)) | refine end_ops ?_ | refine seq_ops ?_)
  refine step_ops ?_
  refine m_draw (drawNum_spec hv hL) rfl ⟨0, trivial⟩ (fun m => ⟨rfl, rfl⟩) ?_
  intro m _
  repeat (first | (refine step_ops ?_; (refine m_mov (by conv => lhs; whnf) ?_)) | refine end_ops ?_ | refine AW_ret ?_)
  exact ⟨m, trivial, ret_R (hl := []) (ho := []) id rfl trivial (by simp) (by simp) (by simp)⟩
theorem big_spec {c m : Value} {C M : List UInt8} (hc : Bys c C) (hm : Bys m M) (hC : C.length ≤ 9223372036854775807) (hM : M.length ≤ 9223372036854775807) : Sp Try.prog 5 [.v c, .v m] (.b (decide (1048576 < C.length + M.length))) := by
  refine spec_of Try.func5 rfl cc5 rfl ?_
  unfold ac5
  by_cases h1 : ((C.length : Nat) : Int) > 1048576
  · have h2 : 1048576 < C.length + M.length := by omega
    repeat (first | (refine step_ops ?_; (refine m_mov (by conv => lhs; whnf) ?_)) | refine end_ops ?_ | refine seq_ops ?_)
    refine step_ops ?_
    refine m_len_bys rfl hc ?_
    repeat (first | ((first | (refine step_ops ?_; (first | (first | (refine m_mov (by conv => lhs; whnf) ?_) | (refine m_gtr rfl rfl ?_) | (refine m_pick_t rfl ?_ (by conv => lhs; whnf) ?_; (· first | rfl | assumption | (refine decide_eq_true ?_; first | assumption | omega) | (refine nt ?_; first | assumption | omega) | (simp [*]; done)))) | (refine g_noF rfl ?_ ?_; (· first | rfl | assumption | (refine decide_eq_true ?_; first | assumption | omega) | (refine nt ?_; first | assumption | omega) | (simp [*]; done))))) | refine end_ops ?_ | refine AW_ret ?_ | refine ret_done ?_)) | (refine step_ops ?_; refine g_unc rfl ?_))
    exact outs_b (decide_eq_true h2).symm
  · have h0 : decide ((1048576 : Int) < (C.length : Nat)) = false := decide_eq_false (by omega)
    by_cases h3 : ((M.length : Nat) : Int) > 1048576 - C.length
    · have h2 : 1048576 < C.length + M.length := by omega
      repeat (first | (refine step_ops ?_; (refine m_mov (by conv => lhs; whnf) ?_)) | refine end_ops ?_ | refine seq_ops ?_)
      refine step_ops ?_
      refine m_len_bys rfl hc ?_
      repeat (refine step_ops ?_; ((try (refine g_yes rfl ?_ ?_; (· first | rfl | assumption | (refine decide_eq_true ?_; first | assumption | omega) | (refine nt ?_; first | assumption | omega) | (simp [*]; done) | (refine decide_eq_false ?_; first | assumption | omega) | (refine nf ?_; first | assumption | omega)))); (first | (refine m_mov (by conv => lhs; whnf) ?_) | (refine m_gtr rfl rfl ?_))))
      refine step_ops ?_
      refine g_yes rfl h0 ?_
      refine m_len_bys rfl hm ?_
      repeat (refine step_ops ?_; ((try (refine g_yes rfl ?_ ?_; (· first | rfl | assumption | (refine decide_eq_true ?_; first | assumption | omega) | (refine nt ?_; first | assumption | omega) | (simp [*]; done) | (refine decide_eq_false ?_; first | assumption | omega) | (refine nf ?_; first | assumption | omega)))); (refine m_mov (by conv => lhs; whnf) ?_)))
      refine step_ops ?_
      refine g_yes rfl h0 ?_
      refine m_len_bys rfl hc ?_
      repeat (first | (refine step_ops ?_; ((try (refine g_yes rfl ?_ ?_; (· first | rfl | assumption | (refine decide_eq_true ?_; first | assumption | omega) | (refine nt ?_; first | assumption | omega) | (simp [*]; done) | (refine decide_eq_false ?_; first | assumption | omega) | (refine nf ?_; first | assumption | omega)))); (first | (refine m_mov (by conv => lhs; whnf) ?_) | (refine m_gtr rfl rfl ?_) | (refine m_sub rfl rfl ?_ ?_ ?_; (· omega); (· omega)) | (refine m_pick_f rfl ?_ (by conv => lhs; whnf) ?_; (· first | rfl | assumption | (refine decide_eq_false ?_; first | assumption | omega) | (refine nf ?_; first | assumption | omega) | (simp [*]; done)))))) | refine end_ops ?_ | refine AW_ret ?_ | refine ret_done ?_)
      exact outs_b (decide_eq_decide.2 ⟨fun _ => h2, fun _ => by omega⟩)
    · have h2 : ¬ 1048576 < C.length + M.length := by omega
      repeat (first | (refine step_ops ?_; (refine m_mov (by conv => lhs; whnf) ?_)) | refine end_ops ?_ | refine seq_ops ?_)
      refine step_ops ?_
      refine m_len_bys rfl hc ?_
      repeat (refine step_ops ?_; ((try (refine g_yes rfl ?_ ?_; (· first | rfl | assumption | (refine decide_eq_true ?_; first | assumption | omega) | (refine nt ?_; first | assumption | omega) | (simp [*]; done) | (refine decide_eq_false ?_; first | assumption | omega) | (refine nf ?_; first | assumption | omega)))); (first | (refine m_mov (by conv => lhs; whnf) ?_) | (refine m_gtr rfl rfl ?_))))
      refine step_ops ?_
      refine g_yes rfl h0 ?_
      refine m_len_bys rfl hm ?_
      repeat (refine step_ops ?_; ((try (refine g_yes rfl ?_ ?_; (· first | rfl | assumption | (refine decide_eq_true ?_; first | assumption | omega) | (refine nt ?_; first | assumption | omega) | (simp [*]; done) | (refine decide_eq_false ?_; first | assumption | omega) | (refine nf ?_; first | assumption | omega)))); (refine m_mov (by conv => lhs; whnf) ?_)))
      refine step_ops ?_
      refine g_yes rfl h0 ?_
      refine m_len_bys rfl hc ?_
      repeat (first | (refine step_ops ?_; ((try (refine g_yes rfl ?_ ?_; (· first | rfl | assumption | (refine decide_eq_true ?_; first | assumption | omega) | (refine nt ?_; first | assumption | omega) | (simp [*]; done) | (refine decide_eq_false ?_; first | assumption | omega) | (refine nf ?_; first | assumption | omega)))); (first | (refine m_mov (by conv => lhs; whnf) ?_) | (refine m_gtr rfl rfl ?_) | (refine m_sub rfl rfl ?_ ?_ ?_; (· omega); (· omega)) | (refine m_pick_f rfl ?_ (by conv => lhs; whnf) ?_; (· first | rfl | assumption | (refine decide_eq_false ?_; first | assumption | omega) | (refine nf ?_; first | assumption | omega) | (simp [*]; done)))))) | refine end_ops ?_ | refine AW_ret ?_ | refine ret_done ?_)
      exact outs_b (decide_eq_decide.2 ⟨fun _ => by omega, fun hh => absurd hh h2⟩)
end Go.Proofs.Ytgjlaajkakecpaa
namespace Go.Am
variable [Go.Am.CodeBlk]
theorem g_un {P : Program} {own : Bool} {s : AS} {K : AS → Prop} {d : Option Nat} {op : AOp} {t : Nat} {w : Bool} (h : s.tm t = .v undef) (k : K (s.put d (.v undef))) : aop1 P own ⟨d, op, some (t, w)⟩ s K := .inr ⟨h, k⟩
end Go.Am
namespace Go.Proofs.Ytgjlaajkakecpaa
variable [Go.Am.CodeBlk]
open Go.Am
attribute [local irreducible] AW Outs Weak Lends Lend Sp aops atree aop1 Then Round InBlock Done
attribute [local irreducible] SpM DoneM
/-- The second part of a code, the first one, and what is done of two. -/
def sndC : ACode → ACode
  | .seq _ y => y
  | c => c
def fstC : ACode → ACode
  | .seq x _ => x
  | c => c
def sndN : Nat → ACode → ACode
  | 0, c => c
  | n + 1, c => sndN n (sndC c)
theorem xor_self (b : Bool) : (true ^^ (b == b)) = false := by cases b <;> rfl
def nqF : ACode := sndN 26 ac3
def nqE : ACode := sndN 25 ac3
def nqD : ACode := sndN 24 ac3
theorem nq6 (m p : Int) : AW Try.prog (min Try.f3.ntmps pbase) nqF (st [(44, .i p), (45, newInts (ofRes m p)), (46, .b (decide (OfOk m p)))] []) (Done [4].reverse (.b true)) := by
  by_cases h : OfOk m p
  · obtain ⟨h1, h2, h3⟩ := ofRes_ok h
    have hc := implRankOfNone_spec (ofRes m p) (by have := h.1; omega)
    unfold rankR at hc
    rw [if_pos h2, decide_eq_true h2, h3] at hc
    rw [decide_eq_true h]
    generalize ofRes m p = R at *
    unfold nqF
    unfold ac3
    simp only [sndN, sndC]
    repeat (first | (refine step_ops ?_; (refine m_mov (by conv => lhs; whnf) ?_)) | refine end_ops ?_ | refine seq_ops ?_ | (refine cond_t rfl ?_ ?_; (· first | rfl | assumption | (refine decide_eq_true ?_; first | assumption | omega) | (refine nt ?_; first | assumption | omega) | (simp [*]; done))) | refine AW_seq ?_)
    refine step_ops ?_; (apply m_call (hc)); (· repeat (first | exact lends_nil | (refine lends_cons ?_ ?_; (· (refine lend_ints ?_; first | rfl | omega)))))
    repeat (first | (refine step_ops ?_; ((try (refine g_yes rfl ?_ ?_; (· first | rfl | assumption | (refine decide_eq_true ?_; first | assumption | omega) | (refine nt ?_; first | assumption | omega) | (simp [*]; done) | (refine decide_eq_false ?_; first | assumption | omega) | (refine nf ?_; first | assumption | omega)))); (first | (refine m_mov (by conv => lhs; whnf) ?_) | (refine m_eql rfl rfl ?_) | (refine m_pick_t rfl ?_ (by conv => lhs; whnf) ?_; (· first | rfl | assumption | (refine decide_eq_true ?_; first | assumption | omega) | (refine nt ?_; first | assumption | omega) | (simp [*]; done))) | (refine m_ext rfl rfl ?_)))) | refine end_ops ?_ | refine seq_ops ?_ | refine AW_ret ?_ | refine ret_done ?_ | refine ret_then ?_)
    exact outs_b (by simp)
  · rw [decide_eq_false h]
    unfold nqF
    unfold ac3
    simp only [sndN, sndC]
    repeat (first | (refine step_ops ?_; (refine m_mov (by conv => lhs; whnf) ?_)) | refine end_ops ?_ | refine seq_ops ?_ | (refine cond_f rfl ?_ ?_; (· first | rfl | assumption | (refine decide_eq_false ?_; first | assumption | omega) | (refine nf ?_; first | assumption | omega) | (simp [*]; done))) | refine skip_then ?_ | refine AW_seq ?_ | refine AW_ret ?_ | refine ret_done ?_)
    exact outs_b rfl
theorem nq5 (g m p : Int) : AW Try.prog (min Try.f3.ntmps pbase) nqE (st [(23, newInts (ofRes g 0)), (24, .b (decide (OfOk g 0))), (44, .i p), (45, newInts (ofRes m p)), (46, .b (decide (OfOk m p)))] []) (Done [4].reverse (.b true)) := by
  have h6 := nq6 m p
  have hp : nqE = .seq (fstC nqE) nqF := rfl
  rw [hp]
  clear hp
  generalize nqF = c6 at *
  by_cases h : OfOk g 0
  · obtain ⟨h1, h2, h3⟩ := ofRes_ok h
    have hc := implRankOfNone_spec (ofRes g 0) (by have := h.1; omega)
    unfold rankR at hc
    rw [if_pos h2, decide_eq_true h2, h3] at hc
    rw [decide_eq_true h]
    generalize ofRes g 0 = R at *
    unfold nqE
    unfold ac3
    simp only [sndN, sndC, fstC]
    repeat (first | (refine step_ops ?_; (refine m_mov (by conv => lhs; whnf) ?_)) | refine end_ops ?_ | refine seq_ops ?_ | (refine cond_t rfl ?_ ?_; (· first | rfl | assumption | (refine decide_eq_true ?_; first | assumption | omega) | (refine nt ?_; first | assumption | omega) | (simp [*]; done))) | refine AW_seq ?_)
    refine step_ops ?_; (apply m_call (hc)); (· repeat (first | exact lends_nil | (refine lends_cons ?_ ?_; (· (refine lend_ints ?_; first | rfl | omega)))))
    repeat (first | (refine step_ops ?_; ((try (refine g_yes rfl ?_ ?_; (· first | rfl | assumption | (refine decide_eq_true ?_; first | assumption | omega) | (refine nt ?_; first | assumption | omega) | (simp [*]; done) | (refine decide_eq_false ?_; first | assumption | omega) | (refine nf ?_; first | assumption | omega)))); (first | (refine m_mov (by conv => lhs; whnf) ?_) | (refine m_neq rfl rfl ?_) | (refine m_not rfl ?_) | (refine m_pick_f rfl ?_ (by conv => lhs; whnf) ?_; (· first | rfl | assumption | (refine decide_eq_false ?_; first | assumption | omega) | (refine nf ?_; first | assumption | omega) | (simp [*]; done))) | (refine m_ext rfl rfl ?_)))) | refine end_ops ?_ | refine seq_ops ?_ | (refine cond_f rfl ?_ ?_; (· first | rfl | assumption | (refine decide_eq_false ?_; first | assumption | omega) | (refine nf ?_; first | assumption | omega) | (simp [*]; done))) | refine skip_then ?_)
    refine AW_weak (weak_st ?_ ?_ rfl rfl) h6
    · (repeat' (first | exact trivial | refine And.intro ?_ ?_)) <;> (first | rfl | skip)
    · trivial
  · rw [decide_eq_false h]
    unfold nqE
    unfold ac3
    simp only [sndN, sndC, fstC]
    repeat (first | (refine step_ops ?_; (refine m_mov (by conv => lhs; whnf) ?_)) | refine end_ops ?_ | refine seq_ops ?_ | (refine cond_f rfl ?_ ?_; (· first | rfl | assumption | (refine decide_eq_false ?_; first | assumption | omega) | (refine nf ?_; first | assumption | omega) | (simp [*]; done))) | refine skip_then ?_ | refine AW_seq ?_)
    refine AW_weak (weak_st ?_ ?_ rfl rfl) h6
    · (repeat' (first | exact trivial | refine And.intro ?_ ?_)) <;> (first | rfl | skip)
    · trivial
theorem nq4 (g m p : Int) : AW Try.prog (min Try.f3.ntmps pbase) nqD (st [(22, .i g), (27, .i (countNoneR g)), (28, .b (decide (1 ≤ g ∧ g ≤ 12))), (31, .i ((chnR g).1 : Nat)), (32, .i ((chnR g).2 : Nat)), (23, newInts (ofRes g 0)), (24, .b (decide (OfOk g 0))), (44, .i p), (45, newInts (ofRes m p)), (46, .b (decide (OfOk m p)))] []) (Done [4].reverse (.b true)) := by
  have h5 := nq5 g m p
  have hp : nqD = .seq (fstC nqD) nqE := rfl
  rw [hp]
  clear hp
  generalize nqE = c5 at *
  by_cases h : 1 ≤ g ∧ g ≤ 12
  · obtain ⟨G, rfl⟩ := Int.eq_ofNat_of_zero_le (show 0 ≤ g by omega)
    have e1 : countNoneR ((G : Nat) : Int) = noneN G := by rw [countNoneR, if_pos h, Int.toNat_natCast]
    have e2 : chnR ((G : Nat) : Int) = low (noneN G).toNat (fac G).toNat := by rw [chnR, if_pos h, Int.toNat_natCast]
    have ha := own_all G (by omega) (by omega)
    have hs := own_sums G (by omega)
    have ht := oTimes_spec G (by omega)
    have hf := fac_le G (by omega)
    rw [decide_eq_true h, e1, e2]
    generalize low (noneN G).toNat (fac G).toNat = P at *
    generalize ofRes ((G : Nat) : Int) 0 = R1 at *
    generalize decide (OfOk ((G : Nat) : Int) 0) = B1 at *
    generalize ofRes m p = R2 at *
    generalize decide (OfOk m p) = B2 at *
    unfold nqD
    unfold ac3
    simp only [sndN, sndC, fstC]
    repeat (first | (refine step_ops ?_; (refine m_mov (by conv => lhs; whnf) ?_)) | refine end_ops ?_ | refine seq_ops ?_ | (refine cond_t rfl ?_ ?_; (· first | rfl | assumption | (refine decide_eq_true ?_; first | assumption | omega) | (refine nt ?_; first | assumption | omega) | (simp [*]; done))) | refine AW_seq ?_ | refine AW_block ?_)
    refine AW_loop (α := Nat) (fun k => k ≤ G + 1) (fun k => st [(22, .i (G : Nat)), (27, .i (noneN G)), (31, .i (P.1 : Nat)), (32, .i (P.2 : Nat)), (49, .i (ownS G k)), (50, .i (ownW G k)), (51, .i (k : Nat)), (23, newInts R1), (24, .b B1), (44, .i p), (45, newInts R2), (46, .b B2)] []) (fun k => G + 1 - k) 0 (Nat.zero_le _) (weak_st ?_ ?_ rfl rfl) ?_
    · (repeat' (first | exact trivial | refine And.intro ?_ ?_)) <;> (first | rfl | skip)
    · trivial
    intro k hk
    by_cases hc : k < G + 1
    · obtain ⟨o1, o2⟩ := countOwn_at (G := G) (k := k) (by omega) (by omega) (by omega)
      have hco := implCountOwn_spec (G : Nat) (k : Nat)
      rw [o2, decide_eq_true o1] at hco
      have b1 := hs k (by omega)
      have b2 := hs (k + 1) (by omega)
      have b3 : ownS G (k + 1) = ownS G k + ownV2 G k := rfl
      have b4 : ownW G (k + 1) = ownW G k + (k : Int) * ownV2 G k := rfl
      have hz : k = 0 → ownV2 G k = noneN G := fun e => by rw [e]; exact ha.2.2.1
      generalize ownV2 G k = v at *
      by_cases hk0 : k = 0
      · have hv := hz hk0
        subst hv
        subst hk0
        repeat (first | (refine step_ops ?_; (first | (refine m_mov (by conv => lhs; whnf) ?_) | (refine m_leq rfl rfl ?_))) | refine end_ops ?_ | refine seq_ops ?_ | (refine cond_t rfl ?_ ?_; (· first | rfl | assumption | (refine decide_eq_true ?_; first | assumption | omega) | (refine nt ?_; first | assumption | omega) | (simp [*]; done))) | refine skip_then ?_ | refine AW_seq ?_ | refine AW_block ?_)
        refine step_ops ?_; (apply m_call (hco)); (· repeat (first | exact lends_nil | (refine lends_cons ?_ ?_; (· exact lend_v))))
        repeat (first | (refine step_ops ?_; ((try (refine g_yes rfl ?_ ?_; (· first | rfl | assumption | (refine decide_eq_true ?_; first | assumption | omega) | (refine nt ?_; first | assumption | omega) | (simp [*]; done) | (refine decide_eq_false ?_; first | assumption | omega) | (refine nf ?_; first | assumption | omega)))); (first | (refine m_mov (by conv => lhs; whnf) ?_) | (refine m_eql rfl rfl ?_) | (refine m_neq rfl rfl ?_) | (refine m_add rfl rfl ?_ ?_ ?_; (· omega); (· omega)) | (refine m_mul rfl rfl ?_ ?_ ?_; (· first | omega | (simp; done)); (· first | omega | (simp; done))) | (refine m_not rfl ?_) | (refine m_pick_t rfl ?_ (by conv => lhs; whnf) ?_; (· first | rfl | assumption | (refine decide_eq_true ?_; first | assumption | omega) | (refine nt ?_; first | assumption | omega) | (simp [*]; done))) | (refine m_pick_f rfl ?_ (by conv => lhs; whnf) ?_; (· first | rfl | assumption | (refine decide_eq_false ?_; first | assumption | omega) | (refine nf ?_; first | assumption | omega) | (simp [*]; done))) | (refine m_ext rfl rfl ?_)))) | refine end_ops ?_ | refine seq_ops ?_ | refine AW_ops ?_ | (refine cond_f rfl ?_ ?_; (· first | rfl | assumption | (refine decide_eq_false ?_; first | assumption | omega) | (refine nf ?_; first | assumption | omega) | (simp [*]; done))) | refine skip_then ?_ | refine AW_seq ?_ | refine norm_then ?_ | refine norm_block ?_)
        refine next_round (0 + 1) (by omega) (weak_st ?_ ?_ rfl rfl) (by omega)
        · rw [b3, b4]; (repeat' (first | exact trivial | refine And.intro ?_ ?_)) <;> (first | rfl | skip)
        · trivial
      · repeat (first | (refine step_ops ?_; (first | (refine m_mov (by conv => lhs; whnf) ?_) | (refine m_leq rfl rfl ?_))) | refine end_ops ?_ | refine seq_ops ?_ | (refine cond_t rfl ?_ ?_; (· first | rfl | assumption | (refine decide_eq_true ?_; first | assumption | omega) | (refine nt ?_; first | assumption | omega) | (simp [*]; done))) | refine skip_then ?_ | refine AW_seq ?_ | refine AW_block ?_)
        refine step_ops ?_; (apply m_call (hco)); (· repeat (first | exact lends_nil | (refine lends_cons ?_ ?_; (· exact lend_v))))
        repeat (first | ((first | (refine step_ops ?_; (first | ((try (refine g_yes rfl ?_ ?_; (· first | rfl | assumption | (refine decide_eq_true ?_; first | assumption | omega) | (refine nt ?_; first | assumption | omega) | (simp [*]; done) | (refine decide_eq_false ?_; first | assumption | omega) | (refine nf ?_; first | assumption | omega)))); (first | (refine m_mov (by conv => lhs; whnf) ?_) | (refine m_eql rfl rfl ?_) | (refine m_add rfl rfl ?_ ?_ ?_; (· omega); (· omega)) | (refine m_mul rfl rfl ?_ ?_ ?_; (· first | omega | (simp; done)); (· first | omega | (simp; done))) | (refine m_not rfl ?_) | (refine m_pick_f rfl ?_ (by conv => lhs; whnf) ?_; (· first | rfl | assumption | (refine decide_eq_false ?_; first | assumption | omega) | (refine nf ?_; first | assumption | omega) | (simp [*]; done))) | (refine m_ext rfl rfl ?_))) | (refine g_noT rfl ?_ ?_; (· first | rfl | assumption | (refine decide_eq_false ?_; first | assumption | omega) | (refine nf ?_; first | assumption | omega) | (simp [*]; done))))) | refine end_ops ?_ | refine seq_ops ?_ | refine AW_ops ?_ | (refine cond_f rfl ?_ ?_; (· first | rfl | assumption | (refine decide_eq_false ?_; first | assumption | omega) | (refine nf ?_; first | assumption | omega) | (simp [*]; done))) | refine skip_then ?_ | refine AW_seq ?_ | refine norm_then ?_ | refine norm_block ?_)) | (refine step_ops ?_; refine g_un rfl ?_))
        refine next_round (k + 1) (by omega) (weak_st ?_ ?_ rfl rfl) (by omega)
        · rw [b3, b4]; (repeat' (first | exact trivial | refine And.intro ?_ ?_)) <;> (first | rfl | skip)
        · trivial
    · obtain rfl : k = G + 1 := by omega
      rw [ha.1, ha.2.1]
      have hx := ha.2.2.2.2.1
      have q1 : 0 ≤ noneN G * ((P.2 : Nat) : Int) := Int.mul_nonneg ha.2.2.2.1.1 (by omega)
      have q2 : noneN G * ((P.2 : Nat) : Int) ≤ 479001600 * 479001600 := Int.mul_le_mul ha.2.2.2.1.2 (by omega) (by omega) (by omega)
      generalize noneN G = v at *
      generalize hF : fac G = F at *
      have q3 : 0 ≤ ((P.1 : Nat) : Int) * F := by rw [← hx]; exact q1
      have q4 : ((P.1 : Nat) : Int) * F ≤ 479001600 * 479001600 := by rw [← hx]; exact q2
      repeat (first | (refine step_ops ?_; (first | (refine m_mov (by conv => lhs; whnf) ?_) | (refine m_leq rfl rfl ?_))) | refine end_ops ?_ | refine seq_ops ?_ | (refine cond_f rfl ?_ ?_; (· first | rfl | assumption | (refine decide_eq_false ?_; first | assumption | omega) | (refine nf ?_; first | assumption | omega) | (simp [*]; done))) | refine AW_seq ?_ | refine norm_then ?_ | refine exit_then ?_ | refine exit_round ?_ | refine AW_exit ?_ | refine exit_block ?_)
      refine step_ops ?_; (apply m_call (ht)); (· repeat (first | exact lends_nil | (refine lends_cons ?_ ?_; (· exact lend_v))))
      repeat (first | (refine step_ops ?_; ((try (refine g_yes rfl ?_ ?_; (· first | rfl | assumption | (refine decide_eq_true ?_; first | assumption | omega) | (refine nt ?_; first | assumption | omega) | (simp [*]; done) | (refine decide_eq_false ?_; first | assumption | omega) | (refine nf ?_; first | assumption | omega)))); (first | (refine m_mov (by conv => lhs; whnf) ?_) | (refine m_neq rfl rfl ?_) | (refine m_mul rfl rfl ?_ ?_ ?_; (· first | omega | (simp; done)); (· first | omega | (simp; done))) | (refine m_pick_f rfl ?_ (by conv => lhs; whnf) ?_; (· first | rfl | assumption | (refine decide_eq_false ?_; first | assumption | omega) | (refine nf ?_; first | assumption | omega) | (simp [*]; done)))))) | refine end_ops ?_ | (refine cond_f rfl ?_ ?_; (· first | rfl | assumption | (refine decide_eq_false ?_; first | assumption | omega) | (refine nf ?_; first | assumption | omega) | (simp [*]; done))) | refine skip_then ?_)
      refine AW_weak (weak_st ?_ ?_ rfl rfl) h5
      · (repeat' (first | exact trivial | refine And.intro ?_ ?_)) <;> (first | rfl | skip)
      · trivial
  · rw [decide_eq_false h]
    unfold nqD
    unfold ac3
    simp only [sndN, sndC, fstC]
    repeat (first | (refine step_ops ?_; (refine m_mov (by conv => lhs; whnf) ?_)) | refine end_ops ?_ | refine seq_ops ?_ | (refine cond_f rfl ?_ ?_; (· first | rfl | assumption | (refine decide_eq_false ?_; first | assumption | omega) | (refine nf ?_; first | assumption | omega) | (simp [*]; done))) | refine skip_then ?_ | refine AW_seq ?_)
    refine AW_weak (weak_st ?_ ?_ rfl rfl) h5
    · (repeat' (first | exact trivial | refine And.intro ?_ ?_)) <;> (first | rfl | skip)
    · trivial
end Go.Proofs.Ytgjlaajkakecpaa
