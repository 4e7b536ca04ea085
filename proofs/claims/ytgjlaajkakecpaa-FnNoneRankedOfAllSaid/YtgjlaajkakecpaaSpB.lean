/- Contracts: exchanges are told. -/
import Derived.Test.YtgjlaajkakecpaaSpAd
namespace Go.Proofs.Ytgjlaajkakecpaa
open Go.Am
attribute [local irreducible] AW Outs Weak Lends Lend Sp aops atree aop1 Then Round InBlock Done

/-- What an exchange is. -/
def IsEx (L : List Int) : Prop := 1 ≤ L.length ∧ L.length ≤ 12 ∧ (∀ x ∈ L, 0 ≤ x ∧ x < L.length) ∧ L.Nodup
instance (L : List Int) : Decidable (IsEx L) := inferInstanceAs (Decidable (_ ∧ _ ∧ _ ∧ _))


theorem l1Has_spec (L : List Int) (n : Int) (hL : L.length ≤ 1048576) : Sp Try.prog 57 [ints L, .i n] (.b (decide (n ∈ L))) := by
  refine spec_of Try.func57 rfl cc57 rfl ?_
  unfold ac57
  repeat (first | (refine step_ops ?_; (first | (refine m_mov (by conv => lhs; whnf) ?_) | (refine m_len_ro rfl ?_))) | refine end_ops ?_ | refine seq_ops ?_ | refine AW_seq ?_ | refine AW_block ?_)
  refine AW_loop (α := Nat) (fun k => k ≤ L.length ∧ n ∉ L.take k) (fun k => st [(7, ints L), (1, .i n), (8, .i L.length), (9, .i k)] []) (fun k => L.length - k) 0 (by simp) (weak_st ?_ ?_ rfl rfl) ?_
  · (repeat' (first | exact trivial | refine And.intro ?_ ?_)) <;> (first | rfl | skip)
  · trivial
  rintro k ⟨hk, he⟩
  by_cases h : k < L.length
  · by_cases hx : L.getD k 0 = n
    · repeat (first | (refine step_ops ?_; (first | (refine m_mov (by conv => lhs; whnf) ?_) | (refine m_lss rfl rfl ?_) | (refine m_eql rfl rfl ?_) | (refine m_idx1_ro rfl rfl ?_ ?_; (· omega)) | (refine m_ld_rpi rfl ?_ ?_; (· omega)))) | refine end_ops ?_ | refine seq_ops ?_ | (refine cond_t rfl ?_ ?_; (· first | rfl | assumption | (refine decide_eq_true ?_; first | assumption | omega) | (refine nt ?_; first | assumption | omega) | (simp [*]; done))) | refine skip_then ?_ | refine AW_seq ?_ | refine AW_ret ?_ | refine ret_done ?_ | refine ret_then ?_ | refine AW_block ?_ | refine ret_block ?_ | refine ret_round ?_)
      refine outs_b ?_
      symm
      exact decide_eq_true (hx ▸ getD_mem h)
    · repeat (first | (refine step_ops ?_; (first | (refine m_mov (by conv => lhs; whnf) ?_) | (refine m_lss rfl rfl ?_) | (refine m_eql rfl rfl ?_) | (refine m_add rfl rfl ?_ ?_ ?_; (· omega); (· omega)) | (refine m_idx1_ro rfl rfl ?_ ?_; (· omega)) | (refine m_ld_rpi rfl ?_ ?_; (· omega)))) | refine end_ops ?_ | refine seq_ops ?_ | refine AW_ops ?_ | (refine cond_t rfl ?_ ?_; (· first | rfl | assumption | (refine decide_eq_true ?_; first | assumption | omega) | (refine nt ?_; first | assumption | omega) | (simp [*]; done))) | (refine cond_f rfl ?_ ?_; (· first | rfl | assumption | (refine decide_eq_false ?_; first | assumption | omega) | (refine nf ?_; first | assumption | omega) | (simp [*]; done))) | refine skip_then ?_ | refine AW_seq ?_ | refine norm_then ?_ | refine AW_block ?_ | refine norm_block ?_ | refine AW_skip ?_)
      refine next_round (k + 1) ⟨by omega, ?_⟩ (weak_st ?_ ?_ rfl rfl) ?_
      · rw [take_snoc L k 0 h, List.mem_append, List.mem_singleton]
        rintro (h1 | h1)
        · exact he h1
        · exact hx h1.symm
      · (repeat' (first | exact trivial | refine And.intro ?_ ?_)) <;> (first | rfl | skip)
      · trivial
      · omega
  · repeat (first | (refine step_ops ?_; (first | (refine m_mov (by conv => lhs; whnf) ?_) | (refine m_lss rfl rfl ?_))) | refine end_ops ?_ | refine seq_ops ?_ | (refine cond_f rfl ?_ ?_; (· first | rfl | assumption | (refine decide_eq_false ?_; first | assumption | omega) | (refine nf ?_; first | assumption | omega) | (simp [*]; done))) | refine AW_seq ?_ | refine AW_ret ?_ | refine ret_done ?_ | refine norm_then ?_ | refine exit_then ?_ | refine exit_round ?_ | refine AW_exit ?_ | refine exit_block ?_)
    refine outs_b ?_
    symm
    rw [List.take_of_length_le (by omega)] at he
    exact decide_eq_false he

theorem l1All_spec (L : List Int) (lo hi : Int) (hL : L.length ≤ 1048576) : Sp Try.prog 56 [ints L, .i lo, .i hi] (.b (decide (∀ x ∈ L, lo ≤ x ∧ x ≤ hi))) := by
  refine spec_of Try.func56 rfl cc56 rfl ?_
  unfold ac56
  repeat (first | (refine step_ops ?_; (first | (refine m_mov (by conv => lhs; whnf) ?_) | (refine m_len_ro rfl ?_))) | refine end_ops ?_ | refine seq_ops ?_ | refine AW_seq ?_ | refine AW_block ?_)
  refine AW_loop (α := Nat) (fun k => k ≤ L.length ∧ ∀ x ∈ L.take k, lo ≤ x ∧ x ≤ hi) (fun k => st [(9, ints L), (1, .i lo), (2, .i hi), (10, .i L.length), (11, .i k)] []) (fun k => L.length - k) 0 (by simp) (weak_st ?_ ?_ rfl rfl) ?_
  · (repeat' (first | exact trivial | refine And.intro ?_ ?_)) <;> (first | rfl | skip)
  · trivial
  rintro k ⟨hk, he⟩
  by_cases h : k < L.length
  · by_cases hx : lo ≤ L.getD k 0 ∧ L.getD k 0 ≤ hi
    · repeat (first | (refine step_ops ?_; (first | (refine m_mov (by conv => lhs; whnf) ?_) | (refine m_lss rfl rfl ?_) | (refine m_idx1_ro rfl rfl ?_ ?_; (· omega)) | (refine m_ld_rpi rfl ?_ ?_; (· omega)))) | refine end_ops ?_ | refine seq_ops ?_ | (refine cond_t rfl ?_ ?_; (· first | rfl | assumption | (refine decide_eq_true ?_; first | assumption | omega) | (refine nt ?_; first | assumption | omega) | (simp [*]; done))) | refine skip_then ?_ | refine AW_seq ?_ | refine AW_block ?_)
      (refine step_ops ?_); (apply m_call (l1In_spec _ _ _)); (· repeat (first | exact lends_nil | (refine lends_cons ?_ ?_; (· exact lend_v))))
      repeat (first | (refine step_ops ?_; (first | (refine m_mov (by conv => lhs; whnf) ?_) | (refine m_add rfl rfl ?_ ?_ ?_; (· omega); (· omega)) | (refine m_not rfl ?_))) | refine end_ops ?_ | refine AW_ops ?_ | (refine cond_f rfl ?_ ?_; (· first | rfl | assumption | (refine decide_eq_false ?_; first | assumption | omega) | (refine nf ?_; first | assumption | omega) | (simp [*]; done))) | refine norm_then ?_ | refine norm_block ?_ | refine AW_skip ?_)
      refine next_round (k + 1) ⟨by omega, ?_⟩ (weak_st ?_ ?_ rfl rfl) ?_
      · rw [take_snoc L k 0 h]
        intro x hxm
        rw [List.mem_append, List.mem_singleton] at hxm
        rcases hxm with h1 | rfl
        · exact he x h1
        · exact hx
      · (repeat' (first | exact trivial | refine And.intro ?_ ?_)) <;> (first | rfl | skip)
      · trivial
      · omega
    · repeat (first | (refine step_ops ?_; (first | (refine m_mov (by conv => lhs; whnf) ?_) | (refine m_lss rfl rfl ?_) | (refine m_idx1_ro rfl rfl ?_ ?_; (· omega)) | (refine m_ld_rpi rfl ?_ ?_; (· omega)))) | refine end_ops ?_ | refine seq_ops ?_ | (refine cond_t rfl ?_ ?_; (· first | rfl | assumption | (refine decide_eq_true ?_; first | assumption | omega) | (refine nt ?_; first | assumption | omega) | (simp [*]; done))) | refine skip_then ?_ | refine AW_seq ?_ | refine AW_block ?_)
      (refine step_ops ?_); (apply m_call (l1In_spec _ _ _)); (· repeat (first | exact lends_nil | (refine lends_cons ?_ ?_; (· exact lend_v))))
      repeat (first | (refine step_ops ?_; (first | (refine m_mov (by conv => lhs; whnf) ?_) | (refine m_not rfl ?_))) | refine end_ops ?_ | refine seq_ops ?_ | (refine cond_t rfl ?_ ?_; (· first | rfl | assumption | (refine decide_eq_true ?_; first | assumption | omega) | (refine nt ?_; first | assumption | omega) | (simp [*]; done))) | refine AW_ret ?_ | refine ret_done ?_ | refine ret_then ?_ | refine ret_block ?_ | refine ret_round ?_)
      refine outs_b ?_
      symm
      exact decide_eq_false fun hall => hx (hall _ (getD_mem h))
  · repeat (first | (refine step_ops ?_; (first | (refine m_mov (by conv => lhs; whnf) ?_) | (refine m_lss rfl rfl ?_))) | refine end_ops ?_ | refine seq_ops ?_ | (refine cond_f rfl ?_ ?_; (· first | rfl | assumption | (refine decide_eq_false ?_; first | assumption | omega) | (refine nf ?_; first | assumption | omega) | (simp [*]; done))) | refine AW_seq ?_ | refine AW_ret ?_ | refine ret_done ?_ | refine norm_then ?_ | refine exit_then ?_ | refine exit_round ?_ | refine AW_exit ?_ | refine exit_block ?_)
    refine outs_b ?_
    symm
    rw [List.take_of_length_le (by omega)] at he
    exact decide_eq_true he

theorem not_nodup {L : List Int} {k : Nat} (hk : k < L.length) (h : L.getD k 0 ∈ L.take k) : ¬ L.Nodup := by
  intro hn
  rw [← List.take_append_drop k L, List.nodup_append] at hn
  refine hn.2.2 _ h _ ?_ rfl
  have : L.drop k = L.getD k 0 :: L.drop (k + 1) := by rw [List.drop_eq_getElem_cons hk]; simp [hk]
  rw [this]
  exact List.mem_cons_self ..

theorem nodup_snoc {L : List Int} {k : Nat} (hk : k < L.length) (hn : (L.take k).Nodup) (h : L.getD k 0 ∉ L.take k) : (L.take (k + 1)).Nodup := by
  rw [take_snoc L k 0 hk, List.nodup_append]
  refine ⟨hn, by simp, ?_⟩
  intro a ha b hb hab
  rw [List.mem_singleton] at hb
  subst hb
  exact h (hab ▸ ha)

theorem implIsExchange_spec (L : List Int) (hL : L.length ≤ 1048576) : Sp Try.prog 12 [ints L] (.b (decide (IsEx L))) := by
  refine spec_of Try.func12 rfl cc12 rfl ?_
  unfold ac12
  by_cases hc : 1 ≤ (L.length : Int) ∧ (L.length : Int) ≤ 12
  · have hd := areDifferent_spec L L.length hL (by omega)
    have e : decide (IsEx L) = decide ((∀ x ∈ L, 0 ≤ x ∧ x < (L.length : Int)) ∧ L.Nodup) := decide_eq_decide.2 ⟨fun he => he.2.2, fun he => ⟨by omega, by omega, he⟩⟩
    rw [e]
    repeat (first | (refine step_ops ?_; (first | (refine m_mov (by conv => lhs; whnf) ?_) | (refine m_len_ro rfl ?_))) | refine end_ops ?_ | refine seq_ops ?_)
    (refine step_ops ?_); (apply m_call (isGuestCount_spec _)); (· repeat (first | exact lends_nil | (refine lends_cons ?_ ?_; (· exact lend_v))))
    repeat (refine step_ops ?_; ((try (refine g_yes rfl ?_ ?_; (· first | rfl | assumption | (refine decide_eq_true ?_; first | assumption | omega) | (refine nt ?_; first | assumption | omega) | (simp [*]; done) | (refine decide_eq_false ?_; first | assumption | omega) | (refine nf ?_; first | assumption | omega)))); (first | (refine m_mov (by conv => lhs; whnf) ?_) | (refine m_len_ro rfl ?_))))
    (refine step_ops ?_); (refine g_yes rfl ?_ ?_; (· first | (first | rfl | assumption | (refine decide_eq_true ?_; first | assumption | omega) | (refine nt ?_; first | assumption | omega) | (simp [*]; done)) | (first | rfl | assumption | (refine decide_eq_false ?_; first | assumption | omega) | (refine nf ?_; first | assumption | omega) | (simp [*]; done))); (apply m_call (hd))); (· repeat (first | exact lends_nil | (refine lends_cons ?_ ?_; (· (first | exact lend_v | (refine lend_ints ?_; first | rfl | omega))))))
    repeat (first | (refine step_ops ?_; (first | (refine m_mov (by conv => lhs; whnf) ?_) | (refine m_pick_t rfl ?_ (by conv => lhs; whnf) ?_; (· first | rfl | assumption | (refine decide_eq_true ?_; first | assumption | omega) | (refine nt ?_; first | assumption | omega) | (simp [*]; done))))) | refine end_ops ?_ | refine AW_ret ?_ | refine ret_done ?_)
    exact outs_b rfl
  · repeat (first | (refine step_ops ?_; (first | (refine m_mov (by conv => lhs; whnf) ?_) | (refine m_len_ro rfl ?_))) | refine end_ops ?_ | refine seq_ops ?_)
    (refine step_ops ?_); (apply m_call (isGuestCount_spec _)); (· repeat (first | exact lends_nil | (refine lends_cons ?_ ?_; (· exact lend_v))))
    repeat (first | (refine step_ops ?_; (first | (first | (refine m_mov (by conv => lhs; whnf) ?_) | (refine m_pick_f rfl ?_ (by conv => lhs; whnf) ?_; (· first | rfl | assumption | (refine decide_eq_false ?_; first | assumption | omega) | (refine nf ?_; first | assumption | omega) | (simp [*]; done)))) | (refine g_noT rfl ?_ ?_; (· first | rfl | assumption | (refine decide_eq_false ?_; first | assumption | omega) | (refine nf ?_; first | assumption | omega) | (simp [*]; done))))) | refine end_ops ?_ | refine AW_ret ?_ | refine ret_done ?_)
    refine outs_b ?_
    symm
    exact decide_eq_false fun he => hc ⟨by have := he.1; omega, by have := he.2.1; omega⟩

theorem exGood_spec (L : List Int) (hL : L.length ≤ 1048576) : Sp Try.prog 32 [ints L] (.b (decide (IsEx L))) := by
  refine spec_of Try.func32 rfl cc32 rfl ?_
  unfold ac32
  by_cases hc : 1 ≤ (L.length : Int) ∧ (L.length : Int) ≤ 12
  · by_cases hall : ∀ x ∈ L, 0 ≤ x ∧ x ≤ (L.length : Int) - 1
    · repeat (first | (refine step_ops ?_; (first | (refine m_mov (by conv => lhs; whnf) ?_) | (refine m_len_ro rfl ?_))) | refine end_ops ?_ | refine seq_ops ?_ | refine AW_seq ?_)
      (refine step_ops ?_); (apply m_call (l1In_spec _ _ _)); (· repeat (first | exact lends_nil | (refine lends_cons ?_ ?_; (· exact lend_v))))
      repeat (refine step_ops ?_; ((try (refine g_yes rfl ?_ ?_; (· first | rfl | assumption | (refine decide_eq_true ?_; first | assumption | omega) | (refine nt ?_; first | assumption | omega) | (simp [*]; done) | (refine decide_eq_false ?_; first | assumption | omega) | (refine nf ?_; first | assumption | omega)))); (first | (refine m_mov (by conv => lhs; whnf) ?_) | (refine m_sub rfl rfl ?_ ?_ ?_; (· omega); (· omega)) | (refine m_not rfl ?_) | (refine m_len_ro rfl ?_))))
      (refine step_ops ?_); (refine g_yes rfl ?_ ?_; (· first | (first | rfl | assumption | (refine decide_eq_true ?_; first | assumption | omega) | (refine nt ?_; first | assumption | omega) | (simp [*]; done)) | (first | rfl | assumption | (refine decide_eq_false ?_; first | assumption | omega) | (refine nf ?_; first | assumption | omega) | (simp [*]; done))); (apply m_call (l1All_spec _ _ _ hL))); (· repeat (first | exact lends_nil | (refine lends_cons ?_ ?_; (· (first | exact lend_v | (refine lend_ints ?_; first | rfl | omega))))))
      repeat (first | (refine step_ops ?_; ((try (refine g_yes rfl ?_ ?_; (· first | rfl | assumption | (refine decide_eq_true ?_; first | assumption | omega) | (refine nt ?_; first | assumption | omega) | (simp [*]; done) | (refine decide_eq_false ?_; first | assumption | omega) | (refine nf ?_; first | assumption | omega)))); (first | (refine m_mov (by conv => lhs; whnf) ?_) | (refine m_not rfl ?_) | (refine m_len_ro rfl ?_) | (refine m_pick_f rfl ?_ (by conv => lhs; whnf) ?_; (· first | rfl | assumption | (refine decide_eq_false ?_; first | assumption | omega) | (refine nf ?_; first | assumption | omega) | (simp [*]; done)))))) | refine end_ops ?_ | refine seq_ops ?_ | (refine cond_f rfl ?_ ?_; (· first | rfl | assumption | (refine decide_eq_false ?_; first | assumption | omega) | (refine nf ?_; first | assumption | omega) | (simp [*]; done))) | refine skip_then ?_ | refine AW_seq ?_ | refine AW_block ?_)
      refine AW_loop (α := Nat) (fun k => k ≤ L.length ∧ (L.take k).Nodup) (fun k => st [(0, ints L), (17, ints L), (18, .i L.length), (19, .i k)] []) (fun k => L.length - k) 0 (by simp) (weak_st ?_ ?_ rfl rfl) ?_
      · (repeat' (first | exact trivial | refine And.intro ?_ ?_)) <;> (first | rfl | skip)
      · trivial
      rintro k ⟨hk, hn⟩
      by_cases h : k < L.length
      · have hlt : (L.take k).length ≤ 1048576 := by simp; omega
        by_cases hm : L.getD k 0 ∈ L.take k
        · repeat (first | (refine step_ops ?_; (first | (refine m_mov (by conv => lhs; whnf) ?_) | (refine m_lss rfl rfl ?_) | (refine m_idx1_ro rfl rfl ?_ ?_; (· omega)) | (refine m_ld_rpi rfl ?_ ?_; (· omega)) | (refine m_cut_hi rfl rfl ?_ ?_ ?_; (· first | rfl | omega | simp); (· first | omega | (simp; omega))))) | refine end_ops ?_ | refine seq_ops ?_ | (refine cond_t rfl ?_ ?_; (· first | rfl | assumption | (refine decide_eq_true ?_; first | assumption | omega) | (refine nt ?_; first | assumption | omega) | (simp [*]; done))) | refine skip_then ?_ | refine AW_seq ?_ | refine AW_block ?_)
          (refine step_ops ?_); (apply m_call (l1Has_spec _ _ hlt)); (· repeat (first | exact lends_nil | (refine lends_cons ?_ ?_; (· (first | exact lend_v | (refine lend_ints ?_; first | rfl | omega))))))
          repeat (first | (refine step_ops ?_; (refine m_mov (by conv => lhs; whnf) ?_)) | refine end_ops ?_ | refine seq_ops ?_ | (refine cond_t rfl ?_ ?_; (· first | rfl | assumption | (refine decide_eq_true ?_; first | assumption | omega) | (refine nt ?_; first | assumption | omega) | (simp [*]; done))) | refine AW_ret ?_ | refine ret_done ?_ | refine ret_then ?_ | refine ret_block ?_ | refine ret_round ?_)
          refine outs_b ?_
          symm
          exact decide_eq_false fun he => not_nodup h hm he.2.2.2
        · repeat (first | (refine step_ops ?_; (first | (refine m_mov (by conv => lhs; whnf) ?_) | (refine m_lss rfl rfl ?_) | (refine m_idx1_ro rfl rfl ?_ ?_; (· omega)) | (refine m_ld_rpi rfl ?_ ?_; (· omega)) | (refine m_cut_hi rfl rfl ?_ ?_ ?_; (· first | rfl | omega | simp); (· first | omega | (simp; omega))))) | refine end_ops ?_ | refine seq_ops ?_ | (refine cond_t rfl ?_ ?_; (· first | rfl | assumption | (refine decide_eq_true ?_; first | assumption | omega) | (refine nt ?_; first | assumption | omega) | (simp [*]; done))) | refine skip_then ?_ | refine AW_seq ?_ | refine AW_block ?_)
          (refine step_ops ?_); (apply m_call (l1Has_spec _ _ hlt)); (· repeat (first | exact lends_nil | (refine lends_cons ?_ ?_; (· (first | exact lend_v | (refine lend_ints ?_; first | rfl | omega))))))
          repeat (first | (refine step_ops ?_; (first | (refine m_mov (by conv => lhs; whnf) ?_) | (refine m_add rfl rfl ?_ ?_ ?_; (· omega); (· omega)))) | refine end_ops ?_ | refine AW_ops ?_ | (refine cond_f rfl ?_ ?_; (· first | rfl | assumption | (refine decide_eq_false ?_; first | assumption | omega) | (refine nf ?_; first | assumption | omega) | (simp [*]; done))) | refine norm_then ?_ | refine norm_block ?_ | refine AW_skip ?_)
          refine next_round (k + 1) ⟨by omega, nodup_snoc h hn hm⟩ (weak_st ?_ ?_ rfl rfl) ?_
          · (repeat' (first | exact trivial | refine And.intro ?_ ?_)) <;> (first | rfl | skip)
          · trivial
          · omega
      · repeat (first | (refine step_ops ?_; (first | (refine m_mov (by conv => lhs; whnf) ?_) | (refine m_lss rfl rfl ?_))) | refine end_ops ?_ | refine seq_ops ?_ | (refine cond_f rfl ?_ ?_; (· first | rfl | assumption | (refine decide_eq_false ?_; first | assumption | omega) | (refine nf ?_; first | assumption | omega) | (simp [*]; done))) | refine AW_seq ?_ | refine AW_ret ?_ | refine ret_done ?_ | refine norm_then ?_ | refine exit_then ?_ | refine exit_round ?_ | refine AW_exit ?_ | refine exit_block ?_)
        refine outs_b ?_
        symm
        rw [List.take_of_length_le (by omega)] at hn
        exact decide_eq_true ⟨by omega, by omega, fun x hx => ⟨(hall x hx).1, by have := (hall x hx).2; omega⟩, hn⟩
    · repeat (first | (refine step_ops ?_; (first | (refine m_mov (by conv => lhs; whnf) ?_) | (refine m_len_ro rfl ?_))) | refine end_ops ?_ | refine seq_ops ?_ | refine AW_seq ?_)
      (refine step_ops ?_); (apply m_call (l1In_spec _ _ _)); (· repeat (first | exact lends_nil | (refine lends_cons ?_ ?_; (· exact lend_v))))
      repeat (refine step_ops ?_; ((try (refine g_yes rfl ?_ ?_; (· first | rfl | assumption | (refine decide_eq_true ?_; first | assumption | omega) | (refine nt ?_; first | assumption | omega) | (simp [*]; done) | (refine decide_eq_false ?_; first | assumption | omega) | (refine nf ?_; first | assumption | omega)))); (first | (refine m_mov (by conv => lhs; whnf) ?_) | (refine m_sub rfl rfl ?_ ?_ ?_; (· omega); (· omega)) | (refine m_not rfl ?_) | (refine m_len_ro rfl ?_))))
      (refine step_ops ?_); (refine g_yes rfl ?_ ?_; (· first | (first | rfl | assumption | (refine decide_eq_true ?_; first | assumption | omega) | (refine nt ?_; first | assumption | omega) | (simp [*]; done)) | (first | rfl | assumption | (refine decide_eq_false ?_; first | assumption | omega) | (refine nf ?_; first | assumption | omega) | (simp [*]; done))); (apply m_call (l1All_spec _ _ _ hL))); (· repeat (first | exact lends_nil | (refine lends_cons ?_ ?_; (· (first | exact lend_v | (refine lend_ints ?_; first | rfl | omega))))))
      repeat (first | (refine step_ops ?_; ((try (refine g_yes rfl ?_ ?_; (· first | rfl | assumption | (refine decide_eq_true ?_; first | assumption | omega) | (refine nt ?_; first | assumption | omega) | (simp [*]; done) | (refine decide_eq_false ?_; first | assumption | omega) | (refine nf ?_; first | assumption | omega)))); (first | (refine m_mov (by conv => lhs; whnf) ?_) | (refine m_not rfl ?_) | (refine m_pick_f rfl ?_ (by conv => lhs; whnf) ?_; (· first | rfl | assumption | (refine decide_eq_false ?_; first | assumption | omega) | (refine nf ?_; first | assumption | omega) | (simp [*]; done)))))) | refine end_ops ?_ | refine seq_ops ?_ | (refine cond_t rfl ?_ ?_; (· first | rfl | assumption | (refine decide_eq_true ?_; first | assumption | omega) | (refine nt ?_; first | assumption | omega) | (simp [*]; done))) | refine AW_ret ?_ | refine ret_done ?_ | refine ret_then ?_)
      refine outs_b ?_
      symm
      exact decide_eq_false fun he => hall fun x hx => ⟨(he.2.2.1 x hx).1, by have := (he.2.2.1 x hx).2; omega⟩
  · repeat (first | (refine step_ops ?_; (first | (refine m_mov (by conv => lhs; whnf) ?_) | (refine m_len_ro rfl ?_))) | refine end_ops ?_ | refine seq_ops ?_ | refine AW_seq ?_)
    (refine step_ops ?_); (apply m_call (l1In_spec _ _ _)); (· repeat (first | exact lends_nil | (refine lends_cons ?_ ?_; (· exact lend_v))))
    repeat (first | (refine step_ops ?_; (first | (first | (refine m_mov (by conv => lhs; whnf) ?_) | (refine m_not rfl ?_) | (refine m_pick_t rfl ?_ (by conv => lhs; whnf) ?_; (· first | rfl | assumption | (refine decide_eq_true ?_; first | assumption | omega) | (refine nt ?_; first | assumption | omega) | (simp [*]; done)))) | (refine g_noF rfl ?_ ?_; (· first | rfl | assumption | (refine decide_eq_true ?_; first | assumption | omega) | (refine nt ?_; first | assumption | omega) | (simp [*]; done))))) | refine end_ops ?_ | refine seq_ops ?_ | (refine cond_t rfl ?_ ?_; (· first | rfl | assumption | (refine decide_eq_true ?_; first | assumption | omega) | (refine nt ?_; first | assumption | omega) | (simp [*]; done))) | refine AW_ret ?_ | refine ret_done ?_ | refine ret_then ?_)
    refine outs_b ?_
    symm
    exact decide_eq_false fun he => hc ⟨by have := he.1; omega, by have := he.2.1; omega⟩

end Go.Proofs.Ytgjlaajkakecpaa
