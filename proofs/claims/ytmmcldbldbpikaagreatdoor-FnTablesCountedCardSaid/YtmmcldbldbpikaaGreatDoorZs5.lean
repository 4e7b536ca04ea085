/- The abstract machine, contracts: part 5 of what this claim needs. -/
import Derived.Test.YtmmcldbldbpikaaGreatDoorZs4
set_option linter.unusedSectionVars false
namespace Go.Proofs.YtmmcldbldbpikaaGreatDoor
variable [Go.Am.CodeBlk]
open Go.Am
attribute [local irreducible] AW Outs Weak Lends Lend Sp aops atree aop1 Then Round InBlock Done
theorem taExactly_spec (told : List Int) (many : Nat) (hl : told.length ≤ 8) (hm : many ≤ told.length) (hok : ExOk told many) : Sp Tryz.prog 32 [ints told, .i many] (.i (exactS told many)) := by
  refine spec_of Tryz.func32 rfl cc32 rfl ?_
  unfold ac32
  repeat (first | (refine step_ops ?_; (refine m_mov (by conv => lhs; whnf) ?_)) | refine end_ops ?_ | refine seq_ops ?_ | refine AW_seq ?_ | refine AW_block ?_)
  refine AW_loop (α := Nat) (fun j => j ≤ told.length - many) (fun j => st [(0, ints told), (1, .i many), (5, .i (exSum told many j)), (6, .i ((many + j : Nat) : Int))] []) (fun j => told.length - many - j) 0 (by omega) (weak_st ?_ ?_ rfl rfl) ?_
  · (repeat' (first | exact trivial | refine And.intro ?_ ?_)) <;> (first | rfl | skip)
  · trivial
  intro j hj
  by_cases hc : j < told.length - many
  · have hb := hok j hc
    have hlt : many + j < told.length := by omega
    have hpe : exPart told many (many + j) = if (many + j - many) % 2 = 1 then 0 - told.getD (many + j) 0 * chx (many + j) many many else told.getD (many + j) 0 * chx (many + j) many many := rfl
    have hse : exSum told many (j + 1) = exSum told many j + exPart told many (many + j) := rfl
    by_cases hodd : ((j : Nat) : Int) % 2 = 1
    · have hp : exPart told many (many + j) = 0 - told.getD (many + j) 0 * chx (many + j) many many := by rw [hpe, if_pos (by omega)]
      rw [hp] at hse
      clear hpe hp
      repeat (first | ((first | refine step_ops ?_ | refine step_tree ?_); (first | (refine m_mov (by conv => lhs; whnf) ?_) | (refine m_lss rfl rfl ?_) | (refine m_len_ro rfl ?_) | (refine m_idx1_ro rfl rfl ?_ ?_; (· omega)) | (refine m_ld_rpi rfl ?_ ?_; (· omega)))) | refine end_ops ?_ | refine seq_ops ?_ | refine seq_tree ?_ | (refine cond_t rfl ?_ ?_; (· first | rfl | assumption | (refine decide_eq_true ?_; first | assumption | omega) | (refine nt ?_; first | assumption | omega) | (simp [*]; done))) | refine skip_then ?_ | refine AW_seq ?_ | refine AW_block ?_)
      refine step_tree ?_; (apply m_call (exChoose7_spec (many + j) many (by omega) (by omega))); (· repeat (first | exact lends_nil | (refine lends_cons ?_ ?_; (· exact lend_v))))
      repeat (first | ((first | refine step_ops ?_ | refine step_tree ?_); (first | (refine m_mov (by conv => lhs; whnf) ?_) | (refine m_eql rfl rfl ?_) | (refine m_sub rfl rfl ?_ ?_ ?_; (· omega); (· omega)) | (refine m_mul rfl rfl ?_ ?_ ?_; (· first | omega | (simp; done)); (· first | omega | (simp; done))) | (refine m_rem rfl rfl ?_ ?_ ?_; (· omega); (· omega)))) | refine end_ops ?_ | refine seq_ops ?_ | refine AW_ops ?_ | refine end_tree ?_ | (refine cond_t rfl ?_ ?_; (· first | rfl | assumption | (refine decide_eq_true ?_; first | assumption | omega) | (refine nt ?_; first | assumption | omega) | (simp [*]; done))) | refine AW_seq ?_)
      rw [show ((many + j : Nat) : Int) - (many : Int) = (j : Int) by omega]
      skip
      refine step_ops ?_
      refine m_neg rfl (by omega) (by omega) ?_
      repeat (first | (refine step_ops ?_; (first | (refine m_mov (by conv => lhs; whnf) ?_) | (refine m_add rfl rfl ?_ ?_ ?_; (· omega); (· omega)))) | refine end_ops ?_ | refine AW_ops ?_ | refine norm_then ?_ | refine norm_block ?_)
      refine next_round (j + 1) (by omega) (weak_st ?_ ?_ rfl rfl) ?_
      · rw [hse]
        (repeat' (first | exact trivial | refine And.intro ?_ ?_)) <;> (first | rfl | skip)
      · trivial
      · omega
    · have hp : exPart told many (many + j) = told.getD (many + j) 0 * chx (many + j) many many := by rw [hpe, if_neg (by omega)]
      rw [hp] at hse
      clear hpe hp
      repeat (first | ((first | refine step_ops ?_ | refine step_tree ?_); (first | (refine m_mov (by conv => lhs; whnf) ?_) | (refine m_lss rfl rfl ?_) | (refine m_len_ro rfl ?_) | (refine m_idx1_ro rfl rfl ?_ ?_; (· omega)) | (refine m_ld_rpi rfl ?_ ?_; (· omega)))) | refine end_ops ?_ | refine seq_ops ?_ | refine seq_tree ?_ | (refine cond_t rfl ?_ ?_; (· first | rfl | assumption | (refine decide_eq_true ?_; first | assumption | omega) | (refine nt ?_; first | assumption | omega) | (simp [*]; done))) | refine skip_then ?_ | refine AW_seq ?_ | refine AW_block ?_)
      refine step_tree ?_; (apply m_call (exChoose7_spec (many + j) many (by omega) (by omega))); (· repeat (first | exact lends_nil | (refine lends_cons ?_ ?_; (· exact lend_v))))
      repeat (first | ((first | refine step_ops ?_ | refine step_tree ?_); (first | (refine m_mov (by conv => lhs; whnf) ?_) | (refine m_eql rfl rfl ?_) | (refine m_add rfl rfl ?_ ?_ ?_; (· omega); (· omega)) | (refine m_sub rfl rfl ?_ ?_ ?_; (· omega); (· omega)) | (refine m_mul rfl rfl ?_ ?_ ?_; (· first | omega | (simp; done)); (· first | omega | (simp; done))) | (refine m_rem rfl rfl ?_ ?_ ?_; (· omega); (· omega)))) | refine end_ops ?_ | refine seq_ops ?_ | refine AW_ops ?_ | refine end_tree ?_ | (refine cond_f rfl ?_ ?_; (· first | rfl | assumption | (refine decide_eq_false ?_; first | assumption | omega) | (refine nf ?_; first | assumption | omega) | (simp [*]; done))) | refine skip_then ?_ | refine AW_seq ?_ | refine norm_then ?_ | refine norm_block ?_)
      rw [show ((many + j : Nat) : Int) - (many : Int) = (j : Int) by omega]
      skip
      refine next_round (j + 1) (by omega) (weak_st ?_ ?_ rfl rfl) ?_
      · rw [hse]
        (repeat' (first | exact trivial | refine And.intro ?_ ?_)) <;> (first | rfl | skip)
      · trivial
      · omega
  · obtain rfl : j = told.length - many := by omega
    repeat (first | (refine step_ops ?_; (first | (refine m_mov (by conv => lhs; whnf) ?_) | (refine m_lss rfl rfl ?_) | (refine m_len_ro rfl ?_))) | refine end_ops ?_ | refine seq_ops ?_ | (refine cond_f rfl ?_ ?_; (· first | rfl | assumption | (refine decide_eq_false ?_; first | assumption | omega) | (refine nf ?_; first | assumption | omega) | (simp [*]; done))) | refine AW_seq ?_ | refine AW_ret ?_ | refine ret_done ?_ | refine norm_then ?_ | refine exit_then ?_ | refine exit_round ?_ | refine AW_exit ?_ | refine exit_block ?_)
    exact outs_i rfl
theorem taRound_spec (c : Nat) (h1 : 1 ≤ c) (h7 : c ≤ 7) : Sp Tryz.prog 33 [.i c] (newInts (roundS c (c + 1))) := by
  refine spec_of Tryz.func33 rfl cc33 rfl ?_
  unfold ac33
  repeat (first | (refine step_ops ?_; (first | (refine m_mov (by conv => lhs; whnf) ?_) | (refine m_nils ?_))) | refine end_ops ?_ | refine seq_ops ?_ | refine AW_seq ?_ | refine AW_block ?_)
  refine AW_loop (α := Nat) (fun k => k ≤ c + 1) (fun k => st [(0, .i c), (4, .i k), (3, .sl 3 1 0 (roundS c k).length)] [(3, (true, (roundS c k).map AV.i))]) (fun k => c + 1 - k) 0 (by omega) (weak_st ?_ ?_ rfl rfl) ?_
  · (repeat' (first | exact trivial | refine And.intro ?_ ?_)) <;> (first | rfl | skip)
  · exact ⟨rfl, trivial⟩
  intro k hk
  have hlen := roundS_len c k
  have hsn := roundS_snoc c k
  by_cases hc : (k : Int) ≤ c
  · have hb := told_le c (by omega) k (by omega)
    by_cases hone : (c : Int) = 1
    · rw [if_pos (by omega)] at hsn
      have hwr : 2 * (c : Int) - (k : Int) - 1 = ((2 * c - k - 1 : Nat) : Int) := by omega
      repeat (first | (refine step_ops ?_; (first | (refine m_mov (by conv => lhs; whnf) ?_) | (refine m_leq rfl rfl ?_) | (refine m_sub rfl rfl ?_ ?_ ?_; (· omega); (· omega)) | (refine m_mul rfl rfl ?_ ?_ ?_; (· first | omega | (simp; done)); (· first | omega | (simp; done))))) | refine end_ops ?_ | refine seq_ops ?_ | (refine cond_t rfl ?_ ?_; (· first | rfl | assumption | (refine decide_eq_true ?_; first | assumption | omega) | (refine nt ?_; first | assumption | omega) | (simp [*]; done))) | refine skip_then ?_ | refine AW_seq ?_ | refine AW_block ?_)
      rw [hwr]
      (refine step_ops ?_); (apply m_call (exTimes14_spec (2 * c - k - 1) (by omega))); (· repeat (first | exact lends_nil | (refine lends_cons ?_ ?_; (· exact lend_v))))
      repeat (first | (refine step_ops ?_; (first | (refine m_mov (by conv => lhs; whnf) ?_) | (refine m_eql rfl rfl ?_) | (refine m_add rfl rfl ?_ ?_ ?_; (· omega); (· omega)) | (refine m_bsl1 rfl rfl ?_) | (refine m_app1i rfl (by decide) (by rfl) (by first | rfl | omega | (simp; done)) rfl rfl ?_ (by decide) ?_; (· first | omega | (simp; omega))))) | refine end_ops ?_ | refine seq_ops ?_ | refine AW_ops ?_ | (refine cond_t rfl ?_ ?_; (· first | rfl | assumption | (refine decide_eq_true ?_; first | assumption | omega) | (refine nt ?_; first | assumption | omega) | (simp [*]; done))) | refine AW_seq ?_ | refine norm_then ?_ | refine exit_then ?_ | refine AW_exit ?_ | refine exit_block ?_)
      refine next_round (k + 1) (by omega) (Weak.trans (weak_move (r := 21) (q := 3) rfl (by decide) (by decide)) (weak_st ?_ ?_ rfl rfl)) ?_
      · rw [hsn]
        (repeat' (first | exact trivial | refine And.intro ?_ ?_)) <;> (first | rfl | skip)
      · rw [hsn]
        exact ⟨rfl, trivial⟩
      · omega
    · rw [if_neg (by omega)] at hsn
      have hb2 := hb.2.2.2
      have hte : toldT facM c k = chx c k k * 2 ^ k * fac (2 * c - k - 1) := rfl
      rw [hte] at hsn hb2
      have hwr : 2 * (c : Int) - (k : Int) - 1 = ((2 * c - k - 1 : Nat) : Int) := by omega
      repeat (first | (refine step_ops ?_; (first | (refine m_mov (by conv => lhs; whnf) ?_) | (refine m_leq rfl rfl ?_) | (refine m_sub rfl rfl ?_ ?_ ?_; (· omega); (· omega)) | (refine m_mul rfl rfl ?_ ?_ ?_; (· first | omega | (simp; done)); (· first | omega | (simp; done))))) | refine end_ops ?_ | refine seq_ops ?_ | (refine cond_t rfl ?_ ?_; (· first | rfl | assumption | (refine decide_eq_true ?_; first | assumption | omega) | (refine nt ?_; first | assumption | omega) | (simp [*]; done))) | refine skip_then ?_ | refine AW_seq ?_ | refine AW_block ?_)
      rw [hwr]
      (refine step_ops ?_); (apply m_call (exTimes14_spec (2 * c - k - 1) (by omega))); (· repeat (first | exact lends_nil | (refine lends_cons ?_ ?_; (· exact lend_v))))
      repeat (first | (refine step_ops ?_; (first | (refine m_mov (by conv => lhs; whnf) ?_) | (refine m_eql rfl rfl ?_))) | refine end_ops ?_ | refine seq_ops ?_ | refine AW_ops ?_ | (refine cond_f rfl ?_ ?_; (· first | rfl | assumption | (refine decide_eq_false ?_; first | assumption | omega) | (refine nf ?_; first | assumption | omega) | (simp [*]; done))) | refine skip_then ?_ | refine AW_seq ?_)
      (refine step_ops ?_); (apply m_call (exChoose7_spec c k (by omega) (by omega))); (· repeat (first | exact lends_nil | (refine lends_cons ?_ ?_; (· exact lend_v))))
      repeat (refine step_ops ?_; (refine m_mov (by conv => lhs; whnf) ?_))
      (refine step_ops ?_); (apply m_call (taPower_spec k (by omega))); (· repeat (first | exact lends_nil | (refine lends_cons ?_ ?_; (· exact lend_v))))
      repeat (first | (refine step_ops ?_; (first | (refine m_mov (by conv => lhs; whnf) ?_) | (refine m_add rfl rfl ?_ ?_ ?_; (· omega); (· omega)) | (refine m_mul rfl rfl ?_ ?_ ?_; (· first | omega | (simp; done)); (· first | omega | (simp; done))) | (refine m_bsl1 rfl rfl ?_) | (refine m_app1i rfl (by decide) (by rfl) (by first | rfl | omega | (simp; done)) rfl rfl ?_ (by decide) ?_; (· first | omega | (simp; omega))))) | refine end_ops ?_ | refine AW_ops ?_ | refine norm_then ?_ | refine norm_block ?_)
      refine next_round (k + 1) (by omega) (Weak.trans (weak_move (r := 32) (q := 3) rfl (by decide) (by decide)) (weak_st ?_ ?_ rfl rfl)) ?_
      · rw [hsn]
        (repeat' (first | exact trivial | refine And.intro ?_ ?_)) <;> (first | rfl | skip)
      · rw [hsn]
        exact ⟨rfl, trivial⟩
      · omega
  · obtain rfl : k = c + 1 := by omega
    repeat (first | (refine step_ops ?_; (first | (refine m_mov (by conv => lhs; whnf) ?_) | (refine m_leq rfl rfl ?_))) | refine end_ops ?_ | refine seq_ops ?_ | (refine cond_f rfl ?_ ?_; (· first | rfl | assumption | (refine decide_eq_false ?_; first | assumption | omega) | (refine nf ?_; first | assumption | omega) | (simp [*]; done))) | refine AW_seq ?_ | refine AW_ret ?_ | refine ret_done ?_ | refine norm_then ?_ | refine exit_then ?_ | refine exit_round ?_ | refine AW_exit ?_ | refine exit_block ?_)
    exact outs_ints rfl rfl rfl
def TogOk (c t : Int) : Prop := (1 ≤ c ∧ c ≤ 7) ∧ 0 ≤ t ∧ t ≤ c
instance (c t : Int) : Decidable (TogOk c t) := inferInstanceAs (Decidable (_ ∧ _))
def togNum (c t : Int) : Int := if TogOk c t then exactS (roundS c.toNat (c.toNat + 1)) t.toNat else 0
def rowNum (c t : Int) : Int := if TogOk c t then exactS (rowS c.toNat (c.toNat + 1)) t.toNat else 0
theorem canBeTogether_spec (c t : Int) : Sp Tryz.prog 28 [.i c, .i t] (.b (decide (TogOk c t))) := by
  refine spec_of Tryz.func28 rfl cc28 rfl ?_
  unfold ac28
  by_cases h1 : 1 ≤ c ∧ c ≤ 7
  · by_cases h2 : 0 ≤ t
    · repeat (first | (refine step_ops ?_; (refine m_mov (by conv => lhs; whnf) ?_)) | refine end_ops ?_ | refine seq_ops ?_)
      (refine step_ops ?_); (apply m_call (isCoupleCount_spec _)); (· repeat (first | exact lends_nil | (refine lends_cons ?_ ?_; (· exact lend_v))))
      repeat (first | (refine step_ops ?_; ((try (refine g_yes rfl ?_ ?_; (· first | rfl | assumption | (refine decide_eq_true ?_; first | assumption | omega) | (refine nt ?_; first | assumption | omega) | (simp [*]; done) | (refine decide_eq_false ?_; first | assumption | omega) | (refine nf ?_; first | assumption | omega)))); (first | (refine m_mov (by conv => lhs; whnf) ?_) | (refine m_leq rfl rfl ?_) | (refine m_geq rfl rfl ?_) | (refine m_pick_t rfl ?_ (by conv => lhs; whnf) ?_; (· first | rfl | assumption | (refine decide_eq_true ?_; first | assumption | omega) | (refine nt ?_; first | assumption | omega) | (simp [*]; done)))))) | refine end_ops ?_ | refine AW_ret ?_ | refine ret_done ?_)
      refine outs_b ?_
      unfold TogOk
      simp [h1, h2]
    · repeat (first | (refine step_ops ?_; (refine m_mov (by conv => lhs; whnf) ?_)) | refine end_ops ?_ | refine seq_ops ?_)
      (refine step_ops ?_); (apply m_call (isCoupleCount_spec _)); (· repeat (first | exact lends_nil | (refine lends_cons ?_ ?_; (· exact lend_v))))
      repeat (first | (refine step_ops ?_; (first | ((try (refine g_yes rfl ?_ ?_; (· first | rfl | assumption | (refine decide_eq_true ?_; first | assumption | omega) | (refine nt ?_; first | assumption | omega) | (simp [*]; done) | (refine decide_eq_false ?_; first | assumption | omega) | (refine nf ?_; first | assumption | omega)))); (first | (refine m_mov (by conv => lhs; whnf) ?_) | (refine m_geq rfl rfl ?_) | (refine m_pick_t rfl ?_ (by conv => lhs; whnf) ?_; (· first | rfl | assumption | (refine decide_eq_true ?_; first | assumption | omega) | (refine nt ?_; first | assumption | omega) | (simp [*]; done))) | (refine m_pick_f rfl ?_ (by conv => lhs; whnf) ?_; (· first | rfl | assumption | (refine decide_eq_false ?_; first | assumption | omega) | (refine nf ?_; first | assumption | omega) | (simp [*]; done))))) | (refine g_noT rfl ?_ ?_; (· first | rfl | assumption | (refine decide_eq_false ?_; first | assumption | omega) | (refine nf ?_; first | assumption | omega) | (simp [*]; done))))) | refine end_ops ?_ | refine AW_ret ?_ | refine ret_done ?_)
      refine outs_b ?_
      symm
      exact decide_eq_false fun h => h2 h.2.1
  · repeat (first | (refine step_ops ?_; (refine m_mov (by conv => lhs; whnf) ?_)) | refine end_ops ?_ | refine seq_ops ?_)
    (refine step_ops ?_); (apply m_call (isCoupleCount_spec _)); (· repeat (first | exact lends_nil | (refine lends_cons ?_ ?_; (· exact lend_v))))
    repeat (first | (refine step_ops ?_; (first | (first | (refine m_mov (by conv => lhs; whnf) ?_) | (refine m_pick_f rfl ?_ (by conv => lhs; whnf) ?_; (· first | rfl | assumption | (refine decide_eq_false ?_; first | assumption | omega) | (refine nf ?_; first | assumption | omega) | (simp [*]; done)))) | (refine g_noT rfl ?_ ?_; (· first | rfl | assumption | (refine decide_eq_false ?_; first | assumption | omega) | (refine nf ?_; first | assumption | omega) | (simp [*]; done))))) | refine end_ops ?_ | refine AW_ret ?_ | refine ret_done ?_)
    refine outs_b ?_
    symm
    exact decide_eq_false fun h => h1 h.1
theorem specCountTogether_spec (c t : Int) : Sp Tryz.prog 7 [.i c, .i t] (.tup [.i (togNum c t), .b (decide (TogOk c t))]) := by
  refine spec_of Tryz.func7 rfl cc7 rfl ?_
  unfold ac7
  by_cases h1 : 1 ≤ c ∧ c ≤ 7
  · by_cases h2 : 0 ≤ t ∧ t ≤ c
    · have hok : TogOk c t := ⟨h1, h2⟩
      have e : togNum c t = _ := if_pos hok
      rw [e]
      obtain ⟨n, rfl⟩ := Int.eq_ofNat_of_zero_le (show 0 ≤ c by omega)
      obtain ⟨m, rfl⟩ := Int.eq_ofNat_of_zero_le h2.1
      have hlen := roundS_len n (n + 1)
      rw [Int.toNat_natCast, Int.toNat_natCast]
      repeat (first | (refine step_ops ?_; (refine m_mov (by conv => lhs; whnf) ?_)) | refine end_ops ?_ | refine seq_ops ?_ | refine AW_seq ?_)
      (refine step_ops ?_); (apply m_call (taCouples_spec _)); (· repeat (first | exact lends_nil | (refine lends_cons ?_ ?_; (· exact lend_v))))
      repeat (refine step_ops ?_; ((try (refine g_yes rfl ?_ ?_; (· first | rfl | assumption | (refine decide_eq_true ?_; first | assumption | omega) | (refine nt ?_; first | assumption | omega) | (simp [*]; done) | (refine decide_eq_false ?_; first | assumption | omega) | (refine nf ?_; first | assumption | omega)))); (first | (refine m_mov (by conv => lhs; whnf) ?_) | (refine m_not rfl ?_))))
      (refine step_ops ?_); (refine g_yes rfl ?_ ?_; (· first | (first | rfl | assumption | (refine decide_eq_true ?_; first | assumption | omega) | (refine nt ?_; first | assumption | omega) | (simp [*]; done)) | (first | rfl | assumption | (refine decide_eq_false ?_; first | assumption | omega) | (refine nf ?_; first | assumption | omega) | (simp [*]; done))); (apply m_call (l1In_spec _ _ _))); (· repeat (first | exact lends_nil | (refine lends_cons ?_ ?_; (· exact lend_v))))
      repeat (first | (refine step_ops ?_; ((try (refine g_yes rfl ?_ ?_; (· first | rfl | assumption | (refine decide_eq_true ?_; first | assumption | omega) | (refine nt ?_; first | assumption | omega) | (simp [*]; done) | (refine decide_eq_false ?_; first | assumption | omega) | (refine nf ?_; first | assumption | omega)))); (first | (refine m_mov (by conv => lhs; whnf) ?_) | (refine m_not rfl ?_) | (refine m_pick_f rfl ?_ (by conv => lhs; whnf) ?_; (· first | rfl | assumption | (refine decide_eq_false ?_; first | assumption | omega) | (refine nf ?_; first | assumption | omega) | (simp [*]; done)))))) | refine end_ops ?_ | refine seq_ops ?_ | (refine cond_f rfl ?_ ?_; (· first | rfl | assumption | (refine decide_eq_false ?_; first | assumption | omega) | (refine nf ?_; first | assumption | omega) | (simp [*]; done))) | refine skip_then ?_)
      (refine step_ops ?_); (apply m_call (taRound_spec n (by omega) (by omega))); (· repeat (first | exact lends_nil | (refine lends_cons ?_ ?_; (· exact lend_v))))
      repeat (refine step_ops ?_; (refine m_mov (by conv => lhs; whnf) ?_))
      (refine step_ops ?_); (apply m_call (taExactly_spec (roundS n (n + 1)) m (by omega) (by omega) (exok_round n (by omega) m (by omega)))); (· repeat (first | exact lends_nil | (refine lends_cons ?_ ?_; (· (first | exact lend_v | (refine lend_ints ?_; first | rfl | omega))))))
      repeat (first | (refine step_ops ?_; (refine m_mov (by conv => lhs; whnf) ?_)) | refine end_ops ?_ | refine AW_ret ?_ | refine ret_done ?_)
      exact outs_tup2 (outs_i rfl) (outs_b (decide_eq_true hok).symm)
    · have hok : ¬ TogOk c t := fun h => h2 h.2
      have e : togNum c t = 0 := if_neg hok
      rw [e]
      repeat (first | (refine step_ops ?_; (refine m_mov (by conv => lhs; whnf) ?_)) | refine end_ops ?_ | refine seq_ops ?_ | refine AW_seq ?_)
      (refine step_ops ?_); (apply m_call (taCouples_spec _)); (· repeat (first | exact lends_nil | (refine lends_cons ?_ ?_; (· exact lend_v))))
      repeat (refine step_ops ?_; ((try (refine g_yes rfl ?_ ?_; (· first | rfl | assumption | (refine decide_eq_true ?_; first | assumption | omega) | (refine nt ?_; first | assumption | omega) | (simp [*]; done) | (refine decide_eq_false ?_; first | assumption | omega) | (refine nf ?_; first | assumption | omega)))); (first | (refine m_mov (by conv => lhs; whnf) ?_) | (refine m_not rfl ?_))))
      (refine step_ops ?_); (refine g_yes rfl ?_ ?_; (· first | (first | rfl | assumption | (refine decide_eq_true ?_; first | assumption | omega) | (refine nt ?_; first | assumption | omega) | (simp [*]; done)) | (first | rfl | assumption | (refine decide_eq_false ?_; first | assumption | omega) | (refine nf ?_; first | assumption | omega) | (simp [*]; done))); (apply m_call (l1In_spec _ _ _))); (· repeat (first | exact lends_nil | (refine lends_cons ?_ ?_; (· exact lend_v))))
      repeat (first | (refine step_ops ?_; ((try (refine g_yes rfl ?_ ?_; (· first | rfl | assumption | (refine decide_eq_true ?_; first | assumption | omega) | (refine nt ?_; first | assumption | omega) | (simp [*]; done) | (refine decide_eq_false ?_; first | assumption | omega) | (refine nf ?_; first | assumption | omega)))); (first | (refine m_mov (by conv => lhs; whnf) ?_) | (refine m_not rfl ?_) | (refine m_pick_f rfl ?_ (by conv => lhs; whnf) ?_; (· first | rfl | assumption | (refine decide_eq_false ?_; first | assumption | omega) | (refine nf ?_; first | assumption | omega) | (simp [*]; done)))))) | refine end_ops ?_ | refine seq_ops ?_ | (refine cond_t rfl ?_ ?_; (· first | rfl | assumption | (refine decide_eq_true ?_; first | assumption | omega) | (refine nt ?_; first | assumption | omega) | (simp [*]; done))) | refine AW_ret ?_ | refine ret_done ?_ | refine ret_then ?_)
      exact outs_tup2 (outs_i rfl) (outs_b (decide_eq_false hok).symm)
  · have hok : ¬ TogOk c t := fun h => h1 h.1
    have e : togNum c t = 0 := if_neg hok
    rw [e]
    repeat (first | (refine step_ops ?_; (refine m_mov (by conv => lhs; whnf) ?_)) | refine end_ops ?_ | refine seq_ops ?_ | refine AW_seq ?_)
    (refine step_ops ?_); (apply m_call (taCouples_spec _)); (· repeat (first | exact lends_nil | (refine lends_cons ?_ ?_; (· exact lend_v))))
    repeat (first | (refine step_ops ?_; (first | (first | (refine m_mov (by conv => lhs; whnf) ?_) | (refine m_not rfl ?_) | (refine m_pick_t rfl ?_ (by conv => lhs; whnf) ?_; (· first | rfl | assumption | (refine decide_eq_true ?_; first | assumption | omega) | (refine nt ?_; first | assumption | omega) | (simp [*]; done)))) | (refine g_noF rfl ?_ ?_; (· first | rfl | assumption | (refine decide_eq_true ?_; first | assumption | omega) | (refine nt ?_; first | assumption | omega) | (simp [*]; done))))) | refine end_ops ?_ | refine seq_ops ?_ | (refine cond_t rfl ?_ ?_; (· first | rfl | assumption | (refine decide_eq_true ?_; first | assumption | omega) | (refine nt ?_; first | assumption | omega) | (simp [*]; done))) | refine AW_ret ?_ | refine ret_done ?_ | refine ret_then ?_)
    exact outs_tup2 (outs_i rfl) (outs_b (decide_eq_false hok).symm)
theorem implCountTogether_spec (c t : Int) : Sp Tryz.prog 6 [.i c, .i t] (.tup [.i (togNum c t), .b (decide (TogOk c t))]) := by
  refine spec_of Tryz.func6 rfl cc6 rfl ?_
  unfold ac6
  by_cases hok : TogOk c t
  · have e : togNum c t = _ := if_pos hok
    rw [e]
    obtain ⟨h1, h2⟩ := id hok
    obtain ⟨n, rfl⟩ := Int.eq_ofNat_of_zero_le (show 0 ≤ c by omega)
    obtain ⟨m, rfl⟩ := Int.eq_ofNat_of_zero_le h2.1
    rw [Int.toNat_natCast, Int.toNat_natCast, ← round_same n (by omega) (by omega) m (by omega)]
    have hlen := roundL_len n (by omega) (by omega)
    repeat (first | (refine step_ops ?_; (refine m_mov (by conv => lhs; whnf) ?_)) | refine end_ops ?_ | refine seq_ops ?_ | refine AW_seq ?_)
    (refine step_ops ?_); (apply m_call (canBeTogether_spec _ _)); (· repeat (first | exact lends_nil | (refine lends_cons ?_ ?_; (· exact lend_v))))
    repeat (first | (refine step_ops ?_; (first | (refine m_mov (by conv => lhs; whnf) ?_) | (refine m_not rfl ?_))) | refine end_ops ?_ | refine seq_ops ?_ | (refine cond_f rfl ?_ ?_; (· first | rfl | assumption | (refine decide_eq_false ?_; first | assumption | omega) | (refine nf ?_; first | assumption | omega) | (simp [*]; done))) | refine skip_then ?_)
    (refine step_ops ?_); (apply m_callo (roundNumbers_spec n (by omega) (by omega))); (· repeat (first | exact lends_nil | (refine lends_cons ?_ ?_; (· exact lend_v)))); (· first | exact allv_ints _ | rfl | (simp; done))
    repeat (first | (refine step_ops ?_; (first | (refine m_mov (by conv => lhs; whnf) ?_) | (refine m_idx1_sl rfl rfl ?_ ?_; (· omega)) | (refine m_ld_pti rfl (by rfl) ?_ ?_; (· first | omega | (simp; omega))))) | refine end_ops ?_ | refine AW_ret ?_ | refine ret_done ?_)
    exact outs_tup2 (outs_i rfl) (outs_b (decide_eq_true hok).symm)
  · have e : togNum c t = 0 := if_neg hok
    rw [e]
    repeat (first | (refine step_ops ?_; (refine m_mov (by conv => lhs; whnf) ?_)) | refine end_ops ?_ | refine seq_ops ?_ | refine AW_seq ?_)
    (refine step_ops ?_); (apply m_call (canBeTogether_spec _ _)); (· repeat (first | exact lends_nil | (refine lends_cons ?_ ?_; (· exact lend_v))))
    repeat (first | (refine step_ops ?_; (first | (refine m_mov (by conv => lhs; whnf) ?_) | (refine m_not rfl ?_))) | refine end_ops ?_ | refine seq_ops ?_ | (refine cond_t rfl ?_ ?_; (· first | rfl | assumption | (refine decide_eq_true ?_; first | assumption | omega) | (refine nt ?_; first | assumption | omega) | (simp [*]; done))) | refine AW_ret ?_ | refine ret_done ?_ | refine ret_then ?_)
    exact outs_tup2 (outs_i rfl) (outs_b (decide_eq_false hok).symm)
theorem specCountInRow_spec (c t : Int) : Sp Tryz.prog 9 [.i c, .i t] (.tup [.i (rowNum c t), .b (decide (TogOk c t))]) := by
  refine spec_of Tryz.func9 rfl cc9 rfl ?_
  unfold ac9
  by_cases h1 : 1 ≤ c ∧ c ≤ 7
  · by_cases h2 : 0 ≤ t ∧ t ≤ c
    · have hok : TogOk c t := ⟨h1, h2⟩
      have e : rowNum c t = _ := if_pos hok
      rw [e]
      obtain ⟨n, rfl⟩ := Int.eq_ofNat_of_zero_le (show 0 ≤ c by omega)
      obtain ⟨m, rfl⟩ := Int.eq_ofNat_of_zero_le h2.1
      rw [Int.toNat_natCast, Int.toNat_natCast]
      repeat (first | (refine step_ops ?_; (refine m_mov (by conv => lhs; whnf) ?_)) | refine end_ops ?_ | refine seq_ops ?_ | refine AW_seq ?_)
      (refine step_ops ?_); (apply m_call (taCouples_spec _)); (· repeat (first | exact lends_nil | (refine lends_cons ?_ ?_; (· exact lend_v))))
      repeat (refine step_ops ?_; ((try (refine g_yes rfl ?_ ?_; (· first | rfl | assumption | (refine decide_eq_true ?_; first | assumption | omega) | (refine nt ?_; first | assumption | omega) | (simp [*]; done) | (refine decide_eq_false ?_; first | assumption | omega) | (refine nf ?_; first | assumption | omega)))); (first | (refine m_mov (by conv => lhs; whnf) ?_) | (refine m_not rfl ?_))))
      (refine step_ops ?_); (refine g_yes rfl ?_ ?_; (· first | (first | rfl | assumption | (refine decide_eq_true ?_; first | assumption | omega) | (refine nt ?_; first | assumption | omega) | (simp [*]; done)) | (first | rfl | assumption | (refine decide_eq_false ?_; first | assumption | omega) | (refine nf ?_; first | assumption | omega) | (simp [*]; done))); (apply m_call (l1In_spec _ _ _))); (· repeat (first | exact lends_nil | (refine lends_cons ?_ ?_; (· exact lend_v))))
      repeat (first | (refine step_ops ?_; ((try (refine g_yes rfl ?_ ?_; (· first | rfl | assumption | (refine decide_eq_true ?_; first | assumption | omega) | (refine nt ?_; first | assumption | omega) | (simp [*]; done) | (refine decide_eq_false ?_; first | assumption | omega) | (refine nf ?_; first | assumption | omega)))); (first | (refine m_mov (by conv => lhs; whnf) ?_) | (refine m_not rfl ?_) | (refine m_pick_f rfl ?_ (by conv => lhs; whnf) ?_; (· first | rfl | assumption | (refine decide_eq_false ?_; first | assumption | omega) | (refine nf ?_; first | assumption | omega) | (simp [*]; done))) | (refine m_nils ?_)))) | refine end_ops ?_ | refine seq_ops ?_ | (refine cond_f rfl ?_ ?_; (· first | rfl | assumption | (refine decide_eq_false ?_; first | assumption | omega) | (refine nf ?_; first | assumption | omega) | (simp [*]; done))) | refine skip_then ?_ | refine AW_seq ?_ | refine AW_block ?_)
      refine AW_loop (α := Nat) (fun k => k ≤ n + 1) (fun k => st [(0, .i n), (1, .i m), (7, .i k), (6, .sl 6 1 0 (rowS n k).length)] [(6, (true, (rowS n k).map AV.i))]) (fun k => n + 1 - k) 0 (by omega) (weak_st ?_ ?_ rfl rfl) ?_
      · (repeat' (first | exact trivial | refine And.intro ?_ ?_)) <;> (first | rfl | skip)
      · exact ⟨rfl, trivial⟩
      intro k hk
      have hlen := rowS_len n k
      have hsn := rowS_snoc n k
      by_cases hc : (k : Int) ≤ n
      · have hb := told_le n (by omega) k (by omega)
        have hb2 := hb.2.2.1
        have hte : toldT fac n k = chx n k k * 2 ^ k * fac (2 * n - k) := rfl
        rw [hte] at hsn hb2
        have hwr : 2 * (n : Int) - (k : Int) = ((2 * n - k : Nat) : Int) := by omega
        repeat (first | (refine step_ops ?_; (first | (refine m_mov (by conv => lhs; whnf) ?_) | (refine m_leq rfl rfl ?_))) | refine end_ops ?_ | refine seq_ops ?_ | refine AW_ops ?_ | (refine cond_t rfl ?_ ?_; (· first | rfl | assumption | (refine decide_eq_true ?_; first | assumption | omega) | (refine nt ?_; first | assumption | omega) | (simp [*]; done))) | refine skip_then ?_ | refine AW_seq ?_ | refine AW_block ?_)
        (refine step_ops ?_); (apply m_call (exChoose7_spec n k (by omega) (by omega))); (· repeat (first | exact lends_nil | (refine lends_cons ?_ ?_; (· exact lend_v))))
        repeat (refine step_ops ?_; (refine m_mov (by conv => lhs; whnf) ?_))
        (refine step_ops ?_); (apply m_call (taPower_spec k (by omega))); (· repeat (first | exact lends_nil | (refine lends_cons ?_ ?_; (· exact lend_v))))
        repeat (refine step_ops ?_; (first | (refine m_mov (by conv => lhs; whnf) ?_) | (refine m_sub rfl rfl ?_ ?_ ?_; (· omega); (· omega)) | (refine m_mul rfl rfl ?_ ?_ ?_; (· first | omega | (simp; done)); (· first | omega | (simp; done)))))
        rw [hwr]
        (refine step_ops ?_); (apply m_call (exTimes14_spec (2 * n - k) (by omega))); (· repeat (first | exact lends_nil | (refine lends_cons ?_ ?_; (· exact lend_v))))
        repeat (first | (refine step_ops ?_; (first | (refine m_mov (by conv => lhs; whnf) ?_) | (refine m_add rfl rfl ?_ ?_ ?_; (· omega); (· omega)) | (refine m_mul rfl rfl ?_ ?_ ?_; (· first | omega | (simp; done)); (· first | omega | (simp; done))) | (refine m_bsl1 rfl rfl ?_) | (refine m_app1i rfl (by decide) (by rfl) (by first | rfl | omega | (simp; done)) rfl rfl ?_ (by decide) ?_; (· first | omega | (simp; omega))))) | refine end_ops ?_ | refine AW_ops ?_ | refine norm_then ?_ | refine norm_block ?_)
        refine next_round (k + 1) (by omega) (Weak.trans (weak_move (r := 36) (q := 6) rfl (by decide) (by decide)) (weak_st ?_ ?_ rfl rfl)) ?_
        · rw [hsn]
          (repeat' (first | exact trivial | refine And.intro ?_ ?_)) <;> (first | rfl | skip)
        · rw [hsn]
          exact ⟨rfl, trivial⟩
        · omega
      · obtain rfl : k = n + 1 := by omega
        repeat (first | (refine step_ops ?_; (first | (refine m_mov (by conv => lhs; whnf) ?_) | (refine m_leq rfl rfl ?_))) | refine end_ops ?_ | refine seq_ops ?_ | (refine cond_f rfl ?_ ?_; (· first | rfl | assumption | (refine decide_eq_false ?_; first | assumption | omega) | (refine nf ?_; first | assumption | omega) | (simp [*]; done))) | refine AW_seq ?_ | refine norm_then ?_ | refine exit_then ?_ | refine exit_round ?_ | refine AW_exit ?_ | refine exit_block ?_)
        (refine step_ops ?_); (apply m_call (taExactly_spec (rowS n (n + 1)) m (by omega) (by omega) (exok_row n (by omega) m (by omega)))); (· repeat (first | exact lends_nil | (refine lends_cons ?_ ?_; (· (first | exact lend_v | (refine lend_sli (by rfl) ?_; first | rfl | omega | (simp; done)))))))
        repeat (first | (refine step_ops ?_; (refine m_mov (by conv => lhs; whnf) ?_)) | refine end_ops ?_ | refine AW_ret ?_ | refine ret_done ?_)
        exact outs_tup2 (outs_i rfl) (outs_b (decide_eq_true hok).symm)
    · have hok : ¬ TogOk c t := fun h => h2 h.2
      have e : rowNum c t = 0 := if_neg hok
      rw [e]
      repeat (first | (refine step_ops ?_; (refine m_mov (by conv => lhs; whnf) ?_)) | refine end_ops ?_ | refine seq_ops ?_ | refine AW_seq ?_)
      (refine step_ops ?_); (apply m_call (taCouples_spec _)); (· repeat (first | exact lends_nil | (refine lends_cons ?_ ?_; (· exact lend_v))))
      repeat (refine step_ops ?_; ((try (refine g_yes rfl ?_ ?_; (· first | rfl | assumption | (refine decide_eq_true ?_; first | assumption | omega) | (refine nt ?_; first | assumption | omega) | (simp [*]; done) | (refine decide_eq_false ?_; first | assumption | omega) | (refine nf ?_; first | assumption | omega)))); (first | (refine m_mov (by conv => lhs; whnf) ?_) | (refine m_not rfl ?_))))
      (refine step_ops ?_); (refine g_yes rfl ?_ ?_; (· first | (first | rfl | assumption | (refine decide_eq_true ?_; first | assumption | omega) | (refine nt ?_; first | assumption | omega) | (simp [*]; done)) | (first | rfl | assumption | (refine decide_eq_false ?_; first | assumption | omega) | (refine nf ?_; first | assumption | omega) | (simp [*]; done))); (apply m_call (l1In_spec _ _ _))); (· repeat (first | exact lends_nil | (refine lends_cons ?_ ?_; (· exact lend_v))))
      repeat (first | (refine step_ops ?_; ((try (refine g_yes rfl ?_ ?_; (· first | rfl | assumption | (refine decide_eq_true ?_; first | assumption | omega) | (refine nt ?_; first | assumption | omega) | (simp [*]; done) | (refine decide_eq_false ?_; first | assumption | omega) | (refine nf ?_; first | assumption | omega)))); (first | (refine m_mov (by conv => lhs; whnf) ?_) | (refine m_not rfl ?_) | (refine m_pick_f rfl ?_ (by conv => lhs; whnf) ?_; (· first | rfl | assumption | (refine decide_eq_false ?_; first | assumption | omega) | (refine nf ?_; first | assumption | omega) | (simp [*]; done)))))) | refine end_ops ?_ | refine seq_ops ?_ | (refine cond_t rfl ?_ ?_; (· first | rfl | assumption | (refine decide_eq_true ?_; first | assumption | omega) | (refine nt ?_; first | assumption | omega) | (simp [*]; done))) | refine AW_ret ?_ | refine ret_done ?_ | refine ret_then ?_)
      exact outs_tup2 (outs_i rfl) (outs_b (decide_eq_false hok).symm)
  · have hok : ¬ TogOk c t := fun h => h1 h.1
    have e : rowNum c t = 0 := if_neg hok
    rw [e]
    repeat (first | (refine step_ops ?_; (refine m_mov (by conv => lhs; whnf) ?_)) | refine end_ops ?_ | refine seq_ops ?_ | refine AW_seq ?_)
    (refine step_ops ?_); (apply m_call (taCouples_spec _)); (· repeat (first | exact lends_nil | (refine lends_cons ?_ ?_; (· exact lend_v))))
    repeat (first | (refine step_ops ?_; (first | (first | (refine m_mov (by conv => lhs; whnf) ?_) | (refine m_not rfl ?_) | (refine m_pick_t rfl ?_ (by conv => lhs; whnf) ?_; (· first | rfl | assumption | (refine decide_eq_true ?_; first | assumption | omega) | (refine nt ?_; first | assumption | omega) | (simp [*]; done)))) | (refine g_noF rfl ?_ ?_; (· first | rfl | assumption | (refine decide_eq_true ?_; first | assumption | omega) | (refine nt ?_; first | assumption | omega) | (simp [*]; done))))) | refine end_ops ?_ | refine seq_ops ?_ | (refine cond_t rfl ?_ ?_; (· first | rfl | assumption | (refine decide_eq_true ?_; first | assumption | omega) | (refine nt ?_; first | assumption | omega) | (simp [*]; done))) | refine AW_ret ?_ | refine ret_done ?_ | refine ret_then ?_)
    exact outs_tup2 (outs_i rfl) (outs_b (decide_eq_false hok).symm)
theorem implCountInRow_spec (c t : Int) : Sp Tryz.prog 8 [.i c, .i t] (.tup [.i (rowNum c t), .b (decide (TogOk c t))]) := by
  refine spec_of Tryz.func8 rfl cc8 rfl ?_
  unfold ac8
  by_cases hok : TogOk c t
  · have e : rowNum c t = _ := if_pos hok
    rw [e]
    obtain ⟨h1, h2⟩ := id hok
    obtain ⟨n, rfl⟩ := Int.eq_ofNat_of_zero_le (show 0 ≤ c by omega)
    obtain ⟨m, rfl⟩ := Int.eq_ofNat_of_zero_le h2.1
    rw [Int.toNat_natCast, Int.toNat_natCast, ← row_same n (by omega) (by omega) m (by omega)]
    have hlen : (rowL n).length = n + 1 := by unfold rowL; rw [jTo_len, chosL_len]
    have hs := togetherNumbers_spec n (by omega) (by omega) 35 fac (orders_fac n (by omega)) (jok_row n (by omega)) (fun k hk => ⟨(chos_le n (by omega) k hk).1, (chos_le n (by omega) k hk).2.1⟩)
    rw [show jTo (chosL fac n) (n + 1) = rowL n from rfl] at hs
    repeat (first | (refine step_ops ?_; (refine m_mov (by conv => lhs; whnf) ?_)) | refine end_ops ?_ | refine seq_ops ?_ | refine AW_seq ?_)
    (refine step_ops ?_); (apply m_call (canBeTogether_spec _ _)); (· repeat (first | exact lends_nil | (refine lends_cons ?_ ?_; (· exact lend_v))))
    repeat (first | (refine step_ops ?_; (first | (refine m_mov (by conv => lhs; whnf) ?_) | (refine m_not rfl ?_))) | refine end_ops ?_ | refine seq_ops ?_ | (refine cond_f rfl ?_ ?_; (· first | rfl | assumption | (refine decide_eq_false ?_; first | assumption | omega) | (refine nf ?_; first | assumption | omega) | (simp [*]; done))) | refine skip_then ?_)
    (refine step_ops ?_); (apply m_callo (hs)); (· repeat (first | exact lends_nil | (refine lends_cons ?_ ?_; (· exact lend_v)))); (· first | exact allv_ints _ | rfl | (simp; done))
    repeat (first | (refine step_ops ?_; (first | (refine m_mov (by conv => lhs; whnf) ?_) | (refine m_idx1_sl rfl rfl ?_ ?_; (· omega)) | (refine m_ld_pti rfl (by rfl) ?_ ?_; (· first | omega | (simp; omega))))) | refine end_ops ?_ | refine AW_ret ?_ | refine ret_done ?_)
    exact outs_tup2 (outs_i rfl) (outs_b (decide_eq_true hok).symm)
  · have e : rowNum c t = 0 := if_neg hok
    rw [e]
    repeat (first | (refine step_ops ?_; (refine m_mov (by conv => lhs; whnf) ?_)) | refine end_ops ?_ | refine seq_ops ?_ | refine AW_seq ?_)
    (refine step_ops ?_); (apply m_call (canBeTogether_spec _ _)); (· repeat (first | exact lends_nil | (refine lends_cons ?_ ?_; (· exact lend_v))))
    repeat (first | (refine step_ops ?_; (first | (refine m_mov (by conv => lhs; whnf) ?_) | (refine m_not rfl ?_))) | refine end_ops ?_ | refine seq_ops ?_ | (refine cond_t rfl ?_ ?_; (· first | rfl | assumption | (refine decide_eq_true ?_; first | assumption | omega) | (refine nt ?_; first | assumption | omega) | (simp [*]; done))) | refine AW_ret ?_ | refine ret_done ?_ | refine ret_then ?_)
    exact outs_tup2 (outs_i rfl) (outs_b (decide_eq_false hok).symm)
/-- The part of all tables with no couple together. -/
def apN (n : Nat) : Nat := ((roundL n).getD 0 0).toNat
def allN (n : Nat) : Nat := (fac (2 * n - 1)).toNat
theorem apN_tab : ∀ n < 8, 1 ≤ n → (roundL n).getD 0 0 = (apN n : Int) ∧ fac (2 * n - 1) = (allN n : Int) ∧ apN n ≤ 10000000000 ∧ 1 ≤ allN n ∧ allN n ≤ 10000000000 := by decide +kernel
def chNum (c : Int) : Int := if 1 ≤ c ∧ c ≤ 7 then (apN c.toNat : Int) / (Nat.gcd (apN c.toNat) (allN c.toNat) : Nat) else 0
def chDen (c : Int) : Int := if 1 ≤ c ∧ c ≤ 7 then (allN c.toNat : Int) / (Nat.gcd (apN c.toNat) (allN c.toNat) : Nat) else 0
theorem specChanceApart_spec (c : Int) : Sp Tryz.prog 18 [.i c] (.tup [.i (chNum c), .i (chDen c), .b (decide (1 ≤ c ∧ c ≤ 7))]) := by
  refine spec_of Tryz.func18 rfl cc18 rfl ?_
  unfold ac18
  by_cases h : 1 ≤ c ∧ c ≤ 7
  · have e1 : chNum c = _ := if_pos h
    have e2 : chDen c = _ := if_pos h
    rw [e1, e2]
    obtain ⟨n, rfl⟩ := Int.eq_ofNat_of_zero_le (show 0 ≤ c by omega)
    rw [Int.toNat_natCast]
    obtain ⟨t1, t2, t3, t4, t5⟩ := apN_tab n (by omega) (by omega)
    have hsm := round_same n (by omega) (by omega) 0 (by omega)
    rw [t1] at hsm
    have hlen := roundS_len n (n + 1)
    have hsp := taExactly_spec (roundS n (n + 1)) 0 (by omega) (by omega) (exok_round n (by omega) 0 (by omega))
    rw [← hsm] at hsp
    have hwr : 2 * (n : Int) - 1 = ((2 * n - 1 : Nat) : Int) := by omega
    repeat (first | (refine step_ops ?_; (refine m_mov (by conv => lhs; whnf) ?_)) | refine end_ops ?_ | refine seq_ops ?_ | refine AW_seq ?_)
    (refine step_ops ?_); (apply m_call (taCouples_spec _)); (· repeat (first | exact lends_nil | (refine lends_cons ?_ ?_; (· exact lend_v))))
    repeat (first | (refine step_ops ?_; (first | (refine m_mov (by conv => lhs; whnf) ?_) | (refine m_not rfl ?_))) | refine end_ops ?_ | refine seq_ops ?_ | (refine cond_f rfl ?_ ?_; (· first | rfl | assumption | (refine decide_eq_false ?_; first | assumption | omega) | (refine nf ?_; first | assumption | omega) | (simp [*]; done))) | refine skip_then ?_)
    (refine step_ops ?_); (apply m_call (taRound_spec n (by omega) (by omega))); (· repeat (first | exact lends_nil | (refine lends_cons ?_ ?_; (· exact lend_v))))
    skip
    (refine step_ops ?_); (apply m_call (hsp)); (· repeat (first | exact lends_nil | (refine lends_cons ?_ ?_; (· (first | exact lend_v | (refine lend_ints ?_; first | rfl | omega))))))
    repeat (refine step_ops ?_; (first | (refine m_mov (by conv => lhs; whnf) ?_) | (refine m_sub rfl rfl ?_ ?_ ?_; (· omega); (· omega)) | (refine m_mul rfl rfl ?_ ?_ ?_; (· first | omega | (simp; done)); (· first | omega | (simp; done)))))
    rw [hwr]
    (refine step_ops ?_); (apply m_call (exTimes14_spec (2 * n - 1) (by omega))); (· repeat (first | exact lends_nil | (refine lends_cons ?_ ?_; (· exact lend_v))))
    rw [t2]
    skip
    (refine step_ops ?_); (apply m_call (exLow_spec (apN n) (allN n) (by omega) (by omega) t4)); (· repeat (first | exact lends_nil | (refine lends_cons ?_ ?_; (· exact lend_v))))
    repeat (first | (refine step_ops ?_; (first | (refine m_mov (by conv => lhs; whnf) ?_) | (refine m_ext rfl rfl ?_))) | refine end_ops ?_ | refine seq_ops ?_ | refine AW_ret ?_ | refine ret_done ?_)
    exact outs_tup3 (outs_i rfl) (outs_i rfl) (outs_b (decide_eq_true h).symm)
  · have e1 : chNum c = 0 := if_neg h
    have e2 : chDen c = 0 := if_neg h
    rw [e1, e2]
    repeat (first | (refine step_ops ?_; (refine m_mov (by conv => lhs; whnf) ?_)) | refine end_ops ?_ | refine seq_ops ?_ | refine AW_seq ?_)
    (refine step_ops ?_); (apply m_call (taCouples_spec _)); (· repeat (first | exact lends_nil | (refine lends_cons ?_ ?_; (· exact lend_v))))
    repeat (first | (refine step_ops ?_; (first | (refine m_mov (by conv => lhs; whnf) ?_) | (refine m_not rfl ?_))) | refine end_ops ?_ | refine seq_ops ?_ | (refine cond_t rfl ?_ ?_; (· first | rfl | assumption | (refine decide_eq_true ?_; first | assumption | omega) | (refine nt ?_; first | assumption | omega) | (simp [*]; done))) | refine AW_ret ?_ | refine ret_done ?_ | refine ret_then ?_)
    exact outs_tup3 (outs_i rfl) (outs_i rfl) (outs_b (decide_eq_false h).symm)
theorem implChanceApart_spec (c : Int) : Sp Tryz.prog 17 [.i c] (.tup [.i (chNum c), .i (chDen c), .b (decide (1 ≤ c ∧ c ≤ 7))]) := by
  refine spec_of Tryz.func17 rfl cc17 rfl ?_
  unfold ac17
  by_cases h : 1 ≤ c ∧ c ≤ 7
  · have e1 : chNum c = _ := if_pos h
    have e2 : chDen c = _ := if_pos h
    rw [e1, e2]
    obtain ⟨n, rfl⟩ := Int.eq_ofNat_of_zero_le (show 0 ≤ c by omega)
    rw [Int.toNat_natCast]
    obtain ⟨t1, t2, t3, t4, t5⟩ := apN_tab n (by omega) (by omega)
    have hlen := roundL_len n (by omega) (by omega)
    have hg : 1 ≤ Nat.gcd (apN n) (allN n) := Nat.gcd_pos_of_pos_right _ t4
    have hcr := countRound_spec n (by omega) (by omega)
    rw [t2] at hcr
    have hpo := partOf_spec (apN n) (allN n) (by omega) (by omega) t4
    have hto := told_spec (low (apN n) (allN n))
    rw [← show ((low (apN n) (allN n)).1 : Int) = (apN n : Int) / (Nat.gcd (apN n) (allN n) : Nat) by simp [low], ← show ((low (apN n) (allN n)).2 : Int) = (allN n : Int) / (Nat.gcd (apN n) (allN n) : Nat) by simp [low]]
    generalize low (apN n) (allN n) = fr at hpo hto ⊢
    unfold fracV at hpo hto
    have t1' : (roundL n).getD ((0 : Int).toNat * 1) 0 = (apN n : Int) := t1
    have t1'' : (roundL n).getD (0 + (0 : Int).toNat * 1) 0 = (apN n : Int) := t1
    repeat (first | (refine step_ops ?_; (refine m_mov (by conv => lhs; whnf) ?_)) | refine end_ops ?_ | refine seq_ops ?_ | refine AW_seq ?_)
    refine step_ops ?_; (apply m_call (isCoupleCount_spec _)); (· repeat (first | exact lends_nil | (refine lends_cons ?_ ?_; (· exact lend_v))))
    repeat (first | ((first | refine step_ops ?_ | refine step_tree ?_); (first | (refine m_mov (by conv => lhs; whnf) ?_) | (refine m_not rfl ?_))) | refine end_ops ?_ | refine seq_tree ?_ | (refine cond_f rfl ?_ ?_; (· first | rfl | assumption | (refine decide_eq_false ?_; first | assumption | omega) | (refine nf ?_; first | assumption | omega) | (simp [*]; done))) | refine skip_then ?_)
    refine step_tree ?_; (apply m_call (roundNumbers_spec n (by omega) (by omega))); (· repeat (first | exact lends_nil | (refine lends_cons ?_ ?_; (· exact lend_v))))
    repeat (refine step_tree ?_; (first | (refine m_mov (by conv => lhs; whnf) ?_) | (refine m_idx_ro rfl rfl ?_ ?_ ?_; (· omega); (· omega)) | (refine m_ld_rpi rfl ?_ ?_; (· omega))))
    refine step_tree ?_; (apply m_call (hcr)); (· repeat (first | exact lends_nil | (refine lends_cons ?_ ?_; (· exact lend_v))))
    skip
    first | rw [t1'] | rw [t1''] | rw [t1]
    refine step_tree ?_; (apply m_call (hpo)); (· repeat (first | exact lends_nil | (refine lends_cons ?_ ?_; (· exact lend_v))))
    skip
    refine step_tree ?_; (apply m_call (hto)); (· repeat (first | exact lends_nil | (refine lends_cons ?_ ?_; (· (refine lend_agg ?_; first | rfl | assumption | (simp [plainV]; done))))))
    repeat (first | (refine step_tree ?_; (first | (refine m_mov (by conv => lhs; whnf) ?_) | (refine m_ext rfl rfl ?_))) | refine end_tree ?_ | refine AW_ret ?_ | refine ret_done ?_)
    exact outs_tup3 (outs_i rfl) (outs_i rfl) (outs_b (decide_eq_true h).symm)
  · have e1 : chNum c = 0 := if_neg h
    have e2 : chDen c = 0 := if_neg h
    rw [e1, e2]
    repeat (first | (refine step_ops ?_; (refine m_mov (by conv => lhs; whnf) ?_)) | refine end_ops ?_ | refine seq_ops ?_ | refine AW_seq ?_)
    refine step_ops ?_; (apply m_call (isCoupleCount_spec _)); (· repeat (first | exact lends_nil | (refine lends_cons ?_ ?_; (· exact lend_v))))
    repeat (first | (refine step_ops ?_; (first | (refine m_mov (by conv => lhs; whnf) ?_) | (refine m_not rfl ?_))) | refine end_ops ?_ | refine seq_ops ?_ | (refine cond_t rfl ?_ ?_; (· first | rfl | assumption | (refine decide_eq_true ?_; first | assumption | omega) | (refine nt ?_; first | assumption | omega) | (simp [*]; done))) | refine AW_ret ?_ | refine ret_done ?_ | refine ret_then ?_)
    exact outs_tup3 (outs_i rfl) (outs_i rfl) (outs_b (decide_eq_false h).symm)
end Go.Proofs.YtmmcldbldbpikaaGreatDoor
namespace Go.Proofs.YtmmcldbldbpikaaGreatDoor
variable [Go.Am.CodeBlk]
open Go.Am
attribute [local irreducible] AW Outs Weak Lends Lend Sp aops atree aop1 Then Round InBlock Done
attribute [local irreducible] SpH SpX DoneH DoneX
theorem cpl_good : ∀ c < 8, 1 ≤ c → GoodBd (bdT (cplAt c) c c) ∧ sdB (bdT (cplAt c) c c) = c ∧ (bdT (cplAt c) c c).length ≤ 1000 := by decide +kernel
def cplH (c : Nat) : List Int := hitL (bdT (cplAt c) c c)
/-- The code's numbers behind k rounds. -/
def cplK (c k : Nat) : List Int := ((cplH c).take k).map (· * fac (c - 1)) ++ (cplH c).drop k
theorem cplK_ok : ∀ c < 8, 1 ≤ c → (cplH c).length = c + 1 ∧ ∀ k < c + 1, (0 ≤ (cplK c k).getD k 0 ∧ (cplK c k).getD k 0 ≤ 5040) ∧ (0 ≤ (cplK c k).getD k 0 * fac (c - 1) ∧ (cplK c k).getD k 0 * fac (c - 1) ≤ 100000000) ∧ (cplK c k).set k ((cplK c k).getD k 0 * fac (c - 1)) = cplK c (k + 1) := by decide +kernel
theorem cplK_len : ∀ c < 8, 1 ≤ c → ∀ k < c + 2, (cplK c k).length = c + 1 := by decide +kernel
def turnX (c k : Nat) : Int := 2 * (c : Int) * chx (2 * c - k) k k / (2 * (c : Int) - k) * fac (c - k)
def turnS (c k : Nat) : List Int := (List.range k).map fun i => turnX c i
theorem turnS_snoc (c k : Nat) : turnS c (k + 1) = turnS c k ++ [turnX c k] := by simp [turnS, List.range_succ]
theorem turnS_len (c k : Nat) : (turnS c k).length = k := by simp [turnS]
theorem chx_le14 : ∀ c < 8, ∀ k < c + 1, ∀ j < k + 1, (0 ≤ chx (2 * c - k) k j ∧ chx (2 * c - k) k j ≤ 10000) ∧ 0 ≤ chx (2 * c - k) k j * (((2 * c - k : Nat) : Int) - k + ((j : Int) + 1)) ∧ chx (2 * c - k) k j * (((2 * c - k : Nat) : Int) - k + ((j : Int) + 1)) ≤ 1000000 := by decide +kernel
theorem turn_le : ∀ c < (8 : Nat), 1 ≤ c → ∀ k < c + 1, (0 ≤ 2 * (c : Int) * chx (2 * c - k) k k ∧ 2 * (c : Int) * chx (2 * c - k) k k ≤ 1000000) ∧ (0 ≤ 2 * (c : Int) * chx (2 * c - k) k k / (2 * (c : Int) - k) ∧ 2 * (c : Int) * chx (2 * c - k) k k / (2 * (c : Int) - k) ≤ 1000000) ∧ 0 ≤ turnX c k ∧ turnX c k ≤ 1000000 := by decide +kernel
theorem exok_turn : ∀ c < 8, ∀ t < c + 1, ExOk (turnS c (c + 1)) t := by decide +kernel
/-- What is counted. -/
def turnN (c t : Nat) : Int := if c = 1 then t else fac (c - 1) * exactS (turnS c (c + 1)) t
theorem turn_same : ∀ c < 8, 1 ≤ c → ∀ t < c + 1, (cplK c (c + 1)).getD t 0 = turnN c t ∧ (0 ≤ fac (c - 1) * exactS (turnS c (c + 1)) t ∨ c = 1) ∧ fac (c - 1) * exactS (turnS c (c + 1)) t ≤ 100000000 ∧ -100000000 ≤ fac (c - 1) * exactS (turnS c (c + 1)) t := by decide +kernel
theorem factorial7_spec (n : Nat) (h : n ≤ 7) : Sp Tryz.prog 35 [.i n] (.i (fac n)) := by
  refine spec_of Tryz.func35 rfl cc35 rfl ?_
  unfold ac35
  repeat (first | (refine step_ops ?_; (refine m_mov (by conv => lhs; whnf) ?_)) | refine end_ops ?_ | refine seq_ops ?_ | refine AW_seq ?_ | refine AW_block ?_)
  refine AW_loop (α := Nat) (fun j => j + 1 ≤ n ∨ j = 0) (fun j => st [(0, .i n), (3, .i (fac (j + 1))), (4, .i ((j : Int) + 2))] []) (fun j => n - j) 0 (.inr rfl) (weak_st ?_ ?_ rfl rfl) ?_
  · (repeat' (first | exact trivial | refine And.intro ?_ ?_)) <;> (first | rfl | skip)
  · trivial
  intro j hj
  by_cases hc : (j : Int) + 2 ≤ n
  · have hb := fac14_le (j + 2) (by omega)
    have e : fac (j + 2) = fac (j + 1) * ((j : Int) + 2) := rfl
    rw [e] at hb
    repeat (first | (refine step_ops ?_; (first | (refine m_mov (by conv => lhs; whnf) ?_) | (refine m_leq rfl rfl ?_) | (refine m_add rfl rfl ?_ ?_ ?_; (· omega); (· omega)) | (refine m_mul rfl rfl ?_ ?_ ?_; (· first | omega | (simp; done)); (· first | omega | (simp; done))))) | refine end_ops ?_ | refine seq_ops ?_ | refine AW_ops ?_ | (refine cond_t rfl ?_ ?_; (· first | rfl | assumption | (refine decide_eq_true ?_; first | assumption | omega) | (refine nt ?_; first | assumption | omega) | (simp [*]; done))) | refine skip_then ?_ | refine AW_seq ?_ | refine norm_then ?_ | refine AW_block ?_ | refine norm_block ?_)
    refine next_round (j + 1) (by omega) (weak_st ?_ ?_ rfl rfl) ?_
    · (repeat' (first | exact trivial | refine And.intro ?_ ?_)) <;> (first | rfl | skip)
    · trivial
    · omega
  · repeat (first | (refine step_ops ?_; (first | (refine m_mov (by conv => lhs; whnf) ?_) | (refine m_leq rfl rfl ?_))) | refine end_ops ?_ | refine seq_ops ?_ | (refine cond_f rfl ?_ ?_; (· first | rfl | assumption | (refine decide_eq_false ?_; first | assumption | omega) | (refine nf ?_; first | assumption | omega) | (simp [*]; done))) | refine AW_seq ?_ | refine AW_ret ?_ | refine ret_done ?_ | refine norm_then ?_ | refine exit_then ?_ | refine exit_round ?_ | refine AW_exit ?_ | refine exit_block ?_)
    refine outs_i ?_
    rcases hj with hj | rfl
    · have : j + 1 = n := by omega
      rw [this]
    · have : n = 0 ∨ n = 1 := by omega
      rcases this with rfl | rfl <;> rfl
theorem exTimes7_spec (n : Nat) (h : n ≤ 7) : Sp Tryz.prog 38 [.i n] (.i (fac n)) := by
  refine spec_of Tryz.func38 rfl cc38 rfl ?_
  unfold ac38
  repeat (first | (refine step_ops ?_; (refine m_mov (by conv => lhs; whnf) ?_)) | refine end_ops ?_ | refine seq_ops ?_ | refine AW_seq ?_ | refine AW_block ?_)
  refine AW_loop (α := Nat) (fun j => j + 1 ≤ n ∨ j = 0) (fun j => st [(0, .i n), (3, .i (fac (j + 1))), (4, .i ((j : Int) + 2))] []) (fun j => n - j) 0 (.inr rfl) (weak_st ?_ ?_ rfl rfl) ?_
  · (repeat' (first | exact trivial | refine And.intro ?_ ?_)) <;> (first | rfl | skip)
  · trivial
  intro j hj
  by_cases hc : (j : Int) + 2 ≤ n
  · have hb := fac14_le (j + 2) (by omega)
    have e : fac (j + 2) = fac (j + 1) * ((j : Int) + 2) := rfl
    rw [e] at hb
    repeat (first | (refine step_ops ?_; (first | (refine m_mov (by conv => lhs; whnf) ?_) | (refine m_leq rfl rfl ?_) | (refine m_add rfl rfl ?_ ?_ ?_; (· omega); (· omega)) | (refine m_mul rfl rfl ?_ ?_ ?_; (· first | omega | (simp; done)); (· first | omega | (simp; done))))) | refine end_ops ?_ | refine seq_ops ?_ | refine AW_ops ?_ | (refine cond_t rfl ?_ ?_; (· first | rfl | assumption | (refine decide_eq_true ?_; first | assumption | omega) | (refine nt ?_; first | assumption | omega) | (simp [*]; done))) | refine skip_then ?_ | refine AW_seq ?_ | refine norm_then ?_ | refine AW_block ?_ | refine norm_block ?_)
    refine next_round (j + 1) (by omega) (weak_st ?_ ?_ rfl rfl) ?_
    · (repeat' (first | exact trivial | refine And.intro ?_ ?_)) <;> (first | rfl | skip)
    · trivial
    · omega
  · repeat (first | (refine step_ops ?_; (first | (refine m_mov (by conv => lhs; whnf) ?_) | (refine m_leq rfl rfl ?_))) | refine end_ops ?_ | refine seq_ops ?_ | (refine cond_f rfl ?_ ?_; (· first | rfl | assumption | (refine decide_eq_false ?_; first | assumption | omega) | (refine nf ?_; first | assumption | omega) | (simp [*]; done))) | refine AW_seq ?_ | refine AW_ret ?_ | refine ret_done ?_ | refine norm_then ?_ | refine exit_then ?_ | refine exit_round ?_ | refine AW_exit ?_ | refine exit_block ?_)
    refine outs_i ?_
    rcases hj with hj | rfl
    · have : j + 1 = n := by omega
      rw [this]
    · have : n = 0 ∨ n = 1 := by omega
      rcases this with rfl | rfl <;> rfl
theorem exChooseG_spec (n k : Nat) (hk : k ≤ 7) (hn : n ≤ 14) (hb : ∀ j < k + 1, (0 ≤ chx n k j ∧ chx n k j ≤ 10000) ∧ 0 ≤ chx n k j * ((n : Int) - k + ((j : Int) + 1)) ∧ chx n k j * ((n : Int) - k + ((j : Int) + 1)) ≤ 1000000) : Sp Tryz.prog 36 [.i n, .i k] (.i (chx n k k)) := by
  refine spec_of Tryz.func36 rfl cc36 rfl ?_
  unfold ac36
  repeat (first | (refine step_ops ?_; (refine m_mov (by conv => lhs; whnf) ?_)) | refine end_ops ?_ | refine seq_ops ?_ | refine AW_seq ?_ | refine AW_block ?_)
  refine AW_loop (α := Nat) (fun j => j ≤ k) (fun j => st [(0, .i n), (1, .i k), (5, .i (chx n k j)), (6, .i ((j : Int) + 1))] []) (fun j => k - j) 0 (by omega) (weak_st ?_ ?_ rfl rfl) ?_
  · (repeat' (first | exact trivial | refine And.intro ?_ ?_)) <;> (first | rfl | skip)
  · trivial
  intro j hj
  have hb := hb j (by omega)
  by_cases hc : (j : Int) + 1 ≤ k
  · repeat (first | (refine step_ops ?_; (first | (refine m_mov (by conv => lhs; whnf) ?_) | (refine m_leq rfl rfl ?_) | (refine m_add rfl rfl ?_ ?_ ?_; (· omega); (· omega)) | (refine m_sub rfl rfl ?_ ?_ ?_; (· omega); (· omega)) | (refine m_mul rfl rfl ?_ ?_ ?_; (· first | omega | (simp; done)); (· first | omega | (simp; done))) | (refine m_quo rfl rfl ?_ ?_ ?_ ?_; (· omega); (· omega); (· omega)))) | refine end_ops ?_ | refine seq_ops ?_ | refine AW_ops ?_ | (refine cond_t rfl ?_ ?_; (· first | rfl | assumption | (refine decide_eq_true ?_; first | assumption | omega) | (refine nt ?_; first | assumption | omega) | (simp [*]; done))) | refine skip_then ?_ | refine AW_seq ?_ | refine norm_then ?_ | refine AW_block ?_ | refine norm_block ?_)
    refine next_round (j + 1) (by omega) (weak_st ?_ ?_ rfl rfl) ?_
    · (repeat' (first | exact trivial | refine And.intro ?_ ?_)) <;> (first | rfl | skip)
    · trivial
    · omega
  · repeat (first | (refine step_ops ?_; (first | (refine m_mov (by conv => lhs; whnf) ?_) | (refine m_leq rfl rfl ?_))) | refine end_ops ?_ | refine seq_ops ?_ | (refine cond_f rfl ?_ ?_; (· first | rfl | assumption | (refine decide_eq_false ?_; first | assumption | omega) | (refine nf ?_; first | assumption | omega) | (simp [*]; done))) | refine AW_seq ?_ | refine AW_ret ?_ | refine ret_done ?_ | refine norm_then ?_ | refine exit_then ?_ | refine exit_round ?_ | refine AW_exit ?_ | refine exit_block ?_)
    obtain rfl : j = k := by omega
    exact outs_i rfl
def turnNum (c t : Int) : Int := if TogOk c t then turnN c.toNat t.toNat else 0
theorem turnNumbers_spec (c : Nat) (h1 : 1 ≤ c) (h7 : c ≤ 7) : Sp Tryz.prog 39 [.i c] (newInts (cplK c (c + 1))) := by
  have hg := cpl_good c (by omega) h1
  have hk0 := cplK_ok c (by omega) h1
  have hcb := implCoupleBoard_spec (c : Int)
  have e : cplBd (c : Int) = bdT (cplAt c) c c := by
    unfold cplBd
    rw [if_pos (by omega), Int.toNat_natCast]
    exact bdT_congr (fun i j hi hj => cpl_in c i j hi hj) (Nat.le_refl _)
  rw [e] at hcb
  have hh := implHitNumbers_spec (bdT (cplAt c) c c) (by omega)
  have e2 : hitR (bdT (cplAt c) c c) = .tup [newInts (cplH c), .b true] := by
    unfold hitR hitB
    rw [if_pos hg.1, decide_eq_true hg.1]
    rfl
  rw [e2] at hh
  have hl := hk0.1
  refine spec_of Tryz.func39 rfl cc39 rfl ?_
  unfold ac39
  repeat (first | (refine step_ops ?_; (first | (refine m_mov (by conv => lhs; whnf) ?_) | (refine m_nils ?_))) | refine end_ops ?_ | refine seq_ops ?_)
  refine step_ops ?_; (apply m_call (hcb)); (· repeat (first | exact lends_nil | (refine lends_cons ?_ ?_; (· exact lend_v))))
  repeat (first | (refine step_ops ?_; (first | (refine m_mov (by conv => lhs; whnf) ?_) | (refine m_ext rfl rfl ?_))) | refine end_ops ?_ | refine seq_ops ?_)
  refine step_ops ?_; (apply m_callt (hh)); (· repeat (first | exact lends_nil | (refine lends_cons ?_ ?_; (· exact lend_v)))); (· first | exact allv_ints _ | rfl | (simp; done)); (· first | rfl | (simp; done))
  repeat (first | (refine step_ops ?_; (first | (refine m_mov (by conv => lhs; whnf) ?_) | (refine m_len_sl rfl ?_) | (refine m_ext rfl rfl ?_))) | refine end_ops ?_ | refine seq_ops ?_ | refine AW_seq ?_ | refine AW_block ?_)
  refine AW_loop (α := Nat) (fun k => k ≤ c + 1) (fun k => st [(0, .i c), (5, .sl 15 1 0 (c + 1)), (19, .i ((c + 1 : Nat) : Int)), (20, .i k)] [(15, (true, (cplK c k).map AV.i))]) (fun k => c + 1 - k) 0 (by omega) (weak_st ?_ ?_ rfl rfl) ?_
  · rw [← hl]
    (repeat' (first | exact trivial | refine And.intro ?_ ?_)) <;> (first | rfl | skip)
  · exact ⟨rfl, trivial⟩
  intro k hk
  have hlen := cplK_len c (by omega) h1 k (by omega)
  by_cases hc : k < c + 1
  · have hb := hk0.2 k hc
    repeat (first | ((first | refine step_ops ?_ | refine step_tree ?_); (first | (refine m_mov (by conv => lhs; whnf) ?_) | (refine m_lss rfl rfl ?_) | (refine m_sub rfl rfl ?_ ?_ ?_; (· omega); (· omega)) | (refine m_idx1_sl rfl rfl ?_ ?_; (· omega)) | (refine m_ld_pti rfl (by rfl) ?_ ?_; (· first | omega | (simp; omega))))) | refine end_ops ?_ | refine seq_ops ?_ | refine AW_tree ?_ | (refine cond_t rfl ?_ ?_; (· first | rfl | assumption | (refine decide_eq_true ?_; first | assumption | omega) | (refine nt ?_; first | assumption | omega) | (simp [*]; done))) | refine skip_then ?_ | refine AW_seq ?_ | refine AW_block ?_)
    rw [show (c : Int) - 1 = ((c - 1 : Nat) : Int) by omega]
    refine step_tree ?_; (apply m_call (factorial7_spec (c - 1) (by omega))); (· repeat (first | exact lends_nil | (refine lends_cons ?_ ?_; (· exact lend_v))))
    repeat (first | ((first | refine step_ops ?_ | refine step_tree ?_); (first | (refine m_mov (by conv => lhs; whnf) ?_) | (refine m_add rfl rfl ?_ ?_ ?_; (· omega); (· omega)) | (refine m_mul rfl rfl ?_ ?_ ?_; (· first | omega | (simp; done)); (· first | omega | (simp; done))) | (refine m_idx1_sl rfl rfl ?_ ?_; (· omega)) | (apply m_st; (· rfl); (· rfl); (· rfl); (· first | omega | (simp; done) | (simp; omega)); (· rfl)))) | refine end_ops ?_ | refine AW_ops ?_ | refine end_tree ?_ | refine norm_then ?_ | refine norm_block ?_)
    refine next_round (k + 1) (by omega) (weak_st ?_ ?_ rfl rfl) ?_
    · (repeat' (first | exact trivial | refine And.intro ?_ ?_)) <;> (first | rfl | skip)
    · refine ⟨?_, trivial⟩
      rw [← hb.2.2, List.map_set]
      rfl
    · omega
  · obtain rfl : k = c + 1 := by omega
    repeat (first | (refine step_ops ?_; (first | (refine m_mov (by conv => lhs; whnf) ?_) | (refine m_lss rfl rfl ?_))) | refine end_ops ?_ | refine seq_ops ?_ | (refine cond_f rfl ?_ ?_; (· first | rfl | assumption | (refine decide_eq_false ?_; first | assumption | omega) | (refine nf ?_; first | assumption | omega) | (simp [*]; done))) | refine AW_seq ?_ | refine AW_ret ?_ | refine ret_done ?_ | refine norm_then ?_ | refine exit_then ?_ | refine exit_round ?_ | refine AW_exit ?_ | refine exit_block ?_)
    exact outs_ints rfl rfl hlen.symm
theorem specCountTurnTogether_spec (c t : Int) : Sp Tryz.prog 11 [.i c, .i t] (.tup [.i (turnNum c t), .b (decide (TogOk c t))]) := by
  refine spec_of Tryz.func11 rfl cc11 rfl ?_
  unfold ac11
  by_cases h1 : 1 ≤ c ∧ c ≤ 7
  · by_cases h2 : 0 ≤ t ∧ t ≤ c
    · have hok : TogOk c t := ⟨h1, h2⟩
      have e : turnNum c t = _ := if_pos hok
      rw [e]
      obtain ⟨n, rfl⟩ := Int.eq_ofNat_of_zero_le (show 0 ≤ c by omega)
      obtain ⟨m, rfl⟩ := Int.eq_ofNat_of_zero_le h2.1
      rw [Int.toNat_natCast, Int.toNat_natCast]
      by_cases hone : (n : Int) = 1
      · rw [show turnN n m = (m : Int) from if_pos (by omega)]
        repeat (first | (refine step_ops ?_; (refine m_mov (by conv => lhs; whnf) ?_)) | refine end_ops ?_ | refine seq_ops ?_ | refine AW_seq ?_)
        (refine step_ops ?_); (apply m_call (taCouples_spec _)); (· repeat (first | exact lends_nil | (refine lends_cons ?_ ?_; (· exact lend_v))))
        repeat (refine step_ops ?_; ((try (refine g_yes rfl ?_ ?_; (· first | rfl | assumption | (refine decide_eq_true ?_; first | assumption | omega) | (refine nt ?_; first | assumption | omega) | (simp [*]; done) | (refine decide_eq_false ?_; first | assumption | omega) | (refine nf ?_; first | assumption | omega)))); (first | (refine m_mov (by conv => lhs; whnf) ?_) | (refine m_not rfl ?_))))
        (refine step_ops ?_); (refine g_yes rfl ?_ ?_; (· first | (first | rfl | assumption | (refine decide_eq_true ?_; first | assumption | omega) | (refine nt ?_; first | assumption | omega) | (simp [*]; done)) | (first | rfl | assumption | (refine decide_eq_false ?_; first | assumption | omega) | (refine nf ?_; first | assumption | omega) | (simp [*]; done))); (apply m_call (l1In_spec _ _ _))); (· repeat (first | exact lends_nil | (refine lends_cons ?_ ?_; (· exact lend_v))))
        repeat (first | (refine step_ops ?_; ((try (refine g_yes rfl ?_ ?_; (· first | rfl | assumption | (refine decide_eq_true ?_; first | assumption | omega) | (refine nt ?_; first | assumption | omega) | (simp [*]; done) | (refine decide_eq_false ?_; first | assumption | omega) | (refine nf ?_; first | assumption | omega)))); (first | (refine m_mov (by conv => lhs; whnf) ?_) | (refine m_eql rfl rfl ?_) | (refine m_not rfl ?_) | (refine m_pick_f rfl ?_ (by conv => lhs; whnf) ?_; (· first | rfl | assumption | (refine decide_eq_false ?_; first | assumption | omega) | (refine nf ?_; first | assumption | omega) | (simp [*]; done)))))) | refine end_ops ?_ | refine seq_ops ?_ | (refine cond_t rfl ?_ ?_; (· first | rfl | assumption | (refine decide_eq_true ?_; first | assumption | omega) | (refine nt ?_; first | assumption | omega) | (simp [*]; done))) | (refine cond_f rfl ?_ ?_; (· first | rfl | assumption | (refine decide_eq_false ?_; first | assumption | omega) | (refine nf ?_; first | assumption | omega) | (simp [*]; done))) | refine skip_then ?_ | refine AW_seq ?_ | refine AW_ret ?_ | refine ret_done ?_ | refine ret_then ?_)
        exact outs_tup2 (outs_i rfl) (outs_b (decide_eq_true hok).symm)
      · rw [show turnN n m = fac (n - 1) * exactS (turnS n (n + 1)) m from if_neg (by omega)]
        have hsame := turn_same n (by omega) (by omega) m (by omega)
        have hlen1 := turnS_len n (n + 1)
        repeat (first | (refine step_ops ?_; (refine m_mov (by conv => lhs; whnf) ?_)) | refine end_ops ?_ | refine seq_ops ?_ | refine AW_seq ?_)
        (refine step_ops ?_); (apply m_call (taCouples_spec _)); (· repeat (first | exact lends_nil | (refine lends_cons ?_ ?_; (· exact lend_v))))
        repeat (refine step_ops ?_; ((try (refine g_yes rfl ?_ ?_; (· first | rfl | assumption | (refine decide_eq_true ?_; first | assumption | omega) | (refine nt ?_; first | assumption | omega) | (simp [*]; done) | (refine decide_eq_false ?_; first | assumption | omega) | (refine nf ?_; first | assumption | omega)))); (first | (refine m_mov (by conv => lhs; whnf) ?_) | (refine m_not rfl ?_))))
        (refine step_ops ?_); (refine g_yes rfl ?_ ?_; (· first | (first | rfl | assumption | (refine decide_eq_true ?_; first | assumption | omega) | (refine nt ?_; first | assumption | omega) | (simp [*]; done)) | (first | rfl | assumption | (refine decide_eq_false ?_; first | assumption | omega) | (refine nf ?_; first | assumption | omega) | (simp [*]; done))); (apply m_call (l1In_spec _ _ _))); (· repeat (first | exact lends_nil | (refine lends_cons ?_ ?_; (· exact lend_v))))
        repeat (first | (refine step_ops ?_; ((try (refine g_yes rfl ?_ ?_; (· first | rfl | assumption | (refine decide_eq_true ?_; first | assumption | omega) | (refine nt ?_; first | assumption | omega) | (simp [*]; done) | (refine decide_eq_false ?_; first | assumption | omega) | (refine nf ?_; first | assumption | omega)))); (first | (refine m_mov (by conv => lhs; whnf) ?_) | (refine m_eql rfl rfl ?_) | (refine m_not rfl ?_) | (refine m_pick_f rfl ?_ (by conv => lhs; whnf) ?_; (· first | rfl | assumption | (refine decide_eq_false ?_; first | assumption | omega) | (refine nf ?_; first | assumption | omega) | (simp [*]; done))) | (refine m_nils ?_)))) | refine end_ops ?_ | refine seq_ops ?_ | (refine cond_f rfl ?_ ?_; (· first | rfl | assumption | (refine decide_eq_false ?_; first | assumption | omega) | (refine nf ?_; first | assumption | omega) | (simp [*]; done))) | refine skip_then ?_ | refine AW_seq ?_ | refine AW_block ?_)
        refine AW_loop (α := Nat) (fun k => k ≤ n + 1) (fun k => st [(0, .i n), (1, .i m), (7, .i k), (6, .sl 6 1 0 (turnS n k).length)] [(6, (true, (turnS n k).map AV.i))]) (fun k => n + 1 - k) 0 (by omega) (weak_st ?_ ?_ rfl rfl) ?_
        · (repeat' (first | exact trivial | refine And.intro ?_ ?_)) <;> (first | rfl | skip)
        · exact ⟨rfl, trivial⟩
        intro k hk
        have hlen := turnS_len n k
        have hsn := turnS_snoc n k
        by_cases hc : (k : Int) ≤ n
        · have hb := turn_le n (by omega) (by omega) k (by omega)
          have hx := chx_le14 n (by omega) k (by omega) k (by omega)
          have hte : turnX n k = 2 * (n : Int) * chx (2 * n - k) k k / (2 * (n : Int) - k) * fac (n - k) := rfl
          rw [hte] at hsn hb
          repeat (first | (refine step_ops ?_; (first | (refine m_mov (by conv => lhs; whnf) ?_) | (refine m_leq rfl rfl ?_) | (refine m_sub rfl rfl ?_ ?_ ?_; (· omega); (· omega)) | (refine m_mul rfl rfl ?_ ?_ ?_; (· first | omega | (simp; done)); (· first | omega | (simp; done))))) | refine end_ops ?_ | refine seq_ops ?_ | (refine cond_t rfl ?_ ?_; (· first | rfl | assumption | (refine decide_eq_true ?_; first | assumption | omega) | (refine nt ?_; first | assumption | omega) | (simp [*]; done))) | refine skip_then ?_ | refine AW_seq ?_ | refine AW_block ?_)
          rw [show 2 * (n : Int) - (k : Int) = ((2 * n - k : Nat) : Int) by omega]
          (refine step_ops ?_); (apply m_call (exChooseG_spec (2 * n - k) k (by omega) (by omega) (chx_le14 n (by omega) k (by omega)))); (· repeat (first | exact lends_nil | (refine lends_cons ?_ ?_; (· exact lend_v))))
          repeat (first | (refine step_ops ?_; (first | (refine m_mov (by conv => lhs; whnf) ?_) | (refine m_sub rfl rfl ?_ ?_ ?_; (· omega); (· omega)) | (refine m_mul rfl rfl ?_ ?_ ?_; (· first | omega | (simp; done)); (· first | omega | (simp; done))) | (refine m_quo rfl rfl ?_ ?_ ?_ ?_; (· omega); (· omega); (· omega)))) | refine end_ops ?_ | refine AW_ops ?_)
          rw [show (n : Int) - (k : Int) = ((n - k : Nat) : Int) by omega]
          (refine step_ops ?_); (apply m_call (exTimes7_spec (n - k) (by omega))); (· repeat (first | exact lends_nil | (refine lends_cons ?_ ?_; (· exact lend_v))))
          repeat (first | (refine step_ops ?_; (first | (refine m_mov (by conv => lhs; whnf) ?_) | (refine m_add rfl rfl ?_ ?_ ?_; (· omega); (· omega)) | (refine m_mul rfl rfl ?_ ?_ ?_; (· first | omega | (simp; done)); (· first | omega | (simp; done))) | (refine m_bsl1 rfl rfl ?_) | (refine m_app1i rfl (by decide) (by rfl) (by first | rfl | omega | (simp; done)) rfl rfl ?_ (by decide) ?_; (· first | omega | (simp; omega))))) | refine end_ops ?_ | refine AW_ops ?_ | refine norm_then ?_ | refine norm_block ?_)
          refine next_round (k + 1) (by omega) (Weak.trans (weak_move (r := 48) (q := 6) rfl (by decide) (by decide)) (weak_st ?_ ?_ rfl rfl)) ?_
          · rw [hsn]
            (repeat' (first | exact trivial | refine And.intro ?_ ?_)) <;> (first | rfl | skip)
          · rw [hsn]
            exact ⟨rfl, trivial⟩
          · omega
        · obtain rfl : k = n + 1 := by omega
          repeat (first | (refine step_ops ?_; (first | (refine m_mov (by conv => lhs; whnf) ?_) | (refine m_leq rfl rfl ?_) | (refine m_sub rfl rfl ?_ ?_ ?_; (· omega); (· omega)))) | refine end_ops ?_ | refine seq_ops ?_ | (refine cond_f rfl ?_ ?_; (· first | rfl | assumption | (refine decide_eq_false ?_; first | assumption | omega) | (refine nf ?_; first | assumption | omega) | (simp [*]; done))) | refine AW_seq ?_ | refine norm_then ?_ | refine exit_then ?_ | refine exit_round ?_ | refine AW_exit ?_ | refine exit_block ?_)
          rw [show (n : Int) - 1 = ((n - 1 : Nat) : Int) by omega]
          (refine step_ops ?_); (apply m_call (exTimes7_spec (n - 1) (by omega))); (· repeat (first | exact lends_nil | (refine lends_cons ?_ ?_; (· exact lend_v))))
          repeat (refine step_ops ?_; (refine m_mov (by conv => lhs; whnf) ?_))
          (refine step_ops ?_); (apply m_call (taExactly_spec (turnS n (n + 1)) m (by omega) (by omega) (exok_turn n (by omega) m (by omega)))); (· repeat (first | exact lends_nil | (refine lends_cons ?_ ?_; (· (first | exact lend_v | (refine lend_sli (by rfl) ?_; first | rfl | omega | (simp; done)))))))
          repeat (first | (refine step_ops ?_; (first | (refine m_mov (by conv => lhs; whnf) ?_) | (refine m_mul rfl rfl ?_ ?_ ?_; (· first | omega | (simp; done)); (· first | omega | (simp; done))))) | refine end_ops ?_ | refine AW_ret ?_ | refine ret_done ?_)
          exact outs_tup2 (outs_i rfl) (outs_b (decide_eq_true hok).symm)
    · have hok : ¬ TogOk c t := fun h => h2 h.2
      have e : turnNum c t = 0 := if_neg hok
      rw [e]
      repeat (first | (refine step_ops ?_; (refine m_mov (by conv => lhs; whnf) ?_)) | refine end_ops ?_ | refine seq_ops ?_ | refine AW_seq ?_)
      (refine step_ops ?_); (apply m_call (taCouples_spec _)); (· repeat (first | exact lends_nil | (refine lends_cons ?_ ?_; (· exact lend_v))))
      repeat (refine step_ops ?_; ((try (refine g_yes rfl ?_ ?_; (· first | rfl | assumption | (refine decide_eq_true ?_; first | assumption | omega) | (refine nt ?_; first | assumption | omega) | (simp [*]; done) | (refine decide_eq_false ?_; first | assumption | omega) | (refine nf ?_; first | assumption | omega)))); (first | (refine m_mov (by conv => lhs; whnf) ?_) | (refine m_not rfl ?_))))
      (refine step_ops ?_); (refine g_yes rfl ?_ ?_; (· first | (first | rfl | assumption | (refine decide_eq_true ?_; first | assumption | omega) | (refine nt ?_; first | assumption | omega) | (simp [*]; done)) | (first | rfl | assumption | (refine decide_eq_false ?_; first | assumption | omega) | (refine nf ?_; first | assumption | omega) | (simp [*]; done))); (apply m_call (l1In_spec _ _ _))); (· repeat (first | exact lends_nil | (refine lends_cons ?_ ?_; (· exact lend_v))))
      repeat (first | (refine step_ops ?_; ((try (refine g_yes rfl ?_ ?_; (· first | rfl | assumption | (refine decide_eq_true ?_; first | assumption | omega) | (refine nt ?_; first | assumption | omega) | (simp [*]; done) | (refine decide_eq_false ?_; first | assumption | omega) | (refine nf ?_; first | assumption | omega)))); (first | (refine m_mov (by conv => lhs; whnf) ?_) | (refine m_not rfl ?_) | (refine m_pick_f rfl ?_ (by conv => lhs; whnf) ?_; (· first | rfl | assumption | (refine decide_eq_false ?_; first | assumption | omega) | (refine nf ?_; first | assumption | omega) | (simp [*]; done)))))) | refine end_ops ?_ | refine seq_ops ?_ | (refine cond_t rfl ?_ ?_; (· first | rfl | assumption | (refine decide_eq_true ?_; first | assumption | omega) | (refine nt ?_; first | assumption | omega) | (simp [*]; done))) | refine AW_ret ?_ | refine ret_done ?_ | refine ret_then ?_)
      exact outs_tup2 (outs_i rfl) (outs_b (decide_eq_false hok).symm)
  · have hok : ¬ TogOk c t := fun h => h1 h.1
    have e : turnNum c t = 0 := if_neg hok
    rw [e]
    repeat (first | (refine step_ops ?_; (refine m_mov (by conv => lhs; whnf) ?_)) | refine end_ops ?_ | refine seq_ops ?_ | refine AW_seq ?_)
    (refine step_ops ?_); (apply m_call (taCouples_spec _)); (· repeat (first | exact lends_nil | (refine lends_cons ?_ ?_; (· exact lend_v))))
    repeat (first | (refine step_ops ?_; (first | (first | (refine m_mov (by conv => lhs; whnf) ?_) | (refine m_not rfl ?_) | (refine m_pick_t rfl ?_ (by conv => lhs; whnf) ?_; (· first | rfl | assumption | (refine decide_eq_true ?_; first | assumption | omega) | (refine nt ?_; first | assumption | omega) | (simp [*]; done)))) | (refine g_noF rfl ?_ ?_; (· first | rfl | assumption | (refine decide_eq_true ?_; first | assumption | omega) | (refine nt ?_; first | assumption | omega) | (simp [*]; done))))) | refine end_ops ?_ | refine seq_ops ?_ | (refine cond_t rfl ?_ ?_; (· first | rfl | assumption | (refine decide_eq_true ?_; first | assumption | omega) | (refine nt ?_; first | assumption | omega) | (simp [*]; done))) | refine AW_ret ?_ | refine ret_done ?_ | refine ret_then ?_)
    exact outs_tup2 (outs_i rfl) (outs_b (decide_eq_false hok).symm)
theorem implCountTurnTogether_spec (c t : Int) : Sp Tryz.prog 10 [.i c, .i t] (.tup [.i (turnNum c t), .b (decide (TogOk c t))]) := by
  refine spec_of Tryz.func10 rfl cc10 rfl ?_
  unfold ac10
  by_cases hok : TogOk c t
  · have e : turnNum c t = _ := if_pos hok
    have h1 := hok.1
    have h2 := hok.2
    rw [e]
    obtain ⟨n, rfl⟩ := Int.eq_ofNat_of_zero_le (show 0 ≤ c by omega)
    obtain ⟨m, rfl⟩ := Int.eq_ofNat_of_zero_le h2.1
    rw [Int.toNat_natCast, Int.toNat_natCast]
    have hsame := (turn_same n (by omega) (by omega) m (by omega)).1
    have hlen := cplK_len n (by omega) (by omega) (n + 1) (by omega)
    rw [← hsame]
    repeat (first | (refine step_ops ?_; (refine m_mov (by conv => lhs; whnf) ?_)) | refine end_ops ?_ | refine seq_ops ?_ | refine AW_seq ?_)
    (refine step_ops ?_); (apply m_call (canBeTogether_spec _ _)); (· repeat (first | exact lends_nil | (refine lends_cons ?_ ?_; (· exact lend_v))))
    repeat (first | (refine step_ops ?_; (first | (refine m_mov (by conv => lhs; whnf) ?_) | (refine m_not rfl ?_))) | refine end_ops ?_ | refine seq_ops ?_ | (refine cond_f rfl ?_ ?_; (· first | rfl | assumption | (refine decide_eq_false ?_; first | assumption | omega) | (refine nf ?_; first | assumption | omega) | (simp [*]; done))) | refine skip_then ?_)
    (refine step_ops ?_); (apply m_call (turnNumbers_spec n (by omega) (by omega))); (· repeat (first | exact lends_nil | (refine lends_cons ?_ ?_; (· exact lend_v))))
    repeat (first | (refine step_ops ?_; (first | (refine m_mov (by conv => lhs; whnf) ?_) | (refine m_idx1_ro rfl rfl ?_ ?_; (· omega)) | (refine m_ld_rpi rfl ?_ ?_; (· omega)))) | refine end_ops ?_ | refine AW_ret ?_ | refine ret_done ?_)
    exact outs_tup2 (outs_i rfl) (outs_b (decide_eq_true hok).symm)
  · have e : turnNum c t = 0 := if_neg hok
    rw [e]
    repeat (first | (refine step_ops ?_; (refine m_mov (by conv => lhs; whnf) ?_)) | refine end_ops ?_ | refine seq_ops ?_ | refine AW_seq ?_)
    (refine step_ops ?_); (apply m_call (canBeTogether_spec _ _)); (· repeat (first | exact lends_nil | (refine lends_cons ?_ ?_; (· exact lend_v))))
    repeat (first | (refine step_ops ?_; (first | (refine m_mov (by conv => lhs; whnf) ?_) | (refine m_not rfl ?_))) | refine end_ops ?_ | refine seq_ops ?_ | (refine cond_t rfl ?_ ?_; (· first | rfl | assumption | (refine decide_eq_true ?_; first | assumption | omega) | (refine nt ?_; first | assumption | omega) | (simp [*]; done))) | refine AW_ret ?_ | refine ret_done ?_ | refine ret_then ?_)
    exact outs_tup2 (outs_i rfl) (outs_b (decide_eq_false hok).symm)
end Go.Proofs.YtmmcldbldbpikaaGreatDoor
namespace Go.Proofs.YtmmcldbldbpikaaGreatDoor
variable [Go.Am.CodeBlk]
open Go.Am
attribute [local irreducible] AW Outs Weak Lends Lend Sp aops atree aop1 Then Round InBlock Done
/-- Where a coat is, or -1. -/
def whoIs (L : List Int) (c : Int) : Int := if c ∈ L then (L.idxOf c : Int) else -1
theorem whoIs_at {L : List Int} {c : Int} {k : Nat} (h : k < L.length) (he : c ∉ L.take k) (hx : L.getD k 0 = c) : whoIs L c = k := by
  have hm : c ∈ L := hx ▸ getD_mem h
  have h1 : L.idxOf c = k := by
    conv => lhs; rw [← List.take_append_drop k L]
    rw [List.idxOf_append, if_neg he, List.drop_eq_getElem_cons h]
    have : L[k] = c := by simpa [h] using hx
    rw [this, List.idxOf_cons_self, List.length_take]
    omega
  rw [whoIs, if_pos hm, h1]
theorem exWho_spec (L : List Int) (c : Int) (hL : L.length ≤ 1048576) : Sp Tryz.prog 52 [ints L, .i c] (.i (whoIs L c)) := by
  refine spec_of Tryz.func52 rfl cc52 rfl ?_
  unfold ac52
  repeat (first | (refine step_ops ?_; (first | (refine m_mov (by conv => lhs; whnf) ?_) | (refine m_len_ro rfl ?_))) | refine end_ops ?_ | refine seq_ops ?_ | refine AW_seq ?_ | refine AW_block ?_)
  refine AW_loop (α := Nat) (fun k => k ≤ L.length ∧ c ∉ L.take k) (fun k => st [(7, ints L), (1, .i c), (8, .i L.length), (9, .i k)] []) (fun k => L.length - k) 0 (by simp) (weak_st ?_ ?_ rfl rfl) ?_
  · (repeat' (first | exact trivial | refine And.intro ?_ ?_)) <;> (first | rfl | skip)
  · trivial
  rintro k ⟨hk, he⟩
  by_cases h : k < L.length
  · by_cases hx : L.getD k 0 = c
    · repeat (first | (refine step_ops ?_; (first | (refine m_mov (by conv => lhs; whnf) ?_) | (refine m_lss rfl rfl ?_) | (refine m_eql rfl rfl ?_) | (refine m_idx1_ro rfl rfl ?_ ?_; (· omega)) | (refine m_ld_rpi rfl ?_ ?_; (· omega)))) | refine end_ops ?_ | refine seq_ops ?_ | (refine cond_t rfl ?_ ?_; (· first | rfl | assumption | (refine decide_eq_true ?_; first | assumption | omega) | (refine nt ?_; first | assumption | omega) | (simp [*]; done))) | refine skip_then ?_ | refine AW_seq ?_ | refine AW_ret ?_ | refine ret_done ?_ | refine ret_then ?_ | refine AW_block ?_ | refine ret_block ?_ | refine ret_round ?_)
      exact outs_i (whoIs_at h he hx).symm
    · repeat (first | (refine step_ops ?_; (first | (refine m_mov (by conv => lhs; whnf) ?_) | (refine m_lss rfl rfl ?_) | (refine m_eql rfl rfl ?_) | (refine m_add rfl rfl ?_ ?_ ?_; (· omega); (· omega)) | (refine m_idx1_ro rfl rfl ?_ ?_; (· omega)) | (refine m_ld_rpi rfl ?_ ?_; (· omega)))) | refine end_ops ?_ | refine seq_ops ?_ | refine AW_ops ?_ | (refine cond_t rfl ?_ ?_; (· first | rfl | assumption | (refine decide_eq_true ?_; first | assumption | omega) | (refine nt ?_; first | assumption | omega) | (simp [*]; done))) | (refine cond_f rfl ?_ ?_; (· first | rfl | assumption | (refine decide_eq_false ?_; first | assumption | omega) | (refine nf ?_; first | assumption | omega) | (simp [*]; done))) | refine skip_then ?_ | refine AW_seq ?_ | refine norm_then ?_ | refine AW_block ?_ | refine norm_block ?_ | refine AW_skip ?_)
      refine next_round (k + 1) ⟨by omega, ?_⟩ (weak_st ?_ ?_ rfl rfl) ?_
      · rw [take_snoc L k 0 h, List.mem_append, List.mem_singleton]
        rintro (h1 | h1)
        · exact he h1
        · exact hx h1.symm
      · (repeat' (first | exact trivial | refine And.intro ?_ ?_)) <;> (first | rfl | skip)
      · trivial
      · omega
  · repeat (first | (refine step_ops ?_; (first | (refine m_mov (by conv => lhs; whnf) ?_) | (refine m_lss rfl rfl ?_))) | refine end_ops ?_ | refine seq_ops ?_ | (refine cond_f rfl ?_ ?_; (· first | rfl | assumption | (refine decide_eq_false ?_; first | assumption | omega) | (refine nf ?_; first | assumption | omega) | (simp [*]; done))) | refine AW_seq ?_ | refine AW_ret ?_ | refine ret_done ?_ | refine norm_then ?_ | refine exit_then ?_ | refine exit_round ?_ | refine AW_exit ?_ | refine exit_block ?_)
    refine outs_i ?_
    rw [List.take_of_length_le (by omega)] at he
    rw [whoIs, if_neg he]
theorem slicesIndex_spec (L : List Int) (c : Int) (hL : L.length ≤ 1048576) : Sp Tryz.prog 84 [ints L, .i c] (.i (whoIs L c)) := by
  refine spec_of Tryz.func84 rfl cc84 rfl ?_
  unfold ac84
  repeat (first | (refine step_ops ?_; (first | (refine m_mov (by conv => lhs; whnf) ?_) | (refine m_len_ro rfl ?_))) | refine end_ops ?_ | refine seq_ops ?_ | refine AW_seq ?_ | refine AW_block ?_)
  refine AW_loop (α := Nat) (fun k => k ≤ L.length ∧ c ∉ L.take k) (fun k => st [(0, ints L), (1, .i c), (7, .i L.length), (8, .i k)] []) (fun k => L.length - k) 0 (by simp) (weak_st ?_ ?_ rfl rfl) ?_
  · (repeat' (first | exact trivial | refine And.intro ?_ ?_)) <;> (first | rfl | skip)
  · trivial
  rintro k ⟨hk, he⟩
  by_cases h : k < L.length
  · by_cases hx : c = L.getD k 0
    · repeat (first | (refine step_ops ?_; (first | (refine m_mov (by conv => lhs; whnf) ?_) | (refine m_lss rfl rfl ?_) | (refine m_eql rfl rfl ?_) | (refine m_idx1_ro rfl rfl ?_ ?_; (· omega)) | (refine m_ld_rpi rfl ?_ ?_; (· omega)))) | refine end_ops ?_ | refine seq_ops ?_ | (refine cond_t rfl ?_ ?_; (· first | rfl | assumption | (refine decide_eq_true ?_; first | assumption | omega) | (refine nt ?_; first | assumption | omega) | (simp [*]; done))) | refine skip_then ?_ | refine AW_seq ?_ | refine AW_ret ?_ | refine ret_done ?_ | refine ret_then ?_ | refine AW_block ?_ | refine ret_block ?_ | refine ret_round ?_)
      exact outs_i (whoIs_at h he hx.symm).symm
    · repeat (first | (refine step_ops ?_; (first | (refine m_mov (by conv => lhs; whnf) ?_) | (refine m_lss rfl rfl ?_) | (refine m_eql rfl rfl ?_) | (refine m_add rfl rfl ?_ ?_ ?_; (· omega); (· omega)) | (refine m_idx1_ro rfl rfl ?_ ?_; (· omega)) | (refine m_ld_rpi rfl ?_ ?_; (· omega)))) | refine end_ops ?_ | refine seq_ops ?_ | refine AW_ops ?_ | (refine cond_t rfl ?_ ?_; (· first | rfl | assumption | (refine decide_eq_true ?_; first | assumption | omega) | (refine nt ?_; first | assumption | omega) | (simp [*]; done))) | (refine cond_f rfl ?_ ?_; (· first | rfl | assumption | (refine decide_eq_false ?_; first | assumption | omega) | (refine nf ?_; first | assumption | omega) | (simp [*]; done))) | refine skip_then ?_ | refine AW_seq ?_ | refine norm_then ?_ | refine AW_block ?_ | refine norm_block ?_ | refine AW_skip ?_)
      refine next_round (k + 1) ⟨by omega, ?_⟩ (weak_st ?_ ?_ rfl rfl) ?_
      · rw [take_snoc L k 0 h, List.mem_append, List.mem_singleton]
        rintro (h1 | h1)
        · exact he h1
        · exact hx h1
      · (repeat' (first | exact trivial | refine And.intro ?_ ?_)) <;> (first | rfl | skip)
      · trivial
      · omega
  · repeat (first | (refine step_ops ?_; (first | (refine m_mov (by conv => lhs; whnf) ?_) | (refine m_lss rfl rfl ?_))) | refine end_ops ?_ | refine seq_ops ?_ | (refine cond_f rfl ?_ ?_; (· first | rfl | assumption | (refine decide_eq_false ?_; first | assumption | omega) | (refine nf ?_; first | assumption | omega) | (simp [*]; done))) | refine AW_seq ?_ | refine AW_ret ?_ | refine ret_done ?_ | refine norm_then ?_ | refine exit_then ?_ | refine exit_round ?_ | refine AW_exit ?_ | refine exit_block ?_)
    refine outs_i ?_
    rw [List.take_of_length_le (by omega)] at he
    rw [whoIs, if_neg he]
end Go.Proofs.YtmmcldbldbpikaaGreatDoor
namespace Go.Am
variable [Go.Am.CodeBlk]
theorem lend_nil {hp : Hp} : Lend hp (.v (.slice none 0 0)) (ints []) := by
  intro w0 mu N tm w phi ro v hS hv
  simp only [SimV] at hv ⊢
  exact .inl ⟨rfl, rfl, none, 0, hv, by simp⟩
/-- New memory that a callee made is handed on. -/
theorem outs_ro {s : AS} {z n : Nat} {cs : List AV} (hall : cs.all plainV = true) : Outs s (.ro true z cs n) (.ro true z cs n) := by
  intro w0 N tm w phi ro y hS h
  simp only [SimV] at h ⊢
  rcases h with h | ⟨b, o, cap, cur, e, fz, h1, h2, h3, h4, h5, h6, h7⟩
  · exact .inl h
  · obtain ⟨k1, k2⟩ := h6 trivial
    exact .inr ⟨b, o, cap, cur, e, fz, h1, h2, ⟨k1, lt_of_get h2⟩, h4, h5, fun _ => ⟨k1, k2⟩, simL_allv hall h7⟩
end Go.Am
namespace Go.Proofs.YtmmcldbldbpikaaGreatDoor
variable [Go.Am.CodeBlk]
open Go.Am
attribute [local irreducible] AW Outs Weak Lends Lend Sp aops atree aop1 Then Round InBlock Done
theorem slicesContains_spec (L : List Int) (c : Int) (hL : L.length ≤ 1048576) : Sp Tryz.prog 67 [ints L, .i c] (.b (decide (c ∈ L))) := by
  refine spec_of Tryz.func67 rfl cc67 rfl ?_
  unfold ac67
  repeat (first | (refine step_ops ?_; (refine m_mov (by conv => lhs; whnf) ?_)) | refine end_ops ?_ | refine seq_ops ?_)
  (refine step_ops ?_); (apply m_call (slicesIndex_spec _ _ hL)); (· repeat (first | exact lends_nil | (refine lends_cons ?_ ?_; (· (first | exact lend_v | (refine lend_ints ?_; first | rfl | omega))))))
  repeat (first | (refine step_ops ?_; (first | (refine m_mov (by conv => lhs; whnf) ?_) | (refine m_geq rfl rfl ?_))) | refine end_ops ?_ | refine AW_ret ?_ | refine ret_done ?_)
  refine outs_b ?_
  refine decide_eq_decide.2 ?_
  unfold whoIs
  by_cases h : c ∈ L
  · simp [h]
  · simp [h]
theorem slicesClone_nil_spec : Sp Tryz.prog 78 [ints []] (newInts []) := by
  refine spec_of Tryz.func78 rfl cc78 rfl ?_
  unfold ac78
  repeat (first | (refine step_ops ?_; (first | (refine m_mov (by conv => lhs; whnf) ?_) | (refine m_nils ?_))) | refine end_ops ?_ | refine seq_ops ?_ | refine AW_seq ?_)
  refine step_ops ?_
  refine m_isnil_ro0 rfl fun b => ?_
  cases b
  · repeat (first | (refine step_ops ?_; (first | (refine m_mov (by conv => lhs; whnf) ?_) | (refine m_bsl0 ?_))) | refine end_ops ?_ | refine seq_ops ?_ | (refine cond_f rfl ?_ ?_; (· first | rfl | assumption | (refine decide_eq_false ?_; first | assumption | omega) | (refine nf ?_; first | assumption | omega) | (simp [*]; done))) | refine skip_then ?_)
    refine step_ops ?_
    refine m_appro (ys := []) (cs := []) (m := 0) (n := 0) rfl (by decide) rfl rfl rfl rfl (by decide) (by decide) ?_
    repeat (first | (refine step_ops ?_; (refine m_mov (by conv => lhs; whnf) ?_)) | refine end_ops ?_ | refine AW_ret ?_ | refine ret_done ?_)
    exact outs_ints (cs := []) rfl rfl rfl
  · repeat (first | (refine step_ops ?_; (refine m_nils ?_)) | refine end_ops ?_ | refine seq_ops ?_ | (refine cond_t rfl ?_ ?_; (· first | rfl | assumption | (refine decide_eq_true ?_; first | assumption | omega) | (refine nt ?_; first | assumption | omega) | (simp [*]; done))) | refine AW_ret ?_ | refine ret_done ?_ | refine ret_then ?_)
    exact outs_ints (cs := []) rfl rfl rfl
theorem slicesClone0_spec (L : List Int) (hL : L.length ≤ 1048576) : Sp Tryz.prog 78 [ints L] (newInts L) := by
  by_cases h1 : 1 ≤ L.length
  · exact slicesClone_spec L hL h1
  · obtain rfl : L = [] := by
      cases L with
      | nil => rfl
      | cons a l => simp at h1
    exact slicesClone_nil_spec
/-- What a search finds. -/
def srchR (o : Option (List Int)) : AV := .tup [newInts (o.getD []), .b o.isSome]
theorem fittingFrom_spec {f : FuncId} {fl : List AV} {kk : Nat} {n : Nat} {fits : List Int → Nat → Bool} (A : AsksK Tryz.prog f fl kk n fits) (l : List Int) (g : Nat) (hn : n ≤ 1000) (hl : l.length < n) (hb : ∀ x ∈ l, 0 ≤ x ∧ x < n) (hg : g ≤ n) :
    Sp Tryz.prog 65 [.i n, ints l, .i g, .fn f fl kk] (srchR (goAt fits n l g).head?) := by
  unfold srchR
  refine spec_of Tryz.func65 rfl cc65 rfl ?_
  unfold ac65
  repeat (first | (refine step_ops ?_; (first | (refine m_mov (by conv => lhs; whnf) ?_) | (refine m_nils ?_))) | refine end_ops ?_ | refine seq_ops ?_)
  refine AW_scope (α := Unit) 0 (fun _ => False) (fun _ => st [] []) (fun _ => 0) rfl ?_ (fun _ hf => hf.elim)
  repeat (first | (refine step_ops ?_; (refine m_mov (by conv => lhs; whnf) ?_)) | refine seq_ops ?_)
  (refine step_ops ?_); (apply m_callo (slicesClone0_spec l (by omega))); (· repeat (first | exact lends_nil | (refine lends_cons ?_ ?_; (· (refine lend_ints ?_; first | rfl | omega))))); (· first | exact allv_ints _ | rfl | (simp; done))
  repeat (first | (refine step_ops ?_; (refine m_mov (by conv => lhs; whnf) ?_)) | refine end_ops ?_ | refine seq_ops ?_ | refine AW_seq ?_)
  refine AW_label ?_
  refine norm_then ?_
  repeat (first | refine AW_seq ?_ | refine AW_block ?_)
  refine AW_loop (α := List Int × Nat) (fun a => a.1.length ≤ n ∧ (∀ x ∈ a.1, 0 ≤ x ∧ x < n) ∧ a.2 ≤ n ∧ (goAt fits n a.1 a.2).head? = (goAt fits n l g).head?)
    (fun a => st [(0, .i n), (3, .fn f fl kk), (10, .sl 10 1 0 a.1.length), (11, .i a.2)] [(10, (true, a.1.map AV.i))]) (fun a => goMeas n a.1 a.2) (l, g) ⟨by show l.length ≤ n; omega, hb, hg, rfl⟩
    (Weak.trans (weak_move (r := 14) (q := 10) rfl (by decide) (by decide)) (weak_st ?_ ?_ ?_ rfl)) ?_
  · (repeat' (first | exact trivial | refine And.intro ?_ ?_)) <;> (first | rfl | skip)
    all_goals (simp (disch := decide) [tm_put_ne', tm_put_none, tm_mem, tm_kill, tm_mv, tm_st, tm_en0, tm_en1, tm_en2, tm_en3, tm_en4, Am.look, kill_fn A.nokill, mv_fn A.nokill])
  · exact ⟨rfl, trivial⟩
  · simp [refsT, refsV, A.norefs, Am.look]
  rintro ⟨M, y⟩ ⟨hM, hMb, hy, hres⟩
  dsimp only at hM hMb hy hres ⊢
  by_cases hfull : M.length = n
  · have hr1 : (goAt fits n l g).head? = some M := by rw [← hres]; exact goAt_full _ _ hfull
    repeat (first | (refine step_ops ?_; (first | (refine m_mov (by conv => lhs; whnf) ?_) | (refine m_eql rfl rfl ?_) | (refine m_len_sl rfl ?_))) | refine end_ops ?_ | refine seq_ops ?_ | (refine cond_t rfl ?_ ?_; (· first | rfl | assumption | (refine decide_eq_true ?_; first | assumption | omega) | (refine nt ?_; first | assumption | omega) | (simp [*]; done))) | refine AW_ret ?_ | refine ret_done ?_ | refine norm_then ?_ | refine AW_block ?_ | refine exit_round ?_ | refine AW_exit ?_ | refine exit_block ?_ | (refine exit_other ?_ ?_; (· decide)))
    rw [hr1]
    exact outs_tup2 (outs_ints rfl rfl rfl) (outs_b rfl)
  · have hMl : M.length < n := by omega
    by_cases hy2 : y < n
    · by_cases hf : fits M y = true
      · repeat (first | (refine step_ops ?_; ((try (refine g_yes rfl ?_ ?_; (· first | rfl | assumption | (refine decide_eq_true ?_; first | assumption | omega) | (refine nt ?_; first | assumption | omega) | (simp [*]; done) | (refine decide_eq_false ?_; first | assumption | omega) | (refine nf ?_; first | assumption | omega)))); (first | (refine m_mov (by conv => lhs; whnf) ?_) | (refine m_lss rfl rfl ?_) | (refine m_eql rfl rfl ?_) | (refine m_len_sl rfl ?_)))) | refine end_ops ?_ | refine seq_ops ?_ | (refine cond_f rfl ?_ ?_; (· first | rfl | assumption | (refine decide_eq_false ?_; first | assumption | omega) | (refine nf ?_; first | assumption | omega) | (simp [*]; done))) | refine AW_block ?_)
        refine step_ops ?_
        refine g_yes rfl ?_ ?_
        · first | rfl | assumption | (refine decide_eq_true ?_; first | assumption | omega) | (refine nt ?_; first | assumption | omega) | (simp [*]; done)
        refine m_callf rfl A.call (A.spec M y (by omega) hMb hy2) ?_ ?_
        · exact asksK_lend A.bears rfl rfl (lends_cons (lend_sli (by rfl) rfl) (lends_cons lend_v lends_nil))
        repeat (first | (refine step_ops ?_; (first | (refine m_mov (by conv => lhs; whnf) ?_) | (refine m_pick_t rfl ?_ (by conv => lhs; whnf) ?_; (· first | rfl | assumption | (refine decide_eq_true ?_; first | assumption | omega) | (refine nt ?_; first | assumption | omega) | (simp [*]; done))) | (refine m_bsl1 rfl rfl ?_) | (refine m_app1i rfl (by decide) (by rfl) (by first | rfl | omega | (simp; done)) rfl rfl ?_ (by decide) ?_; (· first | omega | (simp; omega))))) | refine end_ops ?_ | refine seq_ops ?_ | refine AW_ops ?_ | (refine cond_t rfl ?_ ?_; (· first | rfl | assumption | (refine decide_eq_true ?_; first | assumption | omega) | (refine nt ?_; first | assumption | omega) | (simp [*]; done))) | refine norm_block ?_)
        refine next_round (M ++ [(y : Int)], 0) ⟨by simp; omega, fun x hx => ?_, Nat.zero_le _, by rw [← hres]; exact congrArg _ (goAt_take _ _ hMl hy2 hf)⟩ (Weak.trans (weak_move (r := 45) (q := 10) rfl (by decide) (by decide)) (weak_st ?_ ?_ ?_ rfl)) ?_
        · rcases List.mem_append.1 hx with hx | hx
          · exact hMb x hx
          · rw [List.mem_singleton.1 hx]; omega
        · (repeat' (first | exact trivial | refine And.intro ?_ ?_)) <;> (first | rfl | skip)
          all_goals (simp (disch := decide) [tm_put_ne', tm_put_none, tm_mem, tm_kill, tm_mv, tm_st, tm_en0, tm_en1, tm_en2, tm_en3, tm_en4, Am.look, kill_fn A.nokill, mv_fn A.nokill])
        · exact ⟨rfl, trivial⟩
        · simp [refsT, refsV, A.norefs, Am.look]
        · exact goMeas_take hMl hy2
      · have hf : fits M y = false := by simpa using hf
        repeat (first | (refine step_ops ?_; ((try (refine g_yes rfl ?_ ?_; (· first | rfl | assumption | (refine decide_eq_true ?_; first | assumption | omega) | (refine nt ?_; first | assumption | omega) | (simp [*]; done) | (refine decide_eq_false ?_; first | assumption | omega) | (refine nf ?_; first | assumption | omega)))); (first | (refine m_mov (by conv => lhs; whnf) ?_) | (refine m_lss rfl rfl ?_) | (refine m_eql rfl rfl ?_) | (refine m_len_sl rfl ?_)))) | refine end_ops ?_ | refine seq_ops ?_ | (refine cond_f rfl ?_ ?_; (· first | rfl | assumption | (refine decide_eq_false ?_; first | assumption | omega) | (refine nf ?_; first | assumption | omega) | (simp [*]; done))) | refine AW_block ?_)
        refine step_ops ?_
        refine g_yes rfl ?_ ?_
        · first | rfl | assumption | (refine decide_eq_true ?_; first | assumption | omega) | (refine nt ?_; first | assumption | omega) | (simp [*]; done)
        refine m_callf rfl A.call (A.spec M y (by omega) hMb hy2) ?_ ?_
        · exact asksK_lend A.bears rfl rfl (lends_cons (lend_sli (by rfl) rfl) (lends_cons lend_v lends_nil))
        repeat (first | (refine step_ops ?_; (first | (refine m_mov (by conv => lhs; whnf) ?_) | (refine m_lss rfl rfl ?_) | (refine m_add rfl rfl ?_ ?_ ?_; (· omega); (· omega)) | (refine m_pick_t rfl ?_ (by conv => lhs; whnf) ?_; (· first | rfl | assumption | (refine decide_eq_true ?_; first | assumption | omega) | (refine nt ?_; first | assumption | omega) | (simp [*]; done))))) | refine end_ops ?_ | refine seq_ops ?_ | refine AW_ops ?_ | (refine cond_t rfl ?_ ?_; (· first | rfl | assumption | (refine decide_eq_true ?_; first | assumption | omega) | (refine nt ?_; first | assumption | omega) | (simp [*]; done))) | (refine cond_f rfl ?_ ?_; (· first | rfl | assumption | (refine decide_eq_false ?_; first | assumption | omega) | (refine nf ?_; first | assumption | omega) | (simp [*]; done))) | refine norm_block ?_)
        refine next_round (M, y + 1) ⟨hM, hMb, hy2, by rw [← hres]; exact congrArg _ (goAt_skip _ _ hMl hy2 hf)⟩ (weak_st ?_ ?_ ?_ rfl) ?_
        · (repeat' (first | exact trivial | refine And.intro ?_ ?_)) <;> (first | rfl | skip)
          all_goals (simp (disch := decide) [tm_put_ne', tm_put_none, tm_mem, tm_kill, tm_mv, tm_st, tm_en0, tm_en1, tm_en2, tm_en3, tm_en4, Am.look, kill_fn A.nokill, mv_fn A.nokill])
        · exact ⟨rfl, trivial⟩
        · simp [refsT, refsV, A.norefs, Am.look]
        · exact goMeas_skip hMl hy2
    · by_cases hM0 : M.length = 0
      · have hr1 : (goAt fits n l g).head? = none := by
          rw [← hres, List.length_eq_zero_iff.1 hM0, goAt_none _ _ (by omega) (by omega)]; rfl
        repeat (first | (refine step_ops ?_; (first | (first | (refine m_mov (by conv => lhs; whnf) ?_) | (refine m_lss rfl rfl ?_) | (refine m_eql rfl rfl ?_) | (refine m_len_sl rfl ?_) | (refine m_pick_f rfl ?_ (by conv => lhs; whnf) ?_; (· first | rfl | assumption | (refine decide_eq_false ?_; first | assumption | omega) | (refine nf ?_; first | assumption | omega) | (simp [*]; done))) | (refine m_nils ?_)) | (refine g_noT rfl ?_ ?_; (· first | rfl | assumption | (refine decide_eq_false ?_; first | assumption | omega) | (refine nf ?_; first | assumption | omega) | (simp [*]; done))))) | refine end_ops ?_ | refine seq_ops ?_ | (refine cond_t rfl ?_ ?_; (· first | rfl | assumption | (refine decide_eq_true ?_; first | assumption | omega) | (refine nt ?_; first | assumption | omega) | (simp [*]; done))) | (refine cond_f rfl ?_ ?_; (· first | rfl | assumption | (refine decide_eq_false ?_; first | assumption | omega) | (refine nf ?_; first | assumption | omega) | (simp [*]; done))) | refine AW_ret ?_ | refine ret_done ?_ | refine ret_then ?_ | refine AW_block ?_ | refine ret_block ?_ | refine ret_round ?_)
        rw [hr1]
        exact outs_tup2 (outs_ints rfl rfl rfl) (outs_b rfl)
      · obtain ⟨q, hq⟩ : ∃ q, M.length = q + 1 := ⟨M.length - 1, by omega⟩
        have hx := hMb _ (getD_mem (show q < M.length by omega))
        obtain ⟨k, hk⟩ := Int.eq_ofNat_of_zero_le hx.1
        have hlen : (M.take q).length = q := List.length_take_of_le (by omega)
        have hsp : M = M.take q ++ [(k : Int)] := by
          have h1 := take_snoc M q 0 (by omega)
          rw [List.take_of_length_le (by omega), hk] at h1
          exact h1
        have hgo : goAt fits n M y = goAt fits n (M.take q) (k + 1) := by
          conv => lhs; rw [hsp]
          rw [goAt_back _ _ (by omega) (by omega), Int.toNat_natCast]
        have hms : goMeas n (M.take q) (k + 1) < goMeas n M y := by
          have := goMeas_back (n := n) (l := M.take q) (x := (k : Int)) (g := y) (by omega)
          rw [← hsp, Int.toNat_natCast] at this
          exact this
        clear hsp
        repeat (first | (refine step_ops ?_; (first | (first | (refine m_mov (by conv => lhs; whnf) ?_) | (refine m_lss rfl rfl ?_) | (refine m_eql rfl rfl ?_) | (refine m_sub rfl rfl ?_ ?_ ?_; (· omega); (· omega)) | (refine m_len_sl rfl ?_) | (refine m_idx_sl rfl rfl ?_ ?_ ?_; (· omega); (· omega)) | (refine m_ld_pti rfl (by rfl) ?_ ?_; (· first | omega | (simp; omega))) | (refine m_pick_f rfl ?_ (by conv => lhs; whnf) ?_; (· first | rfl | assumption | (refine decide_eq_false ?_; first | assumption | omega) | (refine nf ?_; first | assumption | omega) | (simp [*]; done)))) | (refine g_noT rfl ?_ ?_; (· first | rfl | assumption | (refine decide_eq_false ?_; first | assumption | omega) | (refine nf ?_; first | assumption | omega) | (simp [*]; done))))) | refine end_ops ?_ | refine seq_ops ?_ | (refine cond_f rfl ?_ ?_; (· first | rfl | assumption | (refine decide_eq_false ?_; first | assumption | omega) | (refine nf ?_; first | assumption | omega) | (simp [*]; done))) | refine AW_block ?_)
        rw [show (M.length : Int) - 1 = (q : Int) by omega]
        skip
        rw [show M.getD (0 + (q : Int).toNat * 1) 0 = (k : Int) by rw [Int.toNat_natCast, Nat.zero_add, Nat.mul_one]; exact hk]
        repeat (first | (refine step_ops ?_; (first | (refine m_mov (by conv => lhs; whnf) ?_) | (refine m_add rfl rfl ?_ ?_ ?_; (· omega); (· omega)))) | refine end_ops ?_ | refine AW_ops ?_)
        refine step_ops ?_
        refine m_cut_sl (l := 0) (h := q) rfl rfl ⟨_, rfl⟩ (Nat.zero_le _) (by omega) ?_
        repeat (first | (refine step_ops ?_; (refine m_mov (by conv => lhs; whnf) ?_)) | refine end_ops ?_ | refine norm_block ?_)
        refine next_round (M.take q, k + 1) ⟨by show (M.take q).length ≤ _; omega, fun x hx => hMb x (List.mem_of_mem_take hx), by show k + 1 ≤ n; omega, by rw [← hres]; exact congrArg _ hgo.symm⟩ (Weak.trans (weak_shrink 10 q rfl (allv_ints _)) (weak_st ?_ ?_ ?_ rfl)) hms
        · rw [hlen]
          (repeat' (first | exact trivial | refine And.intro ?_ ?_)) <;> (first | rfl | skip)
          all_goals (simp (disch := decide) [tm_put_ne', tm_put_none, tm_mem, tm_kill, tm_mv, tm_st, tm_en0, tm_en1, tm_en2, tm_en3, tm_en4, Am.look, kill_fn A.nokill, mv_fn A.nokill])
        · rw [List.map_take]
          exact ⟨rfl, trivial⟩
        · simp [refsT, refsV, A.norefs, Am.look]
theorem firstFitting_spec {f : FuncId} {fl : List AV} {kk : Nat} {n : Nat} {fits : List Int → Nat → Bool} (A : AsksK Tryz.prog f fl kk n fits) (hn : n ≤ 1000) (h1 : 1 ≤ n) :
    Sp Tryz.prog 45 [.i n, .fn f fl kk] (srchR (goOn fits n n []).head?) := by
  have hs := fittingFrom_spec A [] 0 hn h1 (fun x hx => by simp at hx) (Nat.zero_le _)
  rw [goAt_start _ _ h1] at hs
  unfold srchR at hs ⊢
  generalize hsr : (goOn fits n n []).head? = sr at hs ⊢
  refine spec_of Tryz.func45 rfl cc45 rfl ?_
  unfold ac45
  repeat (first | (refine step_ops ?_; (first | (refine m_mov (by conv => lhs; whnf) ?_) | (refine m_nils ?_))) | refine end_ops ?_ | refine seq_ops ?_)
  refine step_ops ?_
  refine m_callt hs ?_ (allv_ints _) rfl ?_
  · refine lends_cons lend_v (lends_cons lend_nil (lends_cons lend_v (lends_cons ?_ lends_nil)))
    rw [show AS.ev _ (.t 7) = AV.fn f fl kk by (show killV 4 (AV.fn f fl kk) = _; exact kill_fn A.nokill)]
    exact lend_bears A.bears
  repeat (first | (refine step_ops ?_; (first | (refine m_mov (by conv => lhs; whnf) ?_) | (refine m_ext rfl rfl ?_))) | refine end_ops ?_ | refine AW_ret ?_ | refine ret_done ?_)
  exact outs_tup2 (outs_ints rfl rfl rfl) (outs_b rfl)
theorem nextFitting_spec {f : FuncId} {fl : List AV} {kk : Nat} {n : Nat} {fits : List Int → Nat → Bool} (A : AsksK Tryz.prog f fl kk n fits) (hn : n ≤ 1000) (h1 : 1 ≤ n) (L : List Int) (hL : L.length = n) (hb : ∀ x ∈ L, 0 ≤ x ∧ x < n) :
    Sp Tryz.prog 54 [ints L, .fn f fl kk] (srchR ((goOn fits n n []).find? (fun m => comesB L m))) := by
  have hbb : ∀ i < n, ∃ g : Nat, L.getD i 0 = g ∧ g < n := fun i hi => by
    have hr := hb _ (getD_mem (show i < L.length by omega))
    obtain ⟨q, hq⟩ := Int.eq_ofNat_of_zero_le hr.1
    exact ⟨q, hq, by omega⟩
  unfold srchR
  refine spec_of Tryz.func54 rfl cc54 rfl ?_
  unfold ac54
  repeat (first | (refine step_ops ?_; (first | (refine m_mov (by conv => lhs; whnf) ?_) | (refine m_nils ?_))) | refine end_ops ?_ | refine seq_ops ?_ | refine AW_seq ?_ | refine AW_block ?_)
  refine AW_loop (α := Nat) (fun k => k < n ∧ ∀ i < k, fits (L.take i) (L.getD i 0).toNat = true) (fun k => st [(0, ints L), (1, .fn f fl kk), (6, .i k)] []) (fun k => n - k) 0 ⟨by omega, fun i hi => by omega⟩ (weak_st ?_ ?_ ?_ rfl) ?_
  · (repeat' (first | exact trivial | refine And.intro ?_ ?_)) <;> (first | rfl | skip)
    all_goals (simp (disch := decide) [tm_put_ne', tm_put_none, tm_mem, tm_kill, tm_mv, tm_st, tm_en0, tm_en1, tm_en2, tm_en3, tm_en4, Am.look, kill_fn A.nokill, mv_fn A.nokill])
  · exact trivial
  · simp [refsT, refsV, A.norefs, Am.look]
  rintro k ⟨hk, ha⟩
  obtain ⟨j, hj, hjn⟩ := hbb k hk
  have hlt : (L.take k).length = k := List.length_take_of_le (by omega)
  have hend : fits (L.take k) (L.getD k 0).toNat = false ∨ k + 1 = n → Sp Tryz.prog 65 [.i n, ints (L.take k), .i (j + 1), .fn f fl kk] (srchR ((goOn fits n n []).find? (fun m => comesB L m))) := by
    intro he
    rw [find_behind fits n hL hbb hk ha he, hj, Int.toNat_natCast]
    exact fittingFrom_spec A (L.take k) (j + 1) hn (by omega) (fun x hx => hb x (List.mem_of_mem_take hx)) (by omega)
  unfold srchR at hend
  generalize hsr : (goOn fits n n []).find? (fun m => comesB L m) = sr at hend ⊢
  by_cases hc : (k : Int) < L.length - 1
  · have hsp := A.spec (L.take k) j (by omega) (fun x hx => hb x (List.mem_of_mem_take hx)) hjn
    by_cases hf : fits (L.take k) j = true
    · repeat (first | (refine step_tree ?_; ((try (refine g_yes rfl ?_ ?_; (· first | rfl | assumption | (refine decide_eq_true ?_; first | assumption | omega) | (refine nt ?_; first | assumption | omega) | (simp [*]; done) | (refine decide_eq_false ?_; first | assumption | omega) | (refine nf ?_; first | assumption | omega)))); (first | (refine m_mov (by conv => lhs; whnf) ?_) | (refine m_lss rfl rfl ?_) | (refine m_sub rfl rfl ?_ ?_ ?_; (· omega); (· omega)) | (refine m_len_ro rfl ?_) | (refine m_idx1_ro rfl rfl ?_ ?_; (· omega)) | (refine m_ld_rpi rfl ?_ ?_; (· omega)) | (refine m_cut_hi rfl rfl ?_ ?_ ?_; (· first | rfl | omega | simp); (· first | omega | (simp; omega)))))) | refine seq_tree ?_ | refine AW_seq ?_)
      rw [hj]
      skip
      refine step_tree ?_
      refine g_yes rfl ?_ ?_
      · first | rfl | assumption | (refine decide_eq_true ?_; first | assumption | omega) | (refine nt ?_; first | assumption | omega) | (simp [*]; done)
      refine m_callf rfl A.call hsp ?_ ?_
      · exact asksK_lend A.bears rfl rfl (lends_cons (lend_ints rfl) (lends_cons lend_v lends_nil))
      repeat (first | ((first | refine step_ops ?_ | refine step_tree ?_); (first | (refine m_mov (by conv => lhs; whnf) ?_) | (refine m_add rfl rfl ?_ ?_ ?_; (· omega); (· omega)) | (refine m_pick_t rfl ?_ (by conv => lhs; whnf) ?_; (· first | rfl | assumption | (refine decide_eq_true ?_; first | assumption | omega) | (refine nt ?_; first | assumption | omega) | (simp [*]; done))))) | refine end_ops ?_ | refine AW_ops ?_ | refine end_tree ?_ | (refine cond_t rfl ?_ ?_; (· first | rfl | assumption | (refine decide_eq_true ?_; first | assumption | omega) | (refine nt ?_; first | assumption | omega) | (simp [*]; done))) | refine skip_then ?_ | refine AW_block ?_ | refine norm_block ?_)
      refine next_round (k + 1) ⟨by omega, fun i hi => ?_⟩ (weak_st ?_ ?_ ?_ rfl) ?_
      · by_cases hik : i = k
        · subst hik; rw [hj, Int.toNat_natCast]; exact hf
        · exact ha i (by omega)
      · (repeat' (first | exact trivial | refine And.intro ?_ ?_)) <;> (first | rfl | skip)
        all_goals (simp (disch := decide) [tm_put_ne', tm_put_none, tm_mem, tm_kill, tm_mv, tm_st, tm_en0, tm_en1, tm_en2, tm_en3, tm_en4, Am.look, kill_fn A.nokill, mv_fn A.nokill])
      · exact trivial
      · simp [refsT, refsV, A.norefs, Am.look]
      · omega
    · have hf : fits (L.take k) j = false := by simpa using hf
      have hs := hend (.inl (by rw [hj, Int.toNat_natCast]; exact hf))
      repeat (first | (refine step_tree ?_; ((try (refine g_yes rfl ?_ ?_; (· first | rfl | assumption | (refine decide_eq_true ?_; first | assumption | omega) | (refine nt ?_; first | assumption | omega) | (simp [*]; done) | (refine decide_eq_false ?_; first | assumption | omega) | (refine nf ?_; first | assumption | omega)))); (first | (refine m_mov (by conv => lhs; whnf) ?_) | (refine m_lss rfl rfl ?_) | (refine m_sub rfl rfl ?_ ?_ ?_; (· omega); (· omega)) | (refine m_len_ro rfl ?_) | (refine m_idx1_ro rfl rfl ?_ ?_; (· omega)) | (refine m_ld_rpi rfl ?_ ?_; (· omega)) | (refine m_cut_hi rfl rfl ?_ ?_ ?_; (· first | rfl | omega | simp); (· first | omega | (simp; omega)))))) | refine seq_tree ?_ | refine AW_seq ?_)
      rw [hj]
      skip
      refine step_tree ?_
      refine g_yes rfl ?_ ?_
      · first | rfl | assumption | (refine decide_eq_true ?_; first | assumption | omega) | (refine nt ?_; first | assumption | omega) | (simp [*]; done)
      refine m_callf rfl A.call hsp ?_ ?_
      · exact asksK_lend A.bears rfl rfl (lends_cons (lend_ints rfl) (lends_cons lend_v lends_nil))
      repeat (first | (refine step_tree ?_; (first | (refine m_mov (by conv => lhs; whnf) ?_) | (refine m_add rfl rfl ?_ ?_ ?_; (· omega); (· omega)) | (refine m_len_ro rfl ?_) | (refine m_idx1_ro rfl rfl ?_ ?_; (· omega)) | (refine m_ld_rpi rfl ?_ ?_; (· omega)) | (refine m_pick_t rfl ?_ (by conv => lhs; whnf) ?_; (· first | rfl | assumption | (refine decide_eq_true ?_; first | assumption | omega) | (refine nt ?_; first | assumption | omega) | (simp [*]; done))) | (refine m_cut_hi rfl rfl ?_ ?_ ?_; (· first | rfl | omega | simp); (· first | omega | (simp; omega))))) | refine end_tree ?_ | refine seq_tree ?_ | (refine cond_f rfl ?_ ?_; (· first | rfl | assumption | (refine decide_eq_false ?_; first | assumption | omega) | (refine nf ?_; first | assumption | omega) | (simp [*]; done))) | refine norm_then ?_ | refine exit_then ?_ | refine exit_round ?_ | refine AW_exit ?_ | refine exit_block ?_)
      rw [hj]
      skip
      refine step_tree ?_
      refine m_call hs ?_ ?_
      · rw [← hL]
        exact lends_cons lend_v (lends_cons (lend_ints rfl) (lends_cons lend_v (lends_cons (lend_bears A.bears) lends_nil)))
      repeat (first | (refine step_tree ?_; (first | (refine m_mov (by conv => lhs; whnf) ?_) | (refine m_ext rfl rfl ?_))) | refine end_tree ?_ | refine AW_ret ?_ | refine ret_done ?_)
      exact outs_tup2 (outs_ro (allv_ints _)) (outs_b rfl)
  · have hs := hend (.inr (by omega))
    repeat (first | (refine step_tree ?_; (first | (first | (refine m_mov (by conv => lhs; whnf) ?_) | (refine m_lss rfl rfl ?_) | (refine m_add rfl rfl ?_ ?_ ?_; (· omega); (· omega)) | (refine m_sub rfl rfl ?_ ?_ ?_; (· omega); (· omega)) | (refine m_len_ro rfl ?_) | (refine m_idx1_ro rfl rfl ?_ ?_; (· omega)) | (refine m_ld_rpi rfl ?_ ?_; (· omega)) | (refine m_pick_f rfl ?_ (by conv => lhs; whnf) ?_; (· first | rfl | assumption | (refine decide_eq_false ?_; first | assumption | omega) | (refine nf ?_; first | assumption | omega) | (simp [*]; done))) | (refine m_cut_hi rfl rfl ?_ ?_ ?_; (· first | rfl | omega | simp); (· first | omega | (simp; omega)))) | (refine g_noT rfl ?_ ?_; (· first | rfl | assumption | (refine decide_eq_false ?_; first | assumption | omega) | (refine nf ?_; first | assumption | omega) | (simp [*]; done))))) | refine end_tree ?_ | refine seq_tree ?_ | (refine cond_f rfl ?_ ?_; (· first | rfl | assumption | (refine decide_eq_false ?_; first | assumption | omega) | (refine nf ?_; first | assumption | omega) | (simp [*]; done))) | refine AW_seq ?_ | refine norm_then ?_ | refine exit_then ?_ | refine exit_round ?_ | refine AW_exit ?_ | refine exit_block ?_)
    rw [hj]
    skip
    refine step_tree ?_
    refine m_call hs ?_ ?_
    · rw [← hL]
      exact lends_cons lend_v (lends_cons (lend_ints rfl) (lends_cons lend_v (lends_cons (lend_bears A.bears) lends_nil)))
    repeat (first | (refine step_tree ?_; (first | (refine m_mov (by conv => lhs; whnf) ?_) | (refine m_ext rfl rfl ?_))) | refine end_tree ?_ | refine AW_ret ?_ | refine ret_done ?_)
    exact outs_tup2 (outs_ro (allv_ints _)) (outs_b rfl)
end Go.Proofs.YtmmcldbldbpikaaGreatDoor
namespace Go.Am
variable [Go.Am.CodeBlk]
/-- A member of what goes on is found. -/
theorem goOn_len {fits : List Int → Nat → Bool} {n k : Nat} {l m : List Int} (h : m ∈ goOn fits n k l) : m.length = l.length + k := by
  obtain ⟨r, rfl, hr⟩ := goOn_shape fits n _ _ _ h
  rw [List.length_append, hr]
/-- The first that goes on from l, behind a list if that is not empty. -/
def fstB (fits : List Int → Nat → Bool) (n k : Nat) (l bh : List Int) : Option (List Int) := if bh = [] then (goOn fits n k l).head? else (goOn fits n k l).find? (fun m => comesB bh m)
/-- What is found among the first nexts. -/
def partB (fits : List Int → Nat → Bool) (n k : Nat) (l bh : List Int) (x : Nat) : Option (List Int) := (List.range x).findSome? fun x => if fits l x then fstB fits n k (l ++ [(x : Int)]) bh else none
theorem partB_zero (fits : List Int → Nat → Bool) (n k : Nat) (l bh : List Int) : partB fits n k l bh 0 = none := rfl
theorem partB_succ (fits : List Int → Nat → Bool) (n k : Nat) (l bh : List Int) (x : Nat) : partB fits n k l bh (x + 1) = (partB fits n k l bh x).or (if fits l x then fstB fits n k (l ++ [(x : Int)]) bh else none) := by
  unfold partB
  rw [List.range_succ, List.findSome?_append]
  simp
theorem findSome_filter {α β : Type} (p : α → Bool) (f : α → Option β) : ∀ l : List α, (l.filter p).findSome? f = l.findSome? fun x => if p x then f x else none
  | [] => rfl
  | a :: l => by
    simp only [List.filter_cons, List.findSome?_cons]
    cases p a
    · simp only [Bool.false_eq_true, if_false]
      exact findSome_filter p f l
    · simp only [if_true, List.findSome?_cons, findSome_filter p f l]
theorem partB_all (fits : List Int → Nat → Bool) (n k : Nat) (l bh : List Int) : partB fits n k l bh n = fstB fits n (k + 1) l bh := by
  unfold partB fstB
  by_cases h : bh = []
  · simp only [if_pos h]
    rw [goOn, List.head?_flatMap, findSome_filter]
  · simp only [if_neg h]
    rw [goOn, List.find?_flatMap, findSome_filter]
end Go.Am
namespace Go.Am
variable [Go.Am.CodeBlk]
/-- Are the last two of a beginning a couple, or, at its full length, the last one and the first? -/
def Chk (n : Nat) (l : List Int) : Prop := (1 < l.length ∧ l.getD (l.length - 1) 0 / 2 = l.getD (l.length - 2) 0 / 2) ∨ (l.length = n ∧ l.getD (l.length - 1) 0 / 2 = l.getD 0 0 / 2)
instance (n : Nat) (l : List Int) : Decidable (Chk n l) := inferInstanceAs (Decidable (_ ∨ _))
/-- May the guest y sit behind those of M? -/
def fitsT (n : Nat) (M : List Int) (y : Nat) : Bool := if M = [] then decide (y = 0) else !decide ((y : Int) ∈ M) && !decide (Chk n (M ++ [(y : Int)]))
theorem chk_snoc {n : Nat} {M : List Int} {y : Int} (h : M ≠ []) : Chk n (M ++ [y]) ↔ (M.getD (M.length - 1) 0 / 2 = y / 2) ∨ (M.length + 1 = n ∧ M.getD 0 0 / 2 = y / 2) := by
  have hp : 0 < M.length := List.length_pos_iff.2 h
  have e1 : (M ++ [y]).getD ((M ++ [y]).length - 1) 0 = y := by simp
  have e2 : (M ++ [y]).getD ((M ++ [y]).length - 2) 0 = M.getD (M.length - 1) 0 := by
    rw [List.length_append, List.length_singleton, show M.length + 1 - 2 = M.length - 1 by omega, List.getD_eq_getElem?_getD, List.getD_eq_getElem?_getD, List.getElem?_append_left (by omega)]
  have e3 : (M ++ [y]).getD 0 0 = M.getD 0 0 := by
    rw [List.getD_eq_getElem?_getD, List.getD_eq_getElem?_getD, List.getElem?_append_left hp]
  unfold Chk
  rw [e1, e2, e3, List.length_append, List.length_singleton]
  constructor
  · rintro (⟨_, h1⟩ | ⟨h1, h2⟩)
    · exact .inl h1.symm
    · exact .inr ⟨h1, h2.symm⟩
  · rintro (h1 | ⟨h1, h2⟩)
    · exact .inl ⟨by omega, h1.symm⟩
    · exact .inr ⟨h1, h2.symm⟩
theorem chk_one {n : Nat} {x : Int} (h : 2 ≤ n) : ¬ Chk n [x] := by
  rintro (⟨h1, _⟩ | ⟨h1, _⟩)
  · simp at h1
  · simp at h1; omega
theorem goOn_first (n : Nat) : goOn (fitsT (n + 1)) (n + 1) (n + 1) [] = goOn (fitsT (n + 1)) (n + 1) n [0] := by
  rw [goOn]
  have e : (List.range (n + 1)).filter (fun x => fitsT (n + 1) [] x) = [0] := by
    rw [List.range_succ_eq_map, List.filter_cons]
    have h1 : fitsT (n + 1) [] 0 = true := by simp [fitsT]
    rw [if_pos h1, List.filter_eq_nil_iff.2]
    intro x hx
    obtain ⟨y, _, rfl⟩ := List.mem_map.1 hx
    simp [fitsT]
  rw [e]
  simp
theorem fstB_first (n : Nat) (bh : List Int) : fstB (fitsT (n + 1)) (n + 1) (n + 1) [] bh = fstB (fitsT (n + 1)) (n + 1) n [0] bh := by
  unfold fstB
  rw [goOn_first]
theorem fstB_zero {fits : List Int → Nat → Bool} {n : Nat} {l bh : List Int} : fstB fits n 0 l bh = if bh = [] ∨ comesB bh l = true then some l else none := by
  unfold fstB
  by_cases h : bh = []
  · simp [h, goOn]
  · simp only [if_neg h, goOn, List.find?_cons, List.find?_nil, h, false_or]
    cases comesB bh l <;> rfl
theorem partB_mono {fits : List Int → Nat → Bool} {n k : Nat} {l bh m : List Int} {x : Nat} (h : partB fits n k l bh x = some m) : ∀ y, x ≤ y → partB fits n k l bh y = some m := by
  intro y hy
  obtain ⟨d, rfl⟩ := Nat.exists_eq_add_of_le hy
  clear hy
  induction d with
  | zero => exact h
  | succ d ih => rw [Nat.add_succ, partB_succ, ih]; rfl
theorem fitsT_cons {n : Nat} {l : List Int} (h : 0 < l.length) (x : Nat) : fitsT n l x = (!decide ((x : Int) ∈ l) && !decide (Chk n (l ++ [(x : Int)]))) := by
  unfold fitsT
  rw [if_neg (by rintro rfl; simp at h)]
/-- Where a full list differs from another for the first time by less, it doesn't come behind. -/
theorem comesB_less {n i : Nat} {l b : List Int} (hl : i < l.length) (hb : i < b.length) (he : l.take i = b.take i) (hlt : l.getD i 0 < b.getD i 0) : comesB b l = false := by
  have h := find_prune (fitsT n) n (k := 0) hl hb he hlt
  rw [goOn, List.find?_cons, List.find?_nil] at h
  cases hc : comesB b l with
  | false => rfl
  | true => rw [hc] at h; cases h
end Go.Am
namespace Go.Proofs.YtmmcldbldbpikaaGreatDoor
variable [Go.Am.CodeBlk]
open Go.Am
attribute [local irreducible] AW Outs Weak Lends Lend Sp aops atree aop1 Then Round InBlock Done
theorem apartAsk_nil (n : Nat) (M : List Int) (y : Nat) (hM0 : M = []) : Sp Tryz.prog 66 [ints M, .i y, .rp [.i n]] (.b (fitsT n M y)) := by
  have hl0 : M.length = 0 := by rw [hM0]; rfl
  have hf : fitsT n M y = decide ((y : Int) = 0) := by
    unfold fitsT; rw [if_pos hM0]
    by_cases h : y = 0
    · subst h; rfl
    · rw [decide_eq_false h, decide_eq_false (by omega)]
  clear hM0
  rw [hf]
  refine spec_of Tryz.func66 rfl cc66 rfl ?_
  unfold ac66
  repeat (first | (refine step_ops ?_; (first | (refine m_mov (by conv => lhs; whnf) ?_) | (refine m_eql rfl rfl ?_) | (refine m_len_ro rfl ?_))) | refine end_ops ?_ | refine seq_ops ?_ | (refine cond_t rfl ?_ ?_; (· first | rfl | assumption | (refine decide_eq_true ?_; first | assumption | omega) | (refine nt ?_; first | assumption | omega) | (simp [*]; done))) | refine AW_seq ?_ | refine AW_ret ?_ | refine ret_done ?_ | refine ret_then ?_)
  exact outs_b rfl
theorem apartAsk_spec (n : Nat) (hn : n ≤ 14) (M : List Int) (y : Nat) (hM : M.length < n) (hb : ∀ x ∈ M, 0 ≤ x ∧ x < n) (hy : y < n) : Sp Tryz.prog 66 [ints M, .i y, .rp [.i n]] (.b (fitsT n M y)) := by
  by_cases hM0 : M = []
  · exact apartAsk_nil n M y hM0
  have hp : 0 < M.length := List.length_pos_iff.2 hM0
  obtain ⟨q, hq⟩ : ∃ q : Nat, M.length = q + 1 := ⟨M.length - 1, by omega⟩
  have hq2 : (M.length : Int) - 1 = (q : Nat) := by omega
  have hx := hb _ (getD_mem (show q < M.length by omega))
  have hz := hb _ (getD_mem (show 0 < M.length by omega))
  obtain ⟨x, hx1⟩ := Int.eq_ofNat_of_zero_le hx.1
  obtain ⟨z, hz1⟩ := Int.eq_ofNat_of_zero_le hz.1
  have hz2 : M.getD (Int.toNat 0 * 1) 0 = (z : Nat) := hz1
  have hxn : x < n := by omega
  have hzn : z < n := by omega
  have hf : fitsT n M y = (!decide ((y : Int) ∈ M) && !decide (((x : Int) / 2 = (y : Int) / 2) ∨ (M.length + 1 = n ∧ (z : Int) / 2 = (y : Int) / 2))) := by
    unfold fitsT
    rw [if_neg hM0]
    congr 2
    refine decide_eq_decide.2 ?_
    rw [chk_snoc hM0, show M.length - 1 = q by omega, hx1, hz1]
  rw [hf]
  clear hf hb hM0 hx hz hp
  refine spec_of Tryz.func66 rfl cc66 rfl ?_
  unfold ac66
  by_cases hm : (y : Int) ∈ M
  · repeat (first | (refine step_ops ?_; (first | (refine m_mov (by conv => lhs; whnf) ?_) | (refine m_eql rfl rfl ?_) | (refine m_len_ro rfl ?_))) | refine end_ops ?_ | refine seq_ops ?_ | (refine cond_f rfl ?_ ?_; (· first | rfl | assumption | (refine decide_eq_false ?_; first | assumption | omega) | (refine nf ?_; first | assumption | omega) | (simp [*]; done))) | refine skip_then ?_ | refine AW_seq ?_)
    (refine step_ops ?_); (apply m_call (slicesContains_spec M y (by omega))); (· repeat (first | exact lends_nil | (refine lends_cons ?_ ?_; (· (first | exact lend_v | (refine lend_ints ?_; first | rfl | omega))))))
    repeat (first | (refine step_ops ?_; (first | (first | (refine m_mov (by conv => lhs; whnf) ?_) | (refine m_pick_t rfl ?_ (by conv => lhs; whnf) ?_; (· first | rfl | assumption | (refine decide_eq_true ?_; first | assumption | omega) | (refine nt ?_; first | assumption | omega) | (simp [*]; done)))) | (refine g_noF rfl ?_ ?_; (· first | rfl | assumption | (refine decide_eq_true ?_; first | assumption | omega) | (refine nt ?_; first | assumption | omega) | (simp [*]; done))))) | refine end_ops ?_ | refine seq_ops ?_ | (refine cond_t rfl ?_ ?_; (· first | rfl | assumption | (refine decide_eq_true ?_; first | assumption | omega) | (refine nt ?_; first | assumption | omega) | (simp [*]; done))) | refine AW_ret ?_ | refine ret_done ?_ | refine ret_then ?_)
    exact outs_b (by simp [hm])
  by_cases he1 : (x : Int) / 2 = (y : Int) / 2
  · repeat (first | (refine step_ops ?_; (first | (refine m_mov (by conv => lhs; whnf) ?_) | (refine m_eql rfl rfl ?_) | (refine m_len_ro rfl ?_))) | refine end_ops ?_ | refine seq_ops ?_ | (refine cond_f rfl ?_ ?_; (· first | rfl | assumption | (refine decide_eq_false ?_; first | assumption | omega) | (refine nf ?_; first | assumption | omega) | (simp [*]; done))) | refine skip_then ?_ | refine AW_seq ?_)
    (refine step_ops ?_); (apply m_call (slicesContains_spec M y (by omega))); (· repeat (first | exact lends_nil | (refine lends_cons ?_ ?_; (· (first | exact lend_v | (refine lend_ints ?_; first | rfl | omega))))))
    repeat (refine step_ops ?_; ((try (refine g_yes rfl ?_ ?_; (· first | rfl | assumption | (refine decide_eq_true ?_; first | assumption | omega) | (refine nt ?_; first | assumption | omega) | (simp [*]; done) | (refine decide_eq_false ?_; first | assumption | omega) | (refine nf ?_; first | assumption | omega)))); (first | (refine m_mov (by conv => lhs; whnf) ?_) | (refine m_sub rfl rfl ?_ ?_ ?_; (· omega); (· omega)) | (refine m_len_ro rfl ?_) | (apply m_idx1_roj; (· rfl); (· rfl); (· assumption); (· omega)) | (refine m_ld_rpi rfl ?_ ?_; (· omega)))))
    rw [hx1]
    skip
    (refine step_ops ?_); (refine g_yes rfl ?_ ?_; (· first | (first | rfl | assumption | (refine decide_eq_true ?_; first | assumption | omega) | (refine nt ?_; first | assumption | omega) | (simp [*]; done)) | (first | rfl | assumption | (refine decide_eq_false ?_; first | assumption | omega) | (refine nf ?_; first | assumption | omega) | (simp [*]; done))); (apply m_call (areCouple_spec x y (by omega) (by omega)))); (· repeat (first | exact lends_nil | (refine lends_cons ?_ ?_; (· exact lend_v))))
    repeat (first | (refine step_ops ?_; (first | (refine m_mov (by conv => lhs; whnf) ?_) | (refine m_pick_f rfl ?_ (by conv => lhs; whnf) ?_; (· first | rfl | assumption | (refine decide_eq_false ?_; first | assumption | omega) | (refine nf ?_; first | assumption | omega) | (simp [*]; done))))) | refine end_ops ?_ | refine seq_ops ?_ | (refine cond_t rfl ?_ ?_; (· first | rfl | assumption | (refine decide_eq_true ?_; first | assumption | omega) | (refine nt ?_; first | assumption | omega) | (simp [*]; done))) | refine AW_ret ?_ | refine ret_done ?_ | refine ret_then ?_)
    exact outs_b (by simp [he1])
  by_cases hl : (M.length : Int) < (n : Int) - 1
  · repeat (first | (refine step_ops ?_; (first | (refine m_mov (by conv => lhs; whnf) ?_) | (refine m_eql rfl rfl ?_) | (refine m_len_ro rfl ?_))) | refine end_ops ?_ | refine seq_ops ?_ | (refine cond_f rfl ?_ ?_; (· first | rfl | assumption | (refine decide_eq_false ?_; first | assumption | omega) | (refine nf ?_; first | assumption | omega) | (simp [*]; done))) | refine skip_then ?_ | refine AW_seq ?_)
    (refine step_ops ?_); (apply m_call (slicesContains_spec M y (by omega))); (· repeat (first | exact lends_nil | (refine lends_cons ?_ ?_; (· (first | exact lend_v | (refine lend_ints ?_; first | rfl | omega))))))
    repeat (refine step_ops ?_; ((try (refine g_yes rfl ?_ ?_; (· first | rfl | assumption | (refine decide_eq_true ?_; first | assumption | omega) | (refine nt ?_; first | assumption | omega) | (simp [*]; done) | (refine decide_eq_false ?_; first | assumption | omega) | (refine nf ?_; first | assumption | omega)))); (first | (refine m_mov (by conv => lhs; whnf) ?_) | (refine m_sub rfl rfl ?_ ?_ ?_; (· omega); (· omega)) | (refine m_len_ro rfl ?_) | (apply m_idx1_roj; (· rfl); (· rfl); (· assumption); (· omega)) | (refine m_ld_rpi rfl ?_ ?_; (· omega)))))
    rw [hx1]
    skip
    (refine step_ops ?_); (refine g_yes rfl ?_ ?_; (· first | (first | rfl | assumption | (refine decide_eq_true ?_; first | assumption | omega) | (refine nt ?_; first | assumption | omega) | (simp [*]; done)) | (first | rfl | assumption | (refine decide_eq_false ?_; first | assumption | omega) | (refine nf ?_; first | assumption | omega) | (simp [*]; done))); (apply m_call (areCouple_spec x y (by omega) (by omega)))); (· repeat (first | exact lends_nil | (refine lends_cons ?_ ?_; (· exact lend_v))))
    repeat (first | (refine step_ops ?_; (first | (first | (refine m_mov (by conv => lhs; whnf) ?_) | (refine m_lss rfl rfl ?_) | (refine m_sub rfl rfl ?_ ?_ ?_; (· omega); (· omega)) | (refine m_len_ro rfl ?_) | (apply m_ld_rp; (· rfl); (· rfl)) | (refine m_pick_t rfl ?_ (by conv => lhs; whnf) ?_; (· first | rfl | assumption | (refine decide_eq_true ?_; first | assumption | omega) | (refine nt ?_; first | assumption | omega) | (simp [*]; done))) | (refine m_pick_f rfl ?_ (by conv => lhs; whnf) ?_; (· first | rfl | assumption | (refine decide_eq_false ?_; first | assumption | omega) | (refine nf ?_; first | assumption | omega) | (simp [*]; done)))) | (refine g_noF rfl ?_ ?_; (· first | rfl | assumption | (refine decide_eq_true ?_; first | assumption | omega) | (refine nt ?_; first | assumption | omega) | (simp [*]; done))))) | refine end_ops ?_ | refine seq_ops ?_ | (refine cond_f rfl ?_ ?_; (· first | rfl | assumption | (refine decide_eq_false ?_; first | assumption | omega) | (refine nf ?_; first | assumption | omega) | (simp [*]; done))) | refine skip_then ?_ | refine AW_ret ?_ | refine ret_done ?_)
    refine outs_b ?_
    have : ¬ (M.length + 1 = n) := by omega
    simp [hm, he1, this]
  · repeat (first | (refine step_ops ?_; (first | (refine m_mov (by conv => lhs; whnf) ?_) | (refine m_eql rfl rfl ?_) | (refine m_len_ro rfl ?_))) | refine end_ops ?_ | refine seq_ops ?_ | (refine cond_f rfl ?_ ?_; (· first | rfl | assumption | (refine decide_eq_false ?_; first | assumption | omega) | (refine nf ?_; first | assumption | omega) | (simp [*]; done))) | refine skip_then ?_ | refine AW_seq ?_)
    (refine step_ops ?_); (apply m_call (slicesContains_spec M y (by omega))); (· repeat (first | exact lends_nil | (refine lends_cons ?_ ?_; (· (first | exact lend_v | (refine lend_ints ?_; first | rfl | omega))))))
    repeat (refine step_ops ?_; ((try (refine g_yes rfl ?_ ?_; (· first | rfl | assumption | (refine decide_eq_true ?_; first | assumption | omega) | (refine nt ?_; first | assumption | omega) | (simp [*]; done) | (refine decide_eq_false ?_; first | assumption | omega) | (refine nf ?_; first | assumption | omega)))); (first | (refine m_mov (by conv => lhs; whnf) ?_) | (refine m_sub rfl rfl ?_ ?_ ?_; (· omega); (· omega)) | (refine m_len_ro rfl ?_) | (apply m_idx1_roj; (· rfl); (· rfl); (· assumption); (· omega)) | (refine m_ld_rpi rfl ?_ ?_; (· omega)))))
    rw [hx1]
    skip
    (refine step_ops ?_); (refine g_yes rfl ?_ ?_; (· first | (first | rfl | assumption | (refine decide_eq_true ?_; first | assumption | omega) | (refine nt ?_; first | assumption | omega) | (simp [*]; done)) | (first | rfl | assumption | (refine decide_eq_false ?_; first | assumption | omega) | (refine nf ?_; first | assumption | omega) | (simp [*]; done))); (apply m_call (areCouple_spec x y (by omega) (by omega)))); (· repeat (first | exact lends_nil | (refine lends_cons ?_ ?_; (· exact lend_v))))
    repeat (first | (refine step_ops ?_; ((try (refine g_yes rfl ?_ ?_; (· first | rfl | assumption | (refine decide_eq_true ?_; first | assumption | omega) | (refine nt ?_; first | assumption | omega) | (simp [*]; done) | (refine decide_eq_false ?_; first | assumption | omega) | (refine nf ?_; first | assumption | omega)))); (first | (refine m_mov (by conv => lhs; whnf) ?_) | (refine m_lss rfl rfl ?_) | (refine m_sub rfl rfl ?_ ?_ ?_; (· omega); (· omega)) | (refine m_len_ro rfl ?_) | (refine m_idx_ro rfl rfl ?_ ?_ ?_; (· omega); (· omega)) | (refine m_ld_rpi rfl ?_ ?_; (· omega)) | (apply m_ld_rp; (· rfl); (· rfl)) | (refine m_pick_f rfl ?_ (by conv => lhs; whnf) ?_; (· first | rfl | assumption | (refine decide_eq_false ?_; first | assumption | omega) | (refine nf ?_; first | assumption | omega) | (simp [*]; done)))))) | refine end_ops ?_ | refine seq_ops ?_ | (refine cond_f rfl ?_ ?_; (· first | rfl | assumption | (refine decide_eq_false ?_; first | assumption | omega) | (refine nf ?_; first | assumption | omega) | (simp [*]; done))) | refine skip_then ?_)
    rw [hz2]
    skip
    (refine step_ops ?_); (refine g_yes rfl ?_ ?_; (· first | (first | rfl | assumption | (refine decide_eq_true ?_; first | assumption | omega) | (refine nt ?_; first | assumption | omega) | (simp [*]; done)) | (first | rfl | assumption | (refine decide_eq_false ?_; first | assumption | omega) | (refine nf ?_; first | assumption | omega) | (simp [*]; done))); (apply m_call (areCouple_spec z y (by omega) (by omega)))); (· repeat (first | exact lends_nil | (refine lends_cons ?_ ?_; (· exact lend_v))))
    repeat (first | (refine step_ops ?_; ((try (refine g_yes rfl ?_ ?_; (· first | rfl | assumption | (refine decide_eq_true ?_; first | assumption | omega) | (refine nt ?_; first | assumption | omega) | (simp [*]; done) | (refine decide_eq_false ?_; first | assumption | omega) | (refine nf ?_; first | assumption | omega)))); (first | (refine m_mov (by conv => lhs; whnf) ?_) | (refine m_not rfl ?_) | (refine m_pick_f rfl ?_ (by conv => lhs; whnf) ?_; (· first | rfl | assumption | (refine decide_eq_false ?_; first | assumption | omega) | (refine nf ?_; first | assumption | omega) | (simp [*]; done)))))) | refine end_ops ?_ | refine AW_ret ?_ | refine ret_done ?_)
    refine outs_b ?_
    have : M.length + 1 = n := by omega
    by_cases he2 : (z : Int) / 2 = (y : Int) / 2 <;> simp [hm, he1, this, he2]
theorem apartAmong_spec (n : Nat) : Sp Tryz.prog 46 [.i n] (.fn 66 [.rp [.i n]] 0) := by
  refine spec_of Tryz.func46 rfl cc46 rfl ?_
  unfold ac46
  repeat (first | (refine step_ops ?_; (first | (refine m_mov (by conv => lhs; whnf) ?_) | (refine m_mkf ?_) | (refine m_box1 rfl rfl ?_))) | refine end_ops ?_ | refine seq_ops ?_ | refine AW_ret ?_ | refine ret_done ?_)
  exact outs_fnp rfl rfl
theorem apartAsks (n : Nat) (hn : n ≤ 14) : AsksK Tryz.prog 66 [.rp [.i n]] 0 n (fitsT n) where
  call := ⟨_, Tryz.func66, by rfl, by rfl⟩
  bears := bears_rp rfl
  norefs := fun _ => rfl
  nokill := fun _ => rfl
  spec := fun M y h1 h2 h3 => apartAsk_spec n hn M y h1 h2 h3
/-- The first table with no couple together, and the first one behind another. -/
def frstT (c : Int) : Option (List Int) := if 1 ≤ c ∧ c ≤ 7 then (goOn (fitsT (2 * c.toNat)) (2 * c.toNat) (2 * c.toNat) []).head? else none
def NxOk (L : List Int) : Prop := IsTab L ∧ L.getD 0 0 = 0
instance (L : List Int) : Decidable (NxOk L) := inferInstanceAs (Decidable (_ ∧ _))
def nextT (L : List Int) : Option (List Int) := if NxOk L then (goOn (fitsT L.length) L.length L.length []).find? (fun m => comesB L m) else none
theorem implFirstApart_spec (c : Int) : Sp Tryz.prog 19 [.i c] (srchR (frstT c)) := by
  unfold srchR
  refine spec_of Tryz.func19 rfl cc19 rfl ?_
  unfold ac19
  by_cases h : 1 ≤ c ∧ c ≤ 7
  · obtain ⟨q, rfl⟩ := Int.eq_ofNat_of_zero_le (show 0 ≤ c by omega)
    have hs := firstFitting_spec (apartAsks (2 * q) (by omega)) (by omega) (by omega)
    have e : frstT (q : Int) = (goOn (fitsT (2 * q)) (2 * q) (2 * q) []).head? := by unfold frstT; rw [if_pos h, Int.toNat_natCast]
    rw [← e] at hs
    unfold srchR at hs
    generalize frstT (q : Int) = T at hs
    repeat (first | (refine step_ops ?_; (first | (refine m_mov (by conv => lhs; whnf) ?_) | (refine m_nils ?_))) | refine end_ops ?_ | refine seq_ops ?_ | refine AW_seq ?_)
    (refine step_ops ?_); (apply m_call (isCoupleCount_spec _)); (· repeat (first | exact lends_nil | (refine lends_cons ?_ ?_; (· exact lend_v))))
    repeat (first | (refine step_ops ?_; (first | (refine m_mov (by conv => lhs; whnf) ?_) | (refine m_mul rfl rfl ?_ ?_ ?_; (· first | omega | (simp; done)); (· first | omega | (simp; done))) | (refine m_not rfl ?_))) | refine end_ops ?_ | refine seq_ops ?_ | (refine cond_f rfl ?_ ?_; (· first | rfl | assumption | (refine decide_eq_false ?_; first | assumption | omega) | (refine nf ?_; first | assumption | omega) | (simp [*]; done))) | refine skip_then ?_)
    rw [show 2 * (q : Int) = ((2 * q : Nat) : Int) by omega]
    skip
    (refine step_ops ?_); (apply m_call (apartAmong_spec (2 * q))); (· repeat (first | exact lends_nil | (refine lends_cons ?_ ?_; (· exact lend_v))))
    skip
    refine step_ops ?_
    refine m_call hs ?_ ?_
    · exact lends_cons lend_v (lends_cons (lend_bears (bears_rp rfl)) lends_nil)
    repeat (first | (refine step_ops ?_; (first | (refine m_mov (by conv => lhs; whnf) ?_) | (refine m_ext rfl rfl ?_))) | refine end_ops ?_ | refine AW_ret ?_ | refine ret_done ?_)
    exact outs_tup2 (outs_ro (allv_ints _)) (outs_b rfl)
  · have e : frstT c = none := if_neg h
    rw [e]
    repeat (first | (refine step_ops ?_; (first | (refine m_mov (by conv => lhs; whnf) ?_) | (refine m_nils ?_))) | refine end_ops ?_ | refine seq_ops ?_ | refine AW_seq ?_)
    (refine step_ops ?_); (apply m_call (isCoupleCount_spec _)); (· repeat (first | exact lends_nil | (refine lends_cons ?_ ?_; (· exact lend_v))))
    repeat (first | (refine step_ops ?_; (first | (refine m_mov (by conv => lhs; whnf) ?_) | (refine m_not rfl ?_) | (refine m_nils ?_))) | refine end_ops ?_ | refine seq_ops ?_ | (refine cond_t rfl ?_ ?_; (· first | rfl | assumption | (refine decide_eq_true ?_; first | assumption | omega) | (refine nt ?_; first | assumption | omega) | (simp [*]; done))) | refine AW_ret ?_ | refine ret_done ?_ | refine ret_then ?_)
    exact outs_tup2 (outs_ints rfl rfl rfl) (outs_b rfl)
theorem implNextApart_spec (L : List Int) (hL : L.length ≤ 1048576) : Sp Tryz.prog 22 [ints L] (srchR (nextT L)) := by
  unfold srchR
  refine spec_of Tryz.func22 rfl cc22 rfl ?_
  unfold ac22
  by_cases h : IsTab L
  · have h2 := h.1
    have h14 := h.2.1
    obtain ⟨x, hx, hxl⟩ := tab_get h (k := 0) (by omega)
    by_cases h0 : x = 0
    · subst h0
      have hs := nextFitting_spec (apartAsks L.length (by omega)) (by omega) (by omega) L rfl h.2.2.2.1
      have e : nextT L = _ := if_pos ⟨h, hx⟩
      rw [← e] at hs
      unfold srchR at hs
      generalize nextT L = T at hs
      repeat (first | (refine step_ops ?_; (first | (refine m_mov (by conv => lhs; whnf) ?_) | (refine m_nils ?_))) | refine end_ops ?_ | refine seq_ops ?_ | refine AW_seq ?_)
      (refine step_ops ?_); (apply m_call (implIsTable_spec _ hL)); (· repeat (first | exact lends_nil | (refine lends_cons ?_ ?_; (· (refine lend_ints ?_; first | rfl | omega)))))
      repeat (first | (refine step_ops ?_; ((try (refine g_yes rfl ?_ ?_; (· first | rfl | assumption | (refine decide_eq_true ?_; first | assumption | omega) | (refine nt ?_; first | assumption | omega) | (simp [*]; done) | (refine decide_eq_false ?_; first | assumption | omega) | (refine nf ?_; first | assumption | omega)))); (first | (refine m_mov (by conv => lhs; whnf) ?_) | (refine m_neq rfl rfl ?_) | (refine m_not rfl ?_) | (refine m_idx1_ro rfl rfl ?_ ?_; (· omega)) | (refine m_ld_rpi rfl ?_ ?_; (· omega)) | (refine m_pick_f rfl ?_ (by conv => lhs; whnf) ?_; (· first | rfl | assumption | (refine decide_eq_false ?_; first | assumption | omega) | (refine nf ?_; first | assumption | omega) | (simp [*]; done)))))) | refine end_ops ?_)
      rw [hx]
      repeat (first | (refine step_ops ?_; (first | (refine m_mov (by conv => lhs; whnf) ?_) | (refine m_len_ro rfl ?_))) | refine seq_ops ?_ | (refine cond_f rfl ?_ ?_; (· first | rfl | assumption | (refine decide_eq_false ?_; first | assumption | omega) | (refine nf ?_; first | assumption | omega) | (simp [*]; done))) | refine skip_then ?_)
      (refine step_ops ?_); (apply m_call (apartAmong_spec L.length)); (· repeat (first | exact lends_nil | (refine lends_cons ?_ ?_; (· exact lend_v))))
      skip
      refine step_ops ?_
      refine m_call hs ?_ ?_
      · exact lends_cons (lend_ints rfl) (lends_cons (lend_bears (bears_rp rfl)) lends_nil)
      repeat (first | (refine step_ops ?_; (first | (refine m_mov (by conv => lhs; whnf) ?_) | (refine m_ext rfl rfl ?_))) | refine end_ops ?_ | refine AW_ret ?_ | refine ret_done ?_)
      exact outs_tup2 (outs_ro (allv_ints _)) (outs_b rfl)
    · have e : nextT L = none := if_neg fun hh => h0 (by have := hh.2; omega)
      rw [e]
      repeat (first | (refine step_ops ?_; (first | (refine m_mov (by conv => lhs; whnf) ?_) | (refine m_nils ?_))) | refine end_ops ?_ | refine seq_ops ?_ | refine AW_seq ?_)
      (refine step_ops ?_); (apply m_call (implIsTable_spec _ hL)); (· repeat (first | exact lends_nil | (refine lends_cons ?_ ?_; (· (refine lend_ints ?_; first | rfl | omega)))))
      repeat (first | (refine step_ops ?_; ((try (refine g_yes rfl ?_ ?_; (· first | rfl | assumption | (refine decide_eq_true ?_; first | assumption | omega) | (refine nt ?_; first | assumption | omega) | (simp [*]; done) | (refine decide_eq_false ?_; first | assumption | omega) | (refine nf ?_; first | assumption | omega)))); (first | (refine m_mov (by conv => lhs; whnf) ?_) | (refine m_neq rfl rfl ?_) | (refine m_not rfl ?_) | (refine m_idx_ro rfl rfl ?_ ?_ ?_; (· omega); (· omega)) | (refine m_ld_rpi rfl ?_ ?_; (· omega)) | (refine m_pick_f rfl ?_ (by conv => lhs; whnf) ?_; (· first | rfl | assumption | (refine decide_eq_false ?_; first | assumption | omega) | (refine nf ?_; first | assumption | omega) | (simp [*]; done)))))) | refine end_ops ?_)
      rw [show L.getD (Int.toNat 0 * 1) 0 = (x : Nat) from hx]
      repeat (first | (refine step_ops ?_; (first | (refine m_mov (by conv => lhs; whnf) ?_) | (refine m_nils ?_))) | refine end_ops ?_ | refine seq_ops ?_ | (refine cond_t rfl ?_ ?_; (· first | rfl | assumption | (refine decide_eq_true ?_; first | assumption | omega) | (refine nt ?_; first | assumption | omega) | (simp [*]; done))) | refine AW_ret ?_ | refine ret_done ?_ | refine ret_then ?_)
      exact outs_tup2 (outs_ints rfl rfl rfl) (outs_b rfl)
  · have e : nextT L = none := if_neg fun hh => h hh.1
    rw [e]
    repeat (first | (refine step_ops ?_; (first | (refine m_mov (by conv => lhs; whnf) ?_) | (refine m_nils ?_))) | refine end_ops ?_ | refine seq_ops ?_ | refine AW_seq ?_)
    (refine step_ops ?_); (apply m_call (implIsTable_spec _ hL)); (· repeat (first | exact lends_nil | (refine lends_cons ?_ ?_; (· (refine lend_ints ?_; first | rfl | omega)))))
    repeat (first | (refine step_ops ?_; (first | (first | (refine m_mov (by conv => lhs; whnf) ?_) | (refine m_not rfl ?_) | (refine m_pick_t rfl ?_ (by conv => lhs; whnf) ?_; (· first | rfl | assumption | (refine decide_eq_true ?_; first | assumption | omega) | (refine nt ?_; first | assumption | omega) | (simp [*]; done))) | (refine m_nils ?_)) | (refine g_noF rfl ?_ ?_; (· first | rfl | assumption | (refine decide_eq_true ?_; first | assumption | omega) | (refine nt ?_; first | assumption | omega) | (simp [*]; done))))) | refine end_ops ?_ | refine seq_ops ?_ | (refine cond_t rfl ?_ ?_; (· first | rfl | assumption | (refine decide_eq_true ?_; first | assumption | omega) | (refine nt ?_; first | assumption | omega) | (simp [*]; done))) | refine AW_ret ?_ | refine ret_done ?_ | refine ret_then ?_)
    exact outs_tup2 (outs_ints rfl rfl rfl) (outs_b rfl)
end Go.Proofs.YtmmcldbldbpikaaGreatDoor
namespace Go.Am
variable [Go.Am.CodeBlk]
/-- An operation whose guard was never told is left out. -/
theorem g_un {P : Program} {own : Bool} {s : AS} {K : AS → Prop} {d : Option Nat} {op : AOp} {t : Nat} {w : Bool} (h : s.tm t = .v undef) (k : K (s.put d (.v undef))) : aop1 P own ⟨d, op, some (t, w)⟩ s K := .inr ⟨h, k⟩
theorem outs_any {s : AS} {x : AV} : Outs s x .any := fun _ _ _ _ _ _ _ _ _ => by simp [SimV]
end Go.Am
namespace Go.Proofs.YtmmcldbldbpikaaGreatDoor
variable [Go.Am.CodeBlk]
open Go.Am
attribute [local irreducible] AW Outs Weak Lends Lend Sp aops atree aop1 Then Round InBlock Done
attribute [local irreducible] SpM DoneM SpH DoneH
theorem giBefore_spec (a b : List Int) (ha : a.length ≤ 1048576) (hl : a.length = b.length) : Sp Tryz.prog 69 [ints a, ints b] (.b (comesB a b)) := by
  refine spec_of Tryz.func69 rfl cc69 rfl ?_
  unfold ac69
  repeat (first | (refine step_ops ?_; (first | (refine m_mov (by conv => lhs; whnf) ?_) | (refine m_len_ro rfl ?_))) | refine end_ops ?_ | refine seq_ops ?_ | refine AW_seq ?_ | refine AW_block ?_)
  refine AW_loop (α := Nat) (fun k => k ≤ a.length ∧ a.take k = b.take k) (fun k => st [(1, ints b), (7, ints a), (8, .i a.length), (9, .i k)] []) (fun k => a.length - k) 0 ⟨Nat.zero_le _, rfl⟩ (weak_st ?_ ?_ rfl rfl) ?_
  · (repeat' (first | exact trivial | refine And.intro ?_ ?_)) <;> (first | rfl | skip)
  · trivial
  rintro k ⟨hk, he⟩
  by_cases hc : k < a.length
  · by_cases hx : a.getD k 0 = b.getD k 0
    · repeat (first | (refine step_ops ?_; (first | (refine m_mov (by conv => lhs; whnf) ?_) | (refine m_lss rfl rfl ?_) | (refine m_neq rfl rfl ?_) | (refine m_add rfl rfl ?_ ?_ ?_; (· omega); (· omega)) | (refine m_idx1_ro rfl rfl ?_ ?_; (· omega)) | (refine m_ld_rpi rfl ?_ ?_; (· omega)))) | refine end_ops ?_ | refine seq_ops ?_ | refine AW_ops ?_ | (refine cond_t rfl ?_ ?_; (· first | rfl | assumption | (refine decide_eq_true ?_; first | assumption | omega) | (refine nt ?_; first | assumption | omega) | (simp [*]; done))) | (refine cond_f rfl ?_ ?_; (· first | rfl | assumption | (refine decide_eq_false ?_; first | assumption | omega) | (refine nf ?_; first | assumption | omega) | (simp [*]; done))) | refine skip_then ?_ | refine AW_seq ?_ | refine norm_then ?_ | refine AW_block ?_ | refine norm_block ?_ | refine AW_skip ?_)
      refine next_round (k + 1) ⟨hc, by rw [take_snoc a k 0 hc, take_snoc b k 0 (by omega), he, hx]⟩ (weak_st ?_ ?_ rfl rfl) ?_
      · (repeat' (first | exact trivial | refine And.intro ?_ ?_)) <;> (first | rfl | skip)
      · trivial
      · omega
    · have h1 : a = a.take k ++ a.getD k 0 :: a.drop (k + 1) := by
        have h2 := List.take_append_drop (k + 1) a
        rw [take_snoc a k 0 hc, List.append_assoc] at h2
        exact h2.symm
      have h2 : b = a.take k ++ b.getD k 0 :: b.drop (k + 1) := by
        have h2 := List.take_append_drop (k + 1) b
        rw [take_snoc b k 0 (by omega), List.append_assoc, ← he] at h2
        exact h2.symm
      have h3 : comesB a b = decide (a.getD k 0 < b.getD k 0) := by
        conv => lhs; rw [h1, h2]
        rw [comesB_append]
        simp only [comesB, if_neg hx]
      repeat (first | (refine step_ops ?_; (first | (refine m_mov (by conv => lhs; whnf) ?_) | (refine m_lss rfl rfl ?_) | (refine m_neq rfl rfl ?_) | (refine m_idx1_ro rfl rfl ?_ ?_; (· omega)) | (refine m_ld_rpi rfl ?_ ?_; (· omega)))) | refine end_ops ?_ | refine seq_ops ?_ | (refine cond_t rfl ?_ ?_; (· first | rfl | assumption | (refine decide_eq_true ?_; first | assumption | omega) | (refine nt ?_; first | assumption | omega) | (simp [*]; done))) | refine skip_then ?_ | refine AW_seq ?_ | refine AW_ret ?_ | refine ret_done ?_ | refine ret_then ?_ | refine AW_block ?_ | refine ret_block ?_ | refine ret_round ?_)
      exact outs_b h3.symm
  · obtain rfl : k = a.length := by omega
    have h3 : comesB a b = false := by
      rw [List.take_length, List.take_of_length_le (by omega)] at he
      rw [← he, comesB_self]
    rw [h3]
    repeat (first | (refine step_ops ?_; (first | (refine m_mov (by conv => lhs; whnf) ?_) | (refine m_lss rfl rfl ?_))) | refine end_ops ?_ | refine seq_ops ?_ | (refine cond_f rfl ?_ ?_; (· first | rfl | assumption | (refine decide_eq_false ?_; first | assumption | omega) | (refine nf ?_; first | assumption | omega) | (simp [*]; done))) | refine AW_seq ?_ | refine AW_ret ?_ | refine ret_done ?_ | refine norm_then ?_ | refine exit_then ?_ | refine exit_round ?_ | refine AW_exit ?_ | refine exit_block ?_)
    exact outs_b rfl
/-- The last numbers of a beginning, for the looks that the search has at it. -/
structure Ends (l : List Int) (x y z : Nat) : Prop where
  pos : 0 < l.length
  last : l.getD (l.length - 1) 0 = x
  prev : 1 < l.length → l.getD (l.length - 2) 0 = y
  first : l.getD 0 0 = z
theorem ends_of {n : Nat} {l : List Int} (h0 : 0 < l.length) (hb : ∀ x ∈ l, 0 ≤ x ∧ x < (n : Int)) : ∃ x y z : Nat, x < n ∧ y < n ∧ z < n ∧ Ends l x y z := by
  have h1 := hb _ (getD_mem (show l.length - 1 < l.length by omega))
  have h2 := hb _ (getD_mem (show l.length - 2 < l.length by omega))
  have h3 := hb _ (getD_mem (show 0 < l.length by omega))
  obtain ⟨x, hx⟩ := Int.eq_ofNat_of_zero_le h1.1
  obtain ⟨y, hy⟩ := Int.eq_ofNat_of_zero_le h2.1
  obtain ⟨z, hz⟩ := Int.eq_ofNat_of_zero_le h3.1
  exact ⟨x, y, z, by omega, by omega, by omega, h0, hx, fun _ => hy, hz⟩
theorem taLook_bad1 (n : Nat) (hn : n ≤ 14) (l bh : List Int) (hl : l.length ≤ n) (hb : ∀ x ∈ l, 0 ≤ x ∧ x < (n : Int)) (h1 : 1 < l.length) (hc : l.getD (l.length - 1) 0 / 2 = l.getD (l.length - 2) 0 / 2) : Sp Tryz.prog 47 [.i n, ints l, ints bh] (srchR none) := by
  obtain ⟨x, y, z, hx, hy, hz, he⟩ := ends_of (by omega) hb
  have hl1 := he.last
  have hl2 := he.prev h1
  rw [hl1, hl2] at hc
  have e1 : (l.length : Int) - 1 = (l.length - 1 : Nat) := by omega
  have e2 : (l.length : Int) - 2 = (l.length - 2 : Nat) := by omega
  unfold srchR
  refine spec_of Tryz.func47 rfl cc47 rfl ?_
  unfold ac47
  repeat (first | ((first | ((first | refine step_ops ?_ | refine step_tree ?_); (first | ((try (refine g_yes rfl ?_ ?_; (· first | rfl | assumption | (refine decide_eq_true ?_; first | assumption | omega) | (refine nt ?_; first | assumption | omega) | (simp [*]; done) | (refine decide_eq_false ?_; first | assumption | omega) | (refine nf ?_; first | assumption | omega)))); (first | (refine m_mov (by conv => lhs; whnf) ?_) | (refine m_gtr rfl rfl ?_) | (refine m_eql rfl rfl ?_) | (refine m_sub rfl rfl ?_ ?_ ?_; (· omega); (· omega)) | (refine m_len_ro rfl ?_) | (apply m_idx1_roj; (· rfl); (· rfl); (· assumption); (· omega)) | (refine m_ld_rpi rfl ?_ ?_; (· omega)) | (refine m_pick_t rfl ?_ (by conv => lhs; whnf) ?_; (· first | rfl | assumption | (refine decide_eq_true ?_; first | assumption | omega) | (refine nt ?_; first | assumption | omega) | (simp [*]; done))) | (refine m_nils ?_) | (refine m_quo rfl rfl ?_ ?_ ?_ ?_; (· omega); (· omega); (· omega)))) | (refine g_noF rfl ?_ ?_; (· first | rfl | assumption | (refine decide_eq_true ?_; first | assumption | omega) | (refine nt ?_; first | assumption | omega) | (simp [*]; done))))) | refine end_ops ?_ | refine seq_ops ?_ | refine end_tree ?_ | refine seq_tree ?_ | (refine cond_t rfl ?_ ?_; (· first | rfl | assumption | (refine decide_eq_true ?_; first | assumption | omega) | (refine nt ?_; first | assumption | omega) | (simp [*]; done))) | refine AW_seq ?_ | refine AW_ret ?_ | refine ret_done ?_ | refine ret_then ?_)) | (refine step_tree ?_; refine g_un rfl ?_))
  rw [hl1]
  repeat (first | (fail) | (refine step_tree ?_; refine g_un rfl ?_))
  rw [hl2]
  repeat (first | (fail) | (refine step_tree ?_; refine g_un rfl ?_))
  exact outs_tup2 (outs_ints rfl rfl rfl) (outs_b rfl)
theorem taLook_bad2 (n : Nat) (hn : n ≤ 14) (l bh : List Int) (hl : l.length = n) (hb : ∀ x ∈ l, 0 ≤ x ∧ x < (n : Int)) (h1 : 1 < l.length) (hc1 : ¬ l.getD (l.length - 1) 0 / 2 = l.getD (l.length - 2) 0 / 2) (hc : l.getD (l.length - 1) 0 / 2 = l.getD 0 0 / 2) : Sp Tryz.prog 47 [.i n, ints l, ints bh] (srchR none) := by
  obtain ⟨x, y, z, hx, hy, hz, he⟩ := ends_of (by omega) hb
  have hl1 := he.last
  have hl2 := he.prev h1
  have hl3 := he.first
  rw [hl1, hl2] at hc1
  rw [hl1, hl3] at hc
  have hl4 : l.getD (Int.toNat 0 * 1) 0 = (z : Nat) := hl3
  have e1 : (l.length : Int) - 1 = (l.length - 1 : Nat) := by omega
  have e2 : (l.length : Int) - 2 = (l.length - 2 : Nat) := by omega
  unfold srchR
  refine spec_of Tryz.func47 rfl cc47 rfl ?_
  unfold ac47
  repeat (first | ((first | refine step_ops ?_ | refine step_tree ?_); ((try (refine g_yes rfl ?_ ?_; (· first | rfl | assumption | (refine decide_eq_true ?_; first | assumption | omega) | (refine nt ?_; first | assumption | omega) | (simp [*]; done) | (refine decide_eq_false ?_; first | assumption | omega) | (refine nf ?_; first | assumption | omega)))); (first | (refine m_mov (by conv => lhs; whnf) ?_) | (refine m_gtr rfl rfl ?_) | (refine m_eql rfl rfl ?_) | (refine m_sub rfl rfl ?_ ?_ ?_; (· omega); (· omega)) | (refine m_len_ro rfl ?_) | (apply m_idx1_roj; (· rfl); (· rfl); (· assumption); (· omega)) | (refine m_idx_ro rfl rfl ?_ ?_ ?_; (· omega); (· omega)) | (refine m_ld_rpi rfl ?_ ?_; (· omega)) | (refine m_pick_t rfl ?_ (by conv => lhs; whnf) ?_; (· first | rfl | assumption | (refine decide_eq_true ?_; first | assumption | omega) | (refine nt ?_; first | assumption | omega) | (simp [*]; done))) | (refine m_pick_f rfl ?_ (by conv => lhs; whnf) ?_; (· first | rfl | assumption | (refine decide_eq_false ?_; first | assumption | omega) | (refine nf ?_; first | assumption | omega) | (simp [*]; done))) | (refine m_nils ?_) | (refine m_quo rfl rfl ?_ ?_ ?_ ?_; (· omega); (· omega); (· omega))))) | refine end_ops ?_ | refine seq_ops ?_ | refine end_tree ?_ | refine seq_tree ?_ | (refine cond_t rfl ?_ ?_; (· first | rfl | assumption | (refine decide_eq_true ?_; first | assumption | omega) | (refine nt ?_; first | assumption | omega) | (simp [*]; done))) | refine AW_seq ?_ | refine AW_ret ?_ | refine ret_done ?_ | refine ret_then ?_)
  rw [hl1]
  skip
  rw [hl2]
  skip
  exact outs_tup2 (outs_ints rfl rfl rfl) (outs_b rfl)
theorem taLook_bad (n : Nat) (hn : n ≤ 14) (l bh : List Int) (h0 : 0 < l.length) (hl : l.length ≤ n) (hb : ∀ x ∈ l, 0 ≤ x ∧ x < (n : Int)) (h2 : 2 ≤ n) (hc : Chk n l) : Sp Tryz.prog 47 [.i n, ints l, ints bh] (srchR none) := by
  by_cases h1 : 1 < l.length ∧ l.getD (l.length - 1) 0 / 2 = l.getD (l.length - 2) 0 / 2
  · exact taLook_bad1 n hn l bh hl hb h1.1 h1.2
  · rcases hc with hc | hc
    · exact absurd hc h1
    · exact taLook_bad2 n hn l bh hc.1 hb (by omega) (fun e => h1 ⟨by omega, e⟩) hc.2
theorem taLook_leafN (n : Nat) (hn : n ≤ 14) (h2 : 2 ≤ n) (l bh : List Int) (hl : l.length = n) (hbl : bh = [] ∨ bh.length = n) (hb : ∀ x ∈ l, 0 ≤ x ∧ x < (n : Int)) (hc : ¬ Chk n l) (hno : ¬ (bh = [] ∨ comesB bh l = true)) : Sp Tryz.prog 47 [.i n, ints l, ints bh] (.tup [.any, .b false]) := by
  obtain ⟨x, y, z, hx, hy, hz, he⟩ := ends_of (by omega) hb
  have hl1 := he.last
  have hl2 := he.prev (by omega)
  have hl3 := he.first
  have hc1 : ¬ (x : Int) / 2 = (y : Int) / 2 := fun e => hc (.inl ⟨by omega, by rw [hl1, hl2]; exact e⟩)
  have hc2 : ¬ (x : Int) / 2 = (z : Int) / 2 := fun e => hc (.inr ⟨hl, by rw [hl1, hl3]; exact e⟩)
  have hl4 : l.getD (Int.toNat 0 * 1) 0 = (z : Nat) := hl3
  have e1 : (l.length : Int) - 1 = (l.length - 1 : Nat) := by omega
  have e2 : (l.length : Int) - 2 = (l.length - 2 : Nat) := by omega
  have hbn : bh.length = n := hbl.resolve_left fun e => hno (.inl e)
  have hcb : comesB bh l = false := by
    cases h : comesB bh l with
    | false => rfl
    | true => exact absurd (.inr h) hno
  clear hc hno hb hbl he
  refine spec_of Tryz.func47 rfl cc47 rfl ?_
  unfold ac47
  repeat (first | ((first | refine step_ops ?_ | refine step_tree ?_); ((try (refine g_yes rfl ?_ ?_; (· first | rfl | assumption | (refine decide_eq_true ?_; first | assumption | omega) | (refine nt ?_; first | assumption | omega) | (simp [*]; done) | (refine decide_eq_false ?_; first | assumption | omega) | (refine nf ?_; first | assumption | omega)))); (first | (refine m_mov (by conv => lhs; whnf) ?_) | (refine m_gtr rfl rfl ?_) | (refine m_eql rfl rfl ?_) | (refine m_sub rfl rfl ?_ ?_ ?_; (· omega); (· omega)) | (refine m_len_ro rfl ?_) | (apply m_idx1_roj; (· rfl); (· rfl); (· assumption); (· omega)) | (refine m_idx_ro rfl rfl ?_ ?_ ?_; (· omega); (· omega)) | (refine m_ld_rpi rfl ?_ ?_; (· omega)) | (refine m_pick_t rfl ?_ (by conv => lhs; whnf) ?_; (· first | rfl | assumption | (refine decide_eq_true ?_; first | assumption | omega) | (refine nt ?_; first | assumption | omega) | (simp [*]; done))) | (refine m_pick_f rfl ?_ (by conv => lhs; whnf) ?_; (· first | rfl | assumption | (refine decide_eq_false ?_; first | assumption | omega) | (refine nf ?_; first | assumption | omega) | (simp [*]; done))) | (refine m_nils ?_) | (refine m_quo rfl rfl ?_ ?_ ?_ ?_; (· omega); (· omega); (· omega))))) | refine end_ops ?_ | refine seq_ops ?_ | refine end_tree ?_ | refine seq_tree ?_ | (refine cond_f rfl ?_ ?_; (· first | rfl | assumption | (refine decide_eq_false ?_; first | assumption | omega) | (refine nf ?_; first | assumption | omega) | (simp [*]; done))) | refine skip_then ?_ | refine AW_seq ?_ | refine AW_block ?_)
  refine AW_cutloop (st [(0, .i n), (1, ints l), (2, ints bh), (8, .i l.length)] []) ?_ ?_
  case refine_2 =>
    refine AW_loop (α := Nat) (fun i => i ≤ l.length ∧ l.take i = bh.take i ∧ i ≤ bh.length) (fun i => st [(0, .i n), (1, ints l), (2, ints bh), (8, .i l.length), (9, .i i)] []) (fun i => l.length - i) 0 ⟨Nat.zero_le _, rfl, Nat.zero_le _⟩ (weak_st ?_ ?_ rfl rfl) ?_
    · (repeat' (first | exact trivial | refine And.intro ?_ ?_)) <;> (first | rfl | skip)
    · (repeat' (first | exact trivial | refine And.intro ?_ ?_)) <;> (first | rfl | skip)
    rintro i ⟨hi, he, hib⟩
    by_cases hc : i < l.length
    · by_cases hcb : i < bh.length
      · by_cases hx : l.getD i 0 = bh.getD i 0
        · repeat (first | ((first | refine step_ops ?_ | refine step_tree ?_); ((try (refine g_yes rfl ?_ ?_; (· first | rfl | assumption | (refine decide_eq_true ?_; first | assumption | omega) | (refine nt ?_; first | assumption | omega) | (simp [*]; done) | (refine decide_eq_false ?_; first | assumption | omega) | (refine nf ?_; first | assumption | omega)))); (first | (refine m_mov (by conv => lhs; whnf) ?_) | (refine m_lss rfl rfl ?_) | (refine m_neq rfl rfl ?_) | (refine m_add rfl rfl ?_ ?_ ?_; (· omega); (· omega)) | (refine m_len_ro rfl ?_) | (refine m_idx1_ro rfl rfl ?_ ?_; (· omega)) | (refine m_ld_rpi rfl ?_ ?_; (· omega)) | (refine m_pick_t rfl ?_ (by conv => lhs; whnf) ?_; (· first | rfl | assumption | (refine decide_eq_true ?_; first | assumption | omega) | (refine nt ?_; first | assumption | omega) | (simp [*]; done)))))) | refine end_ops ?_ | refine seq_ops ?_ | refine AW_ops ?_ | refine end_tree ?_ | refine seq_tree ?_ | (refine cond_t rfl ?_ ?_; (· first | rfl | assumption | (refine decide_eq_true ?_; first | assumption | omega) | (refine nt ?_; first | assumption | omega) | (simp [*]; done))) | (refine cond_f rfl ?_ ?_; (· first | rfl | assumption | (refine decide_eq_false ?_; first | assumption | omega) | (refine nf ?_; first | assumption | omega) | (simp [*]; done))) | refine skip_then ?_ | refine AW_seq ?_ | refine norm_then ?_ | refine AW_block ?_ | refine norm_block ?_ | refine AW_skip ?_)
          refine next_round (i + 1) ⟨hc, by rw [take_snoc l i 0 hc, take_snoc bh i 0 hcb, he, hx], hcb⟩ (weak_st ?_ ?_ rfl rfl) ?_
          · (repeat' (first | exact trivial | refine And.intro ?_ ?_)) <;> (first | rfl | skip)
          · (repeat' (first | exact trivial | refine And.intro ?_ ?_)) <;> (first | rfl | skip)
          · omega
        · by_cases hlt : l.getD i 0 < bh.getD i 0
          · repeat (first | ((first | refine step_ops ?_ | refine step_tree ?_); ((try (refine g_yes rfl ?_ ?_; (· first | rfl | assumption | (refine decide_eq_true ?_; first | assumption | omega) | (refine nt ?_; first | assumption | omega) | (simp [*]; done) | (refine decide_eq_false ?_; first | assumption | omega) | (refine nf ?_; first | assumption | omega)))); (first | (refine m_mov (by conv => lhs; whnf) ?_) | (refine m_lss rfl rfl ?_) | (refine m_neq rfl rfl ?_) | (refine m_len_ro rfl ?_) | (refine m_idx1_ro rfl rfl ?_ ?_; (· omega)) | (refine m_ld_rpi rfl ?_ ?_; (· omega)) | (refine m_pick_t rfl ?_ (by conv => lhs; whnf) ?_; (· first | rfl | assumption | (refine decide_eq_true ?_; first | assumption | omega) | (refine nt ?_; first | assumption | omega) | (simp [*]; done))) | (refine m_nils ?_)))) | refine end_ops ?_ | refine seq_ops ?_ | refine end_tree ?_ | refine seq_tree ?_ | (refine cond_t rfl ?_ ?_; (· first | rfl | assumption | (refine decide_eq_true ?_; first | assumption | omega) | (refine nt ?_; first | assumption | omega) | (simp [*]; done))) | refine skip_then ?_ | refine AW_seq ?_ | refine AW_ret ?_ | refine ret_done ?_ | refine ret_then ?_ | refine AW_block ?_ | refine ret_block ?_ | refine ret_round ?_)
            exact outs_tup2 outs_any (outs_b rfl)
          · repeat (first | ((first | refine step_ops ?_ | refine step_tree ?_); ((try (refine g_yes rfl ?_ ?_; (· first | rfl | assumption | (refine decide_eq_true ?_; first | assumption | omega) | (refine nt ?_; first | assumption | omega) | (simp [*]; done) | (refine decide_eq_false ?_; first | assumption | omega) | (refine nf ?_; first | assumption | omega)))); (first | (refine m_mov (by conv => lhs; whnf) ?_) | (refine m_lss rfl rfl ?_) | (refine m_neq rfl rfl ?_) | (refine m_len_ro rfl ?_) | (refine m_idx1_ro rfl rfl ?_ ?_; (· omega)) | (refine m_ld_rpi rfl ?_ ?_; (· omega)) | (refine m_pick_t rfl ?_ (by conv => lhs; whnf) ?_; (· first | rfl | assumption | (refine decide_eq_true ?_; first | assumption | omega) | (refine nt ?_; first | assumption | omega) | (simp [*]; done)))))) | refine end_ops ?_ | refine seq_ops ?_ | refine end_tree ?_ | refine seq_tree ?_ | (refine cond_t rfl ?_ ?_; (· first | rfl | assumption | (refine decide_eq_true ?_; first | assumption | omega) | (refine nt ?_; first | assumption | omega) | (simp [*]; done))) | (refine cond_f rfl ?_ ?_; (· first | rfl | assumption | (refine decide_eq_false ?_; first | assumption | omega) | (refine nf ?_; first | assumption | omega) | (simp [*]; done))) | refine skip_then ?_ | refine AW_seq ?_ | refine exit_then ?_ | refine AW_block ?_ | refine exit_round ?_ | refine AW_exit ?_ | refine exit_block ?_ | (refine exit_other ?_ ?_; (· decide)))
            refine weak_st ?_ ?_ rfl rfl
            · (repeat' (first | exact trivial | refine And.intro ?_ ?_)) <;> (first | rfl | skip)
            · (repeat' (first | exact trivial | refine And.intro ?_ ?_)) <;> (first | rfl | skip)
      · omega
    · repeat (first | (refine step_ops ?_; (first | (first | (refine m_mov (by conv => lhs; whnf) ?_) | (refine m_lss rfl rfl ?_) | (refine m_pick_f rfl ?_ (by conv => lhs; whnf) ?_; (· first | rfl | assumption | (refine decide_eq_false ?_; first | assumption | omega) | (refine nf ?_; first | assumption | omega) | (simp [*]; done)))) | (refine g_noT rfl ?_ ?_; (· first | rfl | assumption | (refine decide_eq_false ?_; first | assumption | omega) | (refine nf ?_; first | assumption | omega) | (simp [*]; done))))) | refine end_ops ?_ | refine seq_ops ?_ | (refine cond_f rfl ?_ ?_; (· first | rfl | assumption | (refine decide_eq_false ?_; first | assumption | omega) | (refine nf ?_; first | assumption | omega) | (simp [*]; done))) | refine AW_seq ?_ | refine exit_then ?_ | refine exit_round ?_ | refine AW_exit ?_ | refine exit_block ?_)
      refine weak_st ?_ ?_ rfl rfl
      · (repeat' (first | exact trivial | refine And.intro ?_ ?_)) <;> (first | rfl | skip)
      · (repeat' (first | exact trivial | refine And.intro ?_ ?_)) <;> (first | rfl | skip)
  have hbp : 0 < bh.length := by omega
  repeat (first | (refine step_ops ?_; ((try (refine g_yes rfl ?_ ?_; (· first | rfl | assumption | (refine decide_eq_true ?_; first | assumption | omega) | (refine nt ?_; first | assumption | omega) | (simp [*]; done) | (refine decide_eq_false ?_; first | assumption | omega) | (refine nf ?_; first | assumption | omega)))); (first | (refine m_mov (by conv => lhs; whnf) ?_) | (refine m_eql rfl rfl ?_) | (refine m_len_ro rfl ?_)))) | refine end_ops ?_ | refine seq_ops ?_ | (refine cond_t rfl ?_ ?_; (· first | rfl | assumption | (refine decide_eq_true ?_; first | assumption | omega) | (refine nt ?_; first | assumption | omega) | (simp [*]; done))) | refine AW_seq ?_)
  refine step_ops ?_; (refine g_yes rfl ?_ ?_; (· first | (first | rfl | assumption | (refine decide_eq_true ?_; first | assumption | omega) | (refine nt ?_; first | assumption | omega) | (simp [*]; done)) | (first | rfl | assumption | (refine decide_eq_false ?_; first | assumption | omega) | (refine nf ?_; first | assumption | omega) | (simp [*]; done))); (apply m_call (giBefore_spec bh l (by omega) (by omega)))); (· repeat (first | exact lends_nil | (refine lends_cons ?_ ?_; (· (refine lend_ints ?_; first | rfl | omega)))))
  rw [hcb]
  repeat (first | (refine step_ops ?_; (first | (refine m_mov (by conv => lhs; whnf) ?_) | (refine m_pick_f rfl ?_ (by conv => lhs; whnf) ?_; (· first | rfl | assumption | (refine decide_eq_false ?_; first | assumption | omega) | (refine nf ?_; first | assumption | omega) | (simp [*]; done))))) | refine end_ops ?_ | refine AW_ret ?_ | refine ret_done ?_ | refine ret_then ?_)
  exact outs_tup2 outs_any (outs_b rfl)
theorem taLook_leafY (n : Nat) (hn : n ≤ 14) (h2 : 2 ≤ n) (l bh : List Int) (hl : l.length = n) (hbl : bh = [] ∨ bh.length = n) (hb : ∀ x ∈ l, 0 ≤ x ∧ x < (n : Int)) (hc : ¬ Chk n l) (hyes : bh = [] ∨ comesB bh l = true) :
    SpH Tryz.prog 47 [.i n, .sl pbase 1 0 l.length, ints bh] (Am.look [(pbase, (true, l.map AV.i))]) (.tup [.sl pbase 1 0 l.length, .b true]) (Am.look [(pbase, (true, l.map AV.i))]) := by
  have hst : Static (Am.look [(pbase, (true, l.map AV.i))]) (.tup [.sl pbase 1 0 l.length, .b true]) (Am.look [(pbase, (true, l.map AV.i))]) := static_R (by simp) (fun p hp => by rw [List.mem_singleton] at hp; subst hp; exact ⟨ownL_ints _ _, refsL_ints _ _⟩) (by simp [ownV, ownL, refsV, refsL, Am.look])
  have hp0 : pbase = 4000000 := rfl
  obtain ⟨x, y, z, hx, hy, hz, he⟩ := ends_of (by omega) hb
  have hl1 := he.last
  have hl2 := he.prev (by omega)
  have hl3 := he.first
  have hc1 : ¬ (x : Int) / 2 = (y : Int) / 2 := fun e => hc (.inl ⟨by omega, by rw [hl1, hl2]; exact e⟩)
  have hc2 : ¬ (x : Int) / 2 = (z : Int) / 2 := fun e => hc (.inr ⟨hl, by rw [hl1, hl3]; exact e⟩)
  have hl4 : l.getD (Int.toNat 0 * 1) 0 = (z : Nat) := hl3
  have hl5 : l.getD (0 + Int.toNat 0 * 1) 0 = (z : Nat) := hl3
  have e1 : (l.length : Int) - 1 = (l.length - 1 : Nat) := by omega
  have e2 : (l.length : Int) - 2 = (l.length - 2 : Nat) := by omega
  have hpr : ∀ i, i < l.length → i < bh.length → l.take i = bh.take i → ¬ l.getD i 0 < bh.getD i 0 := by
    intro i h1 h2 h3 h4
    rcases hyes with e | e
    · rw [e] at h2; simp at h2
    · rw [comesB_less (n := n) h1 h2 h3 h4] at e; cases e
  clear hc hb he
  refine specH_of Tryz.func47 rfl cc47 rfl (by first | exact static_mat1 _ | exact static_mat2 _ _ | assumption) ?_
  unfold ac47
  repeat (first | ((first | refine step_ops ?_ | refine step_tree ?_); ((try (refine g_yes rfl ?_ ?_; (· first | rfl | assumption | (refine decide_eq_true ?_; first | assumption | omega) | (refine nt ?_; first | assumption | omega) | (simp [*]; done) | (refine decide_eq_false ?_; first | assumption | omega) | (refine nf ?_; first | assumption | omega)))); (first | (refine m_mov (by conv => lhs; whnf) ?_) | (refine m_gtr rfl rfl ?_) | (refine m_eql rfl rfl ?_) | (refine m_sub rfl rfl ?_ ?_ ?_; (· omega); (· omega)) | (refine m_len_sl rfl ?_) | (apply m_idx1_slj; (· rfl); (· rfl); (· assumption); (· omega)) | (refine m_idx_sl rfl rfl ?_ ?_ ?_; (· omega); (· omega)) | (refine m_ld_pti rfl (by rfl) ?_ ?_; (· first | omega | (simp; omega))) | (refine m_pick_t rfl ?_ (by conv => lhs; whnf) ?_; (· first | rfl | assumption | (refine decide_eq_true ?_; first | assumption | omega) | (refine nt ?_; first | assumption | omega) | (simp [*]; done))) | (refine m_pick_f rfl ?_ (by conv => lhs; whnf) ?_; (· first | rfl | assumption | (refine decide_eq_false ?_; first | assumption | omega) | (refine nf ?_; first | assumption | omega) | (simp [*]; done))) | (refine m_nils ?_) | (refine m_quo rfl rfl ?_ ?_ ?_ ?_; (· omega); (· omega); (· omega))))) | refine end_ops ?_ | refine seq_ops ?_ | refine end_tree ?_ | refine seq_tree ?_ | (refine cond_f rfl ?_ ?_; (· first | rfl | assumption | (refine decide_eq_false ?_; first | assumption | omega) | (refine nf ?_; first | assumption | omega) | (simp [*]; done))) | refine skip_then ?_ | refine AW_seq ?_ | refine AW_block ?_)
  refine AW_cutloop (st [(0, .i n), (1, .sl pbase 1 0 l.length), (2, ints bh), (8, .i l.length)] [(pbase, (true, l.map AV.i))]) ?_ ?_
  case refine_2 =>
    refine AW_loop (α := Nat) (fun i => i ≤ l.length ∧ l.take i = bh.take i ∧ i ≤ bh.length) (fun i => st [(0, .i n), (1, .sl pbase 1 0 l.length), (2, ints bh), (8, .i l.length), (9, .i i)] [(pbase, (true, l.map AV.i))]) (fun i => l.length - i) 0 ⟨Nat.zero_le _, rfl, Nat.zero_le _⟩ (weak_st ?_ ?_ rfl rfl) ?_
    · (repeat' (first | exact trivial | refine And.intro ?_ ?_)) <;> (first | rfl | skip)
    · (repeat' (first | exact trivial | refine And.intro ?_ ?_)) <;> (first | rfl | skip)
    rintro i ⟨hi, he, hib⟩
    by_cases hc : i < l.length
    · by_cases hcb : i < bh.length
      · by_cases hx : l.getD i 0 = bh.getD i 0
        · repeat (first | ((first | refine step_ops ?_ | refine step_tree ?_); ((try (refine g_yes rfl ?_ ?_; (· first | rfl | assumption | (refine decide_eq_true ?_; first | assumption | omega) | (refine nt ?_; first | assumption | omega) | (simp [*]; done) | (refine decide_eq_false ?_; first | assumption | omega) | (refine nf ?_; first | assumption | omega)))); (first | (refine m_mov (by conv => lhs; whnf) ?_) | (refine m_lss rfl rfl ?_) | (refine m_neq rfl rfl ?_) | (refine m_add rfl rfl ?_ ?_ ?_; (· omega); (· omega)) | (refine m_len_ro rfl ?_) | (refine m_idx1_ro rfl rfl ?_ ?_; (· omega)) | (refine m_idx1_sl rfl rfl ?_ ?_; (· omega)) | (refine m_ld_rpi rfl ?_ ?_; (· omega)) | (refine m_ld_pti rfl (by rfl) ?_ ?_; (· first | omega | (simp; omega))) | (refine m_pick_t rfl ?_ (by conv => lhs; whnf) ?_; (· first | rfl | assumption | (refine decide_eq_true ?_; first | assumption | omega) | (refine nt ?_; first | assumption | omega) | (simp [*]; done)))))) | refine end_ops ?_ | refine seq_ops ?_ | refine AW_ops ?_ | refine end_tree ?_ | refine seq_tree ?_ | (refine cond_t rfl ?_ ?_; (· first | rfl | assumption | (refine decide_eq_true ?_; first | assumption | omega) | (refine nt ?_; first | assumption | omega) | (simp [*]; done))) | (refine cond_f rfl ?_ ?_; (· first | rfl | assumption | (refine decide_eq_false ?_; first | assumption | omega) | (refine nf ?_; first | assumption | omega) | (simp [*]; done))) | refine skip_then ?_ | refine AW_seq ?_ | refine norm_then ?_ | refine AW_block ?_ | refine norm_block ?_ | refine AW_skip ?_)
          refine next_round (i + 1) ⟨hc, by rw [take_snoc l i 0 hc, take_snoc bh i 0 hcb, he, hx], hcb⟩ (weak_st ?_ ?_ rfl rfl) ?_
          · (repeat' (first | exact trivial | refine And.intro ?_ ?_)) <;> (first | rfl | skip)
          · (repeat' (first | exact trivial | refine And.intro ?_ ?_)) <;> (first | rfl | skip)
          · omega
        · by_cases hlt : l.getD i 0 < bh.getD i 0
          · exact absurd hlt (hpr i hc hcb he)
          · repeat (first | ((first | refine step_ops ?_ | refine step_tree ?_); ((try (refine g_yes rfl ?_ ?_; (· first | rfl | assumption | (refine decide_eq_true ?_; first | assumption | omega) | (refine nt ?_; first | assumption | omega) | (simp [*]; done) | (refine decide_eq_false ?_; first | assumption | omega) | (refine nf ?_; first | assumption | omega)))); (first | (refine m_mov (by conv => lhs; whnf) ?_) | (refine m_lss rfl rfl ?_) | (refine m_neq rfl rfl ?_) | (refine m_len_ro rfl ?_) | (refine m_idx1_ro rfl rfl ?_ ?_; (· omega)) | (refine m_idx1_sl rfl rfl ?_ ?_; (· omega)) | (refine m_ld_rpi rfl ?_ ?_; (· omega)) | (refine m_ld_pti rfl (by rfl) ?_ ?_; (· first | omega | (simp; omega))) | (refine m_pick_t rfl ?_ (by conv => lhs; whnf) ?_; (· first | rfl | assumption | (refine decide_eq_true ?_; first | assumption | omega) | (refine nt ?_; first | assumption | omega) | (simp [*]; done)))))) | refine end_ops ?_ | refine seq_ops ?_ | refine end_tree ?_ | refine seq_tree ?_ | (refine cond_t rfl ?_ ?_; (· first | rfl | assumption | (refine decide_eq_true ?_; first | assumption | omega) | (refine nt ?_; first | assumption | omega) | (simp [*]; done))) | (refine cond_f rfl ?_ ?_; (· first | rfl | assumption | (refine decide_eq_false ?_; first | assumption | omega) | (refine nf ?_; first | assumption | omega) | (simp [*]; done))) | refine skip_then ?_ | refine AW_seq ?_ | refine exit_then ?_ | refine AW_block ?_ | refine exit_round ?_ | refine AW_exit ?_ | refine exit_block ?_ | (refine exit_other ?_ ?_; (· decide)))
            refine weak_st ?_ ?_ rfl rfl
            · (repeat' (first | exact trivial | refine And.intro ?_ ?_)) <;> (first | rfl | skip)
            · (repeat' (first | exact trivial | refine And.intro ?_ ?_)) <;> (first | rfl | skip)
      · repeat (first | (refine step_ops ?_; ((try (refine g_yes rfl ?_ ?_; (· first | rfl | assumption | (refine decide_eq_true ?_; first | assumption | omega) | (refine nt ?_; first | assumption | omega) | (simp [*]; done) | (refine decide_eq_false ?_; first | assumption | omega) | (refine nf ?_; first | assumption | omega)))); (first | (refine m_mov (by conv => lhs; whnf) ?_) | (refine m_lss rfl rfl ?_) | (refine m_len_ro rfl ?_) | (refine m_pick_t rfl ?_ (by conv => lhs; whnf) ?_; (· first | rfl | assumption | (refine decide_eq_true ?_; first | assumption | omega) | (refine nt ?_; first | assumption | omega) | (simp [*]; done)))))) | refine end_ops ?_ | refine seq_ops ?_ | (refine cond_f rfl ?_ ?_; (· first | rfl | assumption | (refine decide_eq_false ?_; first | assumption | omega) | (refine nf ?_; first | assumption | omega) | (simp [*]; done))) | refine AW_seq ?_ | refine exit_then ?_ | refine exit_round ?_ | refine AW_exit ?_ | refine exit_block ?_)
        refine weak_st ?_ ?_ rfl rfl
        · (repeat' (first | exact trivial | refine And.intro ?_ ?_)) <;> (first | rfl | skip)
        · (repeat' (first | exact trivial | refine And.intro ?_ ?_)) <;> (first | rfl | skip)
    · repeat (first | (refine step_ops ?_; (first | (first | (refine m_mov (by conv => lhs; whnf) ?_) | (refine m_lss rfl rfl ?_) | (refine m_pick_f rfl ?_ (by conv => lhs; whnf) ?_; (· first | rfl | assumption | (refine decide_eq_false ?_; first | assumption | omega) | (refine nf ?_; first | assumption | omega) | (simp [*]; done)))) | (refine g_noT rfl ?_ ?_; (· first | rfl | assumption | (refine decide_eq_false ?_; first | assumption | omega) | (refine nf ?_; first | assumption | omega) | (simp [*]; done))))) | refine end_ops ?_ | refine seq_ops ?_ | (refine cond_f rfl ?_ ?_; (· first | rfl | assumption | (refine decide_eq_false ?_; first | assumption | omega) | (refine nf ?_; first | assumption | omega) | (simp [*]; done))) | refine AW_seq ?_ | refine exit_then ?_ | refine exit_round ?_ | refine AW_exit ?_ | refine exit_block ?_)
      refine weak_st ?_ ?_ rfl rfl
      · (repeat' (first | exact trivial | refine And.intro ?_ ?_)) <;> (first | rfl | skip)
      · (repeat' (first | exact trivial | refine And.intro ?_ ?_)) <;> (first | rfl | skip)
  by_cases he : bh = []
  · have hbl : bh.length = 0 := by rw [he]; rfl
    repeat (first | (refine step_ops ?_; (first | (first | (refine m_mov (by conv => lhs; whnf) ?_) | (refine m_eql rfl rfl ?_) | (refine m_len_ro rfl ?_) | (refine m_pick_t rfl ?_ (by conv => lhs; whnf) ?_; (· first | rfl | assumption | (refine decide_eq_true ?_; first | assumption | omega) | (refine nt ?_; first | assumption | omega) | (simp [*]; done)))) | (refine g_noF rfl ?_ ?_; (· first | rfl | assumption | (refine decide_eq_true ?_; first | assumption | omega) | (refine nt ?_; first | assumption | omega) | (simp [*]; done))))) | refine end_ops ?_ | refine seq_ops ?_ | (refine cond_t rfl ?_ ?_; (· first | rfl | assumption | (refine decide_eq_true ?_; first | assumption | omega) | (refine nt ?_; first | assumption | omega) | (simp [*]; done))) | refine AW_seq ?_ | refine AW_ret ?_ | refine ret_then ?_)
    refine ret_R id (by rfl) ?_ (by simp) (by simp) (by simp)
    (repeat' (first | exact trivial | refine And.intro ?_ ?_ | (refine ⟨_, rfl, .inl ?_⟩; first | rfl | exact congrArg (Prod.mk true) (renL_ints _ _).symm | exact congrArg (Prod.mk true) (txs_ren _ _).symm)))
  · have hbl := hbl.resolve_left he
    have hbp : 0 < bh.length := by omega
    have hc := hyes.resolve_left he
    repeat (first | (refine step_ops ?_; ((try (refine g_yes rfl ?_ ?_; (· first | rfl | assumption | (refine decide_eq_true ?_; first | assumption | omega) | (refine nt ?_; first | assumption | omega) | (simp [*]; done) | (refine decide_eq_false ?_; first | assumption | omega) | (refine nf ?_; first | assumption | omega)))); (first | (refine m_mov (by conv => lhs; whnf) ?_) | (refine m_eql rfl rfl ?_) | (refine m_len_ro rfl ?_)))) | refine end_ops ?_ | refine seq_ops ?_ | (refine cond_t rfl ?_ ?_; (· first | rfl | assumption | (refine decide_eq_true ?_; first | assumption | omega) | (refine nt ?_; first | assumption | omega) | (simp [*]; done))) | refine AW_seq ?_)
    refine step_ops ?_; (refine g_yes rfl ?_ ?_; (· first | (first | rfl | assumption | (refine decide_eq_true ?_; first | assumption | omega) | (refine nt ?_; first | assumption | omega) | (simp [*]; done)) | (first | rfl | assumption | (refine decide_eq_false ?_; first | assumption | omega) | (refine nf ?_; first | assumption | omega) | (simp [*]; done))); (apply m_call (giBefore_spec bh l (by omega) (by omega)))); (· repeat (first | exact lends_nil | (refine lends_cons ?_ ?_; (· (first | (refine lend_ints ?_; first | rfl | omega) | (refine lend_sli (by rfl) ?_; first | rfl | omega | (simp; done)))))))
    rw [hc]
    repeat (first | (refine step_ops ?_; (first | (refine m_mov (by conv => lhs; whnf) ?_) | (refine m_pick_f rfl ?_ (by conv => lhs; whnf) ?_; (· first | rfl | assumption | (refine decide_eq_false ?_; first | assumption | omega) | (refine nf ?_; first | assumption | omega) | (simp [*]; done))))) | refine end_ops ?_ | refine AW_ret ?_ | refine ret_then ?_)
    refine ret_R id (by rfl) ?_ (by simp) (by simp) (by simp)
    (repeat' (first | exact trivial | refine And.intro ?_ ?_ | (refine ⟨_, rfl, .inl ?_⟩; first | rfl | exact congrArg (Prod.mk true) (renL_ints _ _).symm | exact congrArg (Prod.mk true) (txs_ren _ _).symm)))
/-- The second part of a code. -/
def sndC : ACode → ACode
  | .seq _ y => y
  | c => c
theorem taLook_rest (n : Nat) (hn : n ≤ 14) (h2 : 2 ≤ n) (bh : List Int) (k : Nat)
    (ihB : ∀ l, 0 < l.length → l.length + k = n → (∀ x ∈ l, 0 ≤ x ∧ x < (n : Int)) → Chk n l → Sp Tryz.prog 47 [.i n, ints l, ints bh] (srchR none))
    (ihI : ∀ l, 0 < l.length → l.length + k = n → (∀ x ∈ l, 0 ≤ x ∧ x < (n : Int)) → ¬ Chk n l → k ≠ 0 → Sp Tryz.prog 47 [.i n, ints l, ints bh] (srchR (fstB (fitsT n) n k l bh)))
    (ihN : ∀ l, l.length + k = n → (∀ x ∈ l, 0 ≤ x ∧ x < (n : Int)) → ¬ Chk n l → k = 0 → ¬ (bh = [] ∨ comesB bh l = true) → Sp Tryz.prog 47 [.i n, ints l, ints bh] (.tup [.any, .b false]))
    (ihY : ∀ l, l.length + k = n → (∀ x ∈ l, 0 ≤ x ∧ x < (n : Int)) → ¬ Chk n l → k = 0 → (bh = [] ∨ comesB bh l = true) → SpH Tryz.prog 47 [.i n, .sl pbase 1 0 l.length, ints bh] (Am.look [(pbase, (true, l.map AV.i))]) (.tup [.sl pbase 1 0 l.length, .b true]) (Am.look [(pbase, (true, l.map AV.i))]))
    (l : List Int) (h0 : 0 < l.length) (hl : l.length + (k + 1) = n) (hb : ∀ x ∈ l, 0 ≤ x ∧ x < (n : Int)) :
    AW Tryz.prog (min Tryz.f47.ntmps pbase) (sndC (sndC (sndC (sndC ac47)))) (st [(0, .i n), (1, ints l), (2, ints bh), (8, .i l.length)] []) (Done [7, 6].reverse (srchR (fstB (fitsT n) n (k + 1) l bh))) := by
  have hall := partB_all (fitsT n) n k l bh
  have hmono : ∀ x m, x ≤ n → partB (fitsT n) n k l bh x = some m → fstB (fitsT n) n (k + 1) l bh = some m := fun x m hx h => by rw [← hall]; exact partB_mono h n hx
  generalize fstB (fitsT n) n (k + 1) l bh = T at *
  unfold srchR
  unfold ac47
  simp only [sndC]
  repeat (first | (refine step_ops ?_; (first | (refine m_mov (by conv => lhs; whnf) ?_) | (refine m_eql rfl rfl ?_))) | refine end_ops ?_ | refine seq_ops ?_ | (refine cond_f rfl ?_ ?_; (· first | rfl | assumption | (refine decide_eq_false ?_; first | assumption | omega) | (refine nf ?_; first | assumption | omega) | (simp [*]; done))) | refine skip_then ?_ | refine AW_seq ?_ | refine AW_block ?_)
  refine AW_loop (α := Nat) (fun x => x ≤ n ∧ partB (fitsT n) n k l bh x = none) (fun x => st [(0, .i n), (1, ints l), (2, ints bh), (10, .i x)] []) (fun x => n - x) 0 ⟨Nat.zero_le _, partB_zero _ _ _ _ _⟩ (weak_st ?_ ?_ rfl rfl) ?_
  · (repeat' (first | exact trivial | refine And.intro ?_ ?_)) <;> (first | rfl | skip)
  · (repeat' (first | exact trivial | refine And.intro ?_ ?_)) <;> (first | rfl | skip)
  rintro x ⟨hx, hp⟩
  by_cases hc : x < n
  · have hps := partB_succ (fitsT n) n k l bh x
    rw [hp, Option.none_or, fitsT_cons h0] at hps
    by_cases hm : (x : Int) ∈ l
    · rw [decide_eq_true hm] at hps
      have hps : partB (fitsT n) n k l bh (x + 1) = none := hps
      repeat (first | (refine step_ops ?_; (first | (refine m_mov (by conv => lhs; whnf) ?_) | (refine m_lss rfl rfl ?_))) | refine end_ops ?_ | refine seq_ops ?_ | (refine cond_t rfl ?_ ?_; (· first | rfl | assumption | (refine decide_eq_true ?_; first | assumption | omega) | (refine nt ?_; first | assumption | omega) | (simp [*]; done))) | refine skip_then ?_ | refine AW_seq ?_ | refine AW_block ?_)
      refine step_ops ?_; (apply m_call (l1Has_spec l x (by omega))); (· repeat (first | exact lends_nil | (refine lends_cons ?_ ?_; (· (first | exact lend_v | (refine lend_ints ?_; first | rfl | omega))))))
      repeat (first | (refine step_ops ?_; (first | (refine m_mov (by conv => lhs; whnf) ?_) | (refine m_add rfl rfl ?_ ?_ ?_; (· omega); (· omega)))) | refine end_ops ?_ | refine AW_ops ?_ | (refine cond_t rfl ?_ ?_; (· first | rfl | assumption | (refine decide_eq_true ?_; first | assumption | omega) | (refine nt ?_; first | assumption | omega) | (simp [*]; done))) | refine norm_then ?_ | refine exit_then ?_ | refine AW_exit ?_ | refine exit_block ?_)
      refine next_round (x + 1) ⟨hc, hps⟩ (weak_st ?_ ?_ rfl rfl) ?_
      · (repeat' (first | exact trivial | refine And.intro ?_ ?_)) <;> (first | rfl | skip)
      · (repeat' (first | exact trivial | refine And.intro ?_ ?_)) <;> (first | rfl | skip)
      · omega
    rw [decide_eq_false hm] at hps
    have hl' : (l ++ [(x : Int)]).length + k = n := by simp; omega
    have hb' : ∀ y ∈ l ++ [(x : Int)], 0 ≤ y ∧ y < (n : Int) := fun y hy => by
      rcases List.mem_append.1 hy with hy | hy
      · exact hb y hy
      · rw [List.mem_singleton.1 hy]; omega
    by_cases hch : Chk n (l ++ [(x : Int)])
    · rw [decide_eq_true hch] at hps
      have hps : partB (fitsT n) n k l bh (x + 1) = none := hps
      have hs := ihB (l ++ [(x : Int)]) (by simp) hl' hb' hch
      unfold srchR at hs
      repeat (first | (refine step_ops ?_; (first | (refine m_mov (by conv => lhs; whnf) ?_) | (refine m_lss rfl rfl ?_))) | refine end_ops ?_ | refine seq_ops ?_ | (refine cond_t rfl ?_ ?_; (· first | rfl | assumption | (refine decide_eq_true ?_; first | assumption | omega) | (refine nt ?_; first | assumption | omega) | (simp [*]; done))) | refine skip_then ?_ | refine AW_seq ?_ | refine AW_block ?_)
      refine step_ops ?_; (apply m_call (l1Has_spec l x (by omega))); (· repeat (first | exact lends_nil | (refine lends_cons ?_ ?_; (· (first | exact lend_v | (refine lend_ints ?_; first | rfl | omega))))))
      repeat (first | (refine step_ops ?_; (refine m_mov (by conv => lhs; whnf) ?_)) | refine end_ops ?_ | refine seq_ops ?_ | (refine cond_f rfl ?_ ?_; (· first | rfl | assumption | (refine decide_eq_false ?_; first | assumption | omega) | (refine nf ?_; first | assumption | omega) | (simp [*]; done))) | refine skip_then ?_)
      refine step_ops ?_; (apply m_callo (l1Own_spec l (by omega))); (· repeat (first | exact lends_nil | (refine lends_cons ?_ ?_; (· (refine lend_ints ?_; first | rfl | omega))))); (· first | exact allv_ints _ | rfl | (simp; done))
      repeat (refine step_ops ?_; (first | (refine m_mov (by conv => lhs; whnf) ?_) | (refine m_bsl1 rfl rfl ?_) | (refine m_app1i rfl (by decide) (by rfl) (by first | rfl | omega | (simp; done)) rfl rfl ?_ (by decide) ?_; (· first | omega | (simp; omega)))))
      refine step_ops ?_; (apply m_call (hs)); (· repeat (first | exact lends_nil | (refine lends_cons ?_ ?_; (· (first | exact lend_v | (refine lend_ints ?_; first | rfl | omega) | (refine lend_sli (by rfl) ?_; first | rfl | omega | (simp; done)))))))
      repeat (first | (refine step_ops ?_; (first | (refine m_mov (by conv => lhs; whnf) ?_) | (refine m_add rfl rfl ?_ ?_ ?_; (· omega); (· omega)) | (refine m_ext rfl rfl ?_))) | refine end_ops ?_ | refine seq_ops ?_ | refine AW_ops ?_ | (refine cond_f rfl ?_ ?_; (· first | rfl | assumption | (refine decide_eq_false ?_; first | assumption | omega) | (refine nf ?_; first | assumption | omega) | (simp [*]; done))) | refine norm_then ?_ | refine norm_block ?_ | refine AW_skip ?_)
      refine next_round (x + 1) ⟨hc, hps⟩ (weak_st ?_ ?_ rfl rfl) ?_
      · (repeat' (first | exact trivial | refine And.intro ?_ ?_)) <;> (first | rfl | skip)
      · (repeat' (first | exact trivial | refine And.intro ?_ ?_)) <;> (first | rfl | skip)
      · omega
    rw [decide_eq_false hch] at hps
    have hps : partB (fitsT n) n k l bh (x + 1) = fstB (fitsT n) n k (l ++ [(x : Int)]) bh := hps
    by_cases hk : k = 0
    · by_cases hy : bh = [] ∨ comesB bh (l ++ [(x : Int)]) = true
      · have hs := ihY (l ++ [(x : Int)]) hl' hb' hch hk hy
        have ho : partB (fitsT n) n k l bh (x + 1) = some (l ++ [(x : Int)]) := by
          rw [hps]
          subst hk
          rw [fstB_zero, if_pos hy]
        rw [hmono (x + 1) _ (by omega) ho]
        repeat (first | (refine step_ops ?_; (first | (refine m_mov (by conv => lhs; whnf) ?_) | (refine m_lss rfl rfl ?_))) | refine end_ops ?_ | refine seq_ops ?_ | (refine cond_t rfl ?_ ?_; (· first | rfl | assumption | (refine decide_eq_true ?_; first | assumption | omega) | (refine nt ?_; first | assumption | omega) | (simp [*]; done))) | refine skip_then ?_ | refine AW_seq ?_ | refine AW_block ?_)
        refine step_ops ?_; (apply m_call (l1Has_spec l x (by omega))); (· repeat (first | exact lends_nil | (refine lends_cons ?_ ?_; (· (first | exact lend_v | (refine lend_ints ?_; first | rfl | omega))))))
        repeat (first | (refine step_ops ?_; (refine m_mov (by conv => lhs; whnf) ?_)) | refine end_ops ?_ | refine seq_ops ?_ | (refine cond_f rfl ?_ ?_; (· first | rfl | assumption | (refine decide_eq_false ?_; first | assumption | omega) | (refine nf ?_; first | assumption | omega) | (simp [*]; done))) | refine skip_then ?_)
        refine step_ops ?_; (apply m_callo (l1Own_spec l (by omega))); (· repeat (first | exact lends_nil | (refine lends_cons ?_ ?_; (· (refine lend_ints ?_; first | rfl | omega))))); (· first | exact allv_ints _ | rfl | (simp; done))
        repeat (refine step_ops ?_; (first | (refine m_mov (by conv => lhs; whnf) ?_) | (refine m_bsl1 rfl rfl ?_) | (refine m_app1i rfl (by decide) (by rfl) (by first | rfl | omega | (simp; done)) rfl rfl ?_ (by decide) ?_; (· first | omega | (simp; omega)))))
        refine step_ops ?_
        refine m_callR (fun r => if r = pbase then 105 else r) hs (by rfl) ?_ ?_ ?_ ?_ ?_ ?_ ?_ ?_ ?_ ?_
        · simp [ownL, ownV, plainV]
        · simp [refsL, refsV, Am.look]
        · ((repeat' (first | exact trivial | refine And.intro ?_ ?_)) <;> (first | rfl | exact congrArg (fun c => some (true, c)) (renL_ints _ _).symm | exact congrArg (fun c => some (true, c)) (txs_ren _ _).symm | skip))
        · simp
        · simp
        · simp
        · exact fun p hp => by rw [List.mem_singleton] at hp; subst hp; exact ⟨ownL_ints _ _, refsL_ints _ _⟩
        · exact fun p hp => by rw [List.mem_singleton] at hp; subst hp; exact ownL_ints _ _
        · rfl
        repeat (first | (refine step_ops ?_; (first | (refine m_mov (by conv => lhs; whnf) ?_) | (refine m_ext rfl rfl ?_))) | refine end_ops ?_ | refine seq_ops ?_ | (refine cond_t rfl ?_ ?_; (· first | rfl | assumption | (refine decide_eq_true ?_; first | assumption | omega) | (refine nt ?_; first | assumption | omega) | (simp [*]; done))) | refine AW_ret ?_ | refine ret_done ?_ | refine ret_then ?_ | refine ret_block ?_ | refine ret_round ?_)
        refine outs_tup2 (outs_ints (cs := (l ++ [(x : Int)]).map AV.i) ?_ rfl rfl) (outs_b rfl)
        exact congrArg (fun c => some (true, c)) (renL_ints _ _)
      · have hs := ihN (l ++ [(x : Int)]) hl' hb' hch hk hy
        have ho : partB (fitsT n) n k l bh (x + 1) = none := by
          rw [hps]
          subst hk
          rw [fstB_zero, if_neg hy]
        repeat (first | (refine step_ops ?_; (first | (refine m_mov (by conv => lhs; whnf) ?_) | (refine m_lss rfl rfl ?_))) | refine end_ops ?_ | refine seq_ops ?_ | (refine cond_t rfl ?_ ?_; (· first | rfl | assumption | (refine decide_eq_true ?_; first | assumption | omega) | (refine nt ?_; first | assumption | omega) | (simp [*]; done))) | refine skip_then ?_ | refine AW_seq ?_ | refine AW_block ?_)
        refine step_ops ?_; (apply m_call (l1Has_spec l x (by omega))); (· repeat (first | exact lends_nil | (refine lends_cons ?_ ?_; (· (first | exact lend_v | (refine lend_ints ?_; first | rfl | omega))))))
        repeat (first | (refine step_ops ?_; (refine m_mov (by conv => lhs; whnf) ?_)) | refine end_ops ?_ | refine seq_ops ?_ | (refine cond_f rfl ?_ ?_; (· first | rfl | assumption | (refine decide_eq_false ?_; first | assumption | omega) | (refine nf ?_; first | assumption | omega) | (simp [*]; done))) | refine skip_then ?_)
        refine step_ops ?_; (apply m_callo (l1Own_spec l (by omega))); (· repeat (first | exact lends_nil | (refine lends_cons ?_ ?_; (· (refine lend_ints ?_; first | rfl | omega))))); (· first | exact allv_ints _ | rfl | (simp; done))
        repeat (refine step_ops ?_; (first | (refine m_mov (by conv => lhs; whnf) ?_) | (refine m_bsl1 rfl rfl ?_) | (refine m_app1i rfl (by decide) (by rfl) (by first | rfl | omega | (simp; done)) rfl rfl ?_ (by decide) ?_; (· first | omega | (simp; omega)))))
        refine step_ops ?_; (apply m_call (hs)); (· repeat (first | exact lends_nil | (refine lends_cons ?_ ?_; (· (first | exact lend_v | (refine lend_ints ?_; first | rfl | omega) | (refine lend_sli (by rfl) ?_; first | rfl | omega | (simp; done)))))))
        repeat (first | (refine step_ops ?_; (first | (refine m_mov (by conv => lhs; whnf) ?_) | (refine m_add rfl rfl ?_ ?_ ?_; (· omega); (· omega)) | (refine m_ext rfl rfl ?_))) | refine end_ops ?_ | refine seq_ops ?_ | refine AW_ops ?_ | (refine cond_f rfl ?_ ?_; (· first | rfl | assumption | (refine decide_eq_false ?_; first | assumption | omega) | (refine nf ?_; first | assumption | omega) | (simp [*]; done))) | refine norm_then ?_ | refine norm_block ?_ | refine AW_skip ?_)
        refine next_round (x + 1) ⟨hc, ho⟩ (weak_st ?_ ?_ rfl rfl) ?_
        · (repeat' (first | exact trivial | refine And.intro ?_ ?_)) <;> (first | rfl | skip)
        · (repeat' (first | exact trivial | refine And.intro ?_ ?_)) <;> (first | rfl | skip)
        · omega
    · have hs := ihI (l ++ [(x : Int)]) (by simp) hl' hb' hch hk
      rw [← hps] at hs
      unfold srchR at hs
      cases ho : partB (fitsT n) n k l bh (x + 1) with
      | none =>
        rw [ho] at hs
        repeat (first | (refine step_ops ?_; (first | (refine m_mov (by conv => lhs; whnf) ?_) | (refine m_lss rfl rfl ?_))) | refine end_ops ?_ | refine seq_ops ?_ | (refine cond_t rfl ?_ ?_; (· first | rfl | assumption | (refine decide_eq_true ?_; first | assumption | omega) | (refine nt ?_; first | assumption | omega) | (simp [*]; done))) | refine skip_then ?_ | refine AW_seq ?_ | refine AW_block ?_)
        refine step_ops ?_; (apply m_call (l1Has_spec l x (by omega))); (· repeat (first | exact lends_nil | (refine lends_cons ?_ ?_; (· (first | exact lend_v | (refine lend_ints ?_; first | rfl | omega))))))
        repeat (first | (refine step_ops ?_; (refine m_mov (by conv => lhs; whnf) ?_)) | refine end_ops ?_ | refine seq_ops ?_ | (refine cond_f rfl ?_ ?_; (· first | rfl | assumption | (refine decide_eq_false ?_; first | assumption | omega) | (refine nf ?_; first | assumption | omega) | (simp [*]; done))) | refine skip_then ?_)
        refine step_ops ?_; (apply m_callo (l1Own_spec l (by omega))); (· repeat (first | exact lends_nil | (refine lends_cons ?_ ?_; (· (refine lend_ints ?_; first | rfl | omega))))); (· first | exact allv_ints _ | rfl | (simp; done))
        repeat (refine step_ops ?_; (first | (refine m_mov (by conv => lhs; whnf) ?_) | (refine m_bsl1 rfl rfl ?_) | (refine m_app1i rfl (by decide) (by rfl) (by first | rfl | omega | (simp; done)) rfl rfl ?_ (by decide) ?_; (· first | omega | (simp; omega)))))
        refine step_ops ?_; (apply m_call (hs)); (· repeat (first | exact lends_nil | (refine lends_cons ?_ ?_; (· (first | exact lend_v | (refine lend_ints ?_; first | rfl | omega) | (refine lend_sli (by rfl) ?_; first | rfl | omega | (simp; done)))))))
        repeat (first | (refine step_ops ?_; (first | (refine m_mov (by conv => lhs; whnf) ?_) | (refine m_add rfl rfl ?_ ?_ ?_; (· omega); (· omega)) | (refine m_ext rfl rfl ?_))) | refine end_ops ?_ | refine seq_ops ?_ | refine AW_ops ?_ | (refine cond_f rfl ?_ ?_; (· first | rfl | assumption | (refine decide_eq_false ?_; first | assumption | omega) | (refine nf ?_; first | assumption | omega) | (simp [*]; done))) | refine norm_then ?_ | refine norm_block ?_ | refine AW_skip ?_)
        refine next_round (x + 1) ⟨hc, ho⟩ (weak_st ?_ ?_ rfl rfl) ?_
        · (repeat' (first | exact trivial | refine And.intro ?_ ?_)) <;> (first | rfl | skip)
        · (repeat' (first | exact trivial | refine And.intro ?_ ?_)) <;> (first | rfl | skip)
        · omega
      | some m =>
        rw [ho] at hs
        rw [hmono (x + 1) m (by omega) ho]
        repeat (first | (refine step_ops ?_; (first | (refine m_mov (by conv => lhs; whnf) ?_) | (refine m_lss rfl rfl ?_))) | refine end_ops ?_ | refine seq_ops ?_ | (refine cond_t rfl ?_ ?_; (· first | rfl | assumption | (refine decide_eq_true ?_; first | assumption | omega) | (refine nt ?_; first | assumption | omega) | (simp [*]; done))) | refine skip_then ?_ | refine AW_seq ?_ | refine AW_block ?_)
        refine step_ops ?_; (apply m_call (l1Has_spec l x (by omega))); (· repeat (first | exact lends_nil | (refine lends_cons ?_ ?_; (· (first | exact lend_v | (refine lend_ints ?_; first | rfl | omega))))))
        repeat (first | (refine step_ops ?_; (refine m_mov (by conv => lhs; whnf) ?_)) | refine end_ops ?_ | refine seq_ops ?_ | (refine cond_f rfl ?_ ?_; (· first | rfl | assumption | (refine decide_eq_false ?_; first | assumption | omega) | (refine nf ?_; first | assumption | omega) | (simp [*]; done))) | refine skip_then ?_)
        refine step_ops ?_; (apply m_callo (l1Own_spec l (by omega))); (· repeat (first | exact lends_nil | (refine lends_cons ?_ ?_; (· (refine lend_ints ?_; first | rfl | omega))))); (· first | exact allv_ints _ | rfl | (simp; done))
        repeat (refine step_ops ?_; (first | (refine m_mov (by conv => lhs; whnf) ?_) | (refine m_bsl1 rfl rfl ?_) | (refine m_app1i rfl (by decide) (by rfl) (by first | rfl | omega | (simp; done)) rfl rfl ?_ (by decide) ?_; (· first | omega | (simp; omega)))))
        refine step_ops ?_; (apply m_call (hs)); (· repeat (first | exact lends_nil | (refine lends_cons ?_ ?_; (· (first | exact lend_v | (refine lend_ints ?_; first | rfl | omega) | (refine lend_sli (by rfl) ?_; first | rfl | omega | (simp; done)))))))
        repeat (first | (refine step_ops ?_; (first | (refine m_mov (by conv => lhs; whnf) ?_) | (refine m_ext rfl rfl ?_))) | refine end_ops ?_ | refine seq_ops ?_ | (refine cond_t rfl ?_ ?_; (· first | rfl | assumption | (refine decide_eq_true ?_; first | assumption | omega) | (refine nt ?_; first | assumption | omega) | (simp [*]; done))) | refine AW_ret ?_ | refine ret_done ?_ | refine ret_then ?_ | refine ret_block ?_ | refine ret_round ?_)
        exact outs_tup2 (outs_ro (allv_ints _)) (outs_b rfl)
  · obtain rfl : x = n := by omega
    have hT : T = none := by rw [← hall]; exact hp
    rw [hT]
    repeat (first | (refine step_ops ?_; (first | (refine m_mov (by conv => lhs; whnf) ?_) | (refine m_lss rfl rfl ?_) | (refine m_nils ?_))) | refine end_ops ?_ | refine seq_ops ?_ | (refine cond_f rfl ?_ ?_; (· first | rfl | assumption | (refine decide_eq_false ?_; first | assumption | omega) | (refine nf ?_; first | assumption | omega) | (simp [*]; done))) | refine AW_seq ?_ | refine AW_ret ?_ | refine ret_done ?_ | refine norm_then ?_ | refine exit_then ?_ | refine exit_round ?_ | refine AW_exit ?_ | refine exit_block ?_)
    exact outs_tup2 (outs_ints rfl rfl rfl) (outs_b rfl)
theorem taLook_in1 (n : Nat) (hn : n ≤ 14) (h2 : 2 ≤ n) (bh : List Int) (hbl : bh = [] ∨ bh.length = n) (k : Nat)
    (ihB : ∀ l, 0 < l.length → l.length + k = n → (∀ x ∈ l, 0 ≤ x ∧ x < (n : Int)) → Chk n l → Sp Tryz.prog 47 [.i n, ints l, ints bh] (srchR none))
    (ihI : ∀ l, 0 < l.length → l.length + k = n → (∀ x ∈ l, 0 ≤ x ∧ x < (n : Int)) → ¬ Chk n l → k ≠ 0 → Sp Tryz.prog 47 [.i n, ints l, ints bh] (srchR (fstB (fitsT n) n k l bh)))
    (ihN : ∀ l, l.length + k = n → (∀ x ∈ l, 0 ≤ x ∧ x < (n : Int)) → ¬ Chk n l → k = 0 → ¬ (bh = [] ∨ comesB bh l = true) → Sp Tryz.prog 47 [.i n, ints l, ints bh] (.tup [.any, .b false]))
    (ihY : ∀ l, l.length + k = n → (∀ x ∈ l, 0 ≤ x ∧ x < (n : Int)) → ¬ Chk n l → k = 0 → (bh = [] ∨ comesB bh l = true) → SpH Tryz.prog 47 [.i n, .sl pbase 1 0 l.length, ints bh] (Am.look [(pbase, (true, l.map AV.i))]) (.tup [.sl pbase 1 0 l.length, .b true]) (Am.look [(pbase, (true, l.map AV.i))]))
    (l : List Int) (h0 : 0 < l.length) (hl : l.length + (k + 1) = n) (hb : ∀ x ∈ l, 0 ≤ x ∧ x < (n : Int)) (hc : ¬ Chk n l) (h1 : 1 < l.length) : Sp Tryz.prog 47 [.i n, ints l, ints bh] (srchR (fstB (fitsT n) n (k + 1) l bh)) := by
  obtain ⟨x, y, z, hx, hy, hz, he⟩ := ends_of h0 hb
  have hl1 := he.last
  have hpr : ∀ i, i < l.length → i < bh.length → l.take i = bh.take i → l.getD i 0 < bh.getD i 0 → fstB (fitsT n) n (k + 1) l bh = none := by
    intro i h1 h2 h3 h4
    unfold fstB
    rw [if_neg (by rintro rfl; simp at h2)]
    exact find_prune _ _ h1 h2 h3 h4
  have hcc : 1 < l.length → l.getD (l.length - 2) 0 = (y : Nat) ∧ ¬ (x : Int) / 2 = (y : Int) / 2 := fun h1 => ⟨he.prev h1, fun e => hc (.inl ⟨h1, by rw [hl1, he.prev h1]; exact e⟩)⟩
  have e1 : (l.length : Int) - 1 = (l.length - 1 : Nat) := by omega
  obtain ⟨hl2, hc1⟩ := hcc h1
  have e2 : (l.length : Int) - 2 = (l.length - 2 : Nat) := by omega
  clear hc he hcc
  have hrest := taLook_rest n hn h2 bh k ihB ihI ihN ihY l h0 hl hb
  clear ihB ihI ihN ihY hb
  generalize fstB (fitsT n) n (k + 1) l bh = T at *
  unfold srchR at hrest ⊢
  refine spec_of Tryz.func47 rfl cc47 rfl ?_
  unfold ac47
  repeat (first | ((first | refine step_ops ?_ | refine step_tree ?_); (first | ((try (refine g_yes rfl ?_ ?_; (· first | rfl | assumption | (refine decide_eq_true ?_; first | assumption | omega) | (refine nt ?_; first | assumption | omega) | (simp [*]; done) | (refine decide_eq_false ?_; first | assumption | omega) | (refine nf ?_; first | assumption | omega)))); (first | (refine m_mov (by conv => lhs; whnf) ?_) | (refine m_gtr rfl rfl ?_) | (refine m_eql rfl rfl ?_) | (refine m_sub rfl rfl ?_ ?_ ?_; (· omega); (· omega)) | (refine m_len_ro rfl ?_) | (apply m_idx1_roj; (· rfl); (· rfl); (· assumption); (· omega)) | (refine m_ld_rpi rfl ?_ ?_; (· omega)) | (refine m_pick_t rfl ?_ (by conv => lhs; whnf) ?_; (· first | rfl | assumption | (refine decide_eq_true ?_; first | assumption | omega) | (refine nt ?_; first | assumption | omega) | (simp [*]; done))) | (refine m_pick_f rfl ?_ (by conv => lhs; whnf) ?_; (· first | rfl | assumption | (refine decide_eq_false ?_; first | assumption | omega) | (refine nf ?_; first | assumption | omega) | (simp [*]; done))) | (refine m_nils ?_) | (refine m_quo rfl rfl ?_ ?_ ?_ ?_; (· omega); (· omega); (· omega)))) | (refine g_noT rfl ?_ ?_; (· first | rfl | assumption | (refine decide_eq_false ?_; first | assumption | omega) | (refine nf ?_; first | assumption | omega) | (simp [*]; done))))) | refine end_ops ?_ | refine seq_ops ?_ | refine end_tree ?_ | refine seq_tree ?_ | (refine cond_f rfl ?_ ?_; (· first | rfl | assumption | (refine decide_eq_false ?_; first | assumption | omega) | (refine nf ?_; first | assumption | omega) | (simp [*]; done))) | refine skip_then ?_ | refine AW_seq ?_ | refine AW_block ?_)
  refine AW_cutloop (st [(0, .i n), (1, ints l), (2, ints bh), (8, .i l.length)] []) hrest ?_
  clear hrest
  refine AW_loop (α := Nat) (fun i => i ≤ l.length ∧ l.take i = bh.take i ∧ i ≤ bh.length) (fun i => st [(0, .i n), (1, ints l), (2, ints bh), (8, .i l.length), (9, .i i)] []) (fun i => l.length - i) 0 ⟨Nat.zero_le _, rfl, Nat.zero_le _⟩ (weak_st ?_ ?_ rfl rfl) ?_
  · (repeat' (first | exact trivial | refine And.intro ?_ ?_)) <;> (first | rfl | skip)
  · (repeat' (first | exact trivial | refine And.intro ?_ ?_)) <;> (first | rfl | skip)
  rintro i ⟨hi, he, hib⟩
  by_cases hc : i < l.length
  · by_cases hcb : i < bh.length
    · by_cases hx : l.getD i 0 = bh.getD i 0
      · repeat (first | ((first | refine step_ops ?_ | refine step_tree ?_); ((try (refine g_yes rfl ?_ ?_; (· first | rfl | assumption | (refine decide_eq_true ?_; first | assumption | omega) | (refine nt ?_; first | assumption | omega) | (simp [*]; done) | (refine decide_eq_false ?_; first | assumption | omega) | (refine nf ?_; first | assumption | omega)))); (first | (refine m_mov (by conv => lhs; whnf) ?_) | (refine m_lss rfl rfl ?_) | (refine m_neq rfl rfl ?_) | (refine m_add rfl rfl ?_ ?_ ?_; (· omega); (· omega)) | (refine m_len_ro rfl ?_) | (refine m_idx1_ro rfl rfl ?_ ?_; (· omega)) | (refine m_ld_rpi rfl ?_ ?_; (· omega)) | (refine m_pick_t rfl ?_ (by conv => lhs; whnf) ?_; (· first | rfl | assumption | (refine decide_eq_true ?_; first | assumption | omega) | (refine nt ?_; first | assumption | omega) | (simp [*]; done)))))) | refine end_ops ?_ | refine seq_ops ?_ | refine AW_ops ?_ | refine end_tree ?_ | refine seq_tree ?_ | (refine cond_t rfl ?_ ?_; (· first | rfl | assumption | (refine decide_eq_true ?_; first | assumption | omega) | (refine nt ?_; first | assumption | omega) | (simp [*]; done))) | (refine cond_f rfl ?_ ?_; (· first | rfl | assumption | (refine decide_eq_false ?_; first | assumption | omega) | (refine nf ?_; first | assumption | omega) | (simp [*]; done))) | refine skip_then ?_ | refine AW_seq ?_ | refine norm_then ?_ | refine AW_block ?_ | refine norm_block ?_ | refine AW_skip ?_)
        refine next_round (i + 1) ⟨hc, by rw [take_snoc l i 0 hc, take_snoc bh i 0 hcb, he, hx], hcb⟩ (weak_st ?_ ?_ rfl rfl) ?_
        · (repeat' (first | exact trivial | refine And.intro ?_ ?_)) <;> (first | rfl | skip)
        · (repeat' (first | exact trivial | refine And.intro ?_ ?_)) <;> (first | rfl | skip)
        · omega
      · by_cases hlt : l.getD i 0 < bh.getD i 0
        · have hT := hpr i hc hcb he hlt
          subst hT
          repeat (first | ((first | refine step_ops ?_ | refine step_tree ?_); ((try (refine g_yes rfl ?_ ?_; (· first | rfl | assumption | (refine decide_eq_true ?_; first | assumption | omega) | (refine nt ?_; first | assumption | omega) | (simp [*]; done) | (refine decide_eq_false ?_; first | assumption | omega) | (refine nf ?_; first | assumption | omega)))); (first | (refine m_mov (by conv => lhs; whnf) ?_) | (refine m_lss rfl rfl ?_) | (refine m_neq rfl rfl ?_) | (refine m_len_ro rfl ?_) | (refine m_idx1_ro rfl rfl ?_ ?_; (· omega)) | (refine m_ld_rpi rfl ?_ ?_; (· omega)) | (refine m_pick_t rfl ?_ (by conv => lhs; whnf) ?_; (· first | rfl | assumption | (refine decide_eq_true ?_; first | assumption | omega) | (refine nt ?_; first | assumption | omega) | (simp [*]; done))) | (refine m_nils ?_)))) | refine end_ops ?_ | refine seq_ops ?_ | refine end_tree ?_ | refine seq_tree ?_ | (refine cond_t rfl ?_ ?_; (· first | rfl | assumption | (refine decide_eq_true ?_; first | assumption | omega) | (refine nt ?_; first | assumption | omega) | (simp [*]; done))) | refine skip_then ?_ | refine AW_seq ?_ | refine AW_ret ?_ | refine ret_done ?_ | refine ret_then ?_ | refine AW_block ?_ | refine ret_block ?_ | refine ret_round ?_)
          exact outs_tup2 (outs_ints rfl rfl rfl) (outs_b rfl)
        · repeat (first | ((first | refine step_ops ?_ | refine step_tree ?_); ((try (refine g_yes rfl ?_ ?_; (· first | rfl | assumption | (refine decide_eq_true ?_; first | assumption | omega) | (refine nt ?_; first | assumption | omega) | (simp [*]; done) | (refine decide_eq_false ?_; first | assumption | omega) | (refine nf ?_; first | assumption | omega)))); (first | (refine m_mov (by conv => lhs; whnf) ?_) | (refine m_lss rfl rfl ?_) | (refine m_neq rfl rfl ?_) | (refine m_len_ro rfl ?_) | (refine m_idx1_ro rfl rfl ?_ ?_; (· omega)) | (refine m_ld_rpi rfl ?_ ?_; (· omega)) | (refine m_pick_t rfl ?_ (by conv => lhs; whnf) ?_; (· first | rfl | assumption | (refine decide_eq_true ?_; first | assumption | omega) | (refine nt ?_; first | assumption | omega) | (simp [*]; done)))))) | refine end_ops ?_ | refine seq_ops ?_ | refine end_tree ?_ | refine seq_tree ?_ | (refine cond_t rfl ?_ ?_; (· first | rfl | assumption | (refine decide_eq_true ?_; first | assumption | omega) | (refine nt ?_; first | assumption | omega) | (simp [*]; done))) | (refine cond_f rfl ?_ ?_; (· first | rfl | assumption | (refine decide_eq_false ?_; first | assumption | omega) | (refine nf ?_; first | assumption | omega) | (simp [*]; done))) | refine skip_then ?_ | refine AW_seq ?_ | refine exit_then ?_ | refine AW_block ?_ | refine exit_round ?_ | refine AW_exit ?_ | refine exit_block ?_ | (refine exit_other ?_ ?_; (· decide)))
          refine weak_st ?_ ?_ rfl rfl
          · (repeat' (first | exact trivial | refine And.intro ?_ ?_)) <;> (first | rfl | skip)
          · (repeat' (first | exact trivial | refine And.intro ?_ ?_)) <;> (first | rfl | skip)
    · repeat (first | (refine step_ops ?_; ((try (refine g_yes rfl ?_ ?_; (· first | rfl | assumption | (refine decide_eq_true ?_; first | assumption | omega) | (refine nt ?_; first | assumption | omega) | (simp [*]; done) | (refine decide_eq_false ?_; first | assumption | omega) | (refine nf ?_; first | assumption | omega)))); (first | (refine m_mov (by conv => lhs; whnf) ?_) | (refine m_lss rfl rfl ?_) | (refine m_len_ro rfl ?_) | (refine m_pick_t rfl ?_ (by conv => lhs; whnf) ?_; (· first | rfl | assumption | (refine decide_eq_true ?_; first | assumption | omega) | (refine nt ?_; first | assumption | omega) | (simp [*]; done)))))) | refine end_ops ?_ | refine seq_ops ?_ | (refine cond_f rfl ?_ ?_; (· first | rfl | assumption | (refine decide_eq_false ?_; first | assumption | omega) | (refine nf ?_; first | assumption | omega) | (simp [*]; done))) | refine AW_seq ?_ | refine exit_then ?_ | refine exit_round ?_ | refine AW_exit ?_ | refine exit_block ?_)
      refine weak_st ?_ ?_ rfl rfl
      · (repeat' (first | exact trivial | refine And.intro ?_ ?_)) <;> (first | rfl | skip)
      · (repeat' (first | exact trivial | refine And.intro ?_ ?_)) <;> (first | rfl | skip)
  · repeat (first | (refine step_ops ?_; (first | (first | (refine m_mov (by conv => lhs; whnf) ?_) | (refine m_lss rfl rfl ?_) | (refine m_pick_f rfl ?_ (by conv => lhs; whnf) ?_; (· first | rfl | assumption | (refine decide_eq_false ?_; first | assumption | omega) | (refine nf ?_; first | assumption | omega) | (simp [*]; done)))) | (refine g_noT rfl ?_ ?_; (· first | rfl | assumption | (refine decide_eq_false ?_; first | assumption | omega) | (refine nf ?_; first | assumption | omega) | (simp [*]; done))))) | refine end_ops ?_ | refine seq_ops ?_ | (refine cond_f rfl ?_ ?_; (· first | rfl | assumption | (refine decide_eq_false ?_; first | assumption | omega) | (refine nf ?_; first | assumption | omega) | (simp [*]; done))) | refine AW_seq ?_ | refine exit_then ?_ | refine exit_round ?_ | refine AW_exit ?_ | refine exit_block ?_)
    refine weak_st ?_ ?_ rfl rfl
    · (repeat' (first | exact trivial | refine And.intro ?_ ?_)) <;> (first | rfl | skip)
    · (repeat' (first | exact trivial | refine And.intro ?_ ?_)) <;> (first | rfl | skip)
theorem taLook_in0 (n : Nat) (hn : n ≤ 14) (h2 : 2 ≤ n) (bh : List Int) (hbl : bh = [] ∨ bh.length = n) (k : Nat)
    (ihB : ∀ l, 0 < l.length → l.length + k = n → (∀ x ∈ l, 0 ≤ x ∧ x < (n : Int)) → Chk n l → Sp Tryz.prog 47 [.i n, ints l, ints bh] (srchR none))
    (ihI : ∀ l, 0 < l.length → l.length + k = n → (∀ x ∈ l, 0 ≤ x ∧ x < (n : Int)) → ¬ Chk n l → k ≠ 0 → Sp Tryz.prog 47 [.i n, ints l, ints bh] (srchR (fstB (fitsT n) n k l bh)))
    (ihN : ∀ l, l.length + k = n → (∀ x ∈ l, 0 ≤ x ∧ x < (n : Int)) → ¬ Chk n l → k = 0 → ¬ (bh = [] ∨ comesB bh l = true) → Sp Tryz.prog 47 [.i n, ints l, ints bh] (.tup [.any, .b false]))
    (ihY : ∀ l, l.length + k = n → (∀ x ∈ l, 0 ≤ x ∧ x < (n : Int)) → ¬ Chk n l → k = 0 → (bh = [] ∨ comesB bh l = true) → SpH Tryz.prog 47 [.i n, .sl pbase 1 0 l.length, ints bh] (Am.look [(pbase, (true, l.map AV.i))]) (.tup [.sl pbase 1 0 l.length, .b true]) (Am.look [(pbase, (true, l.map AV.i))]))
    (l : List Int) (h0 : 0 < l.length) (hl : l.length + (k + 1) = n) (hb : ∀ x ∈ l, 0 ≤ x ∧ x < (n : Int)) (hc : ¬ Chk n l) (h1 : ¬ 1 < l.length) : Sp Tryz.prog 47 [.i n, ints l, ints bh] (srchR (fstB (fitsT n) n (k + 1) l bh)) := by
  obtain ⟨x, y, z, hx, hy, hz, he⟩ := ends_of h0 hb
  have hl1 := he.last
  have hpr : ∀ i, i < l.length → i < bh.length → l.take i = bh.take i → l.getD i 0 < bh.getD i 0 → fstB (fitsT n) n (k + 1) l bh = none := by
    intro i h1 h2 h3 h4
    unfold fstB
    rw [if_neg (by rintro rfl; simp at h2)]
    exact find_prune _ _ h1 h2 h3 h4
  have hcc : 1 < l.length → l.getD (l.length - 2) 0 = (y : Nat) ∧ ¬ (x : Int) / 2 = (y : Int) / 2 := fun h1 => ⟨he.prev h1, fun e => hc (.inl ⟨h1, by rw [hl1, he.prev h1]; exact e⟩)⟩
  have e1 : (l.length : Int) - 1 = (l.length - 1 : Nat) := by omega
  clear hc he hcc
  have hrest := taLook_rest n hn h2 bh k ihB ihI ihN ihY l h0 hl hb
  clear ihB ihI ihN ihY hb
  generalize fstB (fitsT n) n (k + 1) l bh = T at *
  unfold srchR at hrest ⊢
  refine spec_of Tryz.func47 rfl cc47 rfl ?_
  unfold ac47
  repeat (first | ((first | refine step_ops ?_ | refine step_tree ?_); (first | ((try (refine g_yes rfl ?_ ?_; (· first | rfl | assumption | (refine decide_eq_true ?_; first | assumption | omega) | (refine nt ?_; first | assumption | omega) | (simp [*]; done) | (refine decide_eq_false ?_; first | assumption | omega) | (refine nf ?_; first | assumption | omega)))); (first | (refine m_mov (by conv => lhs; whnf) ?_) | (refine m_gtr rfl rfl ?_) | (refine m_eql rfl rfl ?_) | (refine m_len_ro rfl ?_) | (refine m_pick_f rfl ?_ (by conv => lhs; whnf) ?_; (· first | rfl | assumption | (refine decide_eq_false ?_; first | assumption | omega) | (refine nf ?_; first | assumption | omega) | (simp [*]; done))) | (refine m_nils ?_))) | (refine g_noT rfl ?_ ?_; (· first | rfl | assumption | (refine decide_eq_false ?_; first | assumption | omega) | (refine nf ?_; first | assumption | omega) | (simp [*]; done))))) | refine end_ops ?_ | refine seq_ops ?_ | refine end_tree ?_ | refine seq_tree ?_ | (refine cond_f rfl ?_ ?_; (· first | rfl | assumption | (refine decide_eq_false ?_; first | assumption | omega) | (refine nf ?_; first | assumption | omega) | (simp [*]; done))) | refine skip_then ?_ | refine AW_seq ?_ | refine AW_block ?_)
  refine AW_cutloop (st [(0, .i n), (1, ints l), (2, ints bh), (8, .i l.length)] []) hrest ?_
  clear hrest
  refine AW_loop (α := Nat) (fun i => i ≤ l.length ∧ l.take i = bh.take i ∧ i ≤ bh.length) (fun i => st [(0, .i n), (1, ints l), (2, ints bh), (8, .i l.length), (9, .i i)] []) (fun i => l.length - i) 0 ⟨Nat.zero_le _, rfl, Nat.zero_le _⟩ (weak_st ?_ ?_ rfl rfl) ?_
  · (repeat' (first | exact trivial | refine And.intro ?_ ?_)) <;> (first | rfl | skip)
  · (repeat' (first | exact trivial | refine And.intro ?_ ?_)) <;> (first | rfl | skip)
  rintro i ⟨hi, he, hib⟩
  by_cases hc : i < l.length
  · by_cases hcb : i < bh.length
    · by_cases hx : l.getD i 0 = bh.getD i 0
      · repeat (first | ((first | refine step_ops ?_ | refine step_tree ?_); ((try (refine g_yes rfl ?_ ?_; (· first | rfl | assumption | (refine decide_eq_true ?_; first | assumption | omega) | (refine nt ?_; first | assumption | omega) | (simp [*]; done) | (refine decide_eq_false ?_; first | assumption | omega) | (refine nf ?_; first | assumption | omega)))); (first | (refine m_mov (by conv => lhs; whnf) ?_) | (refine m_lss rfl rfl ?_) | (refine m_neq rfl rfl ?_) | (refine m_add rfl rfl ?_ ?_ ?_; (· omega); (· omega)) | (refine m_len_ro rfl ?_) | (refine m_idx1_ro rfl rfl ?_ ?_; (· omega)) | (refine m_ld_rpi rfl ?_ ?_; (· omega)) | (refine m_pick_t rfl ?_ (by conv => lhs; whnf) ?_; (· first | rfl | assumption | (refine decide_eq_true ?_; first | assumption | omega) | (refine nt ?_; first | assumption | omega) | (simp [*]; done)))))) | refine end_ops ?_ | refine seq_ops ?_ | refine AW_ops ?_ | refine end_tree ?_ | refine seq_tree ?_ | (refine cond_t rfl ?_ ?_; (· first | rfl | assumption | (refine decide_eq_true ?_; first | assumption | omega) | (refine nt ?_; first | assumption | omega) | (simp [*]; done))) | (refine cond_f rfl ?_ ?_; (· first | rfl | assumption | (refine decide_eq_false ?_; first | assumption | omega) | (refine nf ?_; first | assumption | omega) | (simp [*]; done))) | refine skip_then ?_ | refine AW_seq ?_ | refine norm_then ?_ | refine AW_block ?_ | refine norm_block ?_ | refine AW_skip ?_)
        refine next_round (i + 1) ⟨hc, by rw [take_snoc l i 0 hc, take_snoc bh i 0 hcb, he, hx], hcb⟩ (weak_st ?_ ?_ rfl rfl) ?_
        · (repeat' (first | exact trivial | refine And.intro ?_ ?_)) <;> (first | rfl | skip)
        · (repeat' (first | exact trivial | refine And.intro ?_ ?_)) <;> (first | rfl | skip)
        · omega
      · by_cases hlt : l.getD i 0 < bh.getD i 0
        · have hT := hpr i hc hcb he hlt
          subst hT
          repeat (first | ((first | refine step_ops ?_ | refine step_tree ?_); ((try (refine g_yes rfl ?_ ?_; (· first | rfl | assumption | (refine decide_eq_true ?_; first | assumption | omega) | (refine nt ?_; first | assumption | omega) | (simp [*]; done) | (refine decide_eq_false ?_; first | assumption | omega) | (refine nf ?_; first | assumption | omega)))); (first | (refine m_mov (by conv => lhs; whnf) ?_) | (refine m_lss rfl rfl ?_) | (refine m_neq rfl rfl ?_) | (refine m_len_ro rfl ?_) | (refine m_idx1_ro rfl rfl ?_ ?_; (· omega)) | (refine m_ld_rpi rfl ?_ ?_; (· omega)) | (refine m_pick_t rfl ?_ (by conv => lhs; whnf) ?_; (· first | rfl | assumption | (refine decide_eq_true ?_; first | assumption | omega) | (refine nt ?_; first | assumption | omega) | (simp [*]; done))) | (refine m_nils ?_)))) | refine end_ops ?_ | refine seq_ops ?_ | refine end_tree ?_ | refine seq_tree ?_ | (refine cond_t rfl ?_ ?_; (· first | rfl | assumption | (refine decide_eq_true ?_; first | assumption | omega) | (refine nt ?_; first | assumption | omega) | (simp [*]; done))) | refine skip_then ?_ | refine AW_seq ?_ | refine AW_ret ?_ | refine ret_done ?_ | refine ret_then ?_ | refine AW_block ?_ | refine ret_block ?_ | refine ret_round ?_)
          exact outs_tup2 (outs_ints rfl rfl rfl) (outs_b rfl)
        · repeat (first | ((first | refine step_ops ?_ | refine step_tree ?_); ((try (refine g_yes rfl ?_ ?_; (· first | rfl | assumption | (refine decide_eq_true ?_; first | assumption | omega) | (refine nt ?_; first | assumption | omega) | (simp [*]; done) | (refine decide_eq_false ?_; first | assumption | omega) | (refine nf ?_; first | assumption | omega)))); (first | (refine m_mov (by conv => lhs; whnf) ?_) | (refine m_lss rfl rfl ?_) | (refine m_neq rfl rfl ?_) | (refine m_len_ro rfl ?_) | (refine m_idx1_ro rfl rfl ?_ ?_; (· omega)) | (refine m_ld_rpi rfl ?_ ?_; (· omega)) | (refine m_pick_t rfl ?_ (by conv => lhs; whnf) ?_; (· first | rfl | assumption | (refine decide_eq_true ?_; first | assumption | omega) | (refine nt ?_; first | assumption | omega) | (simp [*]; done)))))) | refine end_ops ?_ | refine seq_ops ?_ | refine end_tree ?_ | refine seq_tree ?_ | (refine cond_t rfl ?_ ?_; (· first | rfl | assumption | (refine decide_eq_true ?_; first | assumption | omega) | (refine nt ?_; first | assumption | omega) | (simp [*]; done))) | (refine cond_f rfl ?_ ?_; (· first | rfl | assumption | (refine decide_eq_false ?_; first | assumption | omega) | (refine nf ?_; first | assumption | omega) | (simp [*]; done))) | refine skip_then ?_ | refine AW_seq ?_ | refine exit_then ?_ | refine AW_block ?_ | refine exit_round ?_ | refine AW_exit ?_ | refine exit_block ?_ | (refine exit_other ?_ ?_; (· decide)))
          refine weak_st ?_ ?_ rfl rfl
          · (repeat' (first | exact trivial | refine And.intro ?_ ?_)) <;> (first | rfl | skip)
          · (repeat' (first | exact trivial | refine And.intro ?_ ?_)) <;> (first | rfl | skip)
    · repeat (first | (refine step_ops ?_; ((try (refine g_yes rfl ?_ ?_; (· first | rfl | assumption | (refine decide_eq_true ?_; first | assumption | omega) | (refine nt ?_; first | assumption | omega) | (simp [*]; done) | (refine decide_eq_false ?_; first | assumption | omega) | (refine nf ?_; first | assumption | omega)))); (first | (refine m_mov (by conv => lhs; whnf) ?_) | (refine m_lss rfl rfl ?_) | (refine m_len_ro rfl ?_) | (refine m_pick_t rfl ?_ (by conv => lhs; whnf) ?_; (· first | rfl | assumption | (refine decide_eq_true ?_; first | assumption | omega) | (refine nt ?_; first | assumption | omega) | (simp [*]; done)))))) | refine end_ops ?_ | refine seq_ops ?_ | (refine cond_f rfl ?_ ?_; (· first | rfl | assumption | (refine decide_eq_false ?_; first | assumption | omega) | (refine nf ?_; first | assumption | omega) | (simp [*]; done))) | refine AW_seq ?_ | refine exit_then ?_ | refine exit_round ?_ | refine AW_exit ?_ | refine exit_block ?_)
      refine weak_st ?_ ?_ rfl rfl
      · (repeat' (first | exact trivial | refine And.intro ?_ ?_)) <;> (first | rfl | skip)
      · (repeat' (first | exact trivial | refine And.intro ?_ ?_)) <;> (first | rfl | skip)
  · repeat (first | (refine step_ops ?_; (first | (first | (refine m_mov (by conv => lhs; whnf) ?_) | (refine m_lss rfl rfl ?_) | (refine m_pick_f rfl ?_ (by conv => lhs; whnf) ?_; (· first | rfl | assumption | (refine decide_eq_false ?_; first | assumption | omega) | (refine nf ?_; first | assumption | omega) | (simp [*]; done)))) | (refine g_noT rfl ?_ ?_; (· first | rfl | assumption | (refine decide_eq_false ?_; first | assumption | omega) | (refine nf ?_; first | assumption | omega) | (simp [*]; done))))) | refine end_ops ?_ | refine seq_ops ?_ | (refine cond_f rfl ?_ ?_; (· first | rfl | assumption | (refine decide_eq_false ?_; first | assumption | omega) | (refine nf ?_; first | assumption | omega) | (simp [*]; done))) | refine AW_seq ?_ | refine exit_then ?_ | refine exit_round ?_ | refine AW_exit ?_ | refine exit_block ?_)
    refine weak_st ?_ ?_ rfl rfl
    · (repeat' (first | exact trivial | refine And.intro ?_ ?_)) <;> (first | rfl | skip)
    · (repeat' (first | exact trivial | refine And.intro ?_ ?_)) <;> (first | rfl | skip)
end Go.Proofs.YtmmcldbldbpikaaGreatDoor
namespace Go.Proofs.YtmmcldbldbpikaaGreatDoor
variable [Go.Am.CodeBlk]
open Go.Am
attribute [local irreducible] AW Outs Weak Lends Lend Sp aops atree aop1 Then Round InBlock Done
attribute [local irreducible] SpM DoneM SpH DoneH
theorem taLook_all (n : Nat) (hn : n ≤ 14) (h2 : 2 ≤ n) (bh : List Int) (hbl : bh = [] ∨ bh.length = n) : ∀ k l, 0 < l.length → l.length + (k + 1) = n → (∀ x ∈ l, 0 ≤ x ∧ x < (n : Int)) → ¬ Chk n l →
    Sp Tryz.prog 47 [.i n, ints l, ints bh] (srchR (fstB (fitsT n) n (k + 1) l bh)) := by
  intro k
  induction k with
  | zero =>
    intro l h0 hl hb hc
    have hB : ∀ l, 0 < l.length → l.length + 0 = n → (∀ x ∈ l, 0 ≤ x ∧ x < (n : Int)) → Chk n l → _ := fun l h0 hl hb hc => taLook_bad n hn l bh h0 (by omega) hb h2 hc
    have hI : ∀ l, 0 < l.length → l.length + 0 = n → (∀ x ∈ l, 0 ≤ x ∧ x < (n : Int)) → ¬ Chk n l → 0 ≠ 0 → Sp Tryz.prog 47 [.i n, ints l, ints bh] (srchR (fstB (fitsT n) n 0 l bh)) := fun l h0 hl hb hc h => absurd rfl h
    have hN : ∀ l, l.length + 0 = n → (∀ x ∈ l, 0 ≤ x ∧ x < (n : Int)) → ¬ Chk n l → 0 = 0 → ¬ (bh = [] ∨ comesB bh l = true) → _ := fun l hl hb hc _ hno => taLook_leafN n hn h2 l bh (by omega) hbl hb hc hno
    have hY : ∀ l, l.length + 0 = n → (∀ x ∈ l, 0 ≤ x ∧ x < (n : Int)) → ¬ Chk n l → 0 = 0 → (bh = [] ∨ comesB bh l = true) → _ := fun l hl hb hc _ hy => taLook_leafY n hn h2 l bh (by omega) hbl hb hc hy
    by_cases h1 : 1 < l.length
    · exact taLook_in1 n hn h2 bh hbl 0 hB hI hN hY l h0 hl hb hc h1
    · exact taLook_in0 n hn h2 bh hbl 0 hB hI hN hY l h0 hl hb hc h1
  | succ k ih =>
    intro l h0 hl hb hc
    have hB : ∀ l, 0 < l.length → l.length + (k + 1) = n → (∀ x ∈ l, 0 ≤ x ∧ x < (n : Int)) → Chk n l → _ := fun l h0 hl hb hc => taLook_bad n hn l bh h0 (by omega) hb h2 hc
    have hI : ∀ l, 0 < l.length → l.length + (k + 1) = n → (∀ x ∈ l, 0 ≤ x ∧ x < (n : Int)) → ¬ Chk n l → k + 1 ≠ 0 → Sp Tryz.prog 47 [.i n, ints l, ints bh] (srchR (fstB (fitsT n) n (k + 1) l bh)) := fun l h0 hl hb hc _ => ih l h0 hl hb hc
    have hN : ∀ l, l.length + (k + 1) = n → (∀ x ∈ l, 0 ≤ x ∧ x < (n : Int)) → ¬ Chk n l → k + 1 = 0 → ¬ (bh = [] ∨ comesB bh l = true) → Sp Tryz.prog 47 [.i n, ints l, ints bh] (.tup [.any, .b false]) := fun l hl hb hc h => absurd h (by omega)
    have hY : ∀ l, l.length + (k + 1) = n → (∀ x ∈ l, 0 ≤ x ∧ x < (n : Int)) → ¬ Chk n l → k + 1 = 0 → (bh = [] ∨ comesB bh l = true) → SpH Tryz.prog 47 [.i n, .sl pbase 1 0 l.length, ints bh] (Am.look [(pbase, (true, l.map AV.i))]) (.tup [.sl pbase 1 0 l.length, .b true]) (Am.look [(pbase, (true, l.map AV.i))]) := fun l hl hb hc h => absurd h (by omega)
    by_cases h1 : 1 < l.length
    · exact taLook_in1 n hn h2 bh hbl (k + 1) hB hI hN hY l h0 hl hb hc h1
    · exact taLook_in0 n hn h2 bh hbl (k + 1) hB hI hN hY l h0 hl hb hc h1
theorem taLook_spec (n : Nat) (hn : n ≤ 14) (h2 : 2 ≤ n) (bh : List Int) (hbl : bh = [] ∨ bh.length = n) : Sp Tryz.prog 47 [.i n, ints [0], ints bh] (srchR (fstB (fitsT n) n n [] bh)) := by
  obtain ⟨k, rfl⟩ : ∃ k, n = k + 2 := ⟨n - 2, by omega⟩
  rw [fstB_first]
  exact taLook_all (k + 2) hn h2 bh hbl k [0] (by simp) (by simp; omega) (fun x hx => by rw [List.mem_singleton.1 hx]; omega) (chk_one h2)
theorem specFirstApart_spec (c : Int) : Sp Tryz.prog 20 [.i c] (srchR (frstT c)) := by
  unfold srchR
  refine spec_of Tryz.func20 rfl cc20 rfl ?_
  unfold ac20
  by_cases h : 1 ≤ c ∧ c ≤ 7
  · obtain ⟨q, rfl⟩ := Int.eq_ofNat_of_zero_le (show 0 ≤ c by omega)
    have hs := taLook_spec (2 * q) (by omega) (by omega) [] (.inl rfl)
    have e : frstT (q : Int) = fstB (fitsT (2 * q)) (2 * q) (2 * q) [] [] := by unfold frstT fstB; rw [if_pos h, if_pos rfl, Int.toNat_natCast]
    rw [← e] at hs
    unfold srchR at hs
    cases ho : frstT (q : Int) with
    | none =>
      rw [ho] at hs
      repeat (first | (refine step_ops ?_; (first | (refine m_mov (by conv => lhs; whnf) ?_) | (refine m_nils ?_))) | refine end_ops ?_ | refine seq_ops ?_ | refine AW_seq ?_)
      (refine step_ops ?_); (apply m_call (taCouples_spec _)); (· repeat (first | exact lends_nil | (refine lends_cons ?_ ?_; (· exact lend_v))))
      repeat (first | (refine step_ops ?_; (first | (refine m_mov (by conv => lhs; whnf) ?_) | (refine m_mul rfl rfl ?_ ?_ ?_; (· first | omega | (simp; done)); (· first | omega | (simp; done))) | (refine m_not rfl ?_) | (refine m_bsl1 rfl rfl ?_))) | refine end_ops ?_ | refine seq_ops ?_ | (refine cond_f rfl ?_ ?_; (· first | rfl | assumption | (refine decide_eq_false ?_; first | assumption | omega) | (refine nf ?_; first | assumption | omega) | (simp [*]; done))) | refine skip_then ?_)
      rw [show 2 * (q : Int) = ((2 * q : Nat) : Int) by omega]
      skip
      refine step_ops ?_
      refine m_call hs ?_ ?_
      · exact lends_cons lend_v (lends_cons (lend_sli (by rfl) rfl) (lends_cons lend_nil lends_nil))
      repeat (first | (refine step_ops ?_; (first | (refine m_mov (by conv => lhs; whnf) ?_) | (refine m_not rfl ?_) | (refine m_nils ?_) | (refine m_ext rfl rfl ?_))) | refine end_ops ?_ | refine seq_ops ?_ | (refine cond_t rfl ?_ ?_; (· first | rfl | assumption | (refine decide_eq_true ?_; first | assumption | omega) | (refine nt ?_; first | assumption | omega) | (simp [*]; done))) | refine AW_seq ?_ | refine AW_ret ?_ | refine ret_done ?_ | refine ret_then ?_)
      exact outs_tup2 (outs_ints rfl rfl rfl) (outs_b rfl)
    | some m =>
      rw [ho] at hs
      repeat (first | (refine step_ops ?_; (first | (refine m_mov (by conv => lhs; whnf) ?_) | (refine m_nils ?_))) | refine end_ops ?_ | refine seq_ops ?_ | refine AW_seq ?_)
      (refine step_ops ?_); (apply m_call (taCouples_spec _)); (· repeat (first | exact lends_nil | (refine lends_cons ?_ ?_; (· exact lend_v))))
      repeat (first | (refine step_ops ?_; (first | (refine m_mov (by conv => lhs; whnf) ?_) | (refine m_mul rfl rfl ?_ ?_ ?_; (· first | omega | (simp; done)); (· first | omega | (simp; done))) | (refine m_not rfl ?_) | (refine m_bsl1 rfl rfl ?_))) | refine end_ops ?_ | refine seq_ops ?_ | (refine cond_f rfl ?_ ?_; (· first | rfl | assumption | (refine decide_eq_false ?_; first | assumption | omega) | (refine nf ?_; first | assumption | omega) | (simp [*]; done))) | refine skip_then ?_)
      rw [show 2 * (q : Int) = ((2 * q : Nat) : Int) by omega]
      skip
      refine step_ops ?_
      refine m_call hs ?_ ?_
      · exact lends_cons lend_v (lends_cons (lend_sli (by rfl) rfl) (lends_cons lend_nil lends_nil))
      repeat (first | (refine step_ops ?_; (first | (refine m_mov (by conv => lhs; whnf) ?_) | (refine m_not rfl ?_) | (refine m_ext rfl rfl ?_))) | refine end_ops ?_ | refine seq_ops ?_ | (refine cond_f rfl ?_ ?_; (· first | rfl | assumption | (refine decide_eq_false ?_; first | assumption | omega) | (refine nf ?_; first | assumption | omega) | (simp [*]; done))) | refine skip_then ?_ | refine AW_seq ?_ | refine AW_ret ?_ | refine ret_done ?_)
      exact outs_tup2 (outs_ro (allv_ints _)) (outs_b rfl)
  · have e : frstT c = none := if_neg h
    rw [e]
    repeat (first | (refine step_ops ?_; (first | (refine m_mov (by conv => lhs; whnf) ?_) | (refine m_nils ?_))) | refine end_ops ?_ | refine seq_ops ?_ | refine AW_seq ?_)
    (refine step_ops ?_); (apply m_call (taCouples_spec _)); (· repeat (first | exact lends_nil | (refine lends_cons ?_ ?_; (· exact lend_v))))
    repeat (first | (refine step_ops ?_; (first | (refine m_mov (by conv => lhs; whnf) ?_) | (refine m_not rfl ?_) | (refine m_nils ?_))) | refine end_ops ?_ | refine seq_ops ?_ | (refine cond_t rfl ?_ ?_; (· first | rfl | assumption | (refine decide_eq_true ?_; first | assumption | omega) | (refine nt ?_; first | assumption | omega) | (simp [*]; done))) | refine AW_ret ?_ | refine ret_done ?_ | refine ret_then ?_)
    exact outs_tup2 (outs_ints rfl rfl rfl) (outs_b rfl)
theorem specNextApart_spec (L : List Int) (hL : L.length ≤ 1048576) : Sp Tryz.prog 23 [ints L] (srchR (nextT L)) := by
  unfold srchR
  refine spec_of Tryz.func23 rfl cc23 rfl ?_
  unfold ac23
  by_cases h : IsTab L
  · have h2 := h.1
    have h14 := h.2.1
    obtain ⟨x, hx, hxl⟩ := tab_get h (k := 0) (by omega)
    by_cases h0 : x = 0
    · subst h0
      have hs := taLook_spec L.length (by omega) (by omega) L (.inr rfl)
      have e : nextT L = fstB (fitsT L.length) L.length L.length [] L := by unfold nextT fstB; rw [if_pos ⟨h, hx⟩, if_neg (by rintro rfl; simp at h2)]
      rw [← e] at hs
      unfold srchR at hs
      cases ho : nextT L with
      | none =>
        rw [ho] at hs
        repeat (first | (refine step_ops ?_; (first | (refine m_mov (by conv => lhs; whnf) ?_) | (refine m_nils ?_))) | refine end_ops ?_ | refine seq_ops ?_ | refine AW_seq ?_)
        (refine step_ops ?_); (apply m_call (taGood_spec _ hL)); (· repeat (first | exact lends_nil | (refine lends_cons ?_ ?_; (· (refine lend_ints ?_; first | rfl | omega)))))
        repeat (first | (refine step_ops ?_; ((try (refine g_yes rfl ?_ ?_; (· first | rfl | assumption | (refine decide_eq_true ?_; first | assumption | omega) | (refine nt ?_; first | assumption | omega) | (simp [*]; done) | (refine decide_eq_false ?_; first | assumption | omega) | (refine nf ?_; first | assumption | omega)))); (first | (refine m_mov (by conv => lhs; whnf) ?_) | (refine m_neq rfl rfl ?_) | (refine m_not rfl ?_) | (refine m_idx1_ro rfl rfl ?_ ?_; (· omega)) | (refine m_ld_rpi rfl ?_ ?_; (· omega)) | (refine m_pick_f rfl ?_ (by conv => lhs; whnf) ?_; (· first | rfl | assumption | (refine decide_eq_false ?_; first | assumption | omega) | (refine nf ?_; first | assumption | omega) | (simp [*]; done)))))) | refine end_ops ?_)
        rw [hx]
        repeat (first | (refine step_ops ?_; (first | (refine m_mov (by conv => lhs; whnf) ?_) | (refine m_len_ro rfl ?_) | (refine m_bsl1 rfl rfl ?_))) | refine seq_ops ?_ | (refine cond_f rfl ?_ ?_; (· first | rfl | assumption | (refine decide_eq_false ?_; first | assumption | omega) | (refine nf ?_; first | assumption | omega) | (simp [*]; done))) | refine skip_then ?_)
        (refine step_ops ?_); (apply m_call (hs)); (· repeat (first | exact lends_nil | (refine lends_cons ?_ ?_; (· (first | exact lend_v | (refine lend_ints ?_; first | rfl | omega) | (refine lend_sli (by rfl) ?_; first | rfl | omega | (simp; done)))))))
        repeat (first | (refine step_ops ?_; (first | (refine m_mov (by conv => lhs; whnf) ?_) | (refine m_not rfl ?_) | (refine m_nils ?_) | (refine m_ext rfl rfl ?_))) | refine end_ops ?_ | refine seq_ops ?_ | (refine cond_t rfl ?_ ?_; (· first | rfl | assumption | (refine decide_eq_true ?_; first | assumption | omega) | (refine nt ?_; first | assumption | omega) | (simp [*]; done))) | refine AW_seq ?_ | refine AW_ret ?_ | refine ret_done ?_ | refine ret_then ?_)
        exact outs_tup2 (outs_ints rfl rfl rfl) (outs_b rfl)
      | some m =>
        rw [ho] at hs
        repeat (first | (refine step_ops ?_; (first | (refine m_mov (by conv => lhs; whnf) ?_) | (refine m_nils ?_))) | refine end_ops ?_ | refine seq_ops ?_ | refine AW_seq ?_)
        (refine step_ops ?_); (apply m_call (taGood_spec _ hL)); (· repeat (first | exact lends_nil | (refine lends_cons ?_ ?_; (· (refine lend_ints ?_; first | rfl | omega)))))
        repeat (first | (refine step_ops ?_; ((try (refine g_yes rfl ?_ ?_; (· first | rfl | assumption | (refine decide_eq_true ?_; first | assumption | omega) | (refine nt ?_; first | assumption | omega) | (simp [*]; done) | (refine decide_eq_false ?_; first | assumption | omega) | (refine nf ?_; first | assumption | omega)))); (first | (refine m_mov (by conv => lhs; whnf) ?_) | (refine m_neq rfl rfl ?_) | (refine m_not rfl ?_) | (refine m_idx1_ro rfl rfl ?_ ?_; (· omega)) | (refine m_ld_rpi rfl ?_ ?_; (· omega)) | (refine m_pick_f rfl ?_ (by conv => lhs; whnf) ?_; (· first | rfl | assumption | (refine decide_eq_false ?_; first | assumption | omega) | (refine nf ?_; first | assumption | omega) | (simp [*]; done)))))) | refine end_ops ?_)
        rw [hx]
        repeat (first | (refine step_ops ?_; (first | (refine m_mov (by conv => lhs; whnf) ?_) | (refine m_len_ro rfl ?_) | (refine m_bsl1 rfl rfl ?_))) | refine seq_ops ?_ | (refine cond_f rfl ?_ ?_; (· first | rfl | assumption | (refine decide_eq_false ?_; first | assumption | omega) | (refine nf ?_; first | assumption | omega) | (simp [*]; done))) | refine skip_then ?_)
        (refine step_ops ?_); (apply m_call (hs)); (· repeat (first | exact lends_nil | (refine lends_cons ?_ ?_; (· (first | exact lend_v | (refine lend_ints ?_; first | rfl | omega) | (refine lend_sli (by rfl) ?_; first | rfl | omega | (simp; done)))))))
        repeat (first | (refine step_ops ?_; (first | (refine m_mov (by conv => lhs; whnf) ?_) | (refine m_not rfl ?_) | (refine m_ext rfl rfl ?_))) | refine end_ops ?_ | refine seq_ops ?_ | (refine cond_f rfl ?_ ?_; (· first | rfl | assumption | (refine decide_eq_false ?_; first | assumption | omega) | (refine nf ?_; first | assumption | omega) | (simp [*]; done))) | refine skip_then ?_ | refine AW_seq ?_ | refine AW_ret ?_ | refine ret_done ?_)
        exact outs_tup2 (outs_ro (allv_ints _)) (outs_b rfl)
    · have e : nextT L = none := if_neg fun hh => h0 (by have := hh.2; omega)
      rw [e]
      repeat (first | (refine step_ops ?_; (first | (refine m_mov (by conv => lhs; whnf) ?_) | (refine m_nils ?_))) | refine end_ops ?_ | refine seq_ops ?_ | refine AW_seq ?_)
      (refine step_ops ?_); (apply m_call (taGood_spec _ hL)); (· repeat (first | exact lends_nil | (refine lends_cons ?_ ?_; (· (refine lend_ints ?_; first | rfl | omega)))))
      repeat (first | (refine step_ops ?_; ((try (refine g_yes rfl ?_ ?_; (· first | rfl | assumption | (refine decide_eq_true ?_; first | assumption | omega) | (refine nt ?_; first | assumption | omega) | (simp [*]; done) | (refine decide_eq_false ?_; first | assumption | omega) | (refine nf ?_; first | assumption | omega)))); (first | (refine m_mov (by conv => lhs; whnf) ?_) | (refine m_neq rfl rfl ?_) | (refine m_not rfl ?_) | (refine m_idx_ro rfl rfl ?_ ?_ ?_; (· omega); (· omega)) | (refine m_ld_rpi rfl ?_ ?_; (· omega)) | (refine m_pick_f rfl ?_ (by conv => lhs; whnf) ?_; (· first | rfl | assumption | (refine decide_eq_false ?_; first | assumption | omega) | (refine nf ?_; first | assumption | omega) | (simp [*]; done)))))) | refine end_ops ?_)
      rw [show L.getD (Int.toNat 0 * 1) 0 = (x : Nat) from hx]
      repeat (first | (refine step_ops ?_; (first | (refine m_mov (by conv => lhs; whnf) ?_) | (refine m_nils ?_))) | refine end_ops ?_ | refine seq_ops ?_ | (refine cond_t rfl ?_ ?_; (· first | rfl | assumption | (refine decide_eq_true ?_; first | assumption | omega) | (refine nt ?_; first | assumption | omega) | (simp [*]; done))) | refine AW_ret ?_ | refine ret_done ?_ | refine ret_then ?_)
      exact outs_tup2 (outs_ints rfl rfl rfl) (outs_b rfl)
  · have e : nextT L = none := if_neg fun hh => h hh.1
    rw [e]
    repeat (first | (refine step_ops ?_; (first | (refine m_mov (by conv => lhs; whnf) ?_) | (refine m_nils ?_))) | refine end_ops ?_ | refine seq_ops ?_ | refine AW_seq ?_)
    (refine step_ops ?_); (apply m_call (taGood_spec _ hL)); (· repeat (first | exact lends_nil | (refine lends_cons ?_ ?_; (· (refine lend_ints ?_; first | rfl | omega)))))
    repeat (first | (refine step_ops ?_; (first | (first | (refine m_mov (by conv => lhs; whnf) ?_) | (refine m_not rfl ?_) | (refine m_pick_t rfl ?_ (by conv => lhs; whnf) ?_; (· first | rfl | assumption | (refine decide_eq_true ?_; first | assumption | omega) | (refine nt ?_; first | assumption | omega) | (simp [*]; done))) | (refine m_nils ?_)) | (refine g_noF rfl ?_ ?_; (· first | rfl | assumption | (refine decide_eq_true ?_; first | assumption | omega) | (refine nt ?_; first | assumption | omega) | (simp [*]; done))))) | refine end_ops ?_ | refine seq_ops ?_ | (refine cond_t rfl ?_ ?_; (· first | rfl | assumption | (refine decide_eq_true ?_; first | assumption | omega) | (refine nt ?_; first | assumption | omega) | (simp [*]; done))) | refine AW_ret ?_ | refine ret_done ?_ | refine ret_then ?_)
    exact outs_tup2 (outs_ints rfl rfl rfl) (outs_b rfl)
theorem frstT_le (c : Int) : ((frstT c).getD []).length ≤ 14 := by
  unfold frstT
  split
  · rename_i h
    cases hh : (goOn (fitsT (2 * c.toNat)) (2 * c.toNat) (2 * c.toNat) []).head? with
    | none => simp
    | some m =>
      have := goOn_len (List.mem_of_mem_head? (by rw [hh]; rfl))
      simp at this ⊢
      omega
  · simp
theorem nextT_le (L : List Int) : ((nextT L).getD []).length ≤ 14 := by
  unfold nextT
  split
  · rename_i h
    have h14 := h.1.2.1
    cases hh : (goOn (fitsT L.length) L.length L.length []).find? (fun m => comesB L m) with
    | none => simp
    | some m =>
      have := goOn_len (List.mem_of_find?_eq_some hh)
      simp at this ⊢
      omega
  · simp
end Go.Proofs.YtmmcldbldbpikaaGreatDoor
namespace Go.Proofs.YtmmcldbldbpikaaGreatDoor
variable [Go.Am.CodeBlk]
open Go.Am
attribute [local irreducible] AW Outs Weak Lends Lend Sp aops atree aop1 Then Round InBlock Done
attribute [local irreducible] SpH SpX DoneH DoneX
def tN (c t : Nat) : Int := exactS (roundS c (c + 1)) t
def rN (c t : Nat) : Int := exactS (rowS c (c + 1)) t
theorem tw_num : ∀ c < 8, 1 ≤ c → ∀ t < c + 1, (0 ≤ tN c t ∧ tN c t ≤ 10000000000) ∧ (0 ≤ rN c t ∧ rN c t ≤ 100000000000) ∧ 0 ≤ turnN c t ∧ turnN c t ≤ tN c t := by decide +kernel
def tS (c : Nat) : Nat → Int
  | 0 => 0
  | k + 1 => tS c k + tN c k
def rS (c : Nat) : Nat → Int
  | 0 => 0
  | k + 1 => rS c k + rN c k
def uS (c : Nat) : Nat → Int
  | 0 => 0
  | k + 1 => uS c k + turnN c k
theorem tw_sum : ∀ c < 8, 1 ≤ c → ∀ k < c + 2, (0 ≤ tS c k ∧ tS c k ≤ 1000000000000) ∧ (0 ≤ rS c k ∧ rS c k ≤ 1000000000000) ∧ 0 ≤ uS c k ∧ uS c k ≤ 1000000000000 := by decide +kernel
theorem tw_all : ∀ c < 8, 1 ≤ c → tS c (c + 1) = fac (2 * c - 1) ∧ rS c (c + 1) = fac (2 * c) ∧ uS c (c + 1) = fac c * fac (c - 1) ∧ fac (2 * c) = 2 * (c : Int) * fac (2 * c - 1) ∧ tN c 0 * chDen c = fac (2 * c - 1) * chNum c ∧ (0 ≤ tN c 0 * chDen c ∧ tN c 0 * chDen c ≤ 9000000000000000000) ∧
    (0 ≤ fac (2 * c - 1) ∧ fac (2 * c - 1) ≤ 10000000000) ∧ (0 ≤ chNum c ∧ chNum c ≤ 10000000000) ∧ 0 ≤ chDen c ∧ chDen c ≤ 10000000000 := by decide +kernel
theorem tog_at {c t : Nat} (h1 : 1 ≤ c) (h7 : c ≤ 7) (ht : t ≤ c) : TogOk c t ∧ togNum c t = tN c t ∧ rowNum c t = rN c t ∧ turnNum c t = turnN c t := by
  have h : TogOk c t := ⟨⟨by omega, by omega⟩, by omega, by omega⟩
  refine ⟨h, ?_, ?_, ?_⟩
  · rw [togNum, if_pos h, Int.toNat_natCast, Int.toNat_natCast]; rfl
  · rw [rowNum, if_pos h, Int.toNat_natCast, Int.toNat_natCast]; rfl
  · rw [turnNum, if_pos h, Int.toNat_natCast, Int.toNat_natCast]
theorem tw_snoc {L : List Int} {k : Nat} (h : k < L.length) : L.take (k + 1) = L.take k ++ [L.getD k 0] := by
  rw [List.take_succ_eq_append_getElem h]
  simp [h]
theorem nodup_take {x : List Int} (h : ∀ i, i < x.length → x.getD i 0 ∉ x.take i) : x.Nodup := by
  have key : ∀ k, k ≤ x.length → (x.take k).Nodup := by
    intro k
    induction k with
    | zero => intro _; simp
    | succ k ih =>
      intro hk
      rw [tw_snoc (by omega), List.nodup_append]
      refine ⟨ih (by omega), by simp, fun a ha b hb hab => ?_⟩
      rw [List.mem_singleton] at hb
      subst hb; subst hab
      exact h k (by omega) ha
  have := key x.length (Nat.le_refl _)
  rwa [List.take_length] at this
theorem goOn_fits (fits : List Int → Nat → Bool) (n : Nat) : ∀ k l x, x ∈ goOn fits n k l → ∀ i, i < k → ∃ y : Nat, y < n ∧ x.getD (l.length + i) 0 = y ∧ fits (x.take (l.length + i)) y = true
  | 0, _, _, _, i, hi => by omega
  | k + 1, l, x, h, i, hi => by
    simp only [goOn, List.mem_flatMap] at h
    obtain ⟨y, hy, hx⟩ := h
    rw [List.mem_filter, List.mem_range] at hy
    have hlen : (l ++ [(y : Int)]).length = l.length + 1 := by simp
    cases i with
    | zero =>
      obtain ⟨m, rfl, hm⟩ := goOn_shape fits n k _ _ hx
      refine ⟨y, hy.1, ?_, ?_⟩
      · simp [List.getD_eq_getElem?_getD]
      · rw [Nat.add_zero, List.append_assoc, List.take_left]
        exact hy.2
    | succ i =>
      obtain ⟨z, h1, h2, h3⟩ := goOn_fits fits n k (l ++ [(y : Int)]) x hx i (by omega)
      rw [hlen, show l.length + 1 + i = l.length + (i + 1) by omega] at h2 h3
      exact ⟨z, h1, h2, h3⟩
theorem get_take {x : List Int} {i j : Nat} (h : j < i) : (x.take i).getD j 0 = x.getD j 0 := by
  simp [List.getD_eq_getElem?_getD, List.getElem?_take, h]
/-- A table that a search for tables with all apart finds. -/
theorem apart_tab {c : Nat} (h1 : 1 ≤ c) (h7 : c ≤ 7) {x : List Int} (hx : x ∈ goOn (fitsT (2 * c)) (2 * c) (2 * c) []) : x.length = 2 * c ∧ IsTab x ∧ aroundT x = 0 ∧ x.getD 0 0 = 0 := by
  have hf := goOn_fits (fitsT (2 * c)) (2 * c) (2 * c) [] x hx
  have hlen : x.length = 2 * c := by
    obtain ⟨m, e, hm⟩ := goOn_shape (fitsT (2 * c)) (2 * c) (2 * c) [] x hx
    rw [e, List.nil_append, hm]
  simp only [List.length_nil, Nat.zero_add] at hf
  have h0 : x.getD 0 0 = 0 := by
    obtain ⟨y, _, a2, a3⟩ := hf 0 (by omega)
    rw [List.take_zero, fitsT, if_pos rfl, decide_eq_true_eq] at a3
    rw [a2, a3]; rfl
  have hgo : ∀ i, 1 ≤ i → i < 2 * c → x.getD i 0 ∉ x.take i ∧ ¬ x.getD (i - 1) 0 / 2 = x.getD i 0 / 2 ∧ ¬ (i + 1 = 2 * c ∧ x.getD 0 0 / 2 = x.getD i 0 / 2) := by
    intro i hi1 hi
    obtain ⟨y, a1, a2, a3⟩ := hf i hi
    have hne : x.take i ≠ [] := fun e => by
      have h3 : (x.take i).length = 0 := by rw [e]; rfl
      rw [List.length_take] at h3
      omega
    have hl : (x.take i).length = i := by rw [List.length_take]; omega
    rw [fitsT, if_neg hne] at a3
    simp only [Bool.and_eq_true, Bool.not_eq_true', decide_eq_false_iff_not] at a3
    obtain ⟨b1, b2⟩ := a3
    rw [chk_snoc hne, hl, get_take (by omega), get_take (by omega)] at b2
    rw [a2]
    exact ⟨b1, fun e => b2 (Or.inl e), fun e => b2 (Or.inr e)⟩
  have htab : IsTab x := by
    refine ⟨by omega, by omega, by omega, fun z hz => ?_, nodup_take fun i hi => ?_⟩
    · obtain ⟨i, hi, rfl⟩ := List.mem_iff_getElem.1 hz
      obtain ⟨y, a1, a2, _⟩ := hf i (by omega)
      have : x[i] = x.getD i 0 := by simp [hi]
      rw [this, a2]; omega
    · by_cases hi0 : i = 0
      · subst hi0; simp
      · exact (hgo i (by omega) (by omega)).1
  refine ⟨hlen, htab, ?_, h0⟩
  have key : ∀ k, k ≤ 2 * c → togT x k = 0 := by
    intro k
    induction k with
    | zero => intro _; rfl
    | succ k ih =>
      intro hk
      simp only [togT]
      by_cases e : k + 1 < 2 * c
      · have h2 := (hgo (k + 1) (by omega) e).2.1
        rw [Nat.add_sub_cancel] at h2
        rw [hlen, Nat.mod_eq_of_lt e, if_neg h2]
        exact ih (by omega)
      · have e2 : k + 1 = 2 * c := by omega
        have := (hgo k (by omega) (by omega)).2.2
        rw [hlen, e2, Nat.mod_self, if_neg fun hh => this ⟨e2, hh.symm⟩]
        exact ih (by omega)
  unfold aroundT
  rw [hlen]
  exact key _ (Nat.le_refl _)
theorem frst_some : ∀ c < 8, 1 ≤ c → (frstT ((c : Nat) : Int)).isSome = decide (1 < c) := by decide +kernel
theorem frst_ok {c : Nat} (h1 : 1 < c) (h7 : c ≤ 7) : ∃ F, frstT ((c : Nat) : Int) = some F ∧ F.length = 2 * c ∧ IsTab F ∧ aroundT F = 0 ∧ F.getD 0 0 = 0 := by
  have hs := frst_some c (by omega) (by omega)
  rw [decide_eq_true h1, Option.isSome_iff_exists] at hs
  obtain ⟨F, hF⟩ := hs
  refine ⟨F, hF, ?_⟩
  rw [frstT, if_pos (by omega), Int.toNat_natCast] at hF
  exact apart_tab (by omega) h7 (List.mem_of_mem_head? (by rw [hF]; rfl))
theorem next_ok {L N : List Int} (h : nextT L = some N) : N.length = L.length ∧ IsTab N ∧ aroundT N = 0 ∧ N.getD 0 0 = 0 ∧ comesB L N = true := by
  unfold nextT at h
  by_cases hn : NxOk L
  · rw [if_pos hn] at h
    have ht := hn.1
    obtain ⟨c, hc⟩ : ∃ c, L.length = 2 * c := ⟨L.length / 2, by have := ht.2.2.1; omega⟩
    have hm := List.mem_of_find?_eq_some h
    rw [hc] at hm
    have ha := apart_tab (c := c) (by have := ht.1; omega) (by have := ht.2.1; omega) hm
    exact ⟨by rw [ha.1, hc], ha.2.1, ha.2.2.1, ha.2.2.2, by simpa using List.find?_some h⟩
  · rw [if_neg hn] at h; cases h
/-- The tables of two and of three couples with all apart, and how one leads to the next. -/
def allA (c : Nat) : List (List Int) := goOn (fitsT (2 * c)) (2 * c) (2 * c) []
theorem allA_walk : ∀ c < 4, 1 < c → (frstT ((c : Nat) : Int) = some ((allA c).getD 0 []) ∧ 1 ≤ (allA c).length ∧ (allA c).length < 200 ∧ (((allA c).length : Nat) : Int) = tN c 0) ∧ ∀ k < (allA c).length, nextT ((allA c).getD k []) = if k + 1 < (allA c).length then some ((allA c).getD (k + 1) []) else none := by decide +kernel
theorem nums_zero : nums 0 = [] := by decide
theorem cb_step {a b : List Int} {k : Nat} (h1 : k < a.length) (h2 : k < b.length) : comesB (a.drop k) (b.drop k) = if a.getD k 0 = b.getD k 0 then comesB (a.drop (k + 1)) (b.drop (k + 1)) else decide (a.getD k 0 < b.getD k 0) := by
  rw [List.drop_eq_getElem_cons h1, List.drop_eq_getElem_cons h2]
  simp [comesB, h1, h2]
theorem vBefore_spec (a b : List Int) (ha : a.length ≤ 1048576) (hb : b.length = a.length) : Sp Tryz.prog 26 [ints a, ints b] (.b (comesB a b)) := by
  have h0 : comesB (a.drop 0) (b.drop 0) = comesB a b := rfl
  generalize comesB a b = T at h0 ⊢
  refine spec_of Tryz.func26 rfl cc26 rfl ?_
  unfold ac26
  repeat (first | (refine step_ops ?_; (first | (refine m_mov (by conv => lhs; whnf) ?_) | (refine m_len_ro rfl ?_))) | refine end_ops ?_ | refine seq_ops ?_ | refine AW_seq ?_ | refine AW_block ?_)
  refine AW_loop (α := Nat) (fun k => k ≤ a.length ∧ comesB (a.drop k) (b.drop k) = T) (fun k => st [(0, ints a), (1, ints b), (7, ints a), (8, .i a.length), (9, .i (k : Nat))] []) (fun k => a.length - k) 0 ⟨Nat.zero_le _, h0⟩ (weak_st ?_ ?_ rfl rfl) ?_
  · (repeat' (first | exact trivial | refine And.intro ?_ ?_)) <;> (first | rfl | skip)
  · trivial
  rintro k ⟨hk, he⟩
  by_cases hc : k < a.length
  · rw [cb_step hc (by omega)] at he
    by_cases hx : a.getD k 0 = b.getD k 0
    · rw [if_pos hx] at he
      repeat (first | (refine step_ops ?_; (first | (refine m_mov (by conv => lhs; whnf) ?_) | (refine m_lss rfl rfl ?_) | (refine m_neq rfl rfl ?_) | (refine m_add rfl rfl ?_ ?_ ?_; (· omega); (· omega)) | (refine m_idx1_ro rfl rfl ?_ ?_; (· omega)) | (refine m_ld_rpi rfl ?_ ?_; (· omega)))) | refine end_ops ?_ | refine seq_ops ?_ | refine AW_ops ?_ | (refine cond_t rfl ?_ ?_; (· first | rfl | assumption | (refine decide_eq_true ?_; first | assumption | omega) | (refine nt ?_; first | assumption | omega) | (simp [*]; done))) | (refine cond_f rfl ?_ ?_; (· first | rfl | assumption | (refine decide_eq_false ?_; first | assumption | omega) | (refine nf ?_; first | assumption | omega) | (simp [*]; done))) | refine skip_then ?_ | refine AW_seq ?_ | refine norm_then ?_ | refine AW_block ?_ | refine norm_block ?_ | refine AW_skip ?_)
      refine next_round (k + 1) ⟨hc, he⟩ (weak_st ?_ ?_ rfl rfl) ?_
      · (repeat' (first | exact trivial | refine And.intro ?_ ?_)) <;> (first | rfl | skip)
      · trivial
      · omega
    · rw [if_neg hx] at he
      repeat (first | (refine step_ops ?_; (first | (refine m_mov (by conv => lhs; whnf) ?_) | (refine m_lss rfl rfl ?_) | (refine m_neq rfl rfl ?_) | (refine m_idx1_ro rfl rfl ?_ ?_; (· omega)) | (refine m_ld_rpi rfl ?_ ?_; (· omega)))) | refine end_ops ?_ | refine seq_ops ?_ | (refine cond_t rfl ?_ ?_; (· first | rfl | assumption | (refine decide_eq_true ?_; first | assumption | omega) | (refine nt ?_; first | assumption | omega) | (simp [*]; done))) | refine skip_then ?_ | refine AW_seq ?_ | refine AW_ret ?_ | refine ret_done ?_ | refine ret_then ?_ | refine AW_block ?_ | refine ret_block ?_ | refine ret_round ?_)
      exact outs_b he
  · rw [List.drop_of_length_le (by omega)] at he
    repeat (first | (refine step_ops ?_; (first | (refine m_mov (by conv => lhs; whnf) ?_) | (refine m_lss rfl rfl ?_))) | refine end_ops ?_ | refine seq_ops ?_ | (refine cond_f rfl ?_ ?_; (· first | rfl | assumption | (refine decide_eq_false ?_; first | assumption | omega) | (refine nf ?_; first | assumption | omega) | (simp [*]; done))) | refine AW_seq ?_ | refine AW_ret ?_ | refine ret_done ?_ | refine norm_then ?_ | refine exit_then ?_ | refine exit_round ?_ | refine AW_exit ?_ | refine exit_block ?_)
    exact outs_b he
theorem vSame_self (L : List Int) (hL : L.length ≤ 1048576) : Sp Tryz.prog 24 [ints L, ints L] (.b true) := by
  refine spec_of Tryz.func24 rfl cc24 rfl ?_
  unfold ac24
  repeat (first | (refine step_ops ?_; (first | (refine m_mov (by conv => lhs; whnf) ?_) | (refine m_neq rfl rfl ?_) | (refine m_len_ro rfl ?_))) | refine end_ops ?_ | refine seq_ops ?_ | (refine cond_f rfl ?_ ?_; (· first | rfl | assumption | (refine decide_eq_false ?_; first | assumption | omega) | (refine nf ?_; first | assumption | omega) | (simp [*]; done))) | refine skip_then ?_ | refine AW_seq ?_ | refine AW_block ?_)
  refine AW_loop (α := Nat) (fun k => k ≤ L.length) (fun k => st [(0, ints L), (1, ints L), (12, .i L.length), (13, .i k)] []) (fun k => L.length - k) 0 (by omega) (weak_st ?_ ?_ rfl rfl) ?_
  · (repeat' (first | exact trivial | refine And.intro ?_ ?_)) <;> (first | rfl | skip)
  · trivial
  intro k hk
  by_cases hc : k < L.length
  · repeat (first | ((first | refine step_ops ?_ | refine step_tree ?_); (first | (refine m_mov (by conv => lhs; whnf) ?_) | (refine m_lss rfl rfl ?_) | (refine m_neq rfl rfl ?_) | (refine m_add rfl rfl ?_ ?_ ?_; (· omega); (· omega)) | (refine m_idx1_ro rfl rfl ?_ ?_; (· omega)) | (refine m_ld_rpi rfl ?_ ?_; (· omega)))) | refine end_ops ?_ | refine seq_ops ?_ | refine AW_ops ?_ | refine end_tree ?_ | refine seq_tree ?_ | (refine cond_t rfl ?_ ?_; (· first | rfl | assumption | (refine decide_eq_true ?_; first | assumption | omega) | (refine nt ?_; first | assumption | omega) | (simp [*]; done))) | (refine cond_f rfl ?_ ?_; (· first | rfl | assumption | (refine decide_eq_false ?_; first | assumption | omega) | (refine nf ?_; first | assumption | omega) | (simp [*]; done))) | refine skip_then ?_ | refine AW_seq ?_ | refine norm_then ?_ | refine AW_block ?_ | refine norm_block ?_ | refine AW_skip ?_)
    refine next_round (k + 1) (by omega) (weak_st ?_ ?_ rfl rfl) ?_
    · (repeat' (first | exact trivial | refine And.intro ?_ ?_)) <;> (first | rfl | skip)
    · trivial
    · omega
  · repeat (first | (refine step_ops ?_; (first | (refine m_mov (by conv => lhs; whnf) ?_) | (refine m_lss rfl rfl ?_))) | refine end_ops ?_ | refine seq_ops ?_ | (refine cond_f rfl ?_ ?_; (· first | rfl | assumption | (refine decide_eq_false ?_; first | assumption | omega) | (refine nf ?_; first | assumption | omega) | (simp [*]; done))) | refine AW_seq ?_ | refine AW_ret ?_ | refine ret_done ?_ | refine norm_then ?_ | refine exit_then ?_ | refine exit_round ?_ | refine AW_exit ?_ | refine exit_block ?_)
    exact outs_b rfl
/-- CountRound and CountInTurn. -/
theorem specCountRound_spec (a : Int) : Sp Tryz.prog 14 [.i a] (.tup [.i (roundR a), .b (decide (1 ≤ a ∧ a ≤ 7))]) := by
  refine spec_of Tryz.func14 rfl cc14 rfl ?_
  unfold ac14
  by_cases h : 1 ≤ a ∧ a ≤ 7
  · have e : roundR a = _ := if_pos h
    rw [e]
    obtain ⟨n, rfl⟩ := Int.eq_ofNat_of_zero_le (show 0 ≤ a by omega)
    have hs := exTimes14_spec (2 * n - 1) (by omega)
    rw [show (((2 * n - 1 : Nat) : Nat) : Int) = 2 * (n : Int) - 1 by omega] at hs
    rw [Int.toNat_natCast]
    repeat (first | (refine step_ops ?_; (refine m_mov (by conv => lhs; whnf) ?_)) | refine end_ops ?_ | refine seq_ops ?_ | refine AW_seq ?_)
    (refine step_ops ?_); (apply m_call (taCouples_spec _)); (· repeat (first | exact lends_nil | (refine lends_cons ?_ ?_; (· exact lend_v))))
    repeat (first | (refine step_ops ?_; (first | (refine m_mov (by conv => lhs; whnf) ?_) | (refine m_sub rfl rfl ?_ ?_ ?_; (· omega); (· omega)) | (refine m_mul rfl rfl ?_ ?_ ?_; (· first | omega | (simp; done)); (· first | omega | (simp; done))) | (refine m_not rfl ?_))) | refine end_ops ?_ | refine seq_ops ?_ | (refine cond_f rfl ?_ ?_; (· first | rfl | assumption | (refine decide_eq_false ?_; first | assumption | omega) | (refine nf ?_; first | assumption | omega) | (simp [*]; done))) | refine skip_then ?_)
    (refine step_ops ?_); (apply m_call (hs)); (· repeat (first | exact lends_nil | (refine lends_cons ?_ ?_; (· exact lend_v))))
    repeat (first | (refine step_ops ?_; (refine m_mov (by conv => lhs; whnf) ?_)) | refine end_ops ?_ | refine AW_ret ?_ | refine ret_done ?_)
    exact outs_tup2 (outs_i rfl) (outs_b (decide_eq_true h).symm)
  · have e : roundR a = 0 := if_neg h
    rw [e]
    repeat (first | (refine step_ops ?_; (refine m_mov (by conv => lhs; whnf) ?_)) | refine end_ops ?_ | refine seq_ops ?_ | refine AW_seq ?_)
    (refine step_ops ?_); (apply m_call (taCouples_spec _)); (· repeat (first | exact lends_nil | (refine lends_cons ?_ ?_; (· exact lend_v))))
    repeat (first | (refine step_ops ?_; (first | (refine m_mov (by conv => lhs; whnf) ?_) | (refine m_not rfl ?_))) | refine end_ops ?_ | refine seq_ops ?_ | (refine cond_t rfl ?_ ?_; (· first | rfl | assumption | (refine decide_eq_true ?_; first | assumption | omega) | (refine nt ?_; first | assumption | omega) | (simp [*]; done))) | refine AW_ret ?_ | refine ret_done ?_ | refine ret_then ?_)
    exact outs_tup2 (outs_i rfl) (outs_b (decide_eq_false h).symm)
theorem implCountRound_spec (a : Int) : Sp Tryz.prog 13 [.i a] (.tup [.i (roundR a), .b (decide (1 ≤ a ∧ a ≤ 7))]) := by
  refine spec_of Tryz.func13 rfl cc13 rfl ?_
  unfold ac13
  by_cases h : 1 ≤ a ∧ a ≤ 7
  · have e : roundR a = _ := if_pos h
    rw [e]
    obtain ⟨n, rfl⟩ := Int.eq_ofNat_of_zero_le (show 0 ≤ a by omega)
    rw [Int.toNat_natCast]
    repeat (first | (refine step_ops ?_; (refine m_mov (by conv => lhs; whnf) ?_)) | refine end_ops ?_ | refine seq_ops ?_ | refine AW_seq ?_)
    (refine step_ops ?_); (apply m_call (isCoupleCount_spec _)); (· repeat (first | exact lends_nil | (refine lends_cons ?_ ?_; (· exact lend_v))))
    repeat (first | (refine step_ops ?_; (first | (refine m_mov (by conv => lhs; whnf) ?_) | (refine m_not rfl ?_))) | refine end_ops ?_ | refine seq_ops ?_ | (refine cond_f rfl ?_ ?_; (· first | rfl | assumption | (refine decide_eq_false ?_; first | assumption | omega) | (refine nf ?_; first | assumption | omega) | (simp [*]; done))) | refine skip_then ?_)
    (refine step_ops ?_); (apply m_call (countRound_spec n (by omega) (by omega))); (· repeat (first | exact lends_nil | (refine lends_cons ?_ ?_; (· exact lend_v))))
    repeat (first | (refine step_ops ?_; (refine m_mov (by conv => lhs; whnf) ?_)) | refine end_ops ?_ | refine AW_ret ?_ | refine ret_done ?_)
    exact outs_tup2 (outs_i rfl) (outs_b (decide_eq_true h).symm)
  · have e : roundR a = 0 := if_neg h
    rw [e]
    repeat (first | (refine step_ops ?_; (refine m_mov (by conv => lhs; whnf) ?_)) | refine end_ops ?_ | refine seq_ops ?_ | refine AW_seq ?_)
    (refine step_ops ?_); (apply m_call (isCoupleCount_spec _)); (· repeat (first | exact lends_nil | (refine lends_cons ?_ ?_; (· exact lend_v))))
    repeat (first | (refine step_ops ?_; (first | (refine m_mov (by conv => lhs; whnf) ?_) | (refine m_not rfl ?_))) | refine end_ops ?_ | refine seq_ops ?_ | (refine cond_t rfl ?_ ?_; (· first | rfl | assumption | (refine decide_eq_true ?_; first | assumption | omega) | (refine nt ?_; first | assumption | omega) | (simp [*]; done))) | refine AW_ret ?_ | refine ret_done ?_ | refine ret_then ?_)
    exact outs_tup2 (outs_i rfl) (outs_b (decide_eq_false h).symm)
theorem specCountInTurn_spec (a : Int) : Sp Tryz.prog 16 [.i a] (.tup [.i (inTurnR a), .b (decide (1 ≤ a ∧ a ≤ 7))]) := by
  refine spec_of Tryz.func16 rfl cc16 rfl ?_
  unfold ac16
  by_cases h : 1 ≤ a ∧ a ≤ 7
  · have e : inTurnR a = _ := if_pos h
    rw [e]
    obtain ⟨n, rfl⟩ := Int.eq_ofNat_of_zero_le (show 0 ≤ a by omega)
    have h1 := exTimes14_spec n (by omega)
    have h2 := exTimes14_spec (n - 1) (by omega)
    rw [show (((n - 1 : Nat) : Nat) : Int) = (n : Int) - 1 by omega] at h2
    rw [Int.toNat_natCast]
    have b1 := fac7_le n (by omega)
    have b2 := fac7_le (n - 1) (by omega)
    have b3 : 0 ≤ fac n * fac (n - 1) := Int.mul_nonneg (by omega) (by omega)
    have b4 : fac n * fac (n - 1) ≤ 5040 * 5040 := Int.mul_le_mul b1.1 b2.1 (by omega) (by omega)
    repeat (first | (refine step_ops ?_; (refine m_mov (by conv => lhs; whnf) ?_)) | refine end_ops ?_ | refine seq_ops ?_ | refine AW_seq ?_)
    (refine step_ops ?_); (apply m_call (taCouples_spec _)); (· repeat (first | exact lends_nil | (refine lends_cons ?_ ?_; (· exact lend_v))))
    repeat (first | (refine step_ops ?_; (first | (refine m_mov (by conv => lhs; whnf) ?_) | (refine m_not rfl ?_))) | refine end_ops ?_ | refine seq_ops ?_ | (refine cond_f rfl ?_ ?_; (· first | rfl | assumption | (refine decide_eq_false ?_; first | assumption | omega) | (refine nf ?_; first | assumption | omega) | (simp [*]; done))) | refine skip_then ?_)
    (refine step_ops ?_); (apply m_call (h1)); (· repeat (first | exact lends_nil | (refine lends_cons ?_ ?_; (· exact lend_v))))
    repeat (refine step_ops ?_; (first | (refine m_mov (by conv => lhs; whnf) ?_) | (refine m_sub rfl rfl ?_ ?_ ?_; (· omega); (· omega))))
    (refine step_ops ?_); (apply m_call (h2)); (· repeat (first | exact lends_nil | (refine lends_cons ?_ ?_; (· exact lend_v))))
    repeat (first | (refine step_ops ?_; (first | (refine m_mov (by conv => lhs; whnf) ?_) | (refine m_mul rfl rfl ?_ ?_ ?_; (· first | omega | (simp; done)); (· first | omega | (simp; done))))) | refine end_ops ?_ | refine AW_ret ?_ | refine ret_done ?_)
    exact outs_tup2 (outs_i rfl) (outs_b (decide_eq_true h).symm)
  · have e : inTurnR a = 0 := if_neg h
    rw [e]
    repeat (first | (refine step_ops ?_; (refine m_mov (by conv => lhs; whnf) ?_)) | refine end_ops ?_ | refine seq_ops ?_ | refine AW_seq ?_)
    (refine step_ops ?_); (apply m_call (taCouples_spec _)); (· repeat (first | exact lends_nil | (refine lends_cons ?_ ?_; (· exact lend_v))))
    repeat (first | (refine step_ops ?_; (first | (refine m_mov (by conv => lhs; whnf) ?_) | (refine m_not rfl ?_))) | refine end_ops ?_ | refine seq_ops ?_ | (refine cond_t rfl ?_ ?_; (· first | rfl | assumption | (refine decide_eq_true ?_; first | assumption | omega) | (refine nt ?_; first | assumption | omega) | (simp [*]; done))) | refine AW_ret ?_ | refine ret_done ?_ | refine ret_then ?_)
    exact outs_tup2 (outs_i rfl) (outs_b (decide_eq_false h).symm)
theorem implCountInTurn_spec (a : Int) : Sp Tryz.prog 15 [.i a] (.tup [.i (inTurnR a), .b (decide (1 ≤ a ∧ a ≤ 7))]) := by
  refine spec_of Tryz.func15 rfl cc15 rfl ?_
  unfold ac15
  by_cases h : 1 ≤ a ∧ a ≤ 7
  · have e : inTurnR a = _ := if_pos h
    rw [e]
    obtain ⟨n, rfl⟩ := Int.eq_ofNat_of_zero_le (show 0 ≤ a by omega)
    have h1 := factorial14_spec n (by omega)
    have h2 := factorial14_spec (n - 1) (by omega)
    rw [show (((n - 1 : Nat) : Nat) : Int) = (n : Int) - 1 by omega] at h2
    rw [Int.toNat_natCast]
    have b1 := fac7_le n (by omega)
    have b2 := fac7_le (n - 1) (by omega)
    have b3 : 0 ≤ fac (n - 1) * fac n := Int.mul_nonneg (by omega) (by omega)
    have b4 : fac (n - 1) * fac n ≤ 5040 * 5040 := Int.mul_le_mul b2.1 b1.1 (by omega) (by omega)
    repeat (first | (refine step_ops ?_; (refine m_mov (by conv => lhs; whnf) ?_)) | refine end_ops ?_ | refine seq_ops ?_ | refine AW_seq ?_)
    (refine step_ops ?_); (apply m_call (isCoupleCount_spec _)); (· repeat (first | exact lends_nil | (refine lends_cons ?_ ?_; (· exact lend_v))))
    repeat (first | (refine step_ops ?_; (first | (refine m_mov (by conv => lhs; whnf) ?_) | (refine m_sub rfl rfl ?_ ?_ ?_; (· omega); (· omega)) | (refine m_not rfl ?_))) | refine end_ops ?_ | refine seq_ops ?_ | (refine cond_f rfl ?_ ?_; (· first | rfl | assumption | (refine decide_eq_false ?_; first | assumption | omega) | (refine nf ?_; first | assumption | omega) | (simp [*]; done))) | refine skip_then ?_)
    (refine step_ops ?_); (apply m_call (h2)); (· repeat (first | exact lends_nil | (refine lends_cons ?_ ?_; (· exact lend_v))))
    repeat (refine step_ops ?_; (refine m_mov (by conv => lhs; whnf) ?_))
    (refine step_ops ?_); (apply m_call (h1)); (· repeat (first | exact lends_nil | (refine lends_cons ?_ ?_; (· exact lend_v))))
    repeat (first | (refine step_ops ?_; (first | (refine m_mov (by conv => lhs; whnf) ?_) | (refine m_mul rfl rfl ?_ ?_ ?_; (· first | omega | (simp; done)); (· first | omega | (simp; done))))) | refine end_ops ?_ | refine AW_ret ?_ | refine ret_done ?_)
    exact outs_tup2 (outs_i (Int.mul_comm _ _)) (outs_b (decide_eq_true h).symm)
  · have e : inTurnR a = 0 := if_neg h
    rw [e]
    repeat (first | (refine step_ops ?_; (refine m_mov (by conv => lhs; whnf) ?_)) | refine end_ops ?_ | refine seq_ops ?_ | refine AW_seq ?_)
    (refine step_ops ?_); (apply m_call (isCoupleCount_spec _)); (· repeat (first | exact lends_nil | (refine lends_cons ?_ ?_; (· exact lend_v))))
    repeat (first | (refine step_ops ?_; (first | (refine m_mov (by conv => lhs; whnf) ?_) | (refine m_not rfl ?_))) | refine end_ops ?_ | refine seq_ops ?_ | (refine cond_t rfl ?_ ?_; (· first | rfl | assumption | (refine decide_eq_true ?_; first | assumption | omega) | (refine nt ?_; first | assumption | omega) | (simp [*]; done))) | refine AW_ret ?_ | refine ret_done ?_ | refine ret_then ?_)
    exact outs_tup2 (outs_i rfl) (outs_b (decide_eq_false h).symm)
end Go.Proofs.YtmmcldbldbpikaaGreatDoor
namespace Go.Am
variable [Go.Am.CodeBlk]
/-- A list of my own that is only read from now on. -/
theorem weak_frz {s : AS} (t r : Nat) {n : Nat} {cs : List AV} (ht : s.tm t = .sl r 1 0 n) (hr : s.hp r = some (true, cs)) (hl : cs.length = n) (hpl : cs.all plainV = true) : Weak s ((s.kill r).put (some t) (.ro false 1 cs n)) := by
  intro w0 mu N a w hS
  obtain ⟨hf, phi, ro, hS⟩ := hS
  have hv := hS.tms t
  rw [ht] at hv
  simp only [SimV] at hv
  obtain ⟨_, _, hv⟩ := hv
  have hk := hS.kill r
  have put1 : ∀ (ro' : Nat → Prop), Sim w0 mu N (s.kill r) a.tmps w phi ro' → SimV (.ro false 1 cs n) (ctx w0 w ro' phi (s.kill r)) (a.tmps.getD t undef) → Sim w0 mu N ((s.kill r).put (some t) (.ro false 1 cs n)) a.tmps w phi ro' := by
    intro ro' h1 h2
    refine { h1 with tms := fun t' => ?_ }
    by_cases e : t' = t
    · subst e
      show SimV (if t' = t' then .ro false 1 cs n else _) _ _
      rw [if_pos rfl]
      exact h2
    · show SimV (if t' = t then _ else (s.kill r).tm t') _ _
      rw [if_neg e]
      exact h1.tms t'
  rcases hS.liv r _ hr with ⟨h1, h2, _⟩ | ⟨b, cur, e, h1, h2, h3, h4, h5⟩ | ⟨b, o, h1, _⟩
  · have h2' : cs = [] := h2
    subst h2'
    have hn : n = 0 := by simpa using hl.symm
    subst hn
    rcases hv with ⟨_, _, _, hv⟩ | ⟨b, _, _, _, _, hp, _⟩
    · refine ⟨hf, phi, ro, put1 ro hk ?_⟩
      simp only [SimV]
      exact .inl ⟨trivial, trivial, none, 0, hv, by simp⟩
    · replace hp : phi r = some b := hp
      rw [h1] at hp; cases hp
  · rcases hv with ⟨hp, _⟩ | ⟨b', o, cap, cur', e', hp, hv, h6, h7, h8, h9, h10⟩
    · replace hp : phi r = none := hp
      rw [h1] at hp; cases hp
    · replace hp : phi r = some b' := hp
      rw [h1] at hp
      cases hp
      have h6' : w.heap[b]? = some (.cells cur' e' (0, 0)) := h6
      rw [h2] at h6'
      cases h6'
      have h11 := ro_more hk (lt_of_get h2) (fun q c hq hb => by
        have hqr : q ≠ r := fun he => by subst he; simp [AS.kill] at hq
        have hqs : (s.hp q).isSome = true := by
          have : ((s.kill r).hp q).isSome = true := by rw [hq]; rfl
          simpa [AS.kill, hqr] using this
        exact hqr (hS.inj q r b hqs (by rw [hr]; rfl) hb h1))
      refine ⟨hf, phi, _, put1 _ h11 ?_⟩
      simp only [SimV]
      by_cases hn : n = 0
      · subst hn
        have hcs : cs = [] := List.eq_nil_of_length_eq_zero hl
        subst hcs
        exact .inl ⟨rfl, rfl, _, cap, hv, by simp⟩
      · have ho : o = 0 := by
          rcases h7 with h7 | h7
          · exact h7
          · omega
        subst ho
        refine .inr ⟨b, 0, cap, cur, e, (0, 0), hv, h2, .inr rfl, by omega, h8, by simp, ?_⟩
        simp only [SimR, if_true] at h5
        have h12 : SimL cs (ctx w0 w (fun q => ro q ∨ q = b) phi (s.kill r)).out cur.toList := by
          refine simL_allv (C := (ctx w0 w ro phi s).out) hpl ?_
          exact h5
        simpa using h12
  · cases h1
    simp [plainV] at hpl
end Go.Am
namespace Go.Am
variable [Go.Am.CodeBlk]
section
variable {P : Program} {own : Bool} {s : AS} {K : AS → Prop} {d : Option Nat} {x y : Opd}
theorem m_binv {op : BinOp} {a b r : Value} (hx : s.ev x = .v a) (hy : s.ev y = .v b) (h : pbin op a b = some r) (kk : K (s.put d (.v r))) : aop1 P own ⟨d, .bin op x y, none⟩ s K := ⟨_, _, _, hx, hy, h, kk⟩
theorem m_and255 {z : Int} (hx : s.ev x = .v (.int .u64 z)) (hy : s.ev y = .v (.int .u64 255)) (kk : ∀ m : Nat, m < 256 → K (s.put d (.v (.int .u64 (m : Nat))))) : aop1 P own ⟨d, .bin .and x y, none⟩ s K := by
  have hm : (BitVec.ofInt IntKind.u64.bits z &&& BitVec.ofInt IntKind.u64.bits 255).toNat ≤ 255 := by
    rw [BitVec.toNat_and]
    exact Nat.le_trans Nat.and_le_right (by decide)
  refine ⟨_, _, _, hx, hy, ?_, kk (BitVec.ofInt IntKind.u64.bits z &&& BitVec.ofInt IntKind.u64.bits 255).toNat (by omega)⟩
  show some (Value.int .u64 (IntKind.u64.wrap _)) = _
  rw [IntKind.wrap_u64]
  congr 2
  generalize (BitVec.ofInt IntKind.u64.bits z &&& BitVec.ofInt IntKind.u64.bits 255).toNat = m at *
  omega
theorem m_cvtu {m : Nat} (hx : s.ev x = .v (.int .u64 (m : Nat))) (hm : m < 256) (kk : K (s.put d (.i (m : Nat)))) : aop1 P own ⟨d, .pu (.cvt .i64) [x], none⟩ s K := by
  refine ⟨_, ⟨_, _, congrArg (fun a => [a]) hx, rfl⟩, ?_⟩
  have : IntKind.i64.wrap (m : Int) = m := by rw [IntKind.wrap_i64]; omega
  rw [this]
  exact kk
theorem m_cvtb {m : UInt8} (hx : s.ev x = .v (.int .u8 m.toNat)) (kk : ∀ k : Nat, k < 256 → K (s.put d (.i (k : Nat)))) : aop1 P own ⟨d, .pu (.cvt .i64) [x], none⟩ s K := by
  refine ⟨_, ⟨_, _, congrArg (fun a => [a]) hx, rfl⟩, ?_⟩
  have hm : m.toNat < 256 := m.toNat_lt
  have : IntKind.i64.wrap (m.toNat : Int) = m.toNat := by rw [IntKind.wrap_i64]; omega
  rw [this]
  exact kk m.toNat hm
end
/-- A cursor: the bytes, where it stands, and its seed. -/
abbrev curC (v : Value) (a : Nat) (z : Int) : List AV := [.v v, .i (a : Nat), .v (.int .u64 z)]
abbrev curH (v : Value) (a : Nat) (z : Int) : List (Nat × (Bool × List AV)) := [(pbase, (true, curC v a z))]
theorem curH_pb (v : Value) (a : Nat) (z : Int) : ∀ r, ((look (curH v a z)) r).isSome = true → pbase ≤ r := by
  intro r hr
  have := look_isSome.1 hr
  simp at this
  omega
theorem cur_static {v v' : Value} {a a' : Nat} {z z' : Int} {x : Value} : Static (look (curH v a z)) (.v x) (look (curH v' a' z')) :=
  static_R (by simp) (fun p hp => by rw [List.mem_singleton] at hp; subst hp; exact ⟨rfl, rfl⟩) ⟨rfl, rfl⟩
theorem curH_at {v : Value} {a : Nat} {z : Int} {r : Nat} {c : Bool × List AV} (h : look (curH v a z) r = some c) : r = pbase ∧ c = (true, curC v a z) := by
  have := look_mem h
  rw [List.mem_singleton] at this
  exact ⟨congrArg Prod.fst this, congrArg Prod.snd this⟩
theorem curH_is {v : Value} {a : Nat} {z : Int} {r : Nat} (h : (look (curH v a z) r).isSome = true) : r = pbase := by
  obtain ⟨c, hc⟩ := Option.isSome_iff_exists.1 h
  exact (curH_at hc).1
theorem lend_cur {s : AS} {r : Nat} {v : Value} {a : Nat} {z : Int} (hr : s.hp r = some (true, curC v a z)) : LendH1 s.hp (fun _ => r) (look (curH v a z)) (.pt r 0) (.pt pbase 0) :=
  lendH_ren (x := .pt pbase 0) (fun q c hq => by show (s.hp r).isSome = true; rw [hr]; rfl) rfl rfl
theorem lend_curl {s : AS} {r q : Nat} {v : Value} {a : Nat} {z : Int} {M : List Int} (hr : s.hp r = some (true, curC v a z)) (hq : s.hp q = some (true, M.map AV.i)) (hne : r ≠ q) : LendH1 s.hp (fun _ => r) (look (curH v a z)) (.sl q 1 0 M.length) (ints M) :=
  lendH_sl (fun p c hp => by show (s.hp r).isSome = true; rw [hr]; rfl) hq fun p _ => hne
/-- A call that moves a cursor and tells a plain value. -/
theorem m_cur {P : Program} {s : AS} {K : AS → Prop} {d : Option Nat} {f : FuncId} {args : List Opd} {asx : List AV} {r : Nat} {v : Value} {a : Nat} {z : Int} {ι : Type} {ok : ι → Prop} {res : ι → Value} {a' : ι → Nat} {z' : ι → Int}
    (hs : SpX P f asx (look (curH v a z)) ok (fun i => .v (res i)) (fun i => look (curH v (a' i) (z' i)))) (hr : s.hp r = some (true, curC v a z)) (hl : LendsH s.hp (fun _ => r) (look (curH v a z)) (args.map s.ev) asx) (hne : ∃ i, ok i)
    (k : ∀ i, ok i → K ((s.mem r (true, curC v (a' i) (z' i))).put d (.v (res i)))) : aop1 P true ⟨d, .call f args, none⟩ s K := by
  refine m_callx (hp' := fun i => fun q => if q = r then some (true, curC v (a' i) (z' i)) else s.hp q) (fun _ => r) hs hl hne fun i hi => ⟨⟨fun q c hc => ?_, fun q q' h1 h2 _ => ?_, fun q hq => ?_, fun q hq hn => ?_, fun q c hc => ?_, fun q hq => ?_, fun q c hc => ?_, fun q c hc => ?_, rfl⟩, k i hi⟩
  · obtain ⟨rfl, rfl⟩ := curH_at hc
    exact hr
  · rw [curH_is h1, curH_is h2]
  · rw [curH_is hq]; rfl
  · rw [curH_is hq] at hn; cases hn
  · obtain ⟨rfl, rfl⟩ := curH_at hc
    show (if r = r then _ else _) = _
    rw [if_pos rfl]; rfl
  · have := hq pbase rfl
    show (if q = r then _ else _) = _
    rw [if_neg fun e => this e.symm]
  · obtain ⟨rfl, rfl⟩ := curH_at hc
    exact ⟨rfl, rfl⟩
  · obtain ⟨rfl, rfl⟩ := curH_at hc
    rfl
/-- A cursor and a new list. -/
abbrev curN (v : Value) (a : Nat) (z : Int) (L : List Int) : List (Nat × (Bool × List AV)) := [(pbase, (true, curC v a z)), (nbase, (true, L.map AV.i))]
theorem curN_at {v : Value} {a : Nat} {z : Int} {L : List Int} {r : Nat} {c : Bool × List AV} (h : look (curN v a z L) r = some c) : (r = pbase ∧ c = (true, curC v a z)) ∨ (r = nbase ∧ c = (true, L.map AV.i)) := by
  have := look_mem h
  simp only [List.mem_cons, List.not_mem_nil, or_false, Prod.mk.injEq] at this
  exact this
theorem ints_ownC (q : Bool) (L : List Int) : ownL q (L.map AV.i) = true := by
  induction L with
  | nil => rfl
  | cons a l ih => show (ownV q (AV.i a) && ownL q (l.map AV.i)) = true; rw [ih]; rfl
theorem ints_refsC (keep : Nat → Bool) (L : List Int) : refsL keep (L.map AV.i) = true := by
  induction L with
  | nil => rfl
  | cons a l ih => show (refsV keep (AV.i a) && refsL keep (l.map AV.i)) = true; rw [ih]; rfl
theorem curN_static {v v' : Value} {a a' : Nat} {z z' : Int} {L : List Int} {n : Nat} : Static (look (curH v a z)) (.sl nbase 1 0 n) (look (curN v' a' z' L)) :=
  static_R (by simp) (fun p hp => by
    rcases List.mem_cons.1 hp with rfl | hp
    · exact ⟨rfl, rfl⟩
    · rw [List.mem_singleton] at hp; subst hp; exact ⟨ints_ownC _ _, ints_refsC _ _⟩) ⟨rfl, rfl⟩
/-- A call that moves a cursor and hands out a new list. -/
theorem m_curL {P : Program} {s : AS} {K : AS → Prop} {d : Option Nat} {f : FuncId} {args : List Opd} {asx : List AV} {r q : Nat} {v : Value} {a : Nat} {z : Int} {ι : Type} {ok : ι → Prop} {L : ι → List Int} {a' : ι → Nat} {z' : ι → Int}
    (hs : SpX P f asx (look (curH v a z)) ok (fun i => .sl nbase 1 0 (L i).length) (fun i => look (curN v (a' i) (z' i) (L i)))) (hr : s.hp r = some (true, curC v a z)) (hq : s.hp q = none) (hqp : q < pbase) (hl : LendsH s.hp (fun p => if p = nbase then q else r) (look (curH v a z)) (args.map s.ev) asx) (hne : ∃ i, ok i)
    (k : ∀ i, ok i → K (((s.mem r (true, curC v (a' i) (z' i))).mem q (true, (L i).map AV.i)).put d (.sl q 1 0 (L i).length))) : aop1 P true ⟨d, .call f args, none⟩ s K := by
  have hrq : q ≠ r := fun e => by rw [e, hr] at hq; cases hq
  have hpn : pbase ≠ nbase := by decide
  refine m_callx (hp' := fun i => fun p => if p = q then some (true, (L i).map AV.i) else if p = r then some (true, curC v (a' i) (z' i)) else s.hp p) (fun p => if p = nbase then q else r) hs hl hne fun i hi => ⟨⟨fun p c hc => ?_, fun p p' h1 h2 e => ?_, fun p hp => ?_, fun p hp hn => ?_, fun p c hc => ?_, fun p hp => ?_, fun p c hc => ?_, fun p c hc => ?_, rfl⟩, k i hi⟩
  · obtain ⟨rfl, rfl⟩ := curH_at hc
    rw [if_neg (by decide)]
    exact hr
  · obtain ⟨c1, hc1⟩ := Option.isSome_iff_exists.1 h1
    obtain ⟨c2, hc2⟩ := Option.isSome_iff_exists.1 h2
    rcases curN_at hc1 with ⟨rfl, _⟩ | ⟨rfl, _⟩ <;> rcases curN_at hc2 with ⟨rfl, _⟩ | ⟨rfl, _⟩
    · rfl
    · simp [hpn] at e; exact absurd e.symm hrq
    · simp [hpn] at e; exact absurd e hrq
    · rfl
  · rw [curH_is hp]; rfl
  · obtain ⟨c1, hc1⟩ := Option.isSome_iff_exists.1 hp
    rcases curN_at hc1 with ⟨rfl, _⟩ | ⟨rfl, _⟩
    · cases hn
    · rw [if_pos rfl]; exact ⟨hq, hqp⟩
  · rcases curN_at hc with ⟨rfl, rfl⟩ | ⟨rfl, rfl⟩
    · show (if (if pbase = nbase then q else r) = q then _ else _) = _
      rw [if_neg hpn, if_neg (Ne.symm hrq), if_pos rfl]
      rfl
    · show (if (if nbase = nbase then q else r) = q then _ else _) = _
      rw [if_pos rfl, if_pos rfl]
      exact congrArg (fun c => some (true, c)) (renL_ints _ _).symm
  · have h1 := hp pbase rfl
    have h2 := hp nbase rfl
    rw [if_neg (by decide)] at h1
    rw [if_pos rfl] at h2
    show (if p = q then _ else if p = r then _ else _) = _
    rw [if_neg fun e => h2 e.symm, if_neg fun e => h1 e.symm]
  · obtain ⟨rfl, rfl⟩ := curH_at hc
    exact ⟨rfl, rfl⟩
  · rcases curN_at hc with ⟨rfl, rfl⟩ | ⟨rfl, rfl⟩
    · rfl
    · exact ints_ownC _ _
theorem lend_curN {s : AS} {r q : Nat} {v : Value} {a : Nat} {z : Int} (hr : s.hp r = some (true, curC v a z)) : LendH1 s.hp (fun p => if p = nbase then q else r) (look (curH v a z)) (.pt r 0) (.pt pbase 0) :=
  lendH_ren (x := .pt pbase 0) (fun p c hp => by
    have h : p = pbase := curH_is (by rw [hp]; rfl)
    subst h
    show (s.hp (if pbase = nbase then q else r)).isSome = true
    rw [if_neg (by decide), hr]; rfl) rfl rfl
theorem bys_cell {v : Value} {L : List UInt8} (hv : Bys v L) : v.oneCell' = true := by
  rcases hv with ⟨_, a, c, rfl⟩ | ⟨b, o, cap, cur, rfl, _⟩ <;> rfl
theorem m_bldC {P : Program} {own : Bool} {s : AS} {K : AS → Prop} {d : Option Nat} {x : Opd} {v : Value} (hv : v.oneCell' = true) (hx : s.ev x = .v v) (k : K (s.put d (.agg (curC v 0 0)))) :
    aop1 P own ⟨d, .pu (.bld [.slice none 0 0, .int .i64 0, .int .u64 0] [(0, 1)]) [x], none⟩ s K :=
  ⟨_, ⟨curC v 0 0, .inl ⟨rfl, (by decide : 0 < 3), (by rw [hx]; exact hv), (by rw [hx]; rfl)⟩, rfl⟩, k⟩
theorem m_boxC {P : Program} {own : Bool} {s : AS} {K : AS → Prop} {r : Nat} {x : Opd} {v : Value} (hv : v.oneCell' = true) (hx : s.ev x = .agg (curC v 0 0)) (k : K (((s.kill r).mem r (true, curC v 0 0)).put (some r) (.pt r 0))) :
    aop1 P own ⟨some r, .box 3 x, none⟩ s K :=
  ⟨r, true, rfl, .inr ⟨curC v 0 0, hx, (by show (v.oneCell' && _) = true; rw [hv]; rfl), k⟩⟩
end Go.Am
namespace Go.Proofs.YtmmcldbldbpikaaGreatDoor
variable [Go.Am.CodeBlk]
open Go.Am
attribute [local irreducible] AW Outs Weak Lends Lend Sp aops atree aop1 Then Round InBlock Done
attribute [local irreducible] SpH SpX DoneH
/-- The second part of a code. -/
def sndA : ACode → ACode
  | .seq _ y => y
  | c => c
def fstA : ACode → ACode
  | .seq x _ => x
  | c => c
/-- The next byte, or what stands in its place. -/
theorem curNext_spec {v : Value} {L : List UInt8} (hv : Bys v L) (hL : L.length ≤ 1048576) (a : Nat) (ha : a ≤ 1000000) (z : Int) :
    SpX Tryz.prog 77 [.pt pbase 0] (Am.look (curH v a z)) (ι := Nat × Int) (fun i => i.1 < 256) (fun i => .i (i.1 : Nat)) (fun i => Am.look (curH v (a + 1) i.2)) := by
  have hpb := curH_pb v a z
  have hsta : ∀ i : Nat × Int, i.1 < 256 → Static (Am.look (curH v a z)) (.i (i.1 : Nat)) (Am.look (curH v (a + 1) i.2)) := fun i _ => cur_static
  refine specX_of Tryz.func77 rfl cc77 rfl hpb hsta ?_
  unfold ac77
  clear hpb hsta
  have key : ∀ (k : Nat), k < 256 → AW Tryz.prog (min Tryz.f77.ntmps pbase) (sndA (sndA (sndA ac77))) (st [(0, .pt pbase 0), (3, .i (k : Nat))] (curH v a z)) (DoneX [2] (fun i : Nat × Int => i.1 < 256) (fun i => .i (i.1 : Nat)) (Am.look (curH v a z)) (fun i => Am.look (curH v (a + 1) i.2))) := by
    intro k hk
    unfold ac77
    simp only [sndA]
    repeat (first | (refine step_ops ?_; (first | (refine m_mov (by conv => lhs; whnf) ?_) | (refine m_add rfl rfl ?_ ?_ ?_; (· omega); (· omega)) | (apply m_ld_pt; (· rfl); (· rfl); (· rfl)) | (apply m_st; (· rfl); (· rfl); (· rfl); (· first | omega | (simp; done) | (simp; omega)); (· rfl)) | (refine m_nchk rfl ?_) | (refine m_fa rfl ?_))) | refine end_ops ?_ | refine seq_ops ?_)
    refine step_ops ?_
    refine m_binv rfl rfl rfl ?_
    repeat (refine step_ops ?_; (first | (refine m_mov (by conv => lhs; whnf) ?_) | (refine m_cvt rfl ?_)))
    refine step_ops ?_
    refine m_binv rfl rfl rfl ?_
    refine step_ops ?_
    refine m_binv rfl rfl rfl ?_
    repeat (first | ((first | refine step_ops ?_ | refine step_tree ?_); (first | (refine m_mov (by conv => lhs; whnf) ?_) | (apply m_ld_pt; (· rfl); (· rfl); (· rfl)) | (apply m_st; (· rfl); (· rfl); (· rfl); (· first | omega | (simp; done) | (simp; omega)); (· rfl)) | (refine m_nchk rfl ?_) | (refine m_fa rfl ?_))) | refine end_ops ?_ | refine seq_tree ?_ | refine AW_seq ?_)
    refine step_tree ?_
    refine m_len_bys rfl hv ?_
    by_cases hle : ((a : Nat) : Int) + 1 ≤ L.length
    · repeat (first | ((first | refine step_ops ?_ | refine step_tree ?_); (first | (refine m_mov (by conv => lhs; whnf) ?_) | (refine m_leq rfl rfl ?_))) | refine end_ops ?_ | refine seq_ops ?_ | refine end_tree ?_ | (refine cond_t rfl ?_ ?_; (· first | rfl | assumption | (refine decide_eq_true ?_; first | assumption | omega) | (refine nt ?_; first | assumption | omega) | (simp [*]; done))) | refine AW_ret ?_ | refine ret_then ?_)
      exact ⟨(k, _), hk, ret_R id (by rfl) ⟨⟨_, rfl, .inl rfl⟩, trivial⟩ (by simp) (by simp) (by simp)⟩
    · repeat (first | ((first | refine step_ops ?_ | refine step_tree ?_); (first | (refine m_mov (by conv => lhs; whnf) ?_) | (refine m_leq rfl rfl ?_) | (apply m_ld_pt; (· rfl); (· rfl); (· rfl)) | (refine m_nchk rfl ?_) | (refine m_fa rfl ?_))) | refine seq_ops ?_ | refine end_tree ?_ | (refine cond_f rfl ?_ ?_; (· first | rfl | assumption | (refine decide_eq_false ?_; first | assumption | omega) | (refine nf ?_; first | assumption | omega) | (simp [*]; done))) | refine skip_then ?_)
      refine step_ops ?_
      refine m_binv rfl rfl rfl ?_
      refine step_ops ?_
      refine m_and255 rfl rfl fun m hm => ?_
      refine step_ops ?_
      refine m_cvtu rfl hm ?_
      repeat (first | (refine step_ops ?_; (refine m_mov (by conv => lhs; whnf) ?_)) | refine end_ops ?_ | refine AW_ret ?_)
      exact ⟨(m, _), hm, ret_R id (by rfl) ⟨⟨_, rfl, .inl rfl⟩, trivial⟩ (by simp) (by simp) (by simp)⟩
  have hp : ac77 = .seq (fstA ac77) (.seq (fstA (sndA ac77)) (.seq (fstA (sndA (sndA ac77))) (sndA (sndA (sndA ac77))))) := rfl
  change AW _ _ ac77 _ _
  rw [hp]
  clear hp
  generalize sndA (sndA (sndA ac77)) = c4 at *
  unfold ac77
  simp only [sndA, fstA]
  repeat (first | ((first | refine step_ops ?_ | refine step_tree ?_); (first | (refine m_mov (by conv => lhs; whnf) ?_) | (apply m_ld_pt; (· rfl); (· rfl); (· rfl)) | (refine m_nchk rfl ?_) | (refine m_fa rfl ?_))) | refine end_ops ?_ | refine seq_ops ?_ | refine seq_tree ?_ | refine AW_seq ?_)
  refine step_tree ?_
  refine m_len_bys rfl hv ?_
  by_cases hlt : ((a : Nat) : Int) < L.length
  · repeat (first | (refine step_tree ?_; (first | (refine m_mov (by conv => lhs; whnf) ?_) | (refine m_lss rfl rfl ?_) | (apply m_ld_pt; (· rfl); (· rfl); (· rfl)) | (refine m_nchk rfl ?_) | (refine m_fa rfl ?_))) | refine end_tree ?_ | refine AW_tree ?_ | (refine cond_t rfl ?_ ?_; (· first | rfl | assumption | (refine decide_eq_true ?_; first | assumption | omega) | (refine nt ?_; first | assumption | omega) | (simp [*]; done))))
    refine step_tree ?_
    refine m_idx_bys (j := a) rfl rfl hv (by omega) ?_
    refine step_tree ?_
    refine m_ld_rp (c := .v (.int .u8 (L.getD a 0).toNat)) rfl ?_ ?_
    · simp [byteVs, show a < L.length by omega]
    refine step_tree ?_
    refine m_cvtb rfl fun k hk => ?_
    repeat (first | (refine step_tree ?_; (refine m_mov (by conv => lhs; whnf) ?_)) | refine end_tree ?_ | refine norm_then ?_)
    refine AW_weak (weak_st ?_ ?_ rfl rfl) (key k hk)
    · (repeat' (first | exact trivial | refine And.intro ?_ ?_)) <;> (first | rfl | skip)
    · (repeat' (first | exact trivial | refine And.intro ?_ ?_)) <;> (first | rfl | skip)
  · repeat (first | (refine step_tree ?_; (refine m_lss rfl rfl ?_)) | refine end_tree ?_ | (refine cond_f rfl ?_ ?_; (· first | rfl | assumption | (refine decide_eq_false ?_; first | assumption | omega) | (refine nf ?_; first | assumption | omega) | (simp [*]; done))) | refine skip_then ?_)
    refine AW_weak (weak_st ?_ ?_ rfl rfl) (key 0 (by omega))
    · (repeat' (first | exact trivial | refine And.intro ?_ ?_)) <;> (first | rfl | skip)
    · (repeat' (first | exact trivial | refine And.intro ?_ ?_)) <;> (first | rfl | skip)
end Go.Proofs.YtmmcldbldbpikaaGreatDoor
