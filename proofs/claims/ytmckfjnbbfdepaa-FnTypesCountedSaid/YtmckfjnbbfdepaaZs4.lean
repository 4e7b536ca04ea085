/- The abstract machine, contracts: part 4 of what this claim needs. -/
import Derived.Test.YtmckfjnbbfdepaaZs3
set_option linter.unusedSectionVars false
namespace Go.Proofs.Ytmckfjnbbfdepaa
variable [Go.Am.CodeBlk]
open Go.Am
attribute [local irreducible] AW Outs Weak Lends Lend Sp aops atree aop1 Then Round InBlock Done
attribute [local irreducible] SpH DoneH
/-- The exchanges of the first k types for which p holds. -/
def tyS (R : List (List Int)) (p : List Int → Bool) : Nat → Int
  | 0 => 0
  | k + 1 => tyS R p k + if p (R.getD k []) then tyCnt (R.getD k []) else 0
theorem tyCnt_bd {K : List Int} (h : TyOk K) : 0 ≤ tyCnt K ∧ tyCnt K ≤ 479001600 := by
  obtain ⟨h1, h12, hx, h3, _⟩ := h
  have hs := sum_bd hx
  have hf := fac_le K.sum.toNat (by omega)
  have := tyDiv_bd hx (f := fac K.sum.toNat) (by omega) K.length (Nat.le_refl _)
  unfold tyCnt
  omega
theorem tyS_bd {R : List (List Int)} (hR : ∀ K ∈ R, TyOk K) (p : List Int → Bool) : ∀ k, k ≤ R.length → 0 ≤ tyS R p k ∧ tyS R p k ≤ k * 479001600
  | 0, _ => by simp [tyS]
  | k + 1, hk => by
    have h1 := tyS_bd hR p k (by omega)
    have h2 := tyCnt_bd (hR _ (getD_memL (show k < R.length by omega) : R.getD k [] ∈ R))
    rw [tyS]
    split <;> omega
theorem tyAll_ty0 : ∀ s < 13, 1 ≤ s → (tyAll s s).all (fun K => decide (TyOk K)) = true := by decide +kernel
theorem tyAll_ty {s : Nat} (h1 : 1 ≤ s) (h12 : s ≤ 12) : ∀ K ∈ tyAll s s, TyOk K := fun K hK => of_decide_eq_true (List.all_eq_true.1 (tyAll_ty0 s (by omega) h1) K hK)
def tySum (g : Nat) (p : List Int → Bool) : Int := tyS (tyAll g g) p (tyAll g g).length
def chLongN (g : Nat) (m : Int) : Int := tySum g fun K => decide (K.getD 0 0 ≤ m)
theorem tySum_bd {g : Nat} (h1 : 1 ≤ g) (h12 : g ≤ 12) (p : List Int → Bool) : 0 ≤ tySum g p ∧ tySum g p ≤ 36883123200 := by
  have h := tyS_bd (tyAll_ty h1 h12) p _ (Nat.le_refl _)
  have hl := tyAll_len (s := g) (m := g) h12 h12
  unfold tySum
  omega
theorem chLong_spec (g : Nat) (h1 : 1 ≤ g) (h12 : g ≤ 12) (m : Int) : Sp Try.prog 46 [.i g, .i m] (.i (chLongN g m)) := by
  have hall := sp_mat1 (chAll_spec g h12 g h12)
  have hR := tyAll_ty h1 h12
  have hRl := tyAll_len (s := g) (m := g) h12 h12
  unfold chLongN tySum
  generalize tyAll g g = R at *
  refine spec_of Try.func46 rfl cc46 rfl ?_
  unfold ac46
  repeat (first | (refine step_ops ?_; (refine m_mov (by conv => lhs; whnf) ?_)) | refine end_ops ?_ | refine seq_ops ?_ | refine AW_seq ?_)
  (refine step_ops ?_); (apply m_call (hall)); (· repeat (first | exact lends_nil | (refine lends_cons ?_ ?_; (· exact lend_v))))
  repeat (first | (refine step_ops ?_; (first | (refine m_mov (by conv => lhs; whnf) ?_) | (refine m_len_ro rfl ?_))) | refine end_ops ?_ | refine AW_block ?_)
  refine AW_loop (α := Nat) (fun k => k ≤ R.length) (fun k => st [(1, .i m), (5, .i (tyS R (fun K => decide (K.getD 0 0 ≤ m)) k)), (10, roF R), (11, .i R.length), (12, .i k)] []) (fun k => R.length - k) 0 (Nat.zero_le _) (weak_st ?_ ?_ rfl rfl) ?_
  · (repeat' (first | exact trivial | refine And.intro ?_ ?_)) <;> (first | rfl | skip)
  · trivial
  intro k hk
  have hb := tyS_bd hR (fun K => decide (K.getD 0 0 ≤ m)) k hk
  by_cases hc : k < R.length
  · have hs : tyS R (fun K => decide (K.getD 0 0 ≤ m)) (k + 1) = tyS R (fun K => decide (K.getD 0 0 ≤ m)) k + if decide ((R.getD k []).getD 0 0 ≤ m) = true then tyCnt (R.getD k []) else 0 := rfl
    have hok := hR _ (getD_memL hc : R.getD k [] ∈ R)
    have hcb := tyCnt_bd hok
    obtain ⟨row, hrw⟩ : ∃ row, row = R.getD k [] := ⟨_, rfl⟩
    rw [← hrw] at hs hok hcb
    have hlen := hok.1
    have hcc := chCount_spec row hok
    generalize tyS R (fun K => decide (K.getD 0 0 ≤ m)) k = a at *
    generalize tyCnt row = b at *
    by_cases hp : row.getD 0 0 ≤ m
    · rw [if_pos (decide_eq_true hp)] at hs
      have hp' : row.getD (Int.toNat 0 * 1) 0 ≤ m := hp
      repeat (first | (refine step_ops ?_; (first | (refine m_lss rfl rfl ?_) | (refine m_idx1_ro rfl rfl ?_ ?_; (· omega)))) | refine end_ops ?_ | refine seq_ops ?_ | (refine cond_t rfl ?_ ?_; (· first | rfl | assumption | (refine decide_eq_true ?_; first | assumption | omega) | (refine nt ?_; first | assumption | omega) | (simp [*]; done))) | refine skip_then ?_ | refine AW_seq ?_ | refine AW_block ?_)
      refine step_ops ?_
      refine m_ld_rp rfl (rowT_at hc) ?_
      rw [← hrw]
      repeat (first | (refine step_ops ?_; (first | (refine m_mov (by conv => lhs; whnf) ?_) | (refine m_leq rfl rfl ?_) | (refine m_idx_ro rfl rfl ?_ ?_ ?_; (· omega); (· omega)) | (refine m_ld_rpi rfl ?_ ?_; (· omega)))) | refine end_ops ?_ | refine seq_ops ?_ | refine AW_ops ?_ | (refine cond_t rfl ?_ ?_; (· first | rfl | assumption | (refine decide_eq_true ?_; first | assumption | omega) | (refine nt ?_; first | assumption | omega) | (simp [*]; done))))
      (refine step_ops ?_); (apply m_call (hcc)); (· repeat (first | exact lends_nil | (refine lends_cons ?_ ?_; (· (refine lend_ints ?_; first | rfl | omega)))))
      repeat (first | (refine step_ops ?_; (first | (refine m_mov (by conv => lhs; whnf) ?_) | (refine m_add rfl rfl ?_ ?_ ?_; (· omega); (· omega)))) | refine end_ops ?_ | refine AW_ops ?_ | refine norm_then ?_ | refine norm_block ?_)
      refine next_round (k + 1) (by omega) (weak_st ?_ ?_ rfl rfl) ?_
      · rw [hs]
        (repeat' (first | exact trivial | refine And.intro ?_ ?_)) <;> (first | rfl | skip)
      · trivial
      · omega
    · rw [if_neg fun h => hp (of_decide_eq_true h), Int.add_zero] at hs
      have hp' : ¬ row.getD (Int.toNat 0 * 1) 0 ≤ m := hp
      repeat (first | (refine step_ops ?_; (first | (refine m_lss rfl rfl ?_) | (refine m_idx1_ro rfl rfl ?_ ?_; (· omega)))) | refine end_ops ?_ | refine seq_ops ?_ | (refine cond_t rfl ?_ ?_; (· first | rfl | assumption | (refine decide_eq_true ?_; first | assumption | omega) | (refine nt ?_; first | assumption | omega) | (simp [*]; done))) | refine skip_then ?_ | refine AW_seq ?_ | refine AW_block ?_)
      refine step_ops ?_
      refine m_ld_rp rfl (rowT_at hc) ?_
      rw [← hrw]
      repeat (first | (refine step_ops ?_; (first | (refine m_mov (by conv => lhs; whnf) ?_) | (refine m_leq rfl rfl ?_) | (refine m_add rfl rfl ?_ ?_ ?_; (· omega); (· omega)) | (refine m_idx_ro rfl rfl ?_ ?_ ?_; (· omega); (· omega)) | (refine m_ld_rpi rfl ?_ ?_; (· omega)))) | refine end_ops ?_ | refine seq_ops ?_ | refine AW_ops ?_ | (refine cond_f rfl ?_ ?_; (· first | rfl | assumption | (refine decide_eq_false ?_; first | assumption | omega) | (refine nf ?_; first | assumption | omega) | (simp [*]; done))) | refine norm_then ?_ | refine norm_block ?_ | refine AW_skip ?_)
      refine next_round (k + 1) (by omega) (weak_st ?_ ?_ rfl rfl) ?_
      · rw [hs]
        (repeat' (first | exact trivial | refine And.intro ?_ ?_)) <;> (first | rfl | skip)
      · trivial
      · omega
  · obtain rfl : k = R.length := by omega
    repeat (first | (refine step_ops ?_; (first | (refine m_mov (by conv => lhs; whnf) ?_) | (refine m_lss rfl rfl ?_))) | refine end_ops ?_ | refine seq_ops ?_ | (refine cond_f rfl ?_ ?_; (· first | rfl | assumption | (refine decide_eq_false ?_; first | assumption | omega) | (refine nf ?_; first | assumption | omega) | (simp [*]; done))) | refine AW_seq ?_ | refine AW_ret ?_ | refine ret_done ?_ | refine norm_then ?_ | refine exit_then ?_ | refine exit_round ?_ | refine AW_exit ?_ | refine exit_block ?_)
    exact outs_i rfl
def LoOk (g m : Int) : Prop := (1 ≤ g ∧ g ≤ 12) ∧ 1 ≤ m ∧ m ≤ g
instance (g m : Int) : Decidable (LoOk g m) := inferInstanceAs (Decidable (_ ∧ _))
def loR (g m : Int) : Int := if LoOk g m then chLongN g.toNat m - chLongN g.toNat (m - 1) else 0
def loTup (g m : Int) : AV := .tup [.i (loR g m), .b (decide (LoOk g m))]
theorem specCountLongest_spec (g m : Int) : Sp Try.prog 26 [.i g, .i m] (loTup g m) := by
  unfold loTup
  refine spec_of Try.func26 rfl cc26 rfl ?_
  unfold ac26
  by_cases h1 : 1 ≤ g ∧ g ≤ 12
  · by_cases h2 : 1 ≤ m ∧ m ≤ g
    · have h : LoOk g m := ⟨h1, h2⟩
      have e : loR g m = _ := if_pos h
      rw [e]
      obtain ⟨n, rfl⟩ := Int.eq_ofNat_of_zero_le (show 0 ≤ g by omega)
      rw [Int.toNat_natCast]
      have s1 := chLong_spec n (by omega) (by omega) m
      have s2 := chLong_spec n (by omega) (by omega) (m - 1)
      have b1 := tySum_bd (g := n) (by omega) (by omega) fun K => decide (K.getD 0 0 ≤ m)
      have b2 := tySum_bd (g := n) (by omega) (by omega) fun K => decide (K.getD 0 0 ≤ m - 1)
      unfold chLongN at *
      generalize (tySum n fun K => decide (K.getD 0 0 ≤ m)) = a at *
      generalize (tySum n fun K => decide (K.getD 0 0 ≤ m - 1)) = b at *
      repeat (first | (refine step_ops ?_; (refine m_mov (by conv => lhs; whnf) ?_)) | refine end_ops ?_ | refine seq_ops ?_ | refine AW_seq ?_)
      (refine step_ops ?_); (apply m_call (exGuests_spec _)); (· repeat (first | exact lends_nil | (refine lends_cons ?_ ?_; (· exact lend_v))))
      repeat (refine step_ops ?_; ((try (refine g_yes rfl ?_ ?_; (· first | rfl | assumption | (refine decide_eq_true ?_; first | assumption | omega) | (refine nt ?_; first | assumption | omega) | (simp [*]; done) | (refine decide_eq_false ?_; first | assumption | omega) | (refine nf ?_; first | assumption | omega)))); (first | (refine m_mov (by conv => lhs; whnf) ?_) | (refine m_not rfl ?_))))
      (refine step_ops ?_); (refine g_yes rfl ?_ ?_; (· first | (first | rfl | assumption | (refine decide_eq_true ?_; first | assumption | omega) | (refine nt ?_; first | assumption | omega) | (simp [*]; done)) | (first | rfl | assumption | (refine decide_eq_false ?_; first | assumption | omega) | (refine nf ?_; first | assumption | omega) | (simp [*]; done))); (apply m_call (l1In_spec _ _ _))); (· repeat (first | exact lends_nil | (refine lends_cons ?_ ?_; (· exact lend_v))))
      repeat (first | (refine step_ops ?_; ((try (refine g_yes rfl ?_ ?_; (· first | rfl | assumption | (refine decide_eq_true ?_; first | assumption | omega) | (refine nt ?_; first | assumption | omega) | (simp [*]; done) | (refine decide_eq_false ?_; first | assumption | omega) | (refine nf ?_; first | assumption | omega)))); (first | (refine m_mov (by conv => lhs; whnf) ?_) | (refine m_not rfl ?_) | (refine m_pick_f rfl ?_ (by conv => lhs; whnf) ?_; (· first | rfl | assumption | (refine decide_eq_false ?_; first | assumption | omega) | (refine nf ?_; first | assumption | omega) | (simp [*]; done)))))) | refine end_ops ?_ | refine seq_ops ?_ | (refine cond_f rfl ?_ ?_; (· first | rfl | assumption | (refine decide_eq_false ?_; first | assumption | omega) | (refine nf ?_; first | assumption | omega) | (simp [*]; done))) | refine skip_then ?_)
      (refine step_ops ?_); (apply m_call (s1)); (· repeat (first | exact lends_nil | (refine lends_cons ?_ ?_; (· exact lend_v))))
      repeat (refine step_ops ?_; (first | (refine m_mov (by conv => lhs; whnf) ?_) | (refine m_sub rfl rfl ?_ ?_ ?_; (· omega); (· omega))))
      (refine step_ops ?_); (apply m_call (s2)); (· repeat (first | exact lends_nil | (refine lends_cons ?_ ?_; (· exact lend_v))))
      repeat (first | (refine step_ops ?_; (first | (refine m_mov (by conv => lhs; whnf) ?_) | (refine m_sub rfl rfl ?_ ?_ ?_; (· omega); (· omega)))) | refine end_ops ?_ | refine AW_ret ?_ | refine ret_done ?_)
      exact outs_tup2 (outs_i rfl) (outs_b (decide_eq_true h).symm)
    · have h : ¬ LoOk g m := fun hh => h2 hh.2
      have e : loR g m = _ := if_neg h
      rw [e]
      repeat (first | (refine step_ops ?_; (refine m_mov (by conv => lhs; whnf) ?_)) | refine end_ops ?_ | refine seq_ops ?_ | refine AW_seq ?_)
      (refine step_ops ?_); (apply m_call (exGuests_spec _)); (· repeat (first | exact lends_nil | (refine lends_cons ?_ ?_; (· exact lend_v))))
      repeat (refine step_ops ?_; ((try (refine g_yes rfl ?_ ?_; (· first | rfl | assumption | (refine decide_eq_true ?_; first | assumption | omega) | (refine nt ?_; first | assumption | omega) | (simp [*]; done) | (refine decide_eq_false ?_; first | assumption | omega) | (refine nf ?_; first | assumption | omega)))); (first | (refine m_mov (by conv => lhs; whnf) ?_) | (refine m_not rfl ?_))))
      (refine step_ops ?_); (refine g_yes rfl ?_ ?_; (· first | (first | rfl | assumption | (refine decide_eq_true ?_; first | assumption | omega) | (refine nt ?_; first | assumption | omega) | (simp [*]; done)) | (first | rfl | assumption | (refine decide_eq_false ?_; first | assumption | omega) | (refine nf ?_; first | assumption | omega) | (simp [*]; done))); (apply m_call (l1In_spec _ _ _))); (· repeat (first | exact lends_nil | (refine lends_cons ?_ ?_; (· exact lend_v))))
      repeat (first | (refine step_ops ?_; ((try (refine g_yes rfl ?_ ?_; (· first | rfl | assumption | (refine decide_eq_true ?_; first | assumption | omega) | (refine nt ?_; first | assumption | omega) | (simp [*]; done) | (refine decide_eq_false ?_; first | assumption | omega) | (refine nf ?_; first | assumption | omega)))); (first | (refine m_mov (by conv => lhs; whnf) ?_) | (refine m_not rfl ?_) | (refine m_pick_f rfl ?_ (by conv => lhs; whnf) ?_; (· first | rfl | assumption | (refine decide_eq_false ?_; first | assumption | omega) | (refine nf ?_; first | assumption | omega) | (simp [*]; done)))))) | refine end_ops ?_ | refine seq_ops ?_ | (refine cond_t rfl ?_ ?_; (· first | rfl | assumption | (refine decide_eq_true ?_; first | assumption | omega) | (refine nt ?_; first | assumption | omega) | (simp [*]; done))) | refine AW_ret ?_ | refine ret_done ?_ | refine ret_then ?_)
      exact outs_tup2 (outs_i rfl) (outs_b (decide_eq_false h).symm)
  · have h : ¬ LoOk g m := fun hh => h1 hh.1
    have e : loR g m = _ := if_neg h
    rw [e]
    repeat (first | (refine step_ops ?_; (refine m_mov (by conv => lhs; whnf) ?_)) | refine end_ops ?_ | refine seq_ops ?_ | refine AW_seq ?_)
    (refine step_ops ?_); (apply m_call (exGuests_spec _)); (· repeat (first | exact lends_nil | (refine lends_cons ?_ ?_; (· exact lend_v))))
    repeat (first | (refine step_ops ?_; (first | (first | (refine m_mov (by conv => lhs; whnf) ?_) | (refine m_not rfl ?_) | (refine m_pick_t rfl ?_ (by conv => lhs; whnf) ?_; (· first | rfl | assumption | (refine decide_eq_true ?_; first | assumption | omega) | (refine nt ?_; first | assumption | omega) | (simp [*]; done)))) | (refine g_noF rfl ?_ ?_; (· first | rfl | assumption | (refine decide_eq_true ?_; first | assumption | omega) | (refine nt ?_; first | assumption | omega) | (simp [*]; done))))) | refine end_ops ?_ | refine seq_ops ?_ | (refine cond_t rfl ?_ ?_; (· first | rfl | assumption | (refine decide_eq_true ?_; first | assumption | omega) | (refine nt ?_; first | assumption | omega) | (simp [*]; done))) | refine AW_ret ?_ | refine ret_done ?_ | refine ret_then ?_)
    exact outs_tup2 (outs_i rfl) (outs_b (decide_eq_false h).symm)
def paR (g : Int) : Int := if 1 ≤ g ∧ g ≤ 12 then chLongN g.toNat 2 else 0
def paTup (g : Int) : AV := .tup [.i (paR g), .b (decide (1 ≤ g ∧ g ≤ 12))]
theorem specCountPairsAlone_spec (g : Int) : Sp Try.prog 12 [.i g] (paTup g) := by
  unfold paTup
  refine spec_of Try.func12 rfl cc12 rfl ?_
  unfold ac12
  by_cases h1 : 1 ≤ g ∧ g ≤ 12
  · have e : paR g = _ := if_pos h1
    rw [e]
    obtain ⟨n, rfl⟩ := Int.eq_ofNat_of_zero_le (show 0 ≤ g by omega)
    rw [Int.toNat_natCast]
    repeat (first | (refine step_ops ?_; (refine m_mov (by conv => lhs; whnf) ?_)) | refine end_ops ?_ | refine seq_ops ?_ | refine AW_seq ?_)
    (refine step_ops ?_); (apply m_call (exGuests_spec _)); (· repeat (first | exact lends_nil | (refine lends_cons ?_ ?_; (· exact lend_v))))
    repeat (first | (refine step_ops ?_; (first | (refine m_mov (by conv => lhs; whnf) ?_) | (refine m_not rfl ?_))) | refine end_ops ?_ | refine seq_ops ?_ | (refine cond_f rfl ?_ ?_; (· first | rfl | assumption | (refine decide_eq_false ?_; first | assumption | omega) | (refine nf ?_; first | assumption | omega) | (simp [*]; done))) | refine skip_then ?_)
    (refine step_ops ?_); (apply m_call (chLong_spec n (by omega) (by omega) 2)); (· repeat (first | exact lends_nil | (refine lends_cons ?_ ?_; (· exact lend_v))))
    repeat (first | (refine step_ops ?_; (refine m_mov (by conv => lhs; whnf) ?_)) | refine end_ops ?_ | refine AW_ret ?_ | refine ret_done ?_)
    exact outs_tup2 (outs_i rfl) (outs_b (decide_eq_true h1).symm)
  · have e : paR g = _ := if_neg h1
    rw [e]
    repeat (first | (refine step_ops ?_; (refine m_mov (by conv => lhs; whnf) ?_)) | refine end_ops ?_ | refine seq_ops ?_ | refine AW_seq ?_)
    (refine step_ops ?_); (apply m_call (exGuests_spec _)); (· repeat (first | exact lends_nil | (refine lends_cons ?_ ?_; (· exact lend_v))))
    repeat (first | (refine step_ops ?_; (first | (refine m_mov (by conv => lhs; whnf) ?_) | (refine m_not rfl ?_))) | refine end_ops ?_ | refine seq_ops ?_ | (refine cond_t rfl ?_ ?_; (· first | rfl | assumption | (refine decide_eq_true ?_; first | assumption | omega) | (refine nt ?_; first | assumption | omega) | (simp [*]; done))) | refine AW_ret ?_ | refine ret_done ?_ | refine ret_then ?_)
    exact outs_tup2 (outs_i rfl) (outs_b (decide_eq_false h1).symm)
end Go.Proofs.Ytmckfjnbbfdepaa
namespace Go.Proofs.Ytmckfjnbbfdepaa
variable [Go.Am.CodeBlk]
open Go.Am
attribute [local irreducible] AW Outs Weak Lends Lend Sp aops atree aop1 Then Round InBlock Done
/-- A fraction in lowest terms. -/
def low (a b : Nat) : Nat × Nat := (a / Nat.gcd a b, b / Nat.gcd a b)
def fracV (p : Nat × Nat) : List AV := [.i p.1, .i p.2]
theorem partOf_spec (a b : Nat) (ha : a ≤ 1000000000000000000) (hb : b ≤ 1000000000000000000) (h1 : 1 ≤ b) : Sp Try.prog 40 [.i a, .i b] (.agg (fracV (low a b))) := by
  have hg : 0 < Nat.gcd a b := Nat.gcd_pos_of_pos_right _ h1
  have e1 : ((a / Nat.gcd a b : Nat) : Int) = (a : Int) / (Nat.gcd a b : Nat) := by simp
  have e2 : ((b / Nat.gcd a b : Nat) : Int) = (b : Int) / (Nat.gcd a b : Nat) := by simp
  unfold fracV low
  dsimp only
  rw [e1, e2]
  refine specC_of Try.func40 rfl cc40 (by rfl) ?_
  unfold ac40
  repeat (first | (refine step_ops ?_; (first | (refine m_mov (by conv => lhs; whnf) ?_) | (refine m_alloc ?_))) | refine end_ops ?_ | refine seq_ops ?_)
  refine step_ops ?_; (apply m_call (commonDivisor_spec a b)); (· repeat (first | exact lends_nil | (refine lends_cons ?_ ?_; (· exact lend_v))))
  repeat (first | ((first | refine step_ops ?_ | refine step_tree ?_); (first | (refine m_mov (by conv => lhs; whnf) ?_) | (refine m_bld_2 (by conv => lhs; whnf) (by conv => lhs; whnf) (by decide)  (by decide) (by rfl) (by rfl) ?_) | (refine m_stall rfl rfl rfl ?_ ?_ ?_ ?_; (· first | rfl | (simp [*]; done)); (· first | rfl | (simp [*]; done)); (· first | rfl | (simp [cellOk, Value.oneCell']; done))) | (refine m_quo rfl rfl ?_ ?_ ?_ ?_; (· omega); (· omega); (· omega)))) | refine end_ops ?_ | refine end_tree ?_ | refine seq_tree ?_ | refine AW_ret ?_)
  exact ret_donec rfl rfl rfl (outs_agg rfl)
theorem told_spec (p : Nat × Nat) : Sp Try.prog 43 [.agg (fracV p)] (.tup [.i p.1, .i p.2, .b true]) := by
  unfold fracV
  refine spec_of Try.func43 rfl cc43 rfl ?_
  unfold ac43
  repeat (first | ((first | refine step_ops ?_ | refine step_tree ?_); (first | (refine m_mov (by conv => lhs; whnf) ?_) | (apply m_ld_pt; (· rfl); (· rfl); (· rfl)) | (refine m_fa rfl ?_) | (refine m_box rfl ?_ ?_; (· first | rfl | (simp [cellOk, Value.oneCell']; done))))) | refine end_ops ?_ | refine seq_ops ?_ | refine end_tree ?_ | refine seq_tree ?_ | refine AW_ret ?_ | refine ret_done ?_)
  exact outs_tup3 (outs_i rfl) (outs_i rfl) (outs_b rfl)
def addF (p q : Nat × Nat) : Nat × Nat := low (p.1 * q.2 + q.1 * p.2) (p.2 * q.2)
theorem plus_spec (p q : Nat × Nat) (h1 : p.1 ≤ 1000000000) (h2 : p.2 ≤ 1000000000) (h3 : q.1 ≤ 100000000) (h4 : q.2 ≤ 100000000) (h5 : 1 ≤ p.2) (h6 : 1 ≤ q.2) : Sp Try.prog 41 [.agg (fracV p), .agg (fracV q)] (.agg (fracV (addF p q))) := by
  have m1 : p.1 * q.2 ≤ 1000000000 * 100000000 := Nat.mul_le_mul h1 h4
  have m2 : q.1 * p.2 ≤ 100000000 * 1000000000 := Nat.mul_le_mul h3 h2
  have m3 : p.2 * q.2 ≤ 1000000000 * 100000000 := Nat.mul_le_mul h2 h4
  have m4 : 1 * 1 ≤ p.2 * q.2 := Nat.mul_le_mul h5 h6
  have c1 : (p.1 : Int) * (q.2 : Int) = ((p.1 * q.2 : Nat) : Int) := by simp
  have c2 : (q.1 : Int) * (p.2 : Int) = ((q.1 * p.2 : Nat) : Int) := by simp
  have c3 : (p.2 : Int) * (q.2 : Int) = ((p.2 * q.2 : Nat) : Int) := by simp
  have hsp := partOf_spec (p.1 * q.2 + q.1 * p.2) (p.2 * q.2) (by omega) (by omega) (by omega)
  unfold addF
  generalize hr : low (p.1 * q.2 + q.1 * p.2) (p.2 * q.2) = r at hsp ⊢
  clear hr
  rw [show ((p.1 * q.2 + q.1 * p.2 : Nat) : Int) = (p.1 : Int) * (q.2 : Int) + (q.1 : Int) * (p.2 : Int) by omega, ← c3] at hsp
  unfold fracV at hsp ⊢
  refine specC_of Try.func41 rfl cc41 (by rfl) ?_
  unfold ac41
  repeat (first | (refine step_ops ?_; (first | (refine m_add rfl rfl ?_ ?_ ?_; (· omega); (· omega)) | (refine m_mul rfl rfl ?_ ?_ ?_; (· first | omega | (simp; done)); (· first | omega | (simp; done))) | (apply m_ld_pt; (· rfl); (· rfl); (· rfl)) | (refine m_alloc ?_) | (refine m_fa rfl ?_) | (refine m_box rfl ?_ ?_; (· first | rfl | (simp [cellOk, Value.oneCell']; done))))) | refine end_ops ?_ | refine seq_ops ?_)
  (refine step_ops ?_); (apply m_call (hsp)); (· repeat (first | exact lends_nil | (refine lends_cons ?_ ?_; (· exact lend_v))))
  repeat (first | (refine step_ops ?_; (refine m_stall rfl rfl rfl ?_ ?_ ?_ ?_; (· first | rfl | (simp [*]; done)); (· first | rfl | (simp [*]; done)); (· first | rfl | (simp [cellOk, Value.oneCell']; done)))) | refine end_ops ?_ | refine AW_ret ?_)
  exact ret_donec rfl rfl rfl (outs_agg rfl)
theorem exLowN_spec (a b : Nat) (ha : a ≤ 1000000000000000000) (hb : b ≤ 1000000000000000000) (h1 : 1 ≤ b) : Sp Try.prog 44 [.i a, .i b] (.tup [.i (low a b).1, .i (low a b).2]) := by
  have e1 : (((low a b).1 : Nat) : Int) = (a : Int) / (Nat.gcd a b : Nat) := by simp [low]
  have e2 : (((low a b).2 : Nat) : Int) = (b : Int) / (Nat.gcd a b : Nat) := by simp [low]
  rw [e1, e2]
  refine spec_of Try.func44 rfl cc44 rfl ?_
  unfold ac44
  repeat (first | (refine step_ops ?_; (refine m_mov (by conv => lhs; whnf) ?_)) | refine end_ops ?_ | refine seq_ops ?_ | refine AW_seq ?_ | refine AW_block ?_)
  refine AW_loop (α := Nat × Nat) (fun q => Nat.gcd q.1 q.2 = Nat.gcd a b) (fun q => st [(0, .i a), (1, .i b), (6, .i q.1), (7, .i q.2)] []) (fun q => q.2) (a, b) rfl (weak_st ?_ ?_ rfl rfl) ?_
  · (repeat' (first | exact trivial | refine And.intro ?_ ?_)) <;> (first | rfl | skip)
  · trivial
  rintro ⟨u, v⟩ hq
  dsimp only at hq ⊢
  by_cases hc : v = 0
  · subst hc
    rw [Nat.gcd_zero_right] at hq
    have hu : 0 < u := by rw [hq]; exact Nat.gcd_pos_of_pos_right _ h1
    repeat (first | ((first | refine step_ops ?_ | refine step_tree ?_); (first | (refine m_mov (by conv => lhs; whnf) ?_) | (refine m_gtr rfl rfl ?_) | (refine m_quo rfl rfl ?_ ?_ ?_ ?_; (· omega); (· omega); (· omega)))) | refine end_ops ?_ | refine seq_ops ?_ | refine end_tree ?_ | refine seq_tree ?_ | (refine cond_f rfl ?_ ?_; (· first | rfl | assumption | (refine decide_eq_false ?_; first | assumption | omega) | (refine nf ?_; first | assumption | omega) | (simp [*]; done))) | refine AW_seq ?_ | refine AW_ret ?_ | refine ret_done ?_ | refine norm_then ?_ | refine exit_then ?_ | refine exit_round ?_ | refine AW_exit ?_ | refine exit_block ?_)
    refine outs_tup2 (outs_i ?_) (outs_i ?_) <;> rw [hq]
  · have hc' : 0 < (v : Int) := by omega
    repeat (first | ((first | refine step_ops ?_ | refine step_tree ?_); (first | (refine m_mov (by conv => lhs; whnf) ?_) | (refine m_gtr rfl rfl ?_) | (refine m_rem rfl rfl ?_ ?_ ?_; (· omega); (· omega)))) | refine end_ops ?_ | refine seq_ops ?_ | refine end_tree ?_ | refine AW_tree ?_ | (refine cond_t rfl ?_ ?_; (· first | rfl | assumption | (refine decide_eq_true ?_; first | assumption | omega) | (refine nt ?_; first | assumption | omega) | (simp [*]; done))) | refine skip_then ?_ | refine AW_seq ?_ | refine AW_block ?_ | refine norm_block ?_)
    refine next_round (v, u % v) ?_ (weak_st ?_ ?_ rfl rfl) ?_
    · dsimp only
      rw [← hq, Nat.gcd_comm u v, Nat.gcd_rec v u, Nat.gcd_comm]
    · (repeat' (first | exact trivial | refine And.intro ?_ ?_)) <;> (first | rfl | skip)
    · trivial
    · exact Nat.mod_lt _ (by omega)
end Go.Proofs.Ytmckfjnbbfdepaa
namespace Go.Proofs.Ytmckfjnbbfdepaa
variable [Go.Am.CodeBlk]
open Go.Am
attribute [local irreducible] AW Outs Weak Lends Lend Sp aops atree aop1 Then Round InBlock Done
attribute [local irreducible] SpH DoneH
def CbOk (g m : Int) : Prop := (1 ≤ g ∧ g ≤ 12) ∧ 0 ≤ m ∧ m ≤ g
instance (g m : Int) : Decidable (CbOk g m) := inferInstanceAs (Decidable (_ ∧ _))
def cbN (g : Nat) (m : Int) : Int := tySum g fun K => decide ((K.length : Int) = m)
def cbR (g m : Int) : Int := if CbOk g m then cbN g.toNat m else 0
def cbTup (g m : Int) : AV := .tup [.i (cbR g m), .b (decide (CbOk g m))]
theorem specCountByChains_spec (g m : Int) : Sp Try.prog 28 [.i g, .i m] (cbTup g m) := by
  unfold cbTup
  refine spec_of Try.func28 rfl cc28 rfl ?_
  unfold ac28
  by_cases h1 : 1 ≤ g ∧ g ≤ 12
  · by_cases h2 : 0 ≤ m ∧ m ≤ g
    · have h : CbOk g m := ⟨h1, h2⟩
      have e : cbR g m = _ := if_pos h
      rw [e]
      obtain ⟨n, rfl⟩ := Int.eq_ofNat_of_zero_le (show 0 ≤ g by omega)
      rw [Int.toNat_natCast]
      have hall := sp_mat1 (chAll_spec n (by omega) n (by omega))
      have hR := tyAll_ty (s := n) (by omega) (by omega)
      have hRl := tyAll_len (s := n) (m := n) (by omega) (by omega)
      unfold cbN tySum
      generalize tyAll n n = R at *
      repeat (first | (refine step_ops ?_; (refine m_mov (by conv => lhs; whnf) ?_)) | refine end_ops ?_ | refine seq_ops ?_ | refine AW_seq ?_)
      (refine step_ops ?_); (apply m_call (exGuests_spec _)); (· repeat (first | exact lends_nil | (refine lends_cons ?_ ?_; (· exact lend_v))))
      repeat (refine step_ops ?_; ((try (refine g_yes rfl ?_ ?_; (· first | rfl | assumption | (refine decide_eq_true ?_; first | assumption | omega) | (refine nt ?_; first | assumption | omega) | (simp [*]; done) | (refine decide_eq_false ?_; first | assumption | omega) | (refine nf ?_; first | assumption | omega)))); (first | (refine m_mov (by conv => lhs; whnf) ?_) | (refine m_not rfl ?_))))
      (refine step_ops ?_); (refine g_yes rfl ?_ ?_; (· first | (first | rfl | assumption | (refine decide_eq_true ?_; first | assumption | omega) | (refine nt ?_; first | assumption | omega) | (simp [*]; done)) | (first | rfl | assumption | (refine decide_eq_false ?_; first | assumption | omega) | (refine nf ?_; first | assumption | omega) | (simp [*]; done))); (apply m_call (l1In_spec _ _ _))); (· repeat (first | exact lends_nil | (refine lends_cons ?_ ?_; (· exact lend_v))))
      repeat (first | (refine step_ops ?_; ((try (refine g_yes rfl ?_ ?_; (· first | rfl | assumption | (refine decide_eq_true ?_; first | assumption | omega) | (refine nt ?_; first | assumption | omega) | (simp [*]; done) | (refine decide_eq_false ?_; first | assumption | omega) | (refine nf ?_; first | assumption | omega)))); (first | (refine m_mov (by conv => lhs; whnf) ?_) | (refine m_not rfl ?_) | (refine m_pick_f rfl ?_ (by conv => lhs; whnf) ?_; (· first | rfl | assumption | (refine decide_eq_false ?_; first | assumption | omega) | (refine nf ?_; first | assumption | omega) | (simp [*]; done)))))) | refine end_ops ?_ | refine seq_ops ?_ | (refine cond_f rfl ?_ ?_; (· first | rfl | assumption | (refine decide_eq_false ?_; first | assumption | omega) | (refine nf ?_; first | assumption | omega) | (simp [*]; done))) | refine skip_then ?_ | refine AW_seq ?_)
      (refine step_ops ?_); (apply m_call (hall)); (· repeat (first | exact lends_nil | (refine lends_cons ?_ ?_; (· exact lend_v))))
      repeat (first | (refine step_ops ?_; (first | (refine m_mov (by conv => lhs; whnf) ?_) | (refine m_len_ro rfl ?_))) | refine end_ops ?_ | refine AW_block ?_)
      refine AW_loop (α := Nat) (fun k => k ≤ R.length) (fun k => st [(1, .i m), (6, .i (tyS R (fun K => decide ((K.length : Int) = m)) k)), (20, roF R), (21, .i R.length), (22, .i k)] []) (fun k => R.length - k) 0 (Nat.zero_le _) (weak_st ?_ ?_ rfl rfl) ?_
      · (repeat' (first | exact trivial | refine And.intro ?_ ?_)) <;> (first | rfl | skip)
      · trivial
      intro k hk
      have hb := tyS_bd hR (fun K => decide ((K.length : Int) = m)) k hk
      by_cases hc : k < R.length
      · have hs : tyS R (fun K => decide ((K.length : Int) = m)) (k + 1) = tyS R (fun K => decide ((K.length : Int) = m)) k + if decide (((R.getD k []).length : Int) = m) = true then tyCnt (R.getD k []) else 0 := rfl
        have hok := hR _ (getD_memL hc : R.getD k [] ∈ R)
        have hcb := tyCnt_bd hok
        obtain ⟨row, hrw⟩ : ∃ row, row = R.getD k [] := ⟨_, rfl⟩
        rw [← hrw] at hs hok hcb
        have hcc := chCount_spec row hok
        generalize tyS R (fun K => decide ((K.length : Int) = m)) k = a at *
        generalize tyCnt row = b at *
        by_cases hp : (row.length : Int) = m
        · rw [if_pos (decide_eq_true hp)] at hs
          repeat (first | (refine step_ops ?_; (first | (refine m_lss rfl rfl ?_) | (refine m_idx1_ro rfl rfl ?_ ?_; (· omega)))) | refine end_ops ?_ | refine seq_ops ?_ | (refine cond_t rfl ?_ ?_; (· first | rfl | assumption | (refine decide_eq_true ?_; first | assumption | omega) | (refine nt ?_; first | assumption | omega) | (simp [*]; done))) | refine skip_then ?_ | refine AW_seq ?_ | refine AW_block ?_)
          refine step_ops ?_
          refine m_ld_rp rfl (rowT_at hc) ?_
          rw [← hrw]
          repeat (first | (refine step_ops ?_; (first | (refine m_mov (by conv => lhs; whnf) ?_) | (refine m_eql rfl rfl ?_) | (refine m_len_ro rfl ?_))) | refine end_ops ?_ | refine seq_ops ?_ | refine AW_ops ?_ | (refine cond_t rfl ?_ ?_; (· first | rfl | assumption | (refine decide_eq_true ?_; first | assumption | omega) | (refine nt ?_; first | assumption | omega) | (simp [*]; done))))
          (refine step_ops ?_); (apply m_call (hcc)); (· repeat (first | exact lends_nil | (refine lends_cons ?_ ?_; (· (refine lend_ints ?_; first | rfl | omega)))))
          repeat (first | (refine step_ops ?_; (first | (refine m_mov (by conv => lhs; whnf) ?_) | (refine m_add rfl rfl ?_ ?_ ?_; (· omega); (· omega)))) | refine end_ops ?_ | refine AW_ops ?_ | refine norm_then ?_ | refine norm_block ?_)
          refine next_round (k + 1) (by omega) (weak_st ?_ ?_ rfl rfl) ?_
          · rw [hs]
            (repeat' (first | exact trivial | refine And.intro ?_ ?_)) <;> (first | rfl | skip)
          · trivial
          · omega
        · rw [if_neg fun h => hp (of_decide_eq_true h), Int.add_zero] at hs
          repeat (first | (refine step_ops ?_; (first | (refine m_lss rfl rfl ?_) | (refine m_idx1_ro rfl rfl ?_ ?_; (· omega)))) | refine end_ops ?_ | refine seq_ops ?_ | (refine cond_t rfl ?_ ?_; (· first | rfl | assumption | (refine decide_eq_true ?_; first | assumption | omega) | (refine nt ?_; first | assumption | omega) | (simp [*]; done))) | refine skip_then ?_ | refine AW_seq ?_ | refine AW_block ?_)
          refine step_ops ?_
          refine m_ld_rp rfl (rowT_at hc) ?_
          rw [← hrw]
          repeat (first | (refine step_ops ?_; (first | (refine m_mov (by conv => lhs; whnf) ?_) | (refine m_eql rfl rfl ?_) | (refine m_add rfl rfl ?_ ?_ ?_; (· omega); (· omega)) | (refine m_len_ro rfl ?_))) | refine end_ops ?_ | refine seq_ops ?_ | refine AW_ops ?_ | (refine cond_f rfl ?_ ?_; (· first | rfl | assumption | (refine decide_eq_false ?_; first | assumption | omega) | (refine nf ?_; first | assumption | omega) | (simp [*]; done))) | refine norm_then ?_ | refine norm_block ?_ | refine AW_skip ?_)
          refine next_round (k + 1) (by omega) (weak_st ?_ ?_ rfl rfl) ?_
          · rw [hs]
            (repeat' (first | exact trivial | refine And.intro ?_ ?_)) <;> (first | rfl | skip)
          · trivial
          · omega
      · obtain rfl : k = R.length := by omega
        repeat (first | (refine step_ops ?_; (first | (refine m_mov (by conv => lhs; whnf) ?_) | (refine m_lss rfl rfl ?_))) | refine end_ops ?_ | refine seq_ops ?_ | (refine cond_f rfl ?_ ?_; (· first | rfl | assumption | (refine decide_eq_false ?_; first | assumption | omega) | (refine nf ?_; first | assumption | omega) | (simp [*]; done))) | refine AW_seq ?_ | refine AW_ret ?_ | refine ret_done ?_ | refine norm_then ?_ | refine exit_then ?_ | refine exit_round ?_ | refine AW_exit ?_ | refine exit_block ?_)
        exact outs_tup2 (outs_i rfl) (outs_b (decide_eq_true h).symm)
    · have h : ¬ CbOk g m := fun hh => h2 hh.2
      have e : cbR g m = _ := if_neg h
      rw [e]
      repeat (first | (refine step_ops ?_; (refine m_mov (by conv => lhs; whnf) ?_)) | refine end_ops ?_ | refine seq_ops ?_ | refine AW_seq ?_)
      (refine step_ops ?_); (apply m_call (exGuests_spec _)); (· repeat (first | exact lends_nil | (refine lends_cons ?_ ?_; (· exact lend_v))))
      repeat (refine step_ops ?_; ((try (refine g_yes rfl ?_ ?_; (· first | rfl | assumption | (refine decide_eq_true ?_; first | assumption | omega) | (refine nt ?_; first | assumption | omega) | (simp [*]; done) | (refine decide_eq_false ?_; first | assumption | omega) | (refine nf ?_; first | assumption | omega)))); (first | (refine m_mov (by conv => lhs; whnf) ?_) | (refine m_not rfl ?_))))
      (refine step_ops ?_); (refine g_yes rfl ?_ ?_; (· first | (first | rfl | assumption | (refine decide_eq_true ?_; first | assumption | omega) | (refine nt ?_; first | assumption | omega) | (simp [*]; done)) | (first | rfl | assumption | (refine decide_eq_false ?_; first | assumption | omega) | (refine nf ?_; first | assumption | omega) | (simp [*]; done))); (apply m_call (l1In_spec _ _ _))); (· repeat (first | exact lends_nil | (refine lends_cons ?_ ?_; (· exact lend_v))))
      repeat (first | (refine step_ops ?_; ((try (refine g_yes rfl ?_ ?_; (· first | rfl | assumption | (refine decide_eq_true ?_; first | assumption | omega) | (refine nt ?_; first | assumption | omega) | (simp [*]; done) | (refine decide_eq_false ?_; first | assumption | omega) | (refine nf ?_; first | assumption | omega)))); (first | (refine m_mov (by conv => lhs; whnf) ?_) | (refine m_not rfl ?_) | (refine m_pick_f rfl ?_ (by conv => lhs; whnf) ?_; (· first | rfl | assumption | (refine decide_eq_false ?_; first | assumption | omega) | (refine nf ?_; first | assumption | omega) | (simp [*]; done)))))) | refine end_ops ?_ | refine seq_ops ?_ | (refine cond_t rfl ?_ ?_; (· first | rfl | assumption | (refine decide_eq_true ?_; first | assumption | omega) | (refine nt ?_; first | assumption | omega) | (simp [*]; done))) | refine AW_ret ?_ | refine ret_done ?_ | refine ret_then ?_)
      exact outs_tup2 (outs_i rfl) (outs_b (decide_eq_false h).symm)
  · have h : ¬ CbOk g m := fun hh => h1 hh.1
    have e : cbR g m = _ := if_neg h
    rw [e]
    repeat (first | (refine step_ops ?_; (refine m_mov (by conv => lhs; whnf) ?_)) | refine end_ops ?_ | refine seq_ops ?_ | refine AW_seq ?_)
    (refine step_ops ?_); (apply m_call (exGuests_spec _)); (· repeat (first | exact lends_nil | (refine lends_cons ?_ ?_; (· exact lend_v))))
    repeat (first | (refine step_ops ?_; (first | (first | (refine m_mov (by conv => lhs; whnf) ?_) | (refine m_not rfl ?_) | (refine m_pick_t rfl ?_ (by conv => lhs; whnf) ?_; (· first | rfl | assumption | (refine decide_eq_true ?_; first | assumption | omega) | (refine nt ?_; first | assumption | omega) | (simp [*]; done)))) | (refine g_noF rfl ?_ ?_; (· first | rfl | assumption | (refine decide_eq_true ?_; first | assumption | omega) | (refine nt ?_; first | assumption | omega) | (simp [*]; done))))) | refine end_ops ?_ | refine seq_ops ?_ | (refine cond_t rfl ?_ ?_; (· first | rfl | assumption | (refine decide_eq_true ?_; first | assumption | omega) | (refine nt ?_; first | assumption | omega) | (simp [*]; done))) | refine AW_ret ?_ | refine ret_done ?_ | refine ret_then ?_)
    exact outs_tup2 (outs_i rfl) (outs_b (decide_eq_false h).symm)
def csR (g m : Int) : Int := if LoOk g m then tySum g.toNat fun K => decide (K.getD (K.length - 1) 0 = m) else 0
def csTup (g m : Int) : AV := .tup [.i (csR g m), .b (decide (LoOk g m))]
theorem specCountShortest_spec (g m : Int) : Sp Try.prog 27 [.i g, .i m] (csTup g m) := by
  unfold csTup
  refine spec_of Try.func27 rfl cc27 rfl ?_
  unfold ac27
  by_cases h1 : 1 ≤ g ∧ g ≤ 12
  · by_cases h2 : 1 ≤ m ∧ m ≤ g
    · have h : LoOk g m := ⟨h1, h2⟩
      have e : csR g m = _ := if_pos h
      rw [e]
      obtain ⟨n, rfl⟩ := Int.eq_ofNat_of_zero_le (show 0 ≤ g by omega)
      rw [Int.toNat_natCast]
      have hall := sp_mat1 (chAll_spec n (by omega) n (by omega))
      have hR := tyAll_ty (s := n) (by omega) (by omega)
      have hRl := tyAll_len (s := n) (m := n) (by omega) (by omega)
      unfold tySum
      generalize tyAll n n = R at *
      obtain ⟨p, hpd⟩ : ∃ p : List Int → Bool, p = fun K => decide (K.getD (K.length - 1) 0 = m) := ⟨_, rfl⟩
      rw [← hpd]
      repeat (first | (refine step_ops ?_; (refine m_mov (by conv => lhs; whnf) ?_)) | refine end_ops ?_ | refine seq_ops ?_ | refine AW_seq ?_)
      (refine step_ops ?_); (apply m_call (exGuests_spec _)); (· repeat (first | exact lends_nil | (refine lends_cons ?_ ?_; (· exact lend_v))))
      repeat (refine step_ops ?_; ((try (refine g_yes rfl ?_ ?_; (· first | rfl | assumption | (refine decide_eq_true ?_; first | assumption | omega) | (refine nt ?_; first | assumption | omega) | (simp [*]; done) | (refine decide_eq_false ?_; first | assumption | omega) | (refine nf ?_; first | assumption | omega)))); (first | (refine m_mov (by conv => lhs; whnf) ?_) | (refine m_not rfl ?_))))
      (refine step_ops ?_); (refine g_yes rfl ?_ ?_; (· first | (first | rfl | assumption | (refine decide_eq_true ?_; first | assumption | omega) | (refine nt ?_; first | assumption | omega) | (simp [*]; done)) | (first | rfl | assumption | (refine decide_eq_false ?_; first | assumption | omega) | (refine nf ?_; first | assumption | omega) | (simp [*]; done))); (apply m_call (l1In_spec _ _ _))); (· repeat (first | exact lends_nil | (refine lends_cons ?_ ?_; (· exact lend_v))))
      repeat (first | (refine step_ops ?_; ((try (refine g_yes rfl ?_ ?_; (· first | rfl | assumption | (refine decide_eq_true ?_; first | assumption | omega) | (refine nt ?_; first | assumption | omega) | (simp [*]; done) | (refine decide_eq_false ?_; first | assumption | omega) | (refine nf ?_; first | assumption | omega)))); (first | (refine m_mov (by conv => lhs; whnf) ?_) | (refine m_not rfl ?_) | (refine m_pick_f rfl ?_ (by conv => lhs; whnf) ?_; (· first | rfl | assumption | (refine decide_eq_false ?_; first | assumption | omega) | (refine nf ?_; first | assumption | omega) | (simp [*]; done)))))) | refine end_ops ?_ | refine seq_ops ?_ | (refine cond_f rfl ?_ ?_; (· first | rfl | assumption | (refine decide_eq_false ?_; first | assumption | omega) | (refine nf ?_; first | assumption | omega) | (simp [*]; done))) | refine skip_then ?_ | refine AW_seq ?_)
      (refine step_ops ?_); (apply m_call (hall)); (· repeat (first | exact lends_nil | (refine lends_cons ?_ ?_; (· exact lend_v))))
      repeat (first | (refine step_ops ?_; (first | (refine m_mov (by conv => lhs; whnf) ?_) | (refine m_len_ro rfl ?_))) | refine end_ops ?_ | refine AW_block ?_)
      refine AW_loop (α := Nat) (fun k => k ≤ R.length) (fun k => st [(1, .i m), (6, .i (tyS R p k)), (20, roF R), (21, .i R.length), (22, .i k)] []) (fun k => R.length - k) 0 (Nat.zero_le _) (weak_st ?_ ?_ rfl rfl) ?_
      · (repeat' (first | exact trivial | refine And.intro ?_ ?_)) <;> (first | rfl | skip)
      · trivial
      intro k hk
      have hb := tyS_bd hR p k hk
      by_cases hc : k < R.length
      · have hs : tyS R p (k + 1) = tyS R p k + if p (R.getD k []) = true then tyCnt (R.getD k []) else 0 := rfl
        have hok := hR _ (getD_memL hc : R.getD k [] ∈ R)
        have hcb := tyCnt_bd hok
        obtain ⟨row, hrw⟩ : ∃ row, row = R.getD k [] := ⟨_, rfl⟩
        rw [← hrw] at hs hok hcb
        have hcc := chCount_spec row hok
        have hl1 := hok.1
        have hl12 := hok.2.1
        have hidx : (row.length : Int) - 1 = ((row.length - 1 : Nat) : Int) := by omega
        have hpr : p row = decide (row.getD (row.length - 1) 0 = m) := by rw [hpd]
        generalize tyS R p k = a at *
        generalize tyCnt row = b at *
        by_cases hp : row.getD (row.length - 1) 0 = m
        · rw [hpr, if_pos (decide_eq_true hp)] at hs
          repeat (first | (refine step_ops ?_; (first | (refine m_lss rfl rfl ?_) | (refine m_idx1_ro rfl rfl ?_ ?_; (· omega)))) | refine end_ops ?_ | refine seq_ops ?_ | (refine cond_t rfl ?_ ?_; (· first | rfl | assumption | (refine decide_eq_true ?_; first | assumption | omega) | (refine nt ?_; first | assumption | omega) | (simp [*]; done))) | refine skip_then ?_ | refine AW_seq ?_ | refine AW_block ?_)
          refine step_ops ?_
          refine m_ld_rp rfl (rowT_at hc) ?_
          rw [← hrw]
          repeat (first | (refine step_ops ?_; (first | (refine m_mov (by conv => lhs; whnf) ?_) | (refine m_eql rfl rfl ?_) | (refine m_sub rfl rfl ?_ ?_ ?_; (· omega); (· omega)) | (refine m_len_ro rfl ?_) | (apply m_idx1_roj; (· rfl); (· rfl); (· assumption); (· omega)) | (refine m_ld_rpi rfl ?_ ?_; (· omega)))) | refine end_ops ?_ | refine seq_ops ?_ | refine AW_ops ?_ | (refine cond_t rfl ?_ ?_; (· first | rfl | assumption | (refine decide_eq_true ?_; first | assumption | omega) | (refine nt ?_; first | assumption | omega) | (simp [*]; done))))
          rw [hidx]
          skip
          (refine step_ops ?_); (apply m_call (hcc)); (· repeat (first | exact lends_nil | (refine lends_cons ?_ ?_; (· (refine lend_ints ?_; first | rfl | omega)))))
          repeat (first | (refine step_ops ?_; (first | (refine m_mov (by conv => lhs; whnf) ?_) | (refine m_add rfl rfl ?_ ?_ ?_; (· omega); (· omega)))) | refine end_ops ?_ | refine AW_ops ?_ | refine norm_then ?_ | refine norm_block ?_)
          refine next_round (k + 1) (by omega) (weak_st ?_ ?_ rfl rfl) ?_
          · rw [hs]
            (repeat' (first | exact trivial | refine And.intro ?_ ?_)) <;> (first | rfl | skip)
          · trivial
          · omega
        · rw [hpr, if_neg fun h => hp (of_decide_eq_true h), Int.add_zero] at hs
          repeat (first | (refine step_ops ?_; (first | (refine m_lss rfl rfl ?_) | (refine m_idx1_ro rfl rfl ?_ ?_; (· omega)))) | refine end_ops ?_ | refine seq_ops ?_ | (refine cond_t rfl ?_ ?_; (· first | rfl | assumption | (refine decide_eq_true ?_; first | assumption | omega) | (refine nt ?_; first | assumption | omega) | (simp [*]; done))) | refine skip_then ?_ | refine AW_seq ?_ | refine AW_block ?_)
          refine step_ops ?_
          refine m_ld_rp rfl (rowT_at hc) ?_
          rw [← hrw]
          repeat (first | (refine step_ops ?_; (first | (refine m_mov (by conv => lhs; whnf) ?_) | (refine m_eql rfl rfl ?_) | (refine m_add rfl rfl ?_ ?_ ?_; (· omega); (· omega)) | (refine m_sub rfl rfl ?_ ?_ ?_; (· omega); (· omega)) | (refine m_len_ro rfl ?_) | (apply m_idx1_roj; (· rfl); (· rfl); (· assumption); (· omega)) | (refine m_ld_rpi rfl ?_ ?_; (· omega)))) | refine end_ops ?_ | refine seq_ops ?_ | refine AW_ops ?_ | (refine cond_f rfl ?_ ?_; (· first | rfl | assumption | (refine decide_eq_false ?_; first | assumption | omega) | (refine nf ?_; first | assumption | omega) | (simp [*]; done))) | refine norm_then ?_ | refine norm_block ?_ | refine AW_skip ?_)
          rw [hidx]
          skip
          refine next_round (k + 1) (by omega) (weak_st ?_ ?_ rfl rfl) ?_
          · rw [hs]
            (repeat' (first | exact trivial | refine And.intro ?_ ?_)) <;> (first | rfl | skip)
          · trivial
          · omega
      · obtain rfl : k = R.length := by omega
        repeat (first | (refine step_ops ?_; (first | (refine m_mov (by conv => lhs; whnf) ?_) | (refine m_lss rfl rfl ?_))) | refine end_ops ?_ | refine seq_ops ?_ | (refine cond_f rfl ?_ ?_; (· first | rfl | assumption | (refine decide_eq_false ?_; first | assumption | omega) | (refine nf ?_; first | assumption | omega) | (simp [*]; done))) | refine AW_seq ?_ | refine AW_ret ?_ | refine ret_done ?_ | refine norm_then ?_ | refine exit_then ?_ | refine exit_round ?_ | refine AW_exit ?_ | refine exit_block ?_)
        exact outs_tup2 (outs_i rfl) (outs_b (decide_eq_true h).symm)
    · have h : ¬ LoOk g m := fun hh => h2 hh.2
      have e : csR g m = _ := if_neg h
      rw [e]
      repeat (first | (refine step_ops ?_; (refine m_mov (by conv => lhs; whnf) ?_)) | refine end_ops ?_ | refine seq_ops ?_ | refine AW_seq ?_)
      (refine step_ops ?_); (apply m_call (exGuests_spec _)); (· repeat (first | exact lends_nil | (refine lends_cons ?_ ?_; (· exact lend_v))))
      repeat (refine step_ops ?_; ((try (refine g_yes rfl ?_ ?_; (· first | rfl | assumption | (refine decide_eq_true ?_; first | assumption | omega) | (refine nt ?_; first | assumption | omega) | (simp [*]; done) | (refine decide_eq_false ?_; first | assumption | omega) | (refine nf ?_; first | assumption | omega)))); (first | (refine m_mov (by conv => lhs; whnf) ?_) | (refine m_not rfl ?_))))
      (refine step_ops ?_); (refine g_yes rfl ?_ ?_; (· first | (first | rfl | assumption | (refine decide_eq_true ?_; first | assumption | omega) | (refine nt ?_; first | assumption | omega) | (simp [*]; done)) | (first | rfl | assumption | (refine decide_eq_false ?_; first | assumption | omega) | (refine nf ?_; first | assumption | omega) | (simp [*]; done))); (apply m_call (l1In_spec _ _ _))); (· repeat (first | exact lends_nil | (refine lends_cons ?_ ?_; (· exact lend_v))))
      repeat (first | (refine step_ops ?_; ((try (refine g_yes rfl ?_ ?_; (· first | rfl | assumption | (refine decide_eq_true ?_; first | assumption | omega) | (refine nt ?_; first | assumption | omega) | (simp [*]; done) | (refine decide_eq_false ?_; first | assumption | omega) | (refine nf ?_; first | assumption | omega)))); (first | (refine m_mov (by conv => lhs; whnf) ?_) | (refine m_not rfl ?_) | (refine m_pick_f rfl ?_ (by conv => lhs; whnf) ?_; (· first | rfl | assumption | (refine decide_eq_false ?_; first | assumption | omega) | (refine nf ?_; first | assumption | omega) | (simp [*]; done)))))) | refine end_ops ?_ | refine seq_ops ?_ | (refine cond_t rfl ?_ ?_; (· first | rfl | assumption | (refine decide_eq_true ?_; first | assumption | omega) | (refine nt ?_; first | assumption | omega) | (simp [*]; done))) | refine AW_ret ?_ | refine ret_done ?_ | refine ret_then ?_)
      exact outs_tup2 (outs_i rfl) (outs_b (decide_eq_false h).symm)
  · have h : ¬ LoOk g m := fun hh => h1 hh.1
    have e : csR g m = _ := if_neg h
    rw [e]
    repeat (first | (refine step_ops ?_; (refine m_mov (by conv => lhs; whnf) ?_)) | refine end_ops ?_ | refine seq_ops ?_ | refine AW_seq ?_)
    (refine step_ops ?_); (apply m_call (exGuests_spec _)); (· repeat (first | exact lends_nil | (refine lends_cons ?_ ?_; (· exact lend_v))))
    repeat (first | (refine step_ops ?_; (first | (first | (refine m_mov (by conv => lhs; whnf) ?_) | (refine m_not rfl ?_) | (refine m_pick_t rfl ?_ (by conv => lhs; whnf) ?_; (· first | rfl | assumption | (refine decide_eq_true ?_; first | assumption | omega) | (refine nt ?_; first | assumption | omega) | (simp [*]; done)))) | (refine g_noF rfl ?_ ?_; (· first | rfl | assumption | (refine decide_eq_true ?_; first | assumption | omega) | (refine nt ?_; first | assumption | omega) | (simp [*]; done))))) | refine end_ops ?_ | refine seq_ops ?_ | (refine cond_t rfl ?_ ?_; (· first | rfl | assumption | (refine decide_eq_true ?_; first | assumption | omega) | (refine nt ?_; first | assumption | omega) | (simp [*]; done))) | refine AW_ret ?_ | refine ret_done ?_ | refine ret_then ?_)
    exact outs_tup2 (outs_i rfl) (outs_b (decide_eq_false h).symm)
def ctR (K : List Int) : Int := if TyOk K then tyCnt K else 0
def ctTup (K : List Int) : AV := .tup [.i (ctR K), .b (decide (TyOk K))]
def tpRes (g : Int) : List (List Int) := if 1 ≤ g ∧ g ≤ 12 then tyAll g.toNat g.toNat else []
theorem specTypesOf_spec (g : Int) : SpH Try.prog 8 [.i g] (fun _ => none) (.tup [.sl nbase 1 0 (tpRes g).length, .v (.bool (decide (1 ≤ g ∧ g ≤ 12)))]) (matO (tpRes g)) := by
  have hpb : pbase = 4000000 := rfl
  refine specH_of Try.func8 rfl cc8 rfl (by first | exact static_mat1 _ | exact static_mat2 _ _ | assumption) ?_
  unfold ac8
  by_cases h : 1 ≤ g ∧ g ≤ 12
  · have e : tpRes g = _ := if_pos h
    rw [e]
    obtain ⟨n, rfl⟩ := Int.eq_ofNat_of_zero_le (show 0 ≤ g by omega)
    rw [Int.toNat_natCast]
    have hall := chAll_spec n (by omega) n (by omega)
    have hRl := tyAll_len (s := n) (m := n) (by omega) (by omega)
    rw [decide_eq_true h]
    generalize tyAll n n = R at *
    have hrl := rowsC_len 1000 R
    repeat (first | (refine step_ops ?_; (first | (refine m_mov (by conv => lhs; whnf) ?_) | (refine m_nils ?_))) | refine end_ops ?_ | refine seq_ops ?_ | refine AW_seq ?_)
    (refine step_ops ?_); (apply m_call (exGuests_spec _)); (· repeat (first | exact lends_nil | (refine lends_cons ?_ ?_; (· exact lend_v))))
    repeat (first | (refine step_ops ?_; (first | (refine m_mov (by conv => lhs; whnf) ?_) | (refine m_not rfl ?_))) | refine end_ops ?_ | refine seq_ops ?_ | (refine cond_f rfl ?_ ?_; (· first | rfl | assumption | (refine decide_eq_false ?_; first | assumption | omega) | (refine nf ?_; first | assumption | omega) | (simp [*]; done))) | refine skip_then ?_)
    refine step_ops ?_
    refine m_callM 9 1000 hall ?_ rfl (by omega) (by omega) (by omega) rfl ?_ ?_
    · exact lends_cons lend_v (lends_cons lend_v lends_nil)
    · intro j hj
      simp (disch := omega) only [hp_put, hp_mem_ne, hp_kill_ne]
      rfl
    repeat (first | (refine step_ops ?_; (refine m_mov (by conv => lhs; whnf) ?_)) | refine end_ops ?_ | refine AW_ret ?_)
    refine ret_mat (r0 := 9) (b := 1000) (by omega) (by omega) (by omega) rfl rfl ?_
    intro j hj
    simp only [hp_put]
    refine addM_row (by omega) ?_ hj
    simp (disch := omega) only [hp_put, hp_mem_ne, hp_kill_ne]
    rfl
  · have e : tpRes g = _ := if_neg h
    rw [e]
    rw [decide_eq_false h]
    repeat (first | (refine step_ops ?_; (first | (refine m_mov (by conv => lhs; whnf) ?_) | (refine m_nils ?_))) | refine end_ops ?_ | refine seq_ops ?_ | refine AW_seq ?_)
    (refine step_ops ?_); (apply m_call (exGuests_spec _)); (· repeat (first | exact lends_nil | (refine lends_cons ?_ ?_; (· exact lend_v))))
    repeat (first | (refine step_ops ?_; (first | (refine m_mov (by conv => lhs; whnf) ?_) | (refine m_not rfl ?_) | (refine m_nils ?_))) | refine end_ops ?_ | refine seq_ops ?_ | (refine cond_t rfl ?_ ?_; (· first | rfl | assumption | (refine decide_eq_true ?_; first | assumption | omega) | (refine nt ?_; first | assumption | omega) | (simp [*]; done))) | refine AW_ret ?_ | refine ret_then ?_)
    exact ret_mat0 (r0 := 2) (by omega) rfl rfl
end Go.Proofs.Ytmckfjnbbfdepaa
namespace Go.Am
variable [Go.Am.CodeBlk]
variable {P : Program} {own : Bool} {d : Option Nat} {s : AS} {K : AS → Prop} {N : Nat}
/-- An operation, something being forgotten first. -/
theorem step_opsW {o : AOper} {l : List AOper} {s' : AS} {Q : AS → Prop} (hw : Weak s s') (h : aop1 P own o s' fun s' => aops P own l s' Q) : aops P own (o :: l) s Q := ⟨s', hw, h⟩

/- Results of which some lie in cells. -/
end Go.Am
namespace Go.Am
variable [Go.Am.CodeBlk]
variable {P : Program} {own : Bool} {N : Nat} {s : AS} {K : AS → Prop} {d : Option Nat}
theorem look_isSome {β : Type} {l : List (Nat × β)} {t : Nat} : (look l t).isSome = true ↔ t ∈ l.map (·.1) := by
  induction l with
  | nil => simp [look]
  | cons p l ih =>
    obtain ⟨k, x⟩ := p
    simp only [look, List.map_cons, List.mem_cons]
    by_cases e : t = k
    · simp [e]
    · rw [if_neg e, ih]; simp [e]
theorem look_inj {g : Nat → Nat} : ∀ {l : List (Nat × (Bool × List AV))} {r r' : Nat}, (l.map fun p => g p.1).Nodup → r ∈ l.map (·.1) → r' ∈ l.map (·.1) → g r = g r' → r = r'
  | [], _, _, _, h, _, _ => by simp at h
  | (k, x) :: l, r, r', hn, h1, h2, e => by
    simp only [List.map_cons, List.nodup_cons, List.mem_cons] at hn h1 h2
    have key : ∀ q, q ∈ l.map (·.1) → g q ∈ l.map fun p => g p.1 := fun q hq => by
      obtain ⟨p, hp, rfl⟩ := List.mem_map.1 hq
      exact List.mem_map.2 ⟨p, hp, rfl⟩
    rcases h1 with rfl | h1
    · rcases h2 with rfl | h2
      · rfl
      · exact absurd (e ▸ key _ h2) hn.1
    · rcases h2 with rfl | h2
      · exact absurd (e ▸ key _ h1) hn.1
      · exact look_inj hn.2 h1 h2 e
/-- Each region of a list is there, under its name. -/
def HasI (s : AS) (g : Nat → Nat) : List (Nat × (Bool × List AV)) → Prop
  | [] => True
  | (r, c) :: l => s.hp (g r) = some (renR g c) ∧ HasI s g l
def HasO (s : AS) (g : Nat → Nat) : List (Nat × (Bool × List AV)) → Prop
  | [] => True
  | (r, c) :: l => (∃ c0, s.hp (g r) = some c0 ∧ (c0 = renR g c ∨ (c.2 = [] ∧ c0.2 = []))) ∧ HasO s g l
theorem HasI.all {g : Nat → Nat} : ∀ {l : List (Nat × (Bool × List AV))}, HasI s g l → ∀ p ∈ l, s.hp (g p.1) = some (renR g p.2)
  | [], _, _, hp => by simp at hp
  | _ :: _, h, p, hp => by
    rcases List.mem_cons.1 hp with rfl | hp
    · exact h.1
    · exact HasI.all h.2 p hp
theorem HasO.all {g : Nat → Nat} : ∀ {l : List (Nat × (Bool × List AV))}, HasO s g l → ∀ p ∈ l, ∃ c0, s.hp (g p.1) = some c0 ∧ (c0 = renR g p.2 ∨ (p.2.2 = [] ∧ c0.2 = []))
  | [], _, _, hp => by simp at hp
  | _ :: _, h, p, hp => by
    rcases List.mem_cons.1 hp with rfl | hp
    · exact h.1
    · exact HasO.all h.2 p hp
/-- What is asked of such lists. -/
theorem static_R {hl ho : List (Nat × (Bool × List AV))} {res : AV} (h1 : ∀ p ∈ hl, pbase ≤ p.1) (h2 : ∀ p ∈ ho, ownL false p.2.2 = true ∧ refsL (fun r => (look ho r).isSome) p.2.2 = true) (h3 : ownV false res = true ∧ refsV (fun r => (look ho r).isSome) res = true) : Static (look hl) res (look ho) :=
  ⟨fun r hr => by
    obtain ⟨p, hp, rfl⟩ := List.mem_map.1 (look_isSome.1 hr)
    exact h1 p hp, fun r c hc => h2 _ (look_mem hc), h3⟩
/-- The end of such a function. -/
theorem ret_R {ts : List Nat} {res : AV} {hl ho : List (Nat × (Bool × List AV))} (g : Nat → Nat) (h1 : resAV s ts = renV g res) (hO : HasO s g ho) (h3 : ∀ p ∈ hl, g p.1 = p.1 ∧ p.1 ∈ ho.map (·.1))
    (h4 : ∀ p ∈ ho, p.1 ∈ hl.map (·.1) ∨ g p.1 < pbase) (h5 : (ho.map fun p => g p.1).Nodup) : DoneH ts res (look hl) (look ho) .ret s := by
  have h2 := hO.all
  refine ret_doneh g h1 (fun r c hc => h2 _ (look_mem hc)) (fun r hr => ?_) (fun r hr hn => ?_) fun r r' a b e => look_inj h5 (look_isSome.1 a) (look_isSome.1 b) e
  · obtain ⟨p, hp, rfl⟩ := List.mem_map.1 (look_isSome.1 hr)
    exact ⟨(h3 p hp).1, look_isSome.2 (h3 p hp).2⟩
  · obtain ⟨p, hp, rfl⟩ := List.mem_map.1 (look_isSome.1 hr)
    rcases h4 p hp with k | k
    · have := look_isSome.2 k
      rw [hn] at this
      cases this
    · exact k
/-- Regions under other names; cells that lead nowhere stay asx they are. -/
def HasJ (s : AS) (f : Nat → Nat) : List (Nat × (Bool × List AV)) → Prop
  | [] => True
  | (r, (true, cs)) :: l => s.hp (f r) = some (true, cs) ∧ HasJ s f l
  | (r, (false, cs)) :: l => s.hp (f r) = some (false, renL f cs) ∧ HasJ s f l
theorem HasJ.at {f : Nat → Nat} : ∀ {h : List (Nat × (Bool × List AV))} {r : Nat} {c : Bool × List AV}, HasJ s f h → (r, c) ∈ h → ∃ c0, s.hp (f r) = some c0 ∧ cellsRen f c0 c
  | [], _, _, _, hm => by simp at hm
  | (k, (true, cs)) :: l, r, c, h, hm => by
    rcases List.mem_cons.1 hm with e | hm
    · cases e; exact ⟨_, h.1, .inl ⟨rfl, rfl⟩⟩
    · exact HasJ.at h.2 hm
  | (k, (false, cs)) :: l, r, c, h, hm => by
    rcases List.mem_cons.1 hm with e | hm
    · cases e; exact ⟨_, h.1, .inr ⟨rfl, .inl rfl⟩⟩
    · exact HasJ.at h.2 hm
end Go.Am
namespace Go.Am
variable [Go.Am.CodeBlk]
mutual
/-- Exact values, and slices and pointers that are read, all through. -/
def readV : AV → Bool
  | .v _ => true
  | .ro fr _ cs _ => !fr && readL cs
  | .rp cs => readL cs
  | .any => false
  | .sl _ _ _ _ => false
  | .pt _ _ => false
  | .agg _ => false
  | .tup _ => false
  | .mp _ => false
  | .itr _ => false
  | .ob _ => false
  | .fn _ _ _ => false
  | .rmp _ _ _ => false
  | .fu _ _ _ => false
  | .mit _ _ _ _ _ => false
def readL : List AV → Bool
  | [] => true
  | a :: l => readV a && readL l
end
mutual
theorem SimV.read : ∀ (x : AV) (C D : Ctx) (y : Value), readV x = true → D.heap = C.heap → (∀ b, C.ro b → D.ro b) → SimV x C y → SimV x D y
  | .v _, _, _, _, _, _, _, h => by simpa only [SimV] using h
  | .ro fr z cs n, C, D, y, hr, hh, hro, h => by
    simp only [readV, Bool.and_eq_true, Bool.not_eq_true'] at hr
    simp only [SimV] at h ⊢
    rcases h with h | ⟨b, o, cap, cur, e, fz, h1, h2, h3, h4, h5, h6, h7⟩
    · exact .inl h
    · exact .inr ⟨b, o, cap, cur, e, fz, h1, by rw [hh]; exact h2, hro b h3, h4, h5, (fun e => by rw [hr.1] at e; cases e), SimL.read cs C.out D.out _ hr.2 hh hro h7⟩
  | .rp cs, C, D, y, hr, hh, hro, h => by
    simp only [readV] at hr
    simp only [SimV] at h ⊢
    obtain ⟨b, o, cur, e, fz, h1, h2, h3, h4⟩ := h
    exact ⟨b, o, cur, e, fz, h1, by rw [hh]; exact h2, hro b h3, SimL.read cs C.out D.out _ hr hh hro h4⟩
  | .any, _, _, _, hr, _, _, _ => by simp [readV] at hr
  | .sl _ _ _ _, _, _, _, hr, _, _, _ => by simp [readV] at hr
  | .pt _ _, _, _, _, hr, _, _, _ => by simp [readV] at hr
  | .agg _, _, _, _, hr, _, _, _ => by simp [readV] at hr
  | .tup _, _, _, _, hr, _, _, _ => by simp [readV] at hr
  | .mp _, _, _, _, hr, _, _, _ => by simp [readV] at hr
  | .itr _, _, _, _, hr, _, _, _ => by simp [readV] at hr
  | .ob _, _, _, _, hr, _, _, _ => by simp [readV] at hr
  | .fn _ _ _, _, _, _, hr, _, _, _ => by simp [readV] at hr
  | .rmp _ _ _, _, _, _, hr, _, _, _ => by simp [readV] at hr
  | .fu _ _ _, _, _, _, hr, _, _, _ => by simp [readV] at hr
  | .mit _ _ _ _ _, _, _, _, hr, _, _, _ => by simp [readV] at hr
theorem SimL.read : ∀ (l : List AV) (C D : Ctx) (ys : List Value), readL l = true → D.heap = C.heap → (∀ b, C.ro b → D.ro b) → SimL l C ys → SimL l D ys
  | [], _, _, _, _, _, _, _ => by simp [SimL]
  | _ :: _, _, _, [], _, _, _, h => by simp [SimL] at h
  | a :: l, C, D, y :: ys, hr, hh, hro, h => by
    simp only [readL, Bool.and_eq_true] at hr
    simp only [SimL] at h ⊢
    exact ⟨SimV.read a C D y hr.1 hh hro h.1, SimL.read l C D ys hr.2 hh hro h.2⟩
end
end Go.Am
namespace Go.Am
variable [Go.Am.CodeBlk]
variable {P : Program} {own : Bool} {N : Nat} {s : AS} {K : AS → Prop} {d : Option Nat}
/-- The end of a function that is given regions. -/
def DoneT (ts : List Nat) (res : AV) (hin hout : Hp) : Exit → AS → Prop
  | .normal, s | .ret, s => ∃ g : Nat → Nat, resAV s ts = renV g res ∧ (∀ r c, hout r = some c → ∃ c0, s.hp (g r) = some c0 ∧ (c0 = renR g c ∨ (c.2 = [] ∧ c0.2 = []))) ∧ (∀ r, (hin r).isSome = true → r < gvb → g r = r ∧ (hout r).isSome = true) ∧
      (∀ r, (hout r).isSome = true → hin r = none → g r < pbase) ∧ (∀ r r', (hout r).isSome = true → (hout r').isSome = true → g r = g r' → r = r') ∧ ∀ r, (hout r).isSome = true → r < gvb
  | _, _ => False
theorem specT_of {f : FuncId} {fn : Func} {code : Code} {ac : ACode} {ts : List Nat} {asx : List AV} {hin hout : Hp} {res : AV} (hf : P.funcs[f]? = some fn) (hb : fn.body = some code) (hc : ccode P (min fn.ntmps pbase) code = some ac) (hr : resTmps fn = some ts)
    (hst : Static hin res hout) (s0 : AS) (hw : Weak (enterH asx hin) s0) (h : AW P (min fn.ntmps pbase) ac s0 (DoneT ts res hin hout)) : SpG P f asx hin res hout := by
  intro w vs phi hg hgb hinj hregs hs hl
  refine calls_of_wp hf hb (wp_mono (AW_weak hw h code hc w _ _ w ⟨rfl, _, _, enterH_sim hg hgb hst.pb hinj hregs hs hl⟩) fun e a' w' hA => ?_)
  obtain ⟨s', h1, hf', phi', ro, hS⟩ := hA
  have fin : (∃ g : Nat → Nat, resAV s' ts = renV g res ∧ (∀ r c, hout r = some c → ∃ c0, s'.hp (g r) = some c0 ∧ (c0 = renR g c ∨ (c.2 = [] ∧ c0.2 = []))) ∧ (∀ r, (hin r).isSome = true → r < gvb → g r = r ∧ (hout r).isSome = true) ∧
      (∀ r, (hout r).isSome = true → hin r = none → g r < pbase) ∧ (∀ r r', (hout r).isSome = true → (hout r').isSome = true → g r = g r' → r = r') ∧ ∀ r, (hout r).isSome = true → r < gvb) → a'.defers = [] ∧ ∃ v, (results fn a'.tmps).run P w' = .ok v w' ∧
      ∃ v' phi', Ending.returned v = .returned v' ∧ w'.os = w.os ∧ w'.tape = w.tape ∧ w'.output = w.output ∧ w.heap.size ≤ w'.heap.size ∧
      (∀ r, (hin r).isSome = true → r < gvb → phi' r = phi r) ∧ (∀ b, b < w.heap.size → (∀ r, (hin r).isSome = true → phi r ≠ some b) → w'.heap[b]? = w.heap[b]?) ∧
      (∀ (b : Nat) (cur : Array Value) (e : TypeId) (f : Nat × Nat), w.heap[b]? = some (.cells cur e f) → ∃ cur' : Array Value, w'.heap[b]? = some (.cells cur' e f) ∧ cur'.size = cur.size) ∧
      Inj hout phi' ∧ (∀ r b, (hout r).isSome = true → hin r = none → phi' r = some b → w.heap.size ≤ b ∨ ∃ r', gvb ≤ r' ∧ (hin r').isSome = true ∧ phi r' = some b) ∧ Regs (ctxX w w' phi' hout) hout ∧ SimV res (ctxX w w' phi' hout) v' := by
    rintro ⟨g, hres, hhas, hstay, hfresh, hgi, hltg⟩
    have hlv : ∀ r, (hout r).isSome = true → (s'.hp (g r)).isSome = true := by
      intro r hr
      obtain ⟨c, hc⟩ := Option.isSome_iff_exists.1 hr
      obtain ⟨c0, h1, _⟩ := hhas r c hc
      rw [h1]; rfl
    have hvt : SimV (resAV s' ts) (ctx w w' ro phi' s') (resVal a'.tmps ts) := simv_res hS ts
    rw [hres] at hvt
    refine ⟨hf', _, run_results hr a'.tmps w' P, _, fun r => phi' (g r), rfl, hS.os, hS.tape, hS.output, hS.size, fun r hr hlt => ?_, fun b hb hne => hS.kept b hb fun r hr => ?_, hS.shp, ?_, ?_, ?_, ?_⟩
    · obtain ⟨e1, e2⟩ := hstay r hr hlt
      obtain ⟨c, hc⟩ := Option.isSome_iff_exists.1 e2
      obtain ⟨c0, hh, _⟩ := hhas r c hc
      rw [e1] at hh
      show phi' (g r) = phi r
      rw [e1]
      rcases hS.liv r _ hh with ⟨k1, _, k3⟩ | ⟨b, cur, e', k1, _, _, k4, _⟩ | ⟨b, o, _, k1, _, _, _, k4⟩
      case inr.inr =>
        rcases k4 with k4 | k4
        · have := hst.pb r hr; omega
        · have k5 := k4.2
          simp only [hr, if_true] at k5
          rw [k1, k5]
      · have k5 := k3 (hst.pb r hr)
        simp only [hr, if_true] at k5
        rw [k1, k5]
      · rcases k4 with k4 | k4
        · have := hst.pb r hr; omega
        · have k5 := k4.2
          simp only [hr, if_true] at k5
          rw [k1, k5]
    · split at hr
      · rename_i hrs; exact hne r hrs hr
      · cases hr
    · intro r r' b h1 h2 h3 h4
      exact hgi r r' h1 h2 (hS.inj _ _ b (hlv r h1) (hlv r' h2) h3 h4)
    · intro r b h1 h2 h3
      obtain ⟨c, hc⟩ := Option.isSome_iff_exists.1 h1
      have hlt := hfresh r h1 h2
      obtain ⟨c0, hh0, _⟩ := hhas r c hc
      have key : Mine w (fun r => if (hin r).isSome = true then phi r else none) b → w.heap.size ≤ b ∨ ∃ r', gvb ≤ r' ∧ (hin r').isSome = true ∧ phi r' = some b := by
        rintro (k | ⟨r', k1, k2⟩)
        · exact .inl k
        · by_cases hi : (hin r').isSome = true
          · simp only [hi, if_true] at k2
            exact .inr ⟨r', k1, hi, k2⟩
          · simp only [hi, Bool.false_eq_true, if_false] at k2
            cases k2
      rcases hS.liv _ _ hh0 with ⟨k1, _⟩ | ⟨b', _, _, k1, _, _, k4, _⟩ | ⟨b', _, _, k1, _, _, _, k4⟩
      · have h3' : phi' (g r) = some b := h3
        rw [k1] at h3'; cases h3'
      case inr.inr =>
        have h3' : phi' (g r) = some b := h3
        rw [k1] at h3'; cases h3'
        rcases k4 with k4 | k4
        · exact key k4.2
        · omega
      · have h3' : phi' (g r) = some b := h3
        rw [k1] at h3'; cases h3'
        rcases k4 with k4 | k4
        · exact key k4.2
        · omega
    · intro r c hc
      obtain ⟨ho, hrf⟩ := hst.own r c hc
      obtain ⟨c0, hh0, hc0⟩ := hhas r c hc
      rcases hS.liv _ _ hh0 with ⟨k1, k2, _⟩ | ⟨b, cur, e', k1, k2, _, _, k5⟩ | ⟨b, o, h0, k1, k2, k3, _⟩
      case inr.inr =>
        rcases hc0 with rfl | hc0
        · exact .inr (.inr ⟨b, o, renR_ob h0, k1, k2, k3⟩)
        · rw [h0] at hc0; simp at hc0
      · refine .inl ⟨k1, ?_⟩
        rcases hc0 with rfl | hc0
        · obtain ⟨fl, cs⟩ := c
          simp only [renR, renL_map] at k2
          exact List.map_eq_nil_iff.1 k2
        · exact hc0.1
      · rcases hc0 with rfl | hc0
        case inr => exact .inr (.inl ⟨b, cur, e', k1, k2, by unfold SimR; rw [hc0.1]; simp [SimL]⟩)
        refine .inr (.inl ?_)
        exact ⟨b, cur, e', k1, k2, simR_in (q := false) (C := ctxX w w' (fun r => phi' (g r)) hout) (D := ctx w w' ro phi' s') rfl (fun e => by cases e) (fun _ => rfl) (fun _ r _ => rfl) ho hrf k5⟩
    · exact simV_in false g (ctxX w w' (fun r => phi' (g r)) hout) (ctx w w' ro phi' s') rfl (fun e => by cases e) (fun _ => rfl) (fun _ r _ => rfl) res _ hst.res.1 hst.res.2 hvt
  cases e with
  | normal => exact fin h1
  | ret => exact fin h1
  | exit id => exact h1.elim
  | goto l => exact h1.elim
  | panic c => exact h1.elim
  | outgrown => exact h1.elim
theorem m_callvG {f : FuncId} {x : Opd} {fl : List AV} {kk : Nat} {args : List Opd} {asx : List AV} {hin hout hp' : Hp} {res : AV} (g : Nat → Nat) (p : Nat → Bool) (hx : s.ev x = .fn f fl kk) (hcb : Callable P f) (hs : SpG P f asx hin res hout)
    (ha : LendsH s.hp g hin (fl.take kk ++ args.map s.ev ++ fl.drop kk) asx) (hG : Given s p g hin hout hp' res)
    (k : K (AS.put ⟨(s.drop p).tm, hp'⟩ d (renV g res))) : aop1 P true ⟨d, .callv x args, none⟩ s K := .inr ⟨f, fl, kk, hx, hcb, .inr (.inr (.inr (.inl ⟨rfl, asx, hin, res, hout, g, p, hp', hs, ha, hG, k⟩)))⟩
/-- Names on both sides of forgetting; what was given may become a region of the call's own. -/
def nameOk (r q : Nat) : Prop := (r < pbase ∧ q < pbase) ∨ (pbase ≤ r ∧ q = r) ∨ (r < pbase ∧ gvb ≤ q)
/-- THE RULE OF FORGETTING, where what was given becomes the call's own. -/
theorem weak_ren3 {s s' : AS} (f : Nat → Nat) (htm : ∀ t, s'.tm t = .any ∨ s.tm t = renV f (s'.tm t)) (hhp : ∀ r c', s'.hp r = some c' → ∃ c, s.hp (f r) = some c ∧ cellsRen f c c')
    (hinj : ∀ r r', (s'.hp r).isSome = true → (s'.hp r').isSome = true → f r = f r' → r = r') (hpb : ∀ r, (s'.hp r).isSome = true → nameOk r (f r))
    (href : ∀ t, refsV (fun r => (s'.hp r).isSome) (s'.tm t) = true) (hrefh : ∀ r cs, s'.hp r = some (false, cs) → refsL (fun r => (s'.hp r).isSome) cs = true) : Weak s s' := by
  intro w0 mu N a w hS
  obtain ⟨hf, phi, ro, hS⟩ := hS
  have hlive : ∀ r, (s'.hp r).isSome = true → (s.hp (f r)).isSome = true := by
    intro r hr
    obtain ⟨c, hc⟩ := Option.isSome_iff_exists.1 hr
    obtain ⟨c0, h1, _⟩ := hhp r c hc
    rw [h1]; rfl
  have hgp : pbase ≤ gvb := by decide
  have hown : ∀ r b, nameOk r (f r) → (f r < pbase ∧ Mine w0 mu b ∨ pbase ≤ f r ∧ mu (f r) = some b) → (r < pbase ∧ Mine w0 mu b ∨ pbase ≤ r ∧ mu r = some b) := by
    intro r b hp k4
    rcases hp with ⟨h3, h4⟩ | ⟨h3, h4⟩ | ⟨h3, h4⟩
    · rcases k4 with k4 | k4
      · exact .inl ⟨h3, k4.2⟩
      · omega
    · rcases k4 with k4 | k4
      · omega
      · exact .inr ⟨h3, by rw [← h4]; exact k4.2⟩
    · rcases k4 with k4 | k4
      · omega
      · exact .inl ⟨h3, .inr ⟨_, h4, k4.2⟩⟩
  refine ⟨hf, fun r => phi (f r), ro, { hS with
    inj := fun r r' b h1 h2 h3 h4 => hinj r r' h1 h2 (hS.inj _ _ b (hlive r h1) (hlive r' h2) h3 h4)
    liv := fun r c hc => ?_
    tms := fun t => ?_ }⟩
  · obtain ⟨c0, h1, h2⟩ := hhp r c hc
    have hp := hpb r (by rw [hc]; rfl)
    rcases hS.liv _ _ h1 with ⟨k1, k2, k3⟩ | ⟨b, cur, e, k1, k2, k3, k4, k5⟩ | ⟨b, o, rfl, k1, k2, k0, k3, k4⟩
    case inr.inr =>
      refine .inr (.inr ⟨b, o, ?_, k1, k2, k0, k3, hown r b hp k4⟩)
      obtain ⟨fl, cs⟩ := c
      rcases h2 with ⟨h3, h4⟩ | ⟨h3, h4⟩
      · simp only at h3 h4
        rw [h3]; exact h4.symm
      · simp only at h3
        rcases h4 with h4 | ⟨_, h4⟩ | ⟨h4, h5⟩
        · cases h4
        · simp at h4
        · simp only [Prod.mk.injEq, true_and] at h4
          rw [← h4] at h5
          simp [plainV] at h5
    · refine .inl ⟨k1, ?_, fun hge => ?_⟩
      · rcases h2 with ⟨_, rfl⟩ | ⟨_, rfl | ⟨h3, _⟩ | ⟨rfl, _⟩⟩
        · exact k2
        · simp only [renL_map] at k2
          exact List.map_eq_nil_iff.1 k2
        · exact h3
        · exact k2
      · rcases hp with ⟨h3, _⟩ | ⟨_, h3⟩ | ⟨h3, _⟩
        · omega
        · rw [h3] at k3; exact k3 hge
        · omega
    · refine .inr (.inl ⟨b, cur, e, k1, k2, k3, hown r b hp k4, ?_⟩)
      obtain ⟨fl, cs⟩ := c
      rcases h2 with ⟨h3, h4⟩ | ⟨h3, h4⟩
      · simp only at h3 h4
        subst h3; subst h4
        simp only [SimR, if_true] at k5 ⊢
        exact simL_out_any (ctx w0 w ro phi s) (ctx w0 w ro (fun r => phi (f r)) s') rfl rfl rfl _ _ k5
      · simp only at h3 h4
        subst h3
        simp only [SimR, Bool.false_eq_true, if_false]
        rcases h4 with rfl | ⟨h5, h6⟩ | ⟨rfl, h5⟩
        · simp only [SimR, Bool.false_eq_true, if_false] at k5
          exact simL_ren f (ctx w0 w ro (fun r => phi (f r)) s') (ctx w0 w ro phi s) rfl rfl rfl rfl (fun _ _ => rfl) cs _ (hrefh r cs hc) k5
        · rw [h5]; simp [SimL]
        · simp only [SimR, if_true] at k5
          exact simL_allv h5 k5
  · rcases htm t with h1 | h1
    · rw [h1]; simp [SimV]
    · have h2 := hS.tms t
      rw [h1] at h2
      exact simV_ren f (ctx w0 w ro (fun r => phi (f r)) s') (ctx w0 w ro phi s) rfl rfl rfl rfl (fun _ _ => rfl) _ _ (href t) h2
/-- A state with regions of a finite list, and rows. -/
def stG (l : List (Nat × AV)) (h : List (Nat × (Bool × List AV))) (b : Nat) (rows : List (List Int)) : AS := ⟨fun t => (look l t).getD .any, famH (look h) b rows⟩
/-- Forgetting, to such a state. -/
theorem weak_G {l : List (Nat × AV)} {h : List (Nat × (Bool × List AV))} {b : Nat} {rows : List (List Int)} (F : Nat → Nat) (hl : HasF s F l) (hh : HasJ s F h)
    (hrow : ∀ j, j < rows.length → s.hp (F (b + j)) = some (true, (rows.getD j []).map AV.i))
    (hnd : (h.map fun p => F p.1).Nodup) (hri : ∀ j j', j < rows.length → j' < rows.length → F (b + j) = F (b + j') → j = j') (hdis : ∀ p ∈ h, ∀ j, j < rows.length → F p.1 ≠ F (b + j))
    (hpb : ∀ p ∈ h, nameOk p.1 (F p.1)) (hpr : ∀ j, j < rows.length → nameOk (b + j) (F (b + j)))
    (hr : refsT (fun r => (famH (look h) b rows r).isSome) l = true) (hrh : ∀ p ∈ h, p.2.1 = false → refsL (fun r => (famH (look h) b rows r).isSome) p.2.2 = true) : Weak s (stG l h b rows) := by
  have hcase : ∀ r, (famH (look h) b rows r).isSome = true → r ∈ h.map (·.1) ∨ ∃ j, j < rows.length ∧ r = b + j := by
    intro r hr'
    obtain ⟨c, hc⟩ := Option.isSome_iff_exists.1 hr'
    rcases famH_some hc with h1 | ⟨_, j, h2, h3, _⟩
    · exact .inl (look_isSome.1 (by rw [h1]; rfl))
    · exact .inr ⟨j, h2, h3⟩
  refine weak_ren3 F (fun t => ?_) (fun r c' hc => ?_) (fun r r' h1 h2 e => ?_) (fun r hr' => ?_) (fun t => ?_) (fun r cs hc => ?_)
  · show (look l t).getD .any = .any ∨ s.tm t = renV F ((look l t).getD .any)
    cases hx : look l t with
    | none => exact .inl rfl
    | some x => exact .inr (look_hasF hl hx)
  · rcases famH_some hc with h1 | ⟨_, j, h2, h3, h4⟩
    · exact hh.at (look_mem h1)
    · rw [h3, h4]
      exact ⟨_, hrow j h2, .inl ⟨rfl, rfl⟩⟩
  · rcases hcase r h1 with k1 | ⟨j, k1, rfl⟩
    · rcases hcase r' h2 with k2 | ⟨j', k2, rfl⟩
      · exact look_inj hnd k1 k2 e
      · obtain ⟨p, hp, rfl⟩ := List.mem_map.1 k1
        exact absurd e (hdis p hp j' k2)
    · rcases hcase r' h2 with k2 | ⟨j', k2, rfl⟩
      · obtain ⟨p, hp, rfl⟩ := List.mem_map.1 k2
        exact absurd e.symm (hdis p hp j k1)
      · rw [hri j j' k1 k2 e]
  · rcases hcase r hr' with k1 | ⟨j, k1, rfl⟩
    · obtain ⟨p, hp, rfl⟩ := List.mem_map.1 k1
      exact hpb p hp
    · exact hpr j k1
  · show refsV (fun r => (famH (look h) b rows r).isSome) ((look l t).getD .any) = true
    cases hx : look l t with
    | none => rfl
    | some x => exact look_refs hr hx
  · rcases famH_some hc with h1 | ⟨_, j, _, _, h4⟩
    · exact hrh _ (look_mem h1) rfl
    · cases h4
/-- What a value is to a callee that is lent regions under the names g. -/
def LendH1 (hp : Hp) (g : Nat → Nat) (hin : Hp) (x y : AV) : Prop := ∀ w0 mu N tm w phi ro v, Sim w0 mu N ⟨fun _ => .any, hp⟩ tm w phi ro → SimV x (ctx w0 w ro phi ⟨fun _ => .any, hp⟩) v → SimV y (ctxE w (fun r => phi (g r)) hin) v
theorem lendH_nil {hp : Hp} {g : Nat → Nat} {hin : Hp} : LendsH hp g hin [] [] := fun _ _ _ _ _ _ _ vs _ _ hl => ⟨by simp [SimL], hl⟩
theorem lendH_cons {hp : Hp} {g : Nat → Nat} {hin : Hp} {x y : AV} {xs ys : List AV} (h : LendH1 hp g hin x y) (hs : LendsH hp g hin xs ys) : LendsH hp g hin (x :: xs) (y :: ys) := by
  intro w0 mu N tm w phi ro vs hS hv hl
  cases vs with
  | nil => simp at hl
  | cons v vs =>
    simp only [SimL] at hv
    obtain ⟨h1, h2⟩ := hs w0 mu N tm w phi ro vs hS hv.2 (by simpa using hl)
    exact ⟨⟨h w0 mu N tm w phi ro v hS hv.1, h1⟩, by simpa using h2⟩
theorem lendH_v {hp : Hp} {g : Nat → Nat} {hin : Hp} {c : Value} : LendH1 hp g hin (.v c) (.v c) := fun _ _ _ _ _ _ _ _ _ h => by simpa [SimV] using h
/-- A block that somebody reads is not lent. -/
theorem not_lent {hp : Hp} {g : Nat → Nat} {hin : Hp} (hin1 : ∀ r c, hin r = some c → (hp (g r)).isSome = true) {w0 : World} {mu : Nat → Option Nat} {N : Nat} {tm : Array Value} {w : World} {phi : Nat → Option Nat} {ro : Nat → Prop} (hS : Sim w0 mu N ⟨fun _ => .any, hp⟩ tm w phi ro) {b : Nat} (hb : ro b) :
    b < w.heap.size ∧ ∀ r, (hin r).isSome = true → phi (g r) ≠ some b := by
  refine ⟨hS.rob b hb, fun r hr hp' => ?_⟩
  obtain ⟨c, hc⟩ := Option.isSome_iff_exists.1 hr
  obtain ⟨c', hc'⟩ := Option.isSome_iff_exists.1 (hin1 r c hc)
  rcases hS.liv _ _ hc' with ⟨h1, _⟩ | ⟨b', _, _, h1, _, h2, _⟩ | ⟨b', _, _, h1, _, _, h2, _⟩
  · rw [h1] at hp'; cases hp'
  · rw [h1] at hp'; cases hp'
    exact h2 hb
  · rw [h1] at hp'; cases hp'
    exact h2 hb
theorem lendH_ren {hp : Hp} {g : Nat → Nat} {hin : Hp} {x : AV} (hin1 : ∀ r c, hin r = some c → (hp (g r)).isSome = true) (ho : ownV true x = true) (hr : refsV (fun r => (hin r).isSome) x = true) : LendH1 hp g hin (renV g x) x := by
  intro w0 mu N tm w phi ro v hS hv
  exact simV_in true g (ctxE w (fun r => phi (g r)) hin) (ctx w0 w ro phi ⟨fun _ => .any, hp⟩) rfl (fun _ b hb => not_lent hin1 hS hb) (fun _ => rfl) (fun _ r _ => rfl) x v ho hr hv
/-- A region of mine that is not lent is read. -/
theorem lendH_sl {hp : Hp} {g : Nat → Nat} {hin : Hp} {q : Nat} {M : List Int} (hin1 : ∀ r c, hin r = some c → (hp (g r)).isSome = true) (hq : hp q = some (true, M.map AV.i)) (hne : ∀ r, (hin r).isSome = true → g r ≠ q) : LendH1 hp g hin (.sl q 1 0 M.length) (ints M) := by
  intro w0 mu N tm w phi ro v hS h
  simp only [SimV] at h ⊢
  rcases h.2.2 with ⟨h1, _, h3, h4⟩ | ⟨b, o, cap, cur, e, h1, h2, h3, h4, h5, h6, h7⟩
  · exact .inl ⟨h3, by rw [List.eq_nil_of_length_eq_zero h3]; rfl, none, 0, by rw [h4], by simp⟩
  · by_cases hn : M.length = 0
    · exact .inl ⟨hn, by rw [List.eq_nil_of_length_eq_zero hn]; rfl, some ⟨b, o, none⟩, cap, by rw [h2, hn], by simp⟩
    · have ho : o = 0 := by
        rcases h4 with h4 | h4
        · exact h4
        · exact absurd h4.1 hn
      subst ho
      have h1' : phi q = some b := h1
      have h3' : w.heap[b]? = some (.cells cur e (0, 0)) := h3
      rcases hS.liv q _ hq with ⟨h8, _⟩ | ⟨b', cur', e', h8, h9, h10, h11, h12⟩ | ⟨b', o', _, h8, h9, h10, _⟩
      · rw [h8] at h1'; cases h1'
      case inr.inr => exact ob_not_cells h8 h9 h10 h1 h3
      · rw [h8] at h1'
        cases h1'
        rw [h9] at h3'
        cases h3'
        refine .inr ⟨b, 0, cap, cur, e, (0, 0), h2, h9, ⟨lt_of_get h9, fun r hr hp' => ?_⟩, by simp, h5, by simp, ?_⟩
        · obtain ⟨c, hc⟩ := Option.isSome_iff_exists.1 hr
          exact hne r hr (hS.inj _ _ b (hin1 r c hc) (by show (hp q).isSome = true; rw [hq]; rfl) hp' h8)
        · simp only [SimR, if_true] at h12
          rw [List.drop_zero]
          exact simL_allv (allv_ints M) h12
end Go.Am
namespace Go.Proofs.Ytmckfjnbbfdepaa
variable [Go.Am.CodeBlk]
open Go.Am
attribute [local irreducible] AW Outs Weak Lends Lend Sp aops atree aop1 Then Round InBlock Done
attribute [local irreducible] SpH DoneH SpG DoneT
theorem longerBy_spec (L : List Int) (n : Int) (hL : L.length ≤ 1048576) : Sp Try.prog 69 [ints L, .i n] (newInts (L ++ [n])) := by
  refine spec_of Try.func69 rfl cc69 rfl ?_
  unfold ac69
  repeat (first | (refine step_ops ?_; (first | (refine m_mov (by conv => lhs; whnf) ?_) | (refine m_len_ro rfl ?_) | (refine m_nils ?_))) | refine end_ops ?_ | refine seq_ops ?_)
  refine step_ops ?_
  refine m_cut3 rfl rfl rfl ?_
  repeat (refine step_ops ?_; (first | (refine m_mov (by conv => lhs; whnf) ?_) | (refine m_bsl1 rfl rfl ?_)))
  refine step_ops ?_
  refine m_appf (cs := L.map AV.i) (ys := [AV.i n]) (m := 1) rfl (Elems.sl 12 0 1 true [AV.i n] rfl (by simp)) (by decide) rfl ?_ ?_ ?_
  · show L.length + 1 ≤ 9223372036854775807; omega
  · omega
  repeat (first | (refine step_ops ?_; (refine m_mov (by conv => lhs; whnf) ?_)) | refine end_ops ?_ | refine AW_ret ?_ | refine ret_done ?_)
  refine outs_ints (cs := (L ++ [n]).map AV.i) ?_ rfl (by rw [List.length_append]; rfl)
  rw [List.map_append]
  rfl
/-- How many of the last numbers are the same, and the ways to tell an exchange. -/
def ctS (K : List Int) : Nat → Int
  | 0 => 0
  | k + 1 => (if 0 < k ∧ K.getD k 0 ≠ K.getD (k - 1) 0 then 0 else ctS K k) + 1
def ctW (K : List Int) : Nat → Int
  | 0 => 1
  | k + 1 => ctW K k * (K.getD k 0 * ctS K (k + 1))
theorem ctW_bd0 : ∀ s < 13, (tyAll s 12).all (fun K => (List.range (K.length + 1)).all fun k => decide (0 ≤ ctS K k ∧ ctS K k ≤ 12 ∧ 1 ≤ ctW K k ∧ ctW K k ≤ 479001600)) = true := by decide +kernel
theorem ctW_bd {K : List Int} (h : TyOk K) {k : Nat} (hk : k ≤ K.length) : 0 ≤ ctS K k ∧ ctS K k ≤ 12 ∧ 1 ≤ ctW K k ∧ ctW K k ≤ 479001600 := of_decide_eq_true (List.all_eq_true.1 (ty_all ctW_bd0 h) k (List.mem_range.2 (by omega)))
theorem ctW_end0 : ∀ s < 13, (tyAll s 12).all (fun K => decide (fac K.sum.toNat / ctW K K.length = tyCnt K)) = true := by decide +kernel
theorem ctW_end {K : List Int} (h : TyOk K) : fac K.sum.toNat / ctW K K.length = tyCnt K := ty_eq ctW_end0 h
theorem countType_spec (K : List Int) (hK : TyOk K) : Sp Try.prog 52 [ints K] (.i (tyCnt K)) := by
  have h12 := hK.2.1
  have he := ctW_end hK
  have hsp := fun k => sum_split K (fun x hx => (hK.2.2.1 x hx).1) k
  have hsum := hK.2.2.2.1
  refine spec_of Try.func52 rfl cc52 rfl ?_
  unfold ac52
  repeat (first | (refine step_ops ?_; (first | (refine m_mov (by conv => lhs; whnf) ?_) | (refine m_len_ro rfl ?_))) | refine end_ops ?_ | refine seq_ops ?_ | refine AW_seq ?_ | refine AW_block ?_)
  refine AW_loop (α := Nat) (fun k => k ≤ K.length) (fun k => st [(0, ints K), (3, .i (K.take k).sum), (4, .i (ctS K k)), (5, .i (ctW K k)), (8, ints K), (9, .i K.length), (10, .i k)] []) (fun k => K.length - k) 0 (Nat.zero_le _) (weak_st ?_ ?_ rfl rfl) ?_
  · (repeat' (first | exact trivial | refine And.intro ?_ ?_)) <;> (first | rfl | skip)
  · trivial
  intro k hk
  have hb := ctW_bd hK hk
  have hs := hsp k
  by_cases hc : k < K.length
  · have hx := hK.2.2.1 _ (getD_mem hc)
    have hb1 := ctW_bd hK (show k + 1 ≤ K.length from hc)
    have hs1 := hsp (k + 1)
    have hts := sum_snoc' K k hc
    have hss : ctS K (k + 1) = (if 0 < k ∧ K.getD k 0 ≠ K.getD (k - 1) 0 then 0 else ctS K k) + 1 := rfl
    have hws : ctW K (k + 1) = ctW K k * (K.getD k 0 * ctS K (k + 1)) := rfl
    have hm0 : 0 ≤ K.getD k 0 * ctS K (k + 1) := Int.mul_nonneg (by omega) (by omega)
    have hm1 : K.getD k 0 * ctS K (k + 1) ≤ 12 * 12 := Int.mul_le_mul (by omega) (by omega) (by omega) (by omega)
    generalize (K.take k).sum = a at *
    generalize hS1 : ctS K (k + 1) = S1 at *
    generalize ctS K k = S0 at *
    generalize hW1 : ctW K (k + 1) = W1 at *
    generalize ctW K k = W0 at *
    generalize hm : K.getD k 0 * S1 = m at *
    by_cases g3 : k = 0
    · subst g3
      rw [if_neg (by omega)] at hss
      have g4 : ¬ ((0 : Nat) : Int) > 0 := by omega
      repeat (first | (refine step_ops ?_; (first | (first | (refine m_mov (by conv => lhs; whnf) ?_) | (refine m_lss rfl rfl ?_) | (refine m_gtr rfl rfl ?_) | (refine m_add rfl rfl ?_ ?_ ?_; (· omega); (· omega)) | (refine m_idx1_ro rfl rfl ?_ ?_; (· omega)) | (refine m_ld_rpi rfl ?_ ?_; (· omega)) | (refine m_pick_f rfl ?_ (by conv => lhs; whnf) ?_; (· first | rfl | assumption | (refine decide_eq_false ?_; first | assumption | omega) | (refine nf ?_; first | assumption | omega) | (simp [*]; done)))) | (refine g_noT rfl ?_ ?_; (· first | rfl | assumption | (refine decide_eq_false ?_; first | assumption | omega) | (refine nf ?_; first | assumption | omega) | (simp [*]; done))))) | refine end_ops ?_ | refine seq_ops ?_ | (refine cond_t rfl ?_ ?_; (· first | rfl | assumption | (refine decide_eq_true ?_; first | assumption | omega) | (refine nt ?_; first | assumption | omega) | (simp [*]; done))) | (refine cond_f rfl ?_ ?_; (· first | rfl | assumption | (refine decide_eq_false ?_; first | assumption | omega) | (refine nf ?_; first | assumption | omega) | (simp [*]; done))) | refine skip_then ?_ | refine AW_seq ?_ | refine AW_block ?_)
      have hmm := hm
      rw [hss] at hmm
      refine step_ops ?_
      refine m_mul rfl rfl (by rw [hmm]; omega) (by rw [hmm]; omega) ?_
      rw [hmm]
      refine step_ops ?_
      refine m_mul rfl rfl (by rw [← hws]; omega) (by rw [← hws]; omega) ?_
      rw [← hws]
      repeat (first | (refine step_ops ?_; (first | (refine m_mov (by conv => lhs; whnf) ?_) | (refine m_add rfl rfl ?_ ?_ ?_; (· omega); (· omega)))) | refine end_ops ?_ | refine AW_ops ?_ | refine norm_then ?_ | refine norm_block ?_)
      refine next_round (0 + 1) (by omega) (weak_st ?_ ?_ rfl rfl) ?_
      · rw [hts, hS1, hW1, hss]
        (repeat' (first | exact trivial | refine And.intro ?_ ?_)) <;> (first | rfl | skip)
      · trivial
      · omega
    · obtain ⟨k', rfl⟩ : ∃ k', k = k' + 1 := ⟨k - 1, by omega⟩
      have g4 : ((k' + 1 : Nat) : Int) > 0 := by omega
      have hidx : ((k' + 1 : Nat) : Int) - 1 = (k' : Nat) := by omega
      rw [Nat.add_sub_cancel] at hss
      by_cases g5 : K.getD (k' + 1) 0 = K.getD k' 0
      · rw [if_neg fun hh => hh.2 g5] at hss
        have g5' : ¬ K.getD (k' + 1) 0 ≠ K.getD k' 0 := fun hh => hh g5
        repeat (first | (refine step_ops ?_; ((try (refine g_yes rfl ?_ ?_; (· first | rfl | assumption | (refine decide_eq_true ?_; first | assumption | omega) | (refine nt ?_; first | assumption | omega) | (simp [*]; done) | (refine decide_eq_false ?_; first | assumption | omega) | (refine nf ?_; first | assumption | omega)))); (first | (refine m_mov (by conv => lhs; whnf) ?_) | (refine m_lss rfl rfl ?_) | (refine m_gtr rfl rfl ?_) | (refine m_neq rfl rfl ?_) | (refine m_add rfl rfl ?_ ?_ ?_; (· omega); (· omega)) | (refine m_sub rfl rfl ?_ ?_ ?_; (· omega); (· omega)) | (refine m_idx1_ro rfl rfl ?_ ?_; (· omega)) | (apply m_idx1_roj; (· rfl); (· rfl); (· assumption); (· omega)) | (refine m_ld_rpi rfl ?_ ?_; (· omega)) | (refine m_pick_t rfl ?_ (by conv => lhs; whnf) ?_; (· first | rfl | assumption | (refine decide_eq_true ?_; first | assumption | omega) | (refine nt ?_; first | assumption | omega) | (simp [*]; done)))))) | refine end_ops ?_ | refine seq_ops ?_ | (refine cond_t rfl ?_ ?_; (· first | rfl | assumption | (refine decide_eq_true ?_; first | assumption | omega) | (refine nt ?_; first | assumption | omega) | (simp [*]; done))) | (refine cond_f rfl ?_ ?_; (· first | rfl | assumption | (refine decide_eq_false ?_; first | assumption | omega) | (refine nf ?_; first | assumption | omega) | (simp [*]; done))) | refine skip_then ?_ | refine AW_seq ?_ | refine AW_block ?_)
        rw [hidx]
        skip
        have hmm := hm
        rw [hss] at hmm
        refine step_ops ?_
        refine m_mul rfl rfl (by rw [hmm]; omega) (by rw [hmm]; omega) ?_
        rw [hmm]
        refine step_ops ?_
        refine m_mul rfl rfl (by rw [← hws]; omega) (by rw [← hws]; omega) ?_
        rw [← hws]
        repeat (first | (refine step_ops ?_; (first | (refine m_mov (by conv => lhs; whnf) ?_) | (refine m_add rfl rfl ?_ ?_ ?_; (· omega); (· omega)))) | refine end_ops ?_ | refine AW_ops ?_ | refine norm_then ?_ | refine norm_block ?_)
        refine next_round (k' + 1 + 1) (by omega) (weak_st ?_ ?_ rfl rfl) ?_
        · rw [hts, hS1, hW1, hss]
          (repeat' (first | exact trivial | refine And.intro ?_ ?_)) <;> (first | rfl | skip)
        · trivial
        · omega
      · rw [if_pos ⟨by omega, g5⟩] at hss
        repeat (first | (refine step_ops ?_; ((try (refine g_yes rfl ?_ ?_; (· first | rfl | assumption | (refine decide_eq_true ?_; first | assumption | omega) | (refine nt ?_; first | assumption | omega) | (simp [*]; done) | (refine decide_eq_false ?_; first | assumption | omega) | (refine nf ?_; first | assumption | omega)))); (first | (refine m_mov (by conv => lhs; whnf) ?_) | (refine m_lss rfl rfl ?_) | (refine m_gtr rfl rfl ?_) | (refine m_neq rfl rfl ?_) | (refine m_add rfl rfl ?_ ?_ ?_; (· omega); (· omega)) | (refine m_sub rfl rfl ?_ ?_ ?_; (· omega); (· omega)) | (refine m_mul rfl rfl ?_ ?_ ?_; (· first | omega | (simp; done)); (· first | omega | (simp; done))) | (refine m_idx1_ro rfl rfl ?_ ?_; (· omega)) | (apply m_idx1_roj; (· rfl); (· rfl); (· assumption); (· omega)) | (refine m_ld_rpi rfl ?_ ?_; (· omega)) | (refine m_pick_t rfl ?_ (by conv => lhs; whnf) ?_; (· first | rfl | assumption | (refine decide_eq_true ?_; first | assumption | omega) | (refine nt ?_; first | assumption | omega) | (simp [*]; done)))))) | refine end_ops ?_ | refine seq_ops ?_ | refine AW_ops ?_ | (refine cond_t rfl ?_ ?_; (· first | rfl | assumption | (refine decide_eq_true ?_; first | assumption | omega) | (refine nt ?_; first | assumption | omega) | (simp [*]; done))) | refine skip_then ?_ | refine AW_seq ?_ | refine norm_then ?_ | refine AW_block ?_)
        rw [hidx]
        skip
        have hmm := hm
        rw [hss] at hmm
        rw [hmm]
        refine step_ops ?_
        refine m_mul rfl rfl (by rw [← hws]; omega) (by rw [← hws]; omega) ?_
        rw [← hws]
        repeat (first | (refine step_ops ?_; (first | (refine m_mov (by conv => lhs; whnf) ?_) | (refine m_add rfl rfl ?_ ?_ ?_; (· omega); (· omega)))) | refine end_ops ?_ | refine AW_ops ?_ | refine norm_then ?_ | refine norm_block ?_)
        refine next_round (k' + 1 + 1) (by omega) (weak_st ?_ ?_ rfl rfl) ?_
        · rw [hts, hS1, hW1, hss]
          (repeat' (first | exact trivial | refine And.intro ?_ ?_)) <;> (first | rfl | skip)
        · trivial
        · omega
  · obtain rfl : k = K.length := by omega
    rw [List.take_length] at hs ⊢
    obtain ⟨n, hn⟩ := Int.eq_ofNat_of_zero_le (show 0 ≤ K.sum by omega)
    rw [hn, Int.toNat_natCast] at he
    rw [hn]
    have hf := factorial_spec n (by omega)
    have hfb := fac_le n (by omega)
    have hf0 : 0 ≤ fac n := by
      have : ∀ n ≤ 12, 0 ≤ fac n := by decide
      exact this n (by omega)
    have hq : 0 ≤ fac n / ctW K K.length ∧ fac n / ctW K K.length ≤ fac n := ⟨Int.ediv_nonneg hf0 (by omega), Int.ediv_le_self _ hf0⟩
    rw [← he]
    generalize fac n = A at *
    generalize ctW K K.length = B at *
    repeat (first | (refine step_ops ?_; (first | (refine m_mov (by conv => lhs; whnf) ?_) | (refine m_lss rfl rfl ?_))) | refine end_ops ?_ | refine seq_ops ?_ | (refine cond_f rfl ?_ ?_; (· first | rfl | assumption | (refine decide_eq_false ?_; first | assumption | omega) | (refine nf ?_; first | assumption | omega) | (simp [*]; done))) | refine AW_seq ?_ | refine norm_then ?_ | refine exit_then ?_ | refine exit_round ?_ | refine AW_exit ?_ | refine exit_block ?_)
    (refine step_ops ?_); (apply m_call (hf)); (· repeat (first | exact lends_nil | (refine lends_cons ?_ ?_; (· exact lend_v))))
    repeat (first | (refine step_ops ?_; (first | (refine m_mov (by conv => lhs; whnf) ?_) | (refine m_quo rfl rfl ?_ ?_ ?_ ?_; (· omega); (· omega); (· omega)))) | refine end_ops ?_ | refine AW_ret ?_ | refine ret_done ?_)
    exact outs_i rfl
theorem implCountType_spec (K : List Int) (hL : K.length ≤ 1048576) : Sp Try.prog 17 [ints K] (ctTup K) := by
  unfold ctTup
  refine spec_of Try.func17 rfl cc17 rfl ?_
  unfold ac17
  by_cases h : TyOk K
  · have e : ctR K = _ := if_pos h
    rw [e]
    repeat (first | (refine step_ops ?_; (refine m_mov (by conv => lhs; whnf) ?_)) | refine end_ops ?_ | refine seq_ops ?_ | refine AW_seq ?_)
    (refine step_ops ?_); (apply m_call (isType_spec K hL)); (· repeat (first | exact lends_nil | (refine lends_cons ?_ ?_; (· (refine lend_ints ?_; first | rfl | omega)))))
    repeat (first | (refine step_ops ?_; (first | (refine m_mov (by conv => lhs; whnf) ?_) | (refine m_not rfl ?_))) | refine end_ops ?_ | refine seq_ops ?_ | (refine cond_f rfl ?_ ?_; (· first | rfl | assumption | (refine decide_eq_false ?_; first | assumption | omega) | (refine nf ?_; first | assumption | omega) | (simp [*]; done))) | refine skip_then ?_)
    (refine step_ops ?_); (apply m_call (countType_spec K h)); (· repeat (first | exact lends_nil | (refine lends_cons ?_ ?_; (· (refine lend_ints ?_; first | rfl | omega)))))
    repeat (first | (refine step_ops ?_; (refine m_mov (by conv => lhs; whnf) ?_)) | refine end_ops ?_ | refine AW_ret ?_ | refine ret_done ?_)
    exact outs_tup2 (outs_i rfl) (outs_b (decide_eq_true h).symm)
  · have e : ctR K = _ := if_neg h
    rw [e]
    repeat (first | (refine step_ops ?_; (refine m_mov (by conv => lhs; whnf) ?_)) | refine end_ops ?_ | refine seq_ops ?_ | refine AW_seq ?_)
    (refine step_ops ?_); (apply m_call (isType_spec K hL)); (· repeat (first | exact lends_nil | (refine lends_cons ?_ ?_; (· (refine lend_ints ?_; first | rfl | omega)))))
    repeat (first | (refine step_ops ?_; (first | (refine m_mov (by conv => lhs; whnf) ?_) | (refine m_not rfl ?_))) | refine end_ops ?_ | refine seq_ops ?_ | (refine cond_t rfl ?_ ?_; (· first | rfl | assumption | (refine decide_eq_true ?_; first | assumption | omega) | (refine nt ?_; first | assumption | omega) | (simp [*]; done))) | refine AW_ret ?_ | refine ret_done ?_ | refine ret_then ?_)
    exact outs_tup2 (outs_i rfl) (outs_b (decide_eq_false h).symm)
end Go.Proofs.Ytmckfjnbbfdepaa
namespace Go.Am
variable [Go.Am.CodeBlk]
theorem ret_doneT {s : AS} {ts : List Nat} {res : AV} {hin hout : Hp} (g : Nat → Nat) (h1 : resAV s ts = renV g res) (h2 : ∀ r c, hout r = some c → ∃ c0, s.hp (g r) = some c0 ∧ (c0 = renR g c ∨ (c.2 = [] ∧ c0.2 = []))) (h3 : ∀ r, (hin r).isSome = true → r < gvb → g r = r ∧ (hout r).isSome = true)
    (h4 : ∀ r, (hout r).isSome = true → hin r = none → g r < pbase) (h5 : ∀ r r', (hout r).isSome = true → (hout r').isSome = true → g r = g r' → r = r') (h6 : ∀ r, (hout r).isSome = true → r < gvb) : DoneT ts res hin hout .ret s := ⟨g, h1, h2, h3, h4, h5, h6⟩
theorem normal_doneT {s : AS} {ts : List Nat} {res : AV} {hin hout : Hp} (h : DoneT ts res hin hout .ret s) : DoneT ts res hin hout .normal s := h
end Go.Am
namespace Go.Proofs.Ytmckfjnbbfdepaa
variable [Go.Am.CodeBlk]
open Go.Am
attribute [local irreducible] AW Outs Weak Lends Lend Sp aops atree aop1 Then Round InBlock Done
attribute [local irreducible] SpH DoneH SpG DoneT
/-- The variable that holds the function value; where the types lie. -/
abbrev goV : AV := .fn 68 [.pt (pbase + 1) 0, .pt pbase 0] 0
abbrev goC : Bool × List AV := (false, [goV])
abbrev tyC (r n : Nat) : Bool × List AV := (false, [.sl r 1 0 n])
def hinG (P R : List (List Int)) : Hp := famH (Am.look [(pbase, goC), (pbase + 1, tyC gvb P.length), (gvb, (false, rowsC (gvb + 1) P))]) (gvb + 1) R
def houtG (P : List (List Int)) : Hp := famH (Am.look [(pbase, goC), (pbase + 1, tyC nbase P.length), (nbase, (false, rowsC (nbase + 1) P))]) (nbase + 1) P
def goS (l : List (Nat × AV)) (P R : List (List Int)) : AS := stG l [(pbase, goC), (pbase + 1, tyC 900 P.length), (900, (false, rowsC 1000 P))] 1000 R
theorem look3 {β : Type} {a b c r : Nat} {x y z v : β} (h : Am.look [(a, x), (b, y), (c, z)] r = some v) : (r = a ∧ v = x) ∨ (r = b ∧ v = y) ∨ (r = c ∧ v = z) := by
  simp only [Am.look] at h
  split at h
  · exact .inl ⟨by assumption, (Option.some.inj h).symm⟩
  · split at h
    · exact .inr (.inl ⟨by assumption, (Option.some.inj h).symm⟩)
    · split at h
      · exact .inr (.inr ⟨by assumption, (Option.some.inj h).symm⟩)
      · cases h
theorem hinG_some {P R : List (List Int)} {r : Nat} {c : Bool × List AV} (h : hinG P R r = some c) : (r = pbase ∧ c = goC) ∨ (r = pbase + 1 ∧ c = tyC gvb P.length) ∨ (r = gvb ∧ c = (false, rowsC (gvb + 1) P)) ∨ ∃ j, j < R.length ∧ r = gvb + 1 + j ∧ c = (true, (R.getD j []).map AV.i) := by
  rcases famH_some h with h1 | ⟨_, j, h2, h3, h4⟩
  · rcases look3 h1 with h | h | h
    · exact .inl h
    · exact .inr (.inl h)
    · exact .inr (.inr (.inl h))
  · exact .inr (.inr (.inr ⟨j, h2, h3, h4⟩))
theorem houtG_some {P : List (List Int)} {r : Nat} {c : Bool × List AV} (h : houtG P r = some c) : (r = pbase ∧ c = goC) ∨ (r = pbase + 1 ∧ c = tyC nbase P.length) ∨ (r = nbase ∧ c = (false, rowsC (nbase + 1) P)) ∨ ∃ j, j < P.length ∧ r = nbase + 1 + j ∧ c = (true, (P.getD j []).map AV.i) := by
  rcases famH_some h with h1 | ⟨_, j, h2, h3, h4⟩
  · rcases look3 h1 with h | h | h
    · exact .inl h
    · exact .inr (.inl h)
    · exact .inr (.inr (.inl h))
  · exact .inr (.inr (.inr ⟨j, h2, h3, h4⟩))
theorem look3_none {β : Type} {a b c r : Nat} {x y z : β} (h1 : r ≠ a) (h2 : r ≠ b) (h3 : r ≠ c) : Am.look [(a, x), (b, y), (c, z)] r = none := by
  simp only [Am.look, if_neg h1, if_neg h2, if_neg h3]
theorem hinG_row {P R : List (List Int)} {j : Nat} (hj : j < R.length) : hinG P R (gvb + 1 + j) = some (true, (R.getD j []).map AV.i) := by
  have hp : pbase = 4000000 := rfl
  have hg : gvb = 16000000 := rfl
  exact famH_row (look3_none (by omega) (by omega) (by omega)) hj
theorem houtG_row {P : List (List Int)} {j : Nat} (hj : j < P.length) : houtG P (nbase + 1 + j) = some (true, (P.getD j []).map AV.i) := by
  have hp : pbase = 4000000 := rfl
  have hg : nbase = 8000000 := rfl
  exact famH_row (look3_none (by omega) (by omega) (by omega)) hj
theorem goS_row {l : List (Nat × AV)} {P R : List (List Int)} {j : Nat} (hj : j < R.length) (h2 : R.length ≤ 2000) : (goS l P R).hp (1000 + j) = some (true, (R.getD j []).map AV.i) := by
  have hp : pbase = 4000000 := rfl
  exact famH_row (look3_none (by omega) (by omega) (by omega)) hj
theorem go_static (P R P' : List (List Int)) : Static (hinG P R) (.tup []) (houtG P') := by
  have hp : pbase = 4000000 := rfl
  have hn : nbase = 8000000 := rfl
  have hg : gvb = 16000000 := rfl
  refine ⟨fun r hr => ?_, fun r c hc => ?_, by simp [ownV, ownL, refsV, refsL]⟩
  · obtain ⟨c, hc⟩ := Option.isSome_iff_exists.1 hr
    rcases hinG_some hc with ⟨rfl, _⟩ | ⟨rfl, _⟩ | ⟨rfl, _⟩ | ⟨j, _, rfl, _⟩ <;> omega
  · rcases houtG_some hc with ⟨_, rfl⟩ | ⟨_, rfl⟩ | ⟨_, rfl⟩ | ⟨j, _, _, rfl⟩
    · exact ⟨rfl, rfl⟩
    · exact ⟨rfl, rfl⟩
    · refine ⟨rowsC_own _ _ _, rowsC_refs _ _ _ fun j hj => ?_⟩
      rw [houtG_row hj]; rfl
    · exact ⟨ownL_ints _ _, refsL_ints _ _⟩
/-- The call's own names for what it is given. -/
def goF : Nat → Nat := fun r => if r = 900 then gvb else if 1000 ≤ r ∧ r < pbase then gvb + 1 + (r - 1000) else r
theorem goF_row {j : Nat} (h : j < 3000) : goF (1000 + j) = gvb + 1 + j := by
  have hp : pbase = 4000000 := rfl
  unfold goF
  rw [if_neg (by omega), if_pos (by omega), Nat.add_sub_cancel_left]
theorem go_enter {av : List AV} {l : List (Nat × AV)} {P R : List (List Int)} (hR : R.length ≤ 2000) (hPR : P.length ≤ R.length) (hl : HasF (enterH av (hinG P R)) goF l) (hr : refsT (fun r => (famH (Am.look [(pbase, goC), (pbase + 1, tyC 900 P.length), (900, (false, rowsC 1000 P))]) 1000 R r).isSome) l = true) : Weak (enterH av (hinG P R)) (goS l P R) := by
  have hp : pbase = 4000000 := rfl
  have hg : gvb = 16000000 := rfl
  refine weak_G goF hl ⟨rfl, rfl, ?_, trivial⟩ (fun j hj => ?_) (show [goF pbase, goF (pbase + 1), goF 900].Nodup by decide) (fun j j' h1 h2 e => ?_) (fun p hm j hj => ?_) (fun p hm => ?_) (fun j hj => ?_) hr (fun p hm hf => ?_)
  · show hinG P R (goF 900) = some (false, renL goF (rowsC 1000 P))
    rw [rowsC_ren goF 1000 (gvb + 1) P fun j hj => goF_row (by omega)]
    rfl
  · rw [goF_row (by omega)]
    exact hinG_row hj
  · rw [goF_row (by omega), goF_row (by omega)] at e
    omega
  · rw [goF_row (by omega)]
    simp only [List.mem_cons, List.not_mem_nil, or_false] at hm
    rcases hm with rfl | rfl | rfl
    · show goF pbase ≠ _
      have : goF pbase = pbase := by decide
      omega
    · show goF (pbase + 1) ≠ _
      have : goF (pbase + 1) = pbase + 1 := by decide
      omega
    · show goF 900 ≠ _
      have : goF 900 = gvb := by decide
      omega
  · simp only [List.mem_cons, List.not_mem_nil, or_false] at hm
    rcases hm with rfl | rfl | rfl
    · exact .inr (.inl ⟨by show pbase ≤ pbase; omega, show goF pbase = pbase by decide⟩)
    · exact .inr (.inl ⟨by show pbase ≤ pbase + 1; omega, show goF (pbase + 1) = pbase + 1 by decide⟩)
    · exact .inr (.inr ⟨by show 900 < pbase; omega, show gvb ≤ goF 900 by decide⟩)
  · rw [goF_row (by omega)]
    exact .inr (.inr ⟨by omega, by omega⟩)
  · simp only [List.mem_cons, List.not_mem_nil, or_false] at hm
    rcases hm with rfl | rfl | rfl
    · rfl
    · rfl
    · refine rowsC_refs _ _ _ fun j hj => ?_
      show (famH _ 1000 R (1000 + j)).isSome = true
      rw [famH_row (look3_none (by omega) (by omega) (by omega)) (by omega)]
      rfl
/-- The end: the types lie in the region q. -/
theorem go_done {s : AS} {P R P' : List (List Int)} {q : Nat} (hq : q < 1000) (hP : P'.length ≤ 2000) (h0 : s.hp pbase = some goC) (h1 : s.hp (pbase + 1) = some (tyC q P'.length)) (h2 : s.hp q = some (false, rowsC 1000 P')) (h3 : ∀ j, j < P'.length → s.hp (1000 + j) = some (true, (P'.getD j []).map AV.i)) : DoneT [] (.tup []) (hinG P R) (houtG P') .ret s := by
  have hp : pbase = 4000000 := rfl
  have hn : nbase = 8000000 := rfl
  have hg : gvb = 16000000 := rfl
  have g0 : ∀ r, r < nbase → (if r = nbase then q else if nbase + 1 ≤ r then 1000 + (r - (nbase + 1)) else r) = r := fun r hr => by rw [if_neg (by omega), if_neg (by omega)]
  have g1 : ∀ j, (if nbase + 1 + j = nbase then q else if nbase + 1 ≤ nbase + 1 + j then 1000 + (nbase + 1 + j - (nbase + 1)) else nbase + 1 + j) = 1000 + j := fun j => by rw [if_neg (by omega), if_pos (by omega), Nat.add_sub_cancel_left]
  refine ret_doneT (fun r => if r = nbase then q else if nbase + 1 ≤ r then 1000 + (r - (nbase + 1)) else r) (by rfl) (fun r c hc => ?_) (fun r hr hlt => ?_) (fun r hr hno => ?_) (fun r r' hr hr' e => ?_) (fun r hr => ?_)
  · rcases houtG_some hc with ⟨rfl, rfl⟩ | ⟨rfl, rfl⟩ | ⟨rfl, rfl⟩ | ⟨j, hj, rfl, rfl⟩
    · refine ⟨_, by rw [g0 _ (by omega)]; exact h0, .inl ?_⟩
      simp only [renR, renL, renV]
      rw [g0 _ (by omega), g0 _ (by omega)]
    · refine ⟨_, by rw [g0 _ (by omega)]; exact h1, .inl ?_⟩
      simp only [renR, renL, renV, if_true]
    · refine ⟨_, by rw [if_pos rfl]; exact h2, .inl ?_⟩
      simp only [renR]
      rw [rowsC_ren _ (nbase + 1) 1000 P' fun j hj => g1 j]
    · refine ⟨_, by rw [g1]; exact h3 j hj, .inl ?_⟩
      simp only [renR]
      rw [renL_ints]
  · obtain ⟨c, hc⟩ := Option.isSome_iff_exists.1 hr
    rcases hinG_some hc with ⟨rfl, _⟩ | ⟨rfl, _⟩ | ⟨rfl, _⟩ | ⟨j, _, rfl, _⟩
    · exact ⟨g0 _ (by omega), rfl⟩
    · exact ⟨g0 _ (by omega), rfl⟩
    · omega
    · omega
  · obtain ⟨c, hc⟩ := Option.isSome_iff_exists.1 hr
    rcases houtG_some hc with ⟨rfl, _⟩ | ⟨rfl, _⟩ | ⟨rfl, _⟩ | ⟨j, hj, rfl, _⟩
    · have e : hinG P R pbase = some goC := rfl
      rw [e] at hno; cases hno
    · have e : hinG P R (pbase + 1) = some (tyC gvb P.length) := rfl
      rw [e] at hno; cases hno
    · show (if nbase = nbase then q else _) < _
      rw [if_pos rfl]; omega
    · show (if nbase + 1 + j = nbase then q else _) < _
      rw [g1]; omega
  · obtain ⟨c, hc⟩ := Option.isSome_iff_exists.1 hr
    obtain ⟨c', hc'⟩ := Option.isSome_iff_exists.1 hr'
    rcases houtG_some hc with ⟨rfl, _⟩ | ⟨rfl, _⟩ | ⟨rfl, _⟩ | ⟨j, hj, rfl, _⟩ <;> rcases houtG_some hc' with ⟨rfl, _⟩ | ⟨rfl, _⟩ | ⟨rfl, _⟩ | ⟨j', hj', rfl, _⟩ <;> (repeat' split at e) <;> omega
  · obtain ⟨c, hc⟩ := Option.isSome_iff_exists.1 hr
    rcases houtG_some hc with ⟨rfl, _⟩ | ⟨rfl, _⟩ | ⟨rfl, _⟩ | ⟨j, hj, rfl, _⟩ <;> omega
end Go.Proofs.Ytmckfjnbbfdepaa
namespace Go.Proofs.Ytmckfjnbbfdepaa
variable [Go.Am.CodeBlk]
open Go.Am
attribute [local irreducible] AW Outs Weak Lends Lend Sp aops atree aop1 Then Round InBlock Done
attribute [local irreducible] SpH DoneH SpG DoneT
/-- A type is there: it goes behind those before. -/
theorem go_leaf (P : List (List Int)) (M : List Int) (hP : P.length ≤ 1500) : SpG Try.prog 68 [.i 0, .sl (gvb + 1 + P.length) 1 0 M.length, .pt (pbase + 1) 0, .pt pbase 0] (hinG P (P ++ [M])) (.tup []) (houtG (P ++ [M])) := by
  have hpb : pbase = 4000000 := rfl
  have hl : (P ++ [M]).length = P.length + 1 := by simp
  have hrl := rowsC_len 1000 P
  refine specT_of Try.func68 rfl cc68 rfl (go_static P (P ++ [M]) (P ++ [M])) (goS [(0, .i 0), (1, .sl (1000 + P.length) 1 0 M.length), (2, .pt (pbase + 1) 0), (3, .pt pbase 0)] P (P ++ [M])) (go_enter (by omega) (by omega) ?_ ?_) ?_
  · refine ⟨rfl, ?_, rfl, rfl, trivial⟩
    show AV.sl (gvb + 1 + P.length) 1 0 M.length = .sl (goF (1000 + P.length)) 1 0 M.length
    rw [goF_row (by omega)]
  · simp only [refsT, refsV, Bool.true_and, Bool.and_true, Bool.and_eq_true]
    refine ⟨?_, rfl, rfl⟩
    rw [famH_row (look3_none (by omega) (by omega) (by omega)) (by omega)]
    rfl
  unfold ac68
  repeat (first | (refine step_ops ?_; (first | (refine m_mov (by conv => lhs; whnf) ?_) | (refine m_eql rfl rfl ?_) | (apply m_ld_pt; (· rfl); (· rfl); (· rfl)))) | refine end_ops ?_ | refine seq_ops ?_ | (refine cond_t rfl ?_ ?_; (· first | rfl | assumption | (refine decide_eq_true ?_; first | assumption | omega) | (refine nt ?_; first | assumption | omega) | (simp [*]; done))) | refine AW_seq ?_)
  refine step_ops ?_
  refine m_bsl1d rfl rfl ?_
  refine step_ops ?_
  have hk12 : killV 12 (AV.sl (1000 + P.length) 1 0 M.length) = .sl (1000 + P.length) 1 0 M.length := by
    simp only [killV]
    rw [if_neg (by omega)]
  refine m_app1d (v := .sl (1000 + P.length) 1 0 M.length) rfl (by decide) rfl ?_ rfl (by show some (false, [killV 12 (AV.sl (1000 + P.length) 1 0 M.length)]) = _; rw [hk12]) rfl ?_ (by decide) ?_
  · simp [rowsC_kill, rowsC_len]
  · omega
  skip
  refine step_ops ?_
  refine m_st (r := pbase + 1) (off := 0) (fl := false) (cs := [.any]) rfl rfl rfl (by decide) rfl ?_
  repeat (first | refine end_ops ?_ | refine AW_ret ?_ | refine ret_then ?_)
  refine go_done (P' := P ++ [M]) (q := 13) (by decide) (by omega) ?_ ?_ ?_ fun j hj => ?_
  · rfl
  · rw [hl]
    rfl
  · rw [rowsC_snoc]
    simp (disch := decide) only [hp_put, hp_mem_ne]
    simp [AS.mem, killR, rowsC_kill, killL_append, killL, killV]
    rw [if_neg (by omega)]
    simp only [killV]
    rw [if_neg (by omega)]
  · simp (disch := omega) only [hp_put, hp_mem_ne, hp_kill_ne]
    rw [goS_row hj (by omega)]
    rfl
/-- The callee's names for what the caller has. -/
def goG (n : Nat) : Nat → Nat := fun r => if r = gvb then 900 else if gvb + 1 ≤ r then (if r - (gvb + 1) < n then 1000 + (r - (gvb + 1)) else 37) else if r = nbase then 900 else if nbase + 1 ≤ r then 1000 + (r - (nbase + 1)) else r
/-- What is given, and the list that was made for the call. -/
def goP : Nat → Bool := fun r => r == 900 || (decide (1000 ≤ r) && decide (r < pbase)) || r == 37
theorem goG_row {n j : Nat} (h : j < n) : goG n (gvb + 1 + j) = 1000 + j := by
  unfold goG
  rw [if_neg (by omega), if_pos (by omega), Nat.add_sub_cancel_left, if_pos h]
theorem goG_new (n : Nat) : goG n (gvb + 1 + n) = 37 := by
  unfold goG
  rw [if_neg (by omega), if_pos (by omega), Nat.add_sub_cancel_left, if_neg (by omega)]
theorem goG_out {n j : Nat} (h : j < 3000) : goG n (nbase + 1 + j) = 1000 + j := by
  have hn : nbase = 8000000 := rfl
  have hg : gvb = 16000000 := rfl
  unfold goG
  rw [if_neg (by omega), if_neg (by omega), if_neg (by omega), if_pos (by omega), Nat.add_sub_cancel_left]
theorem goG_0 (n : Nat) : goG n pbase = pbase ∧ goG n (pbase + 1) = pbase + 1 ∧ goG n gvb = 900 ∧ goG n nbase = 900 := by
  have hp : pbase = 4000000 := rfl
  have hn : nbase = 8000000 := rfl
  have hg : gvb = 16000000 := rfl
  unfold goG
  exact ⟨by rw [if_neg (by omega), if_neg (by omega), if_neg (by omega), if_neg (by omega)], by rw [if_neg (by omega), if_neg (by omega), if_neg (by omega), if_neg (by omega)], by rw [if_pos rfl], by rw [if_neg (by omega), if_neg (by omega), if_pos rfl]⟩
/-- The caller's regions behind the call. -/
def goH (s : AS) (P' : List (List Int)) : Hp := fun q => if q = pbase then some goC else if q = pbase + 1 then some (tyC 900 P'.length) else if q = 900 then some (false, rowsC 1000 P') else if 1000 ≤ q ∧ q < 1000 + P'.length then some (true, (P'.getD (q - 1000) []).map AV.i) else (s.drop goP).hp q
theorem goH_at (s : AS) (P' : List (List Int)) : goH s P' pbase = some goC ∧ goH s P' (pbase + 1) = some (tyC 900 P'.length) ∧ goH s P' 900 = some (false, rowsC 1000 P') := ⟨rfl, rfl, rfl⟩
theorem goH_row {s : AS} {P' : List (List Int)} {j : Nat} (hj : j < P'.length) (h2 : P'.length ≤ 2000) : goH s P' (1000 + j) = some (true, (P'.getD j []).map AV.i) := by
  have hp : pbase = 4000000 := rfl
  unfold goH
  rw [if_neg (by omega), if_neg (by omega), if_neg (by omega), if_pos (by omega), Nat.add_sub_cancel_left]
theorem goP_row {j : Nat} (h : j < 3000) : goP (1000 + j) = true := by
  have hp : pbase = 4000000 := rfl
  unfold goP
  rw [decide_eq_true (show 1000 ≤ 1000 + j by omega), decide_eq_true (show 1000 + j < pbase by omega)]
  simp
theorem go_given {s : AS} {P R P' : List (List Int)} (hP : P.length ≤ 1500) (hR : R.length ≤ P.length + 1) (hP' : P'.length ≤ 2000) (h0 : s.hp pbase = some goC) (h1 : s.hp (pbase + 1) = some (tyC 900 P.length)) (h2 : s.hp 900 = some (false, rowsC 1000 P)) (h3 : ∀ j, j < R.length → s.hp (goG P.length (gvb + 1 + j)) = some (true, (R.getD j []).map AV.i)) (hPR : P.length ≤ R.length) :
    Given s goP (goG P.length) (hinG P R) (houtG P') (goH s P') (.tup []) := by
  have hp : pbase = 4000000 := rfl
  have hn : nbase = 8000000 := rfl
  have hg : gvb = 16000000 := rfl
  obtain ⟨g0, g1, g2, g3⟩ := goG_0 P.length
  have grow : ∀ j, j < R.length → (goG P.length (gvb + 1 + j) = 1000 + j ∧ j < P.length) ∨ (goG P.length (gvb + 1 + j) = 37 ∧ j = P.length) := by
    intro j hj
    by_cases h : j < P.length
    · exact .inl ⟨goG_row h, h⟩
    · obtain rfl : j = P.length := by omega
      exact .inr ⟨goG_new _, rfl⟩
  have gout : ∀ j, j < P'.length → goG P.length (nbase + 1 + j) = 1000 + j := fun j hj => goG_out (by omega)
  have q37 : goP 37 = true := rfl
  have q900 : goP 900 = true := rfl
  have qp : goP pbase = false ∧ goP (pbase + 1) = false := ⟨rfl, rfl⟩
  have hinS : ∀ r, (hinG P R r).isSome = true → r = pbase ∨ r = pbase + 1 ∨ r = gvb ∨ ∃ j, j < R.length ∧ r = gvb + 1 + j := by
    intro r hr
    obtain ⟨c, hc⟩ := Option.isSome_iff_exists.1 hr
    rcases hinG_some hc with ⟨h, _⟩ | ⟨h, _⟩ | ⟨h, _⟩ | ⟨j, h, h', _⟩
    · exact .inl h
    · exact .inr (.inl h)
    · exact .inr (.inr (.inl h))
    · exact .inr (.inr (.inr ⟨j, h, h'⟩))
  have houtS : ∀ r, (houtG P' r).isSome = true → r = pbase ∨ r = pbase + 1 ∨ r = nbase ∨ ∃ j, j < P'.length ∧ r = nbase + 1 + j := by
    intro r hr
    obtain ⟨c, hc⟩ := Option.isSome_iff_exists.1 hr
    rcases houtG_some hc with ⟨h, _⟩ | ⟨h, _⟩ | ⟨h, _⟩ | ⟨j, h, h', _⟩
    · exact .inl h
    · exact .inr (.inl h)
    · exact .inr (.inr (.inl h))
    · exact .inr (.inr (.inr ⟨j, h, h'⟩))
  have hinV : ∀ r, (hinG P R r).isSome = true → (r = pbase ∧ goG P.length r = pbase) ∨ (r = pbase + 1 ∧ goG P.length r = pbase + 1) ∨ (r = gvb ∧ goG P.length r = 900) ∨ (∃ j, j < P.length ∧ r = gvb + 1 + j ∧ goG P.length r = 1000 + j) ∨ (r = gvb + 1 + P.length ∧ goG P.length r = 37) := by
    intro r hr
    rcases hinS r hr with h | h | h | ⟨j, hj, h⟩
    · exact .inl ⟨h, by rw [h]; exact g0⟩
    · exact .inr (.inl ⟨h, by rw [h]; exact g1⟩)
    · exact .inr (.inr (.inl ⟨h, by rw [h]; exact g2⟩))
    · rcases grow j hj with ⟨e, h'⟩ | ⟨e, h'⟩
      · exact .inr (.inr (.inr (.inl ⟨j, h', h, by rw [h]; exact e⟩)))
      · exact .inr (.inr (.inr (.inr ⟨by rw [h, h'], by rw [h]; exact e⟩)))
  have houtV : ∀ r, (houtG P' r).isSome = true → (r = pbase ∧ goG P.length r = pbase) ∨ (r = pbase + 1 ∧ goG P.length r = pbase + 1) ∨ (r = nbase ∧ goG P.length r = 900) ∨ ∃ j, j < P'.length ∧ r = nbase + 1 + j ∧ goG P.length r = 1000 + j := by
    intro r hr
    rcases houtS r hr with h | h | h | ⟨j, hj, h⟩
    · exact .inl ⟨h, by rw [h]; exact g0⟩
    · exact .inr (.inl ⟨h, by rw [h]; exact g1⟩)
    · exact .inr (.inr (.inl ⟨h, by rw [h]; exact g3⟩))
    · exact .inr (.inr (.inr ⟨j, hj, h, by rw [h]; exact gout j hj⟩))
  refine ⟨fun r c hc => ?_, fun r hr => ?_, fun r hr hge => ?_, fun r r' hr hr' e => ?_, fun r r' hr hr' e => ?_, fun r hr hlt => ?_, fun r hr => ?_, fun r hr hno => ?_, fun r c hc => ?_, fun q hq => ?_, fun r c hc => ?_, fun r c hc => ?_, rfl⟩
  · rcases hinG_some hc with ⟨rfl, rfl⟩ | ⟨rfl, rfl⟩ | ⟨rfl, rfl⟩ | ⟨j, hj, rfl, rfl⟩
    · rw [g0, h0]
      simp only [renR, renL, renV, g0, g1]
    · rw [g1, h1]
      simp only [renR, renL, renV, g2]
    · rw [g2, h2]
      simp only [renR]
      rw [rowsC_ren _ (gvb + 1) 1000 P fun j hj => goG_row hj]
    · rw [h3 j hj]
      simp only [renR]
      rw [renL_ints]
  · rcases hinS r hr with rfl | rfl | rfl | ⟨j, hj, rfl⟩
    · rw [g0, qp.1]
      exact ⟨fun h => (by cases h), fun h => by omega⟩
    · rw [g1, qp.2]
      exact ⟨fun h => (by cases h), fun h => by omega⟩
    · rw [g2]
      exact ⟨fun _ => Nat.le_refl _, fun _ => q900⟩
    · refine ⟨fun _ => by omega, fun _ => ?_⟩
      rcases grow j hj with ⟨e, h⟩ | ⟨e, _⟩
      · rw [e]; exact goP_row (by omega)
      · rw [e]; exact q37
  · refine .inl ?_
    rcases hinS r hr with rfl | rfl | rfl | ⟨j, hj, rfl⟩
    · omega
    · omega
    · rw [g2]; omega
    · rcases grow j hj with ⟨e, h⟩ | ⟨e, _⟩
      · rw [e]; omega
      · rw [e]; omega
  · rcases hinV r hr with ⟨a, b⟩ | ⟨a, b⟩ | ⟨a, b⟩ | ⟨j, h, a, b⟩ | ⟨a, b⟩ <;> rcases hinV r' hr' with ⟨a', b'⟩ | ⟨a', b'⟩ | ⟨a', b'⟩ | ⟨j', h', a', b'⟩ | ⟨a', b'⟩ <;> omega
  · rcases houtV r hr with ⟨a, b⟩ | ⟨a, b⟩ | ⟨a, b⟩ | ⟨j, h, a, b⟩ <;> rcases houtV r' hr' with ⟨a', b'⟩ | ⟨a', b'⟩ | ⟨a', b'⟩ | ⟨j', h', a', b'⟩ <;> omega
  · rcases hinS r hr with rfl | rfl | rfl | ⟨j, hj, rfl⟩
    · rfl
    · rfl
    · omega
    · omega
  · rcases houtS r hr with rfl | rfl | rfl | ⟨j, hj, rfl⟩ <;> omega
  · have drop : ∀ q, goP q = true → (s.drop goP).hp q = none := fun q h => by
      show (if goP q = true then none else (s.hp q).map (dropR goP)) = none
      rw [if_pos h]
    rcases houtS r hr with rfl | rfl | rfl | ⟨j, hj, rfl⟩
    · have e : hinG P R pbase = some goC := rfl
      rw [e] at hno; cases hno
    · have e : hinG P R (pbase + 1) = some (tyC gvb P.length) := rfl
      rw [e] at hno; cases hno
    · rw [g3]
      exact ⟨drop _ q900, by omega⟩
    · rw [gout j hj]
      exact ⟨drop _ (goP_row (by omega)), by omega⟩
  · obtain ⟨k0, k1, k2⟩ := goH_at s P'
    rcases houtG_some hc with ⟨rfl, rfl⟩ | ⟨rfl, rfl⟩ | ⟨rfl, rfl⟩ | ⟨j, hj, rfl, rfl⟩
    · rw [g0, k0]
      simp only [renR, renL, renV, g0, g1]
    · rw [g1, k1]
      simp only [renR, renL, renV, g3]
    · rw [g3, k2]
      simp only [renR]
      rw [rowsC_ren _ (nbase + 1) 1000 P' fun j hj => gout j hj]
    · rw [gout j hj, goH_row hj hP']
      simp only [renR]
      rw [renL_ints]
  · have k0 := hq pbase rfl
    have k1 := hq (pbase + 1) rfl
    have k2 := hq nbase rfl
    rw [g0] at k0
    rw [g1] at k1
    rw [g3] at k2
    unfold goH
    rw [if_neg (Ne.symm k0), if_neg (Ne.symm k1), if_neg (Ne.symm k2), if_neg]
    rintro ⟨h4, h5⟩
    have := hq (nbase + 1 + (q - 1000)) (by rw [houtG_row (by omega)]; rfl)
    rw [gout _ (by omega)] at this
    omega
  · rcases hinG_some hc with ⟨rfl, rfl⟩ | ⟨rfl, rfl⟩ | ⟨rfl, rfl⟩ | ⟨j, hj, rfl, rfl⟩
    · exact ⟨rfl, rfl⟩
    · exact ⟨rfl, rfl⟩
    · refine ⟨rowsC_own _ _ _, rowsC_refs _ _ _ fun j hj => ?_⟩
      rw [hinG_row (by omega)]; rfl
    · exact ⟨ownL_ints _ _, refsL_ints _ _⟩
  · rcases houtG_some hc with ⟨rfl, rfl⟩ | ⟨rfl, rfl⟩ | ⟨rfl, rfl⟩ | ⟨j, hj, rfl, rfl⟩
    · rfl
    · rfl
    · exact rowsC_own _ _ _
    · exact ownL_ints _ _
end Go.Proofs.Ytmckfjnbbfdepaa
namespace Go.Am
variable [Go.Am.CodeBlk]
theorem weak_nilcellF {s : AS} (fl : Bool) (r q z j : Nat) {cs : List AV} (hr : s.hp r = some (true, cs)) (hq : s.hp q = none) (hqp : q < pbase) (hc : cs[j]? = some (.v (.slice none 0 0))) (hpl : cs.all plainV = true) :
    Weak s ((s.mem q (fl, [])).mem r (false, cs.set j (.sl q z 0 0))) := by
  have hrq : r ≠ q := fun e => by rw [e] at hr; rw [hr] at hq; cases hq
  have hr' : (s.mem q (fl, [])).hp r = some (true, cs) := by rw [hp_mem_ne hrq]; exact hr
  intro w0 mu N a w hS
  obtain ⟨hf, phi, ro, hS⟩ := hS
  have hS1 := hS.born hq hqp (fl, []) none rfl
  rcases hS1.liv r _ hr' with ⟨_, h2, _⟩ | ⟨b, cur, e, h1, h2, h3, h4, h5⟩ | ⟨b, o, h0, _⟩
  case inr.inr => cases h0; simp [plainV] at hpl
  · simp only at h2; rw [h2] at hc; simp at hc
  · refine ⟨hf, _, ro, hS1.write hr' h1 h2 h2 rfl (fun _ _ _ => rfl) rfl rfl rfl (Nat.le_refl _) ?_⟩
    simp only [SimR, if_true, Bool.false_eq_true, if_false] at h5 ⊢
    have h6 := simL_allv (D := ctx w0 w ro (fun p => if p = q then none else phi p) (s.mem q (fl, []))) hpl h5
    obtain ⟨y, k1, k2⟩ := h6.get hc
    simp only [SimV] at k2
    subst k2
    have hlt : j < cs.length := (List.getElem?_eq_some_iff.1 hc).1
    have h7 := h6.set (i := j) (a := .sl q z 0 0) (y := .slice none 0 0) (by simp only [SimV]; exact ⟨rfl, by simp [ctx, AS.mem], .inl (by simp [ctx])⟩) hlt
    have e2 : cur.toList.set j (.slice none 0 0) = cur.toList := by
      apply List.ext_getElem?
      intro i
      rw [List.getElem?_set]
      by_cases e : j = i
      · subst e
        have := (List.getElem?_eq_some_iff.1 k1).1
        simp only [if_true, this, k1]
      · simp [e]
    rw [e2] at h7
    exact h7
end Go.Am
namespace Go.Proofs.Ytmckfjnbbfdepaa
variable [Go.Am.CodeBlk]
open Go.Am
attribute [local irreducible] AW Outs Weak Lends Lend Sp aops atree aop1 Then Round InBlock Done
attribute [local irreducible] SpH DoneH SpG DoneT
theorem go_weak {s : AS} {l : List (Nat × AV)} {P : List (List Int)} (hP : P.length ≤ 2000) (hl : HasF s id l) (h0 : s.hp pbase = some goC) (h1 : s.hp (pbase + 1) = some (tyC 900 P.length)) (h2 : s.hp 900 = some (false, rowsC 1000 P)) (h3 : ∀ j, j < P.length → s.hp (1000 + j) = some (true, (P.getD j []).map AV.i)) (hr : refsT (fun r => (famH (Am.look [(pbase, goC), (pbase + 1, tyC 900 P.length), (900, (false, rowsC 1000 P))]) 1000 P r).isSome) l = true) : Weak s (goS l P P) := by
  have hp : pbase = 4000000 := rfl
  refine weak_G id hl ⟨h0, h1, ?_, trivial⟩ h3 (show [pbase, pbase + 1, 900].Nodup by decide) (fun j j' _ _ e => by simp only [id] at e; omega) (fun p hm j hj => ?_) (fun p hm => ?_) (fun j hj => .inl ⟨by omega, by simp only [id]; omega⟩) hr (fun p hm hf => ?_)
  · rw [renL_id]; exact h2
  · simp only [List.mem_cons, List.not_mem_nil, or_false] at hm
    rcases hm with rfl | rfl | rfl <;> simp only [id] <;> omega
  · simp only [List.mem_cons, List.not_mem_nil, or_false] at hm
    rcases hm with rfl | rfl | rfl
    · exact .inr (.inl ⟨by show pbase ≤ pbase; omega, rfl⟩)
    · exact .inr (.inl ⟨by show pbase ≤ pbase + 1; omega, rfl⟩)
    · exact .inl ⟨by show 900 < pbase; omega, by show 900 < pbase; omega⟩
  · simp only [List.mem_cons, List.not_mem_nil, or_false] at hm
    rcases hm with rfl | rfl | rfl
    · rfl
    · rfl
    · refine rowsC_refs _ _ _ fun j hj => ?_
      show (famH _ 1000 P (1000 + j)).isSome = true
      rw [famH_row (look3_none (by omega) (by omega) (by omega)) (by omega)]
      rfl
theorem go_callv {s : AS} {K : AS → Prop} {d : Option Nat} {x a b : Opd} {v0 v1 w0 w1 : AV} {P R P' : List (List Int)} (hx : s.ev x = goV) (ha : s.ev a = v0) (hb : s.ev b = v1) (hs : SpG Try.prog 68 [w0, w1, .pt (pbase + 1) 0, .pt pbase 0] (hinG P R) (.tup []) (houtG P')) (hG : Given s goP (goG P.length) (hinG P R) (houtG P') (goH s P') (.tup []))
    (h1 : LendH1 s.hp (goG P.length) (hinG P R) v0 w0) (h2 : LendH1 s.hp (goG P.length) (hinG P R) v1 w1) (k : K (AS.put ⟨(s.drop goP).tm, goH s P'⟩ d (.tup []))) : aop1 Try.prog true ⟨d, .callv x [a, b], none⟩ s K := by
  have hin1 : ∀ r c, hinG P R r = some c → (s.hp (goG P.length r)).isSome = true := fun r c hc => by rw [hG.has r c hc]; rfl
  obtain ⟨g0, g1, _, _⟩ := goG_0 P.length
  refine m_callvG (goG P.length) goP hx ⟨_, Try.func68, by rfl, by rfl⟩ hs ?_ hG k
  show LendsH s.hp (goG P.length) (hinG P R) [s.ev a, s.ev b, .pt (pbase + 1) 0, .pt pbase 0] _
  rw [ha, hb]
  refine lendH_cons h1 (lendH_cons h2 (lendH_cons ?_ (lendH_cons ?_ lendH_nil)))
  · have := lendH_ren (x := .pt (pbase + 1) 0) hin1 rfl rfl
    simp only [renV, g1] at this
    exact this
  · have := lendH_ren (x := .pt pbase 0) hin1 rfl rfl
    simp only [renV, g0] at this
    exact this
/-- How great the next number may be; the types that go on from a list. -/
def lastN (s : Nat) (M : List Int) : Nat := if M = [] then s else (M.getD (M.length - 1) 0).toNat
def goR (s : Nat) (M : List Int) : List (List Int) := (tyAll s (lastN s M)).map fun r => M ++ r
theorem goR_zero (M : List Int) : goR 0 M = [M] := by
  unfold goR
  rw [tyAll_zero]
  simp
theorem lastN_snoc (s : Nat) (M : List Int) (n : Nat) : lastN s (M ++ [(n : Int)]) = n := by
  unfold lastN
  rw [if_neg (by simp)]
  simp
def goT (s : Nat) (P : List (List Int)) (M : List Int) (T c : Nat) : List (List Int) := P ++ (tyPart s T c).map fun r => M ++ r
theorem goT_succ (s : Nat) (P : List (List Int)) (M : List Int) (T c : Nat) : goT s P M T (c + 1) = goT s P M T c ++ goR (s - (T - c)) (M ++ [((T - c : Nat) : Int)]) := by
  unfold goT goR
  rw [tyPart_succ, lastN_snoc, List.map_append, List.map_map, List.append_assoc]
  congr 2
  refine List.map_congr_left fun r _ => ?_
  show M ++ ((T - c : Nat) : Int) :: r = _
  rw [List.append_assoc]
  rfl
theorem goT_len (s : Nat) (P : List (List Int)) (M : List Int) (T c : Nat) : (goT s P M T c).length = P.length + (tyPart s T c).length := by simp [goT]
/-- One more number goes on: the call within the loop, whatever was loaded first. -/
theorem go_step (s : Nat) (hs0 : 0 < s) (hs12 : s ≤ 12) (M : List Int) (P : List (List Int)) (n : Nat) (hn1 : 1 ≤ n) (hns : n ≤ s) (hP : P.length ≤ 1400) (hQ : (P ++ goR (s - n) (M ++ [(n : Int)])).length ≤ 1500)
    (ih : 0 < s - n → SpG Try.prog 68 [.i ((s - n : Nat) : Int), ints (M ++ [(n : Int)]), .pt (pbase + 1) 0, .pt pbase 0] (hinG P P) (.tup []) (houtG (P ++ goR (s - n) (M ++ [(n : Int)]))))
    {st : AS} {K : AS → Prop} {d : Option Nat} {x a b : Opd} (hx : st.ev x = goV) (ha : st.ev a = .i ((s - n : Nat) : Int)) (hb : st.ev b = .sl 37 1 0 (M ++ [(n : Int)]).length)
    (h0 : st.hp pbase = some goC) (h1 : st.hp (pbase + 1) = some (tyC 900 P.length)) (h2 : st.hp 900 = some (false, rowsC 1000 P)) (h3 : ∀ j, j < P.length → st.hp (1000 + j) = some (true, (P.getD j []).map AV.i)) (h37 : st.hp 37 = some (true, (M ++ [(n : Int)]).map AV.i))
    (k : K (AS.put ⟨(st.drop goP).tm, goH st (P ++ goR (s - n) (M ++ [(n : Int)]))⟩ d (.tup []))) : aop1 Try.prog true ⟨d, .callv x [a, b], none⟩ st K := by
  have hpb : pbase = 4000000 := rfl
  have hgb : gvb = 16000000 := rfl
  obtain ⟨g0, g1, g2, _⟩ := goG_0 P.length
  by_cases hz : s - n = 0
  · rw [hz, goR_zero] at k hQ
    rw [hz] at ha
    have hG := go_given (P := P) (R := P ++ [M ++ [(n : Int)]]) (P' := P ++ [M ++ [(n : Int)]]) (by omega) (by simp) (by omega) h0 h1 h2 (fun j hj => ?_) (by simp)
    · have hin1 : ∀ r c, hinG P (P ++ [M ++ [(n : Int)]]) r = some c → (st.hp (goG P.length r)).isSome = true := fun r c hc => by rw [hG.has r c hc]; rfl
      refine go_callv hx ha hb (go_leaf P (M ++ [(n : Int)]) (by omega)) hG lendH_v ?_ k
      have := lendH_ren (x := .sl (gvb + 1 + P.length) 1 0 (M ++ [(n : Int)]).length) hin1 rfl (by
        simp only [refsV]
        rw [hinG_row (by simp)]
        rfl)
      simp only [renV, goG_new] at this
      exact this
    · by_cases hj' : j < P.length
      · rw [goG_row hj', h3 j hj']
        simp [List.getElem?_append, hj']
      · have : j = P.length := by simp at hj; omega
        subst this
        rw [goG_new, h37]
        simp
  · have hG := go_given (P := P) (R := P) (P' := P ++ goR (s - n) (M ++ [(n : Int)])) (by omega) (by omega) (by omega) h0 h1 h2 (fun j hj => by rw [goG_row hj]; exact h3 j hj) (Nat.le_refl _)
    have hin1 : ∀ r c, hinG P P r = some c → (st.hp (goG P.length r)).isSome = true := fun r c hc => by rw [hG.has r c hc]; rfl
    refine go_callv hx ha hb (ih (by omega)) hG lendH_v (lendH_sl hin1 h37 fun r hr e => ?_) k
    obtain ⟨c, hc⟩ := Option.isSome_iff_exists.1 hr
    rcases hinG_some hc with ⟨rfl, _⟩ | ⟨rfl, _⟩ | ⟨rfl, _⟩ | ⟨j, hj, rfl, _⟩
    · rw [g0] at e; omega
    · rw [g1] at e; omega
    · rw [g2] at e; omega
    · rw [goG_row hj] at e; omega
theorem go_node : ∀ s : Nat, 0 < s → s ≤ 12 → ∀ (M : List Int) (P : List (List Int)), (∀ x ∈ M, 1 ≤ x ∧ x ≤ 12) → M.length + s ≤ 12 → P.length ≤ 77 * (13 - s) →
    SpG Try.prog 68 [.i s, ints M, .pt (pbase + 1) 0, .pt pbase 0] (hinG P P) (.tup []) (houtG (P ++ goR s M)) := by
  intro s
  induction s using Nat.strongRecOn with
  | _ s ih =>
  intro hs0 hs12 M P hM hMl hP
  have hpb : pbase = 4000000 := rfl
  obtain ⟨T, hT⟩ : ∃ T, min s (lastN s M) = T := ⟨_, rfl⟩
  have hTs : T ≤ s := by omega
  have hfull : goT s P M T T = P ++ goR s M := by
    unfold goT goR
    rw [tyAll_part hs0, hT]
  have hl12 : lastN s M ≤ 12 := by
    unfold lastN
    split
    · omega
    · rename_i hne
      have := hM _ (getD_mem (show M.length - 1 < M.length by have := List.length_pos_iff.2 hne; omega))
      omega
  have hlen : ∀ c, c ≤ T → (goT s P M T c).length ≤ P.length + 77 := fun c hc => by
    rw [goT_len]
    have := tyPart_len (s := s) (m := lastN s M) (c := c) hs12 hl12 hs0 (by omega)
    rw [hT] at this
    omega
  have hsne : ¬ ((s : Nat) : Int) = 0 := by omega
  refine specT_of Try.func68 rfl cc68 rfl (go_static P P _) (goS [(0, .i s), (1, ints M), (2, .pt (pbase + 1) 0), (3, .pt pbase 0)] P P) (go_enter (by omega) (Nat.le_refl _) ⟨rfl, rfl, rfl, rfl, trivial⟩ rfl) ?_
  unfold ac68
  by_cases hMe : M = []
  case' pos =>
    have hlt : lastN s M = s := if_pos hMe
    have hml : M.length = 0 := by rw [hMe]; rfl
    have hmz : ¬ ((M.length : Nat) : Int) > 0 := by omega
    have hTT : T = s := by omega
    clear hMe
    repeat (first | (refine step_ops ?_; (first | (refine m_mov (by conv => lhs; whnf) ?_) | (refine m_gtr rfl rfl ?_) | (refine m_eql rfl rfl ?_) | (refine m_len_ro rfl ?_))) | refine end_ops ?_ | refine seq_ops ?_ | (refine cond_f rfl ?_ ?_; (· first | rfl | assumption | (refine decide_eq_false ?_; first | assumption | omega) | (refine nf ?_; first | assumption | omega) | (simp [*]; done))) | refine skip_then ?_ | refine AW_seq ?_ | refine AW_block ?_)
  case' neg =>
    have hml := List.length_pos_iff.2 hMe
    have hlt : lastN s M = (M.getD (M.length - 1) 0).toNat := if_neg hMe
    have hmz : ((M.length : Nat) : Int) > 0 := by omega
    have hidx : ((M.length : Nat) : Int) - 1 = ((M.length - 1 : Nat) : Int) := by omega
    have hml2 := hM _ (getD_mem (show M.length - 1 < M.length by omega))
    have hmin : (if M.getD (M.length - 1) 0 < (s : Int) then M.getD (M.length - 1) 0 else (s : Int)) = (T : Nat) := by split <;> omega
    clear hMe
    repeat (first | (refine step_ops ?_; (first | (refine m_mov (by conv => lhs; whnf) ?_) | (refine m_gtr rfl rfl ?_) | (refine m_eql rfl rfl ?_) | (refine m_sub rfl rfl ?_ ?_ ?_; (· omega); (· omega)) | (refine m_len_ro rfl ?_) | (apply m_idx1_roj; (· rfl); (· rfl); (· assumption); (· omega)) | (refine m_ld_rpi rfl ?_ ?_; (· omega)) | (refine m_min rfl rfl ?_))) | refine end_ops ?_ | refine seq_ops ?_ | refine AW_ops ?_ | (refine cond_t rfl ?_ ?_; (· first | rfl | assumption | (refine decide_eq_true ?_; first | assumption | omega) | (refine nt ?_; first | assumption | omega) | (simp [*]; done))) | (refine cond_f rfl ?_ ?_; (· first | rfl | assumption | (refine decide_eq_false ?_; first | assumption | omega) | (refine nf ?_; first | assumption | omega) | (simp [*]; done))) | refine skip_then ?_ | refine AW_seq ?_ | refine norm_then ?_ | refine AW_block ?_)
    rw [hidx]
    skip
    rw [hmin]
    skip
  all_goals
    have e0 : goT s P M T 0 = P := by unfold goT; rw [tyPart_zero]; simp
    refine AW_loop (α := Nat) (fun c => c ≤ T) (fun c => goS [(0, .i s), (1, ints M), (2, .pt (pbase + 1) 0), (3, .pt pbase 0), (7, .i ((T - c : Nat) : Int))] (goT s P M T c) (goT s P M T c)) (fun c => T - c) 0 (Nat.zero_le _) ?_ ?_
    · show Weak _ (goS [(0, .i s), (1, ints M), (2, .pt (pbase + 1) 0), (3, .pt pbase 0), (7, .i ((T - 0 : Nat) : Int))] (goT s P M T 0) (goT s P M T 0))
      rw [e0]
      refine go_weak (by omega) ⟨rfl, rfl, rfl, rfl, by first | rfl | (show AV.i _ = AV.i _; congr 1; omega), trivial⟩ rfl rfl rfl (fun j hj => ?_) rfl
      simp (disch := omega) only [hp_put]
      exact goS_row hj (by omega)
    intro c hc
    have hb := hlen c hc
    by_cases hcc : c < T
    · have hb1 := hlen (c + 1) hcc
      have hsucc := goT_succ s P M T c
      obtain ⟨n, hn⟩ : ∃ n, T - c = n := ⟨_, rfl⟩
      rw [hn] at hsucc ⊢
      rw [hsucc] at hb1
      have hge : ((n : Nat) : Int) ≥ 1 := by omega
      have hsub : (s : Int) - (n : Int) = ((s - n : Nat) : Int) := by omega
      have hM' : ∀ x ∈ M ++ [(n : Int)], 1 ≤ x ∧ x ≤ 12 := by
        intro x hx
        rw [List.mem_append, List.mem_singleton] at hx
        rcases hx with hx | rfl
        · exact hM x hx
        · omega
      have hMl' : (M ++ [(n : Int)]).length + (s - n) ≤ 12 := by rw [List.length_append, List.length_singleton]; omega
      have hih : 0 < s - n → SpG Try.prog 68 [.i ((s - n : Nat) : Int), ints (M ++ [(n : Int)]), .pt (pbase + 1) 0, .pt pbase 0] (hinG (goT s P M T c) (goT s P M T c)) (.tup []) (houtG (goT s P M T c ++ goR (s - n) (M ++ [(n : Int)]))) :=
        fun h => ih (s - n) (by omega) h (by omega) _ _ hM' hMl' (by omega)
      have hlo := longerBy_spec M (n : Int) (by omega)
      generalize goT s P M T c = Q at *
      repeat (first | ((first | refine step_ops ?_ | refine step_tree ?_); (first | (refine m_mov (by conv => lhs; whnf) ?_) | (refine m_geq rfl rfl ?_) | (refine m_sub rfl rfl ?_ ?_ ?_; (· omega); (· omega)))) | refine end_ops ?_ | refine seq_ops ?_ | refine AW_tree ?_ | (refine cond_t rfl ?_ ?_; (· first | rfl | assumption | (refine decide_eq_true ?_; first | assumption | omega) | (refine nt ?_; first | assumption | omega) | (simp [*]; done))) | refine skip_then ?_ | refine AW_seq ?_ | refine AW_block ?_)
      rw [hsub]
      skip
      refine step_two ?_ ?_
      · repeat (refine step_tree ?_; (first | (refine m_mov (by conv => lhs; whnf) ?_) | (apply m_ld_pt; (· rfl); (· rfl); (· rfl))))
        refine step_own ?_; (apply m_owno (hlo)); (· repeat (first | exact lends_nil | (refine lends_cons ?_ ?_; (· (first | exact lend_v | (refine lend_ints ?_; first | rfl | omega)))))); (· first | exact allv_ints _ | rfl | (simp; done))
        refine step_one ?_
        refine go_step s hs0 hs12 M Q n (by omega) (by omega) (by omega) (by omega) hih rfl rfl rfl rfl rfl ?_ (fun j hj => ?_) rfl ?_
        · show some (false, killL 37 (rowsC 1000 Q)) = _
          rw [rowsC_kill _ _ _ (by decide)]
        · simp (disch := omega) only [hp_put, hp_mem_ne, hp_kill_ne]
          rw [goS_row hj (by omega)]
          rfl
        repeat (first | (refine step_ops ?_; (first | (refine m_mov (by conv => lhs; whnf) ?_) | (refine m_sub rfl rfl ?_ ?_ ?_; (· omega); (· omega)))) | refine end_ops ?_ | refine AW_ops ?_ | refine end_tree ?_ | refine norm_then ?_ | refine norm_block ?_)
        refine next_round (c + 1) (by omega) ?_ (by omega)
        show Weak _ (goS [(0, .i s), (1, ints M), (2, .pt (pbase + 1) 0), (3, .pt pbase 0), (7, .i ((T - (c + 1) : Nat) : Int))] (goT s P M T (c + 1)) (goT s P M T (c + 1)))
        rw [hsucc]
        refine go_weak (by omega) ⟨rfl, rfl, rfl, rfl, ?_, trivial⟩ rfl rfl rfl (fun j hj => ?_) rfl
        · show AV.i ((n : Int) - 1) = AV.i _
          congr 1
          omega
        · simp (disch := omega) only [hp_put]
          exact goH_row hj (by omega)
      · repeat (refine step_tree ?_; (refine m_mov (by conv => lhs; whnf) ?_))
        refine step_alt ?_ ?_
        · repeat (refine step_tree ?_; (apply m_ld_pt; (· rfl); (· rfl); (· rfl)))
          refine step_own ?_; (apply m_owno (hlo)); (· repeat (first | exact lends_nil | (refine lends_cons ?_ ?_; (· (first | exact lend_v | (refine lend_ints ?_; first | rfl | omega)))))); (· first | exact allv_ints _ | rfl | (simp; done))
          refine step_one ?_
          refine go_step s hs0 hs12 M Q n (by omega) (by omega) (by omega) (by omega) hih rfl rfl rfl rfl rfl ?_ (fun j hj => ?_) rfl ?_
          · show some (false, killL 37 (rowsC 1000 Q)) = _
            rw [rowsC_kill _ _ _ (by decide)]
          · simp (disch := omega) only [hp_put, hp_mem_ne, hp_kill_ne]
            rw [goS_row hj (by omega)]
            rfl
          repeat (first | (refine step_ops ?_; (first | (refine m_mov (by conv => lhs; whnf) ?_) | (refine m_sub rfl rfl ?_ ?_ ?_; (· omega); (· omega)))) | refine end_ops ?_ | refine AW_ops ?_ | refine end_tree ?_ | refine norm_then ?_ | refine norm_block ?_)
          refine next_round (c + 1) (by omega) ?_ (by omega)
          show Weak _ (goS [(0, .i s), (1, ints M), (2, .pt (pbase + 1) 0), (3, .pt pbase 0), (7, .i ((T - (c + 1) : Nat) : Int))] (goT s P M T (c + 1)) (goT s P M T (c + 1)))
          rw [hsucc]
          refine go_weak (by omega) ⟨rfl, rfl, rfl, rfl, ?_, trivial⟩ rfl rfl rfl (fun j hj => ?_) rfl
          · show AV.i ((n : Int) - 1) = AV.i _
            congr 1
            omega
          · simp (disch := omega) only [hp_put]
            exact goH_row hj (by omega)
        · refine step_one ?_
          (apply m_callo (hlo)); (· repeat (first | exact lends_nil | (refine lends_cons ?_ ?_; (· first | exact lend_v | (refine lend_roM rfl; done) | (refine lend_mat rfl ?_; intro j hj; simp (disch := first | omega | assumption) only [hp_put, hp_mem_ne, hp_kill_ne]; first | exact stM_row rfl hj | (rw [stM_row rfl hj]; rfl)) | (refine lend_ints ?_; first | rfl | omega) | (refine lend_sli (by rfl) ?_; first | rfl | omega | (simp; done)) | exact lend_any | (refine lend_agg ?_; first | rfl | assumption | (simp [plainV]; done)))))); (· first | exact allv_ints _ | rfl | (simp; done))
          repeat (refine step_tree ?_; (apply m_ld_pt; (· rfl); (· rfl); (· rfl)))
          refine step_one ?_
          refine go_step s hs0 hs12 M Q n (by omega) (by omega) (by omega) (by omega) hih rfl rfl rfl rfl rfl ?_ (fun j hj => ?_) rfl ?_
          · show some (false, killL 37 (rowsC 1000 Q)) = _
            rw [rowsC_kill _ _ _ (by decide)]
          · simp (disch := omega) only [hp_put, hp_mem_ne, hp_kill_ne]
            rw [goS_row hj (by omega)]
            rfl
          repeat (first | (refine step_ops ?_; (first | (refine m_mov (by conv => lhs; whnf) ?_) | (refine m_sub rfl rfl ?_ ?_ ?_; (· omega); (· omega)))) | refine end_ops ?_ | refine AW_ops ?_ | refine end_tree ?_ | refine norm_then ?_ | refine norm_block ?_)
          refine next_round (c + 1) (by omega) ?_ (by omega)
          show Weak _ (goS [(0, .i s), (1, ints M), (2, .pt (pbase + 1) 0), (3, .pt pbase 0), (7, .i ((T - (c + 1) : Nat) : Int))] (goT s P M T (c + 1)) (goT s P M T (c + 1)))
          rw [hsucc]
          refine go_weak (by omega) ⟨rfl, rfl, rfl, rfl, ?_, trivial⟩ rfl rfl rfl (fun j hj => ?_) rfl
          · show AV.i ((n : Int) - 1) = AV.i _
            congr 1
            omega
          · simp (disch := omega) only [hp_put]
            exact goH_row hj (by omega)
    · obtain rfl : c = T := by omega
      rw [Nat.sub_self]
      have hge : ¬ ((0 : Nat) : Int) ≥ 1 := by omega
      rw [hfull] at hb ⊢
      repeat (first | (refine step_ops ?_; (first | (refine m_mov (by conv => lhs; whnf) ?_) | (refine m_geq rfl rfl ?_))) | refine end_ops ?_ | refine seq_ops ?_ | (refine cond_f rfl ?_ ?_; (· first | rfl | assumption | (refine decide_eq_false ?_; first | assumption | omega) | (refine nf ?_; first | assumption | omega) | (simp [*]; done))) | refine AW_seq ?_ | refine exit_then ?_ | refine exit_round ?_ | refine AW_exit ?_ | refine exit_block ?_)
      refine normal_doneT (go_done (P' := P ++ goR s M) (q := 900) (by decide) (by omega) ?_ ?_ ?_ fun j hj => ?_)
      · rfl
      · rfl
      · rfl
      · simp (disch := omega) only [hp_put]
        exact goS_row hj (by omega)
/-- Names at the first call. -/
def goG0 : Nat → Nat := fun r => if r = pbase then 4 else if r = pbase + 1 then 3 else if r = gvb then 900 else if r = nbase then 900 else 1000 + (r - (nbase + 1))
def goP0 : Nat → Bool := fun r => r == 900
abbrev goC0 : Bool × List AV := (false, [.fn 68 [.pt 3 0, .pt 4 0] 0])
def goH0 (s : AS) (P' : List (List Int)) : Hp := fun q => if q = 4 then some goC0 else if q = 3 then some (tyC 900 P'.length) else if q = 900 then some (false, rowsC 1000 P') else if 1000 ≤ q ∧ q < 1000 + P'.length then some (true, (P'.getD (q - 1000) []).map AV.i) else (s.drop goP0).hp q
theorem goH0_row {s : AS} {P' : List (List Int)} {j : Nat} (hj : j < P'.length) : goH0 s P' (1000 + j) = some (true, (P'.getD j []).map AV.i) := by
  unfold goH0
  rw [if_neg (by omega), if_neg (by omega), if_neg (by omega), if_pos (by omega), Nat.add_sub_cancel_left]
theorem go_given0 {s : AS} {P' : List (List Int)} (hP' : P'.length ≤ 2000) (h0 : s.hp 4 = some goC0) (h1 : s.hp 3 = some (tyC 900 0)) (h2 : s.hp 900 = some (false, [])) (h3 : ∀ j, j < P'.length → s.hp (1000 + j) = none) :
    Given s goP0 goG0 (hinG [] []) (houtG P') (goH0 s P') (.tup []) := by
  have hp : pbase = 4000000 := rfl
  have hn : nbase = 8000000 := rfl
  have hg : gvb = 16000000 := rfl
  have g0 : goG0 pbase = 4 := rfl
  have g1 : goG0 (pbase + 1) = 3 := rfl
  have g2 : goG0 gvb = 900 := rfl
  have g3 : goG0 nbase = 900 := rfl
  have gout : ∀ j, j < P'.length → goG0 (nbase + 1 + j) = 1000 + j := fun j hj => by
    unfold goG0
    rw [if_neg (by omega), if_neg (by omega), if_neg (by omega), if_neg (by omega), Nat.add_sub_cancel_left]
  have hinS : ∀ r, (hinG [] [] r).isSome = true → r = pbase ∨ r = pbase + 1 ∨ r = gvb := by
    intro r hr
    obtain ⟨c, hc⟩ := Option.isSome_iff_exists.1 hr
    rcases hinG_some hc with ⟨h, _⟩ | ⟨h, _⟩ | ⟨h, _⟩ | ⟨j, h, h', _⟩
    · exact .inl h
    · exact .inr (.inl h)
    · exact .inr (.inr h)
    · simp at h
  have houtV : ∀ r, (houtG P' r).isSome = true → (r = pbase ∧ goG0 r = 4) ∨ (r = pbase + 1 ∧ goG0 r = 3) ∨ (r = nbase ∧ goG0 r = 900) ∨ ∃ j, j < P'.length ∧ r = nbase + 1 + j ∧ goG0 r = 1000 + j := by
    intro r hr
    obtain ⟨c, hc⟩ := Option.isSome_iff_exists.1 hr
    rcases houtG_some hc with ⟨h, _⟩ | ⟨h, _⟩ | ⟨h, _⟩ | ⟨j, hj, h, _⟩
    · exact .inl ⟨h, by rw [h]; exact g0⟩
    · exact .inr (.inl ⟨h, by rw [h]; exact g1⟩)
    · exact .inr (.inr (.inl ⟨h, by rw [h]; exact g3⟩))
    · exact .inr (.inr (.inr ⟨j, hj, h, by rw [h]; exact gout j hj⟩))
  refine ⟨fun r c hc => ?_, fun r hr => ?_, fun r hr hge => ?_, fun r r' hr hr' e => ?_, fun r r' hr hr' e => ?_, fun r hr hlt => ?_, fun r hr => ?_, fun r hr hno => ?_, fun r c hc => ?_, fun q hq => ?_, fun r c hc => ?_, fun r c hc => ?_, rfl⟩
  · rcases hinG_some hc with ⟨rfl, rfl⟩ | ⟨rfl, rfl⟩ | ⟨rfl, rfl⟩ | ⟨j, hj, rfl, rfl⟩
    · rw [g0, h0]; rfl
    · rw [g1, h1]; rfl
    · rw [g2, h2]; rfl
    · simp at hj
  · rcases hinS r hr with rfl | rfl | rfl
    · exact ⟨fun h => (by cases h), fun h => by omega⟩
    · exact ⟨fun h => (by cases h), fun h => by omega⟩
    · exact ⟨fun _ => Nat.le_refl _, fun _ => rfl⟩
  · refine .inl ?_
    rcases hinS r hr with rfl | rfl | rfl
    · omega
    · omega
    · rw [g2]; omega
  · rcases hinS r hr with rfl | rfl | rfl <;> rcases hinS r' hr' with rfl | rfl | rfl <;> first | rfl | (exfalso; revert e; decide)
  · rcases houtV r hr with ⟨a, b⟩ | ⟨a, b⟩ | ⟨a, b⟩ | ⟨j, h, a, b⟩ <;> rcases houtV r' hr' with ⟨a', b'⟩ | ⟨a', b'⟩ | ⟨a', b'⟩ | ⟨j', h', a', b'⟩ <;> omega
  · rcases hinS r hr with rfl | rfl | rfl
    · rfl
    · rfl
    · omega
  · rcases houtV r hr with ⟨a, b⟩ | ⟨a, b⟩ | ⟨a, b⟩ | ⟨j, h, a, b⟩ <;> omega
  · rcases houtV r hr with ⟨rfl, b⟩ | ⟨rfl, b⟩ | ⟨rfl, b⟩ | ⟨j, h, rfl, b⟩
    · have e : hinG [] [] pbase = some goC := rfl
      rw [e] at hno; cases hno
    · have e : hinG [] [] (pbase + 1) = some (tyC gvb 0) := rfl
      rw [e] at hno; cases hno
    · exact ⟨rfl, by rw [b]; omega⟩
    · rw [b]
      refine ⟨?_, by omega⟩
      show (if goP0 (1000 + j) = true then none else (s.hp (1000 + j)).map (dropR goP0)) = none
      rw [h3 j h]
      split <;> rfl
  · rcases houtG_some hc with ⟨rfl, rfl⟩ | ⟨rfl, rfl⟩ | ⟨rfl, rfl⟩ | ⟨j, hj, rfl, rfl⟩
    · rfl
    · rfl
    · rw [g3]
      show some (false, rowsC 1000 P') = _
      simp only [renR]
      rw [rowsC_ren _ (nbase + 1) 1000 P' fun j hj => gout j hj]
    · rw [gout j hj, goH0_row hj]
      simp only [renR]
      rw [renL_ints]
  · have k0 := hq pbase rfl
    have k1 := hq (pbase + 1) rfl
    have k2 := hq nbase rfl
    rw [g0] at k0
    rw [g1] at k1
    rw [g3] at k2
    unfold goH0
    rw [if_neg (Ne.symm k0), if_neg (Ne.symm k1), if_neg (Ne.symm k2), if_neg]
    rintro ⟨h4, h5⟩
    have := hq (nbase + 1 + (q - 1000)) (by rw [houtG_row (by omega)]; rfl)
    rw [gout _ (by omega)] at this
    omega
  · rcases hinG_some hc with ⟨rfl, rfl⟩ | ⟨rfl, rfl⟩ | ⟨rfl, rfl⟩ | ⟨j, hj, rfl, rfl⟩
    · exact ⟨rfl, rfl⟩
    · exact ⟨rfl, rfl⟩
    · exact ⟨rfl, rfl⟩
    · simp at hj
  · rcases houtG_some hc with ⟨rfl, rfl⟩ | ⟨rfl, rfl⟩ | ⟨rfl, rfl⟩ | ⟨j, hj, rfl, rfl⟩
    · rfl
    · rfl
    · exact rowsC_own _ _ _
    · exact ownL_ints _ _
theorem go_lend0 {hp : Hp} {g : Int} {c4 c3 c9 : Bool × List AV} (h4 : hp 4 = some c4) (h3 : hp 3 = some c3) (h9 : hp 900 = some c9) : LendsH hp goG0 (hinG [] []) [.i g, .v (.slice none 0 0), .pt 3 0, .pt 4 0] [.i g, ints [], .pt (pbase + 1) 0, .pt pbase 0] := by
  have hin1 : ∀ r c, hinG [] [] r = some c → (hp (goG0 r)).isSome = true := by
    intro r c hc
    rcases hinG_some hc with ⟨rfl, _⟩ | ⟨rfl, _⟩ | ⟨rfl, _⟩ | ⟨j, hj, _⟩
    · show (hp 4).isSome = true
      rw [h4]; rfl
    · show (hp 3).isSome = true
      rw [h3]; rfl
    · show (hp 900).isSome = true
      rw [h9]; rfl
    · simp at hj
  refine lendH_cons lendH_v (lendH_cons (fun w0 mu N tm w phi ro v hS h => ?_) (lendH_cons ?_ (lendH_cons ?_ lendH_nil)))
  · simp only [SimV] at h ⊢
    exact .inl ⟨rfl, rfl, none, 0, h, by simp⟩
  · exact lendH_ren (x := .pt (pbase + 1) 0) hin1 rfl rfl
  · exact lendH_ren (x := .pt pbase 0) hin1 rfl rfl
/-- All types of a number of guests. -/
theorem typesOf_spec (g : Nat) (h1 : 1 ≤ g) (h12 : g ≤ 12) : SpH Try.prog 37 [.i g] (fun _ => none) (.sl nbase 1 0 (tyAll g g).length) (matO (tyAll g g)) := by
  have hpb : pbase = 4000000 := rfl
  have hnode := go_node g h1 h12 [] [] (by simp) (by simp; omega) (by simp)
  have hR : [] ++ goR g [] = tyAll g g := by
    unfold goR lastN
    rw [if_pos rfl]
    simp
  rw [hR] at hnode
  have hl := tyAll_len (s := g) (m := g) h12 h12
  generalize tyAll g g = R at *
  refine specH_of Try.func37 rfl cc37 rfl (by first | exact static_mat1 _ | exact static_mat2 _ _ | assumption) ?_
  unfold ac37
  repeat (first | (refine step_ops ?_; (first | (refine m_mkf ?_) | (refine m_nils ?_) | (refine m_alloc ?_))) | refine end_ops ?_ | refine seq_ops ?_)
  refine step_opsW (weak_deep (r := 4) rfl (by simp) rfl) ?_
  refine m_st (r := 4) (off := 0) (fl := false) rfl rfl rfl (by decide) rfl ?_
  repeat (first | (refine step_ops ?_; (first | (refine m_mov (by conv => lhs; whnf) ?_) | (apply m_ld_pt; (· rfl); (· rfl); (· rfl)))) | refine end_ops ?_ | refine seq_ops ?_)
  refine step_opsW (weak_nilcellF false 3 900 1 0 rfl rfl (by decide) rfl rfl) ?_
  refine m_callvG goG0 goP0 rfl ⟨_, Try.func68, by rfl, by rfl⟩ hnode ?_ (go_given0 (by omega) rfl rfl rfl fun j hj => ?_) ?_
  · exact go_lend0 rfl rfl rfl
  · simp (disch := omega) only [hp_put, hp_mem_ne, hp_kill_ne]
    rfl
  repeat (first | (refine step_ops ?_; (first | (refine m_mov (by conv => lhs; whnf) ?_) | (apply m_ld_pt; (· rfl); (· rfl); (· rfl)))) | refine end_ops ?_ | refine seq_ops ?_ | refine AW_ret ?_)
  refine ret_mat (r0 := 900) (b := 1000) (by omega) (by omega) (by omega) rfl rfl fun j hj => ?_
  simp (disch := omega) only [hp_put]
  exact goH0_row hj
end Go.Proofs.Ytmckfjnbbfdepaa
namespace Go.Am
variable [Go.Am.CodeBlk]
/-- The least number that the first k lengths divide. -/
def lcT (K : List Int) : Nat → Nat
  | 0 => 1
  | k + 1 => lcT K k / Nat.gcd (lcT K k) (K.getD k 0).toNat * (K.getD k 0).toNat
theorem lcT_bd {K : List Int} (h : ∀ x ∈ K, 1 ≤ x ∧ x ≤ 12) : ∀ k, k ≤ K.length → 1 ≤ lcT K k ∧ lcT K k ≤ 12 ^ k
  | 0, _ => by simp [lcT]
  | k + 1, hk => by
    obtain ⟨h1, h2⟩ := lcT_bd h k (by omega)
    have hx := h (K.getD k 0) (by rw [List.getD_eq_getElem?_getD, List.getElem?_eq_getElem (show k < K.length by omega)]; exact List.getElem_mem _)
    obtain ⟨n, hn⟩ := Int.eq_ofNat_of_zero_le (show 0 ≤ K.getD k 0 by omega)
    rw [lcT, hn, Int.toNat_natCast]
    have hd : 0 < lcT K k / Nat.gcd (lcT K k) n := Nat.div_pos (Nat.le_of_dvd (by omega) (Nat.gcd_dvd_left ..)) (Nat.gcd_pos_of_pos_left _ (by omega))
    refine ⟨Nat.mul_pos hd (by omega), ?_⟩
    rw [Nat.pow_succ]
    exact Nat.mul_le_mul (Nat.le_trans (Nat.div_le_self ..) h2) (by omega)
end Go.Am
namespace Go.Proofs.Ytmckfjnbbfdepaa
variable [Go.Am.CodeBlk]
open Go.Am
attribute [local irreducible] AW Outs Weak Lends Lend Sp aops atree aop1 Then Round InBlock Done
theorem timesOf_spec (K : List Int) (h12 : K.length ≤ 12) (h : ∀ x ∈ K, 1 ≤ x ∧ x ≤ 12) : Sp Try.prog 47 [ints K] (.i (lcT K K.length : Nat)) := by
  refine spec_of Try.func47 rfl cc47 rfl ?_
  unfold ac47
  repeat (first | (refine step_ops ?_; (first | (refine m_mov (by conv => lhs; whnf) ?_) | (refine m_len_ro rfl ?_))) | refine end_ops ?_ | refine seq_ops ?_ | refine AW_seq ?_ | refine AW_block ?_)
  refine AW_loop (α := Nat) (fun k => k ≤ K.length) (fun k => st [(3, .i (lcT K k : Nat)), (6, ints K), (7, .i K.length), (8, .i k)] []) (fun k => K.length - k) 0 (by omega) (weak_st ?_ ?_ rfl rfl) ?_
  · (repeat' (first | exact trivial | refine And.intro ?_ ?_)) <;> (first | rfl | skip)
  · trivial
  intro k hk
  have hp : ∀ j, j ≤ 12 → 12 ^ j ≤ 8916100448256 := fun j hj => Nat.le_trans (Nat.pow_le_pow_right (by decide) hj) (by decide)
  have hb := lcT_bd h k hk
  have hb0 := hp k (by omega)
  by_cases hc : k < K.length
  · have hx := h _ (getD_mem hc)
    have hb1 := lcT_bd h (k + 1) hc
    have hb2 := hp (k + 1) (by omega)
    obtain ⟨B, hB⟩ := Int.eq_ofNat_of_zero_le (show 0 ≤ K.getD k 0 by omega)
    have hs : lcT K (k + 1) = lcT K k / Nat.gcd (lcT K k) (K.getD k 0).toNat * (K.getD k 0).toNat := rfl
    rw [hB, Int.toNat_natCast] at hs
    rw [hB] at hx
    rw [hs] at hb1
    generalize lcT K k = A at *
    have hg0 : 0 < Nat.gcd A B := Nat.gcd_pos_of_pos_left _ (by omega)
    have hdiv : (A : Int) / ((Nat.gcd A B : Nat) : Int) = ((A / Nat.gcd A B : Nat) : Int) := rfl
    have hmul : ((A / Nat.gcd A B : Nat) : Int) * (B : Int) = ((A / Nat.gcd A B * B : Nat) : Int) := by rw [Int.natCast_mul]
    repeat (first | (refine step_ops ?_; (first | (refine m_mov (by conv => lhs; whnf) ?_) | (refine m_lss rfl rfl ?_) | (refine m_idx1_ro rfl rfl ?_ ?_; (· omega)) | (refine m_ld_rpi rfl ?_ ?_; (· omega)))) | refine end_ops ?_ | refine seq_ops ?_ | refine AW_ops ?_ | (refine cond_t rfl ?_ ?_; (· first | rfl | assumption | (refine decide_eq_true ?_; first | assumption | omega) | (refine nt ?_; first | assumption | omega) | (simp [*]; done))) | refine skip_then ?_ | refine AW_seq ?_ | refine AW_block ?_)
    rw [hB]
    skip
    (refine step_ops ?_); (apply m_call (commonDivisor_spec A B)); (· repeat (first | exact lends_nil | (refine lends_cons ?_ ?_; (· exact lend_v))))
    repeat (refine step_ops ?_; (first | (refine m_mov (by conv => lhs; whnf) ?_) | (refine m_quo rfl rfl ?_ ?_ ?_ ?_; (· omega); (· omega); (· omega))))
    rw [hdiv]
    refine step_ops ?_
    refine m_mul rfl rfl (by rw [hmul]; omega) (by rw [hmul]; omega) ?_
    rw [hmul]
    repeat (first | (refine step_ops ?_; (first | (refine m_mov (by conv => lhs; whnf) ?_) | (refine m_add rfl rfl ?_ ?_ ?_; (· omega); (· omega)))) | refine end_ops ?_ | refine AW_ops ?_ | refine norm_then ?_ | refine norm_block ?_)
    refine next_round (k + 1) (by omega) (weak_st ?_ ?_ rfl rfl) ?_
    · rw [hs]
      (repeat' (first | exact trivial | refine And.intro ?_ ?_)) <;> (first | rfl | skip)
    · trivial
    · omega
  · obtain rfl : k = K.length := by omega
    repeat (first | (refine step_ops ?_; (first | (refine m_mov (by conv => lhs; whnf) ?_) | (refine m_lss rfl rfl ?_))) | refine end_ops ?_ | refine seq_ops ?_ | (refine cond_f rfl ?_ ?_; (· first | rfl | assumption | (refine decide_eq_false ?_; first | assumption | omega) | (refine nf ?_; first | assumption | omega) | (simp [*]; done))) | refine AW_seq ?_ | refine AW_ret ?_ | refine ret_done ?_ | refine norm_then ?_ | refine exit_then ?_ | refine exit_round ?_ | refine AW_exit ?_ | refine exit_block ?_)
    exact outs_i rfl
end Go.Proofs.Ytmckfjnbbfdepaa
namespace Go.Proofs.Ytmckfjnbbfdepaa
variable [Go.Am.CodeBlk]
open Go.Am
attribute [local irreducible] AW Outs Weak Lends Lend Sp aops atree aop1 Then Round InBlock Done
attribute [local irreducible] SpH DoneH
theorem chTimes_spec (K : List Int) (h12 : K.length ≤ 12) (h : ∀ x ∈ K, 1 ≤ x ∧ x ≤ 12) : Sp Try.prog 49 [ints K] (.i (lcT K K.length : Nat)) := by
  refine spec_of Try.func49 rfl cc49 rfl ?_
  unfold ac49
  repeat (first | (refine step_ops ?_; (first | (refine m_mov (by conv => lhs; whnf) ?_) | (refine m_len_ro rfl ?_))) | refine end_ops ?_ | refine seq_ops ?_ | refine AW_seq ?_ | refine AW_block ?_)
  refine AW_loop (α := Nat) (fun k => k ≤ K.length) (fun k => st [(3, .i (lcT K k : Nat)), (8, ints K), (9, .i K.length), (10, .i k)] []) (fun k => K.length - k) 0 (by omega) (weak_st ?_ ?_ rfl rfl) ?_
  · (repeat' (first | exact trivial | refine And.intro ?_ ?_)) <;> (first | rfl | skip)
  · trivial
  intro k hk
  have hp : ∀ j, j ≤ 12 → 12 ^ j ≤ 8916100448256 := fun j hj => Nat.le_trans (Nat.pow_le_pow_right (by decide) hj) (by decide)
  have hb := lcT_bd h k hk
  have hb0 := hp k (by omega)
  by_cases hc : k < K.length
  · have hx := h _ (getD_mem hc)
    have hb1 := lcT_bd h (k + 1) hc
    have hb2 := hp (k + 1) (by omega)
    obtain ⟨B, hB⟩ := Int.eq_ofNat_of_zero_le (show 0 ≤ K.getD k 0 by omega)
    have hs : lcT K (k + 1) = lcT K k / Nat.gcd (lcT K k) (K.getD k 0).toNat * (K.getD k 0).toNat := rfl
    rw [hB, Int.toNat_natCast] at hs
    rw [hB] at hx
    rw [hs] at hb1
    generalize lcT K k = A at *
    repeat (first | (refine step_ops ?_; (first | (refine m_mov (by conv => lhs; whnf) ?_) | (refine m_lss rfl rfl ?_) | (refine m_idx1_ro rfl rfl ?_ ?_; (· omega)) | (refine m_ld_rpi rfl ?_ ?_; (· omega)))) | refine end_ops ?_ | refine seq_ops ?_ | (refine cond_t rfl ?_ ?_; (· first | rfl | assumption | (refine decide_eq_true ?_; first | assumption | omega) | (refine nt ?_; first | assumption | omega) | (simp [*]; done))) | refine skip_then ?_ | refine AW_seq ?_ | refine AW_block ?_)
    rw [hB]
    skip
    refine AW_loop (α := Nat × Nat) (fun q => Nat.gcd q.1 q.2 = Nat.gcd A B ∧ q.1 ≤ 8916100448256 ∧ q.2 ≤ 8916100448256) (fun q => st [(3, .i A), (5, .i B), (6, .i q.1), (7, .i q.2), (8, ints K), (9, .i K.length), (10, .i k)] []) (fun q => q.2) (A, B) ⟨rfl, by dsimp only; omega, by dsimp only; omega⟩ (weak_st ?_ ?_ rfl rfl) ?_
    · (repeat' (first | exact trivial | refine And.intro ?_ ?_)) <;> (first | rfl | skip)
    · trivial
    rintro ⟨u, v⟩ ⟨hq, hu, hv⟩
    dsimp only at hq hu hv ⊢
    by_cases hcv : v = 0
    · subst hcv
      rw [Nat.gcd_zero_right] at hq
      have hu0 : 0 < u := by rw [hq]; exact Nat.gcd_pos_of_pos_left _ (by omega)
      have hdiv : (A : Int) / (u : Int) = ((A / u : Nat) : Int) := rfl
      have hmul : ((A / u : Nat) : Int) * (B : Int) = ((A / u * B : Nat) : Int) := by rw [Int.natCast_mul]
      rw [← hq] at hb1 hs
      have hz : ¬ ((0 : Nat) : Int) > 0 := by omega
      repeat (first | (refine step_ops ?_; (first | (refine m_mov (by conv => lhs; whnf) ?_) | (refine m_gtr rfl rfl ?_) | (refine m_quo rfl rfl ?_ ?_ ?_ ?_; (· omega); (· omega); (· omega)))) | refine end_ops ?_ | refine seq_ops ?_ | refine AW_ops ?_ | (refine cond_f rfl ?_ ?_; (· first | rfl | assumption | (refine decide_eq_false ?_; first | assumption | omega) | (refine nf ?_; first | assumption | omega) | (simp [*]; done))) | refine AW_seq ?_ | refine norm_then ?_ | refine exit_then ?_ | refine exit_round ?_ | refine AW_exit ?_ | refine exit_block ?_)
      rw [hdiv]
      refine step_ops ?_
      refine m_mul rfl rfl (by rw [hmul]; omega) (by rw [hmul]; omega) ?_
      rw [hmul]
      repeat (first | (refine step_ops ?_; (first | (refine m_mov (by conv => lhs; whnf) ?_) | (refine m_add rfl rfl ?_ ?_ ?_; (· omega); (· omega)))) | refine end_ops ?_ | refine AW_ops ?_ | refine norm_then ?_ | refine norm_block ?_)
      refine next_round (k + 1) (by omega) (weak_st ?_ ?_ rfl rfl) ?_
      · rw [hs]
        (repeat' (first | exact trivial | refine And.intro ?_ ?_)) <;> (first | rfl | skip)
      · trivial
      · omega
    · have hc' : (v : Int) > 0 := by omega
      have hm := Nat.mod_lt u (show v > 0 by omega)
      repeat (first | ((first | refine step_ops ?_ | refine step_tree ?_); (first | (refine m_mov (by conv => lhs; whnf) ?_) | (refine m_gtr rfl rfl ?_) | (refine m_rem rfl rfl ?_ ?_ ?_; (· omega); (· omega)))) | refine end_ops ?_ | refine seq_ops ?_ | refine end_tree ?_ | refine AW_tree ?_ | (refine cond_t rfl ?_ ?_; (· first | rfl | assumption | (refine decide_eq_true ?_; first | assumption | omega) | (refine nt ?_; first | assumption | omega) | (simp [*]; done))) | refine skip_then ?_ | refine AW_seq ?_ | refine AW_block ?_ | refine norm_block ?_)
      refine next_round (v, u % v) ⟨?_, hv, by dsimp only; omega⟩ (weak_st ?_ ?_ rfl rfl) ?_
      · dsimp only
        rw [← hq, Nat.gcd_comm u v, Nat.gcd_rec v u, Nat.gcd_comm]
      · (repeat' (first | exact trivial | refine And.intro ?_ ?_)) <;> (first | rfl | skip)
      · trivial
      · exact hm
  · obtain rfl : k = K.length := by omega
    repeat (first | (refine step_ops ?_; (first | (refine m_mov (by conv => lhs; whnf) ?_) | (refine m_lss rfl rfl ?_))) | refine end_ops ?_ | refine seq_ops ?_ | (refine cond_f rfl ?_ ?_; (· first | rfl | assumption | (refine decide_eq_false ?_; first | assumption | omega) | (refine nf ?_; first | assumption | omega) | (simp [*]; done))) | refine AW_seq ?_ | refine AW_ret ?_ | refine ret_done ?_ | refine norm_then ?_ | refine exit_then ?_ | refine exit_round ?_ | refine AW_exit ?_ | refine exit_block ?_)
    exact outs_i rfl
def toR (K : List Int) : Int := if TyOk K then (lcT K K.length : Nat) else 0
def toTup (K : List Int) : AV := .tup [.i (toR K), .b (decide (TyOk K))]
/-- The greatest of the times of the first k types. -/
def gtM (R : List (List Int)) : Nat → Int
  | 0 => 0
  | k + 1 => max (gtM R k) (lcT (R.getD k []) (R.getD k []).length : Nat)
def gtR (g : Int) : Int := if 1 ≤ g ∧ g ≤ 12 then gtM (tyAll g.toNat g.toNat) (tyAll g.toNat g.toNat).length else 0
def gtTup (g : Int) : AV := .tup [.i (gtR g), .b (decide (1 ≤ g ∧ g ≤ 12))]
theorem specGreatestTimes_spec (g : Int) : Sp Try.prog 14 [.i g] (gtTup g) := by
  unfold gtTup
  refine spec_of Try.func14 rfl cc14 rfl ?_
  unfold ac14
  by_cases h : 1 ≤ g ∧ g ≤ 12
  · have e : gtR g = _ := if_pos h
    rw [e]
    obtain ⟨n, rfl⟩ := Int.eq_ofNat_of_zero_le (show 0 ≤ g by omega)
    rw [Int.toNat_natCast]
    have hall := sp_mat1 (chAll_spec n (by omega) n (by omega))
    have hR := tyAll_ty (s := n) (by omega) (by omega)
    have hRl := tyAll_len (s := n) (m := n) (by omega) (by omega)
    generalize tyAll n n = R at *
    repeat (first | (refine step_ops ?_; (refine m_mov (by conv => lhs; whnf) ?_)) | refine end_ops ?_ | refine seq_ops ?_ | refine AW_seq ?_)
    (refine step_ops ?_); (apply m_call (exGuests_spec _)); (· repeat (first | exact lends_nil | (refine lends_cons ?_ ?_; (· exact lend_v))))
    repeat (first | (refine step_ops ?_; (first | (refine m_mov (by conv => lhs; whnf) ?_) | (refine m_not rfl ?_))) | refine end_ops ?_ | refine seq_ops ?_ | (refine cond_f rfl ?_ ?_; (· first | rfl | assumption | (refine decide_eq_false ?_; first | assumption | omega) | (refine nf ?_; first | assumption | omega) | (simp [*]; done))) | refine skip_then ?_ | refine AW_seq ?_)
    (refine step_ops ?_); (apply m_call (hall)); (· repeat (first | exact lends_nil | (refine lends_cons ?_ ?_; (· exact lend_v))))
    repeat (first | (refine step_ops ?_; (first | (refine m_mov (by conv => lhs; whnf) ?_) | (refine m_len_ro rfl ?_))) | refine end_ops ?_ | refine AW_block ?_)
    refine AW_loop (α := Nat) (fun k => k ≤ R.length) (fun k => st [(4, .i (gtM R k)), (12, roF R), (13, .i R.length), (14, .i k)] []) (fun k => R.length - k) 0 (Nat.zero_le _) (weak_st ?_ ?_ rfl rfl) ?_
    · (repeat' (first | exact trivial | refine And.intro ?_ ?_)) <;> (first | rfl | skip)
    · trivial
    intro k hk
    by_cases hc : k < R.length
    · have hs : gtM R (k + 1) = max (gtM R k) (lcT (R.getD k []) (R.getD k []).length : Nat) := rfl
      have hok := hR _ (getD_memL hc : R.getD k [] ∈ R)
      obtain ⟨row, hrw⟩ : ∃ row, row = R.getD k [] := ⟨_, rfl⟩
      rw [← hrw] at hs hok
      have hcc := chTimes_spec row hok.2.1 hok.2.2.1
      generalize gtM R k = a at *
      generalize lcT row row.length = b at *
      repeat (first | (refine step_ops ?_; (first | (refine m_lss rfl rfl ?_) | (refine m_idx1_ro rfl rfl ?_ ?_; (· omega)))) | refine end_ops ?_ | refine seq_ops ?_ | (refine cond_t rfl ?_ ?_; (· first | rfl | assumption | (refine decide_eq_true ?_; first | assumption | omega) | (refine nt ?_; first | assumption | omega) | (simp [*]; done))) | refine skip_then ?_ | refine AW_seq ?_ | refine AW_block ?_)
      refine step_ops ?_
      refine m_ld_rp rfl (rowT_at hc) ?_
      rw [← hrw]
      repeat (first | (refine step_ops ?_; (refine m_mov (by conv => lhs; whnf) ?_)) | refine end_ops ?_ | refine AW_ops ?_)
      (refine step_ops ?_); (apply m_call (hcc)); (· repeat (first | exact lends_nil | (refine lends_cons ?_ ?_; (· (refine lend_ints ?_; first | rfl | omega)))))
      skip
      (refine step_ops ?_); (apply m_call (l1Most_spec _ _)); (· repeat (first | exact lends_nil | (refine lends_cons ?_ ?_; (· exact lend_v))))
      repeat (first | (refine step_ops ?_; (first | (refine m_mov (by conv => lhs; whnf) ?_) | (refine m_add rfl rfl ?_ ?_ ?_; (· omega); (· omega)))) | refine end_ops ?_ | refine AW_ops ?_ | refine norm_then ?_ | refine norm_block ?_)
      refine next_round (k + 1) (by omega) (weak_st ?_ ?_ rfl rfl) ?_
      · rw [hs]
        (repeat' (first | exact trivial | refine And.intro ?_ ?_)) <;> (first | rfl | skip)
      · trivial
      · omega
    · obtain rfl : k = R.length := by omega
      repeat (first | (refine step_ops ?_; (first | (refine m_mov (by conv => lhs; whnf) ?_) | (refine m_lss rfl rfl ?_))) | refine end_ops ?_ | refine seq_ops ?_ | (refine cond_f rfl ?_ ?_; (· first | rfl | assumption | (refine decide_eq_false ?_; first | assumption | omega) | (refine nf ?_; first | assumption | omega) | (simp [*]; done))) | refine AW_seq ?_ | refine AW_ret ?_ | refine ret_done ?_ | refine norm_then ?_ | refine exit_then ?_ | refine exit_round ?_ | refine AW_exit ?_ | refine exit_block ?_)
      exact outs_tup2 (outs_i rfl) (outs_b (decide_eq_true h).symm)
  · have e : gtR g = _ := if_neg h
    rw [e]
    repeat (first | (refine step_ops ?_; (refine m_mov (by conv => lhs; whnf) ?_)) | refine end_ops ?_ | refine seq_ops ?_ | refine AW_seq ?_)
    (refine step_ops ?_); (apply m_call (exGuests_spec _)); (· repeat (first | exact lends_nil | (refine lends_cons ?_ ?_; (· exact lend_v))))
    repeat (first | (refine step_ops ?_; (first | (refine m_mov (by conv => lhs; whnf) ?_) | (refine m_not rfl ?_))) | refine end_ops ?_ | refine seq_ops ?_ | (refine cond_t rfl ?_ ?_; (· first | rfl | assumption | (refine decide_eq_true ?_; first | assumption | omega) | (refine nt ?_; first | assumption | omega) | (simp [*]; done))) | refine AW_ret ?_ | refine ret_done ?_ | refine ret_then ?_)
    exact outs_tup2 (outs_i rfl) (outs_b (decide_eq_false h).symm)
end Go.Proofs.Ytmckfjnbbfdepaa
namespace Go.Proofs.Ytmckfjnbbfdepaa
variable [Go.Am.CodeBlk]
open Go.Am
attribute [local irreducible] AW Outs Weak Lends Lend Sp aops atree aop1 Then Round InBlock Done
attribute [local irreducible] SpH DoneH
/-- The sum of one to k parts, in lowest terms. -/
def mcP : Nat → Nat × Nat
  | 0 => (0, 1)
  | k + 1 => low ((mcP k).1 * (k + 1) + (mcP k).2) ((mcP k).2 * (k + 1))
theorem mcP_bd : ∀ k < 13, (mcP k).1 ≤ 1000000 ∧ 1 ≤ (mcP k).2 ∧ (mcP k).2 ≤ 1000000 := by decide +kernel
def BtOk (g m : Int) : Prop := (1 ≤ g ∧ g ≤ 12) ∧ 1 ≤ m ∧ m ≤ 1000
instance (g m : Int) : Decidable (BtOk g m) := inferInstanceAs (Decidable (_ ∧ _))
def btR (g m : Int) : Int := if BtOk g m then tySum g.toNat fun K => decide (((lcT K K.length : Nat) : Int) = m) else 0
def btTup (g m : Int) : AV := .tup [.i (btR g m), .b (decide (BtOk g m))]
theorem specCountByTimes_spec (g m : Int) : Sp Try.prog 34 [.i g, .i m] (btTup g m) := by
  unfold btTup
  refine spec_of Try.func34 rfl cc34 rfl ?_
  unfold ac34
  by_cases h1 : 1 ≤ g ∧ g ≤ 12
  · by_cases h2 : 1 ≤ m ∧ m ≤ 1000
    · have h : BtOk g m := ⟨h1, h2⟩
      have e : btR g m = _ := if_pos h
      rw [e]
      obtain ⟨n, rfl⟩ := Int.eq_ofNat_of_zero_le (show 0 ≤ g by omega)
      rw [Int.toNat_natCast]
      have hall := sp_mat1 (chAll_spec n (by omega) n (by omega))
      have hR := tyAll_ty (s := n) (by omega) (by omega)
      have hRl := tyAll_len (s := n) (m := n) (by omega) (by omega)
      unfold tySum
      generalize tyAll n n = R at *
      obtain ⟨p, hpd⟩ : ∃ p : List Int → Bool, p = fun K => decide (((lcT K K.length : Nat) : Int) = m) := ⟨_, rfl⟩
      rw [← hpd]
      repeat (first | (refine step_ops ?_; (refine m_mov (by conv => lhs; whnf) ?_)) | refine end_ops ?_ | refine seq_ops ?_ | refine AW_seq ?_)
      (refine step_ops ?_); (apply m_call (exGuests_spec _)); (· repeat (first | exact lends_nil | (refine lends_cons ?_ ?_; (· exact lend_v))))
      repeat (refine step_ops ?_; ((try (refine g_yes rfl ?_ ?_; (· first | rfl | assumption | (refine decide_eq_true ?_; first | assumption | omega) | (refine nt ?_; first | assumption | omega) | (simp [*]; done) | (refine decide_eq_false ?_; first | assumption | omega) | (refine nf ?_; first | assumption | omega)))); (first | (refine m_mov (by conv => lhs; whnf) ?_) | (refine m_not rfl ?_))))
      (refine step_ops ?_); (refine g_yes rfl ?_ ?_; (· first | (first | rfl | assumption | (refine decide_eq_true ?_; first | assumption | omega) | (refine nt ?_; first | assumption | omega) | (simp [*]; done)) | (first | rfl | assumption | (refine decide_eq_false ?_; first | assumption | omega) | (refine nf ?_; first | assumption | omega) | (simp [*]; done))); (apply m_call (l1In_spec _ _ _))); (· repeat (first | exact lends_nil | (refine lends_cons ?_ ?_; (· exact lend_v))))
      repeat (first | (refine step_ops ?_; ((try (refine g_yes rfl ?_ ?_; (· first | rfl | assumption | (refine decide_eq_true ?_; first | assumption | omega) | (refine nt ?_; first | assumption | omega) | (simp [*]; done) | (refine decide_eq_false ?_; first | assumption | omega) | (refine nf ?_; first | assumption | omega)))); (first | (refine m_mov (by conv => lhs; whnf) ?_) | (refine m_not rfl ?_) | (refine m_pick_f rfl ?_ (by conv => lhs; whnf) ?_; (· first | rfl | assumption | (refine decide_eq_false ?_; first | assumption | omega) | (refine nf ?_; first | assumption | omega) | (simp [*]; done)))))) | refine end_ops ?_ | refine seq_ops ?_ | (refine cond_f rfl ?_ ?_; (· first | rfl | assumption | (refine decide_eq_false ?_; first | assumption | omega) | (refine nf ?_; first | assumption | omega) | (simp [*]; done))) | refine skip_then ?_ | refine AW_seq ?_)
      (refine step_ops ?_); (apply m_call (hall)); (· repeat (first | exact lends_nil | (refine lends_cons ?_ ?_; (· exact lend_v))))
      repeat (first | (refine step_ops ?_; (first | (refine m_mov (by conv => lhs; whnf) ?_) | (refine m_len_ro rfl ?_))) | refine end_ops ?_ | refine AW_block ?_)
      refine AW_loop (α := Nat) (fun k => k ≤ R.length) (fun k => st [(1, .i m), (6, .i (tyS R p k)), (19, roF R), (20, .i R.length), (21, .i k)] []) (fun k => R.length - k) 0 (Nat.zero_le _) (weak_st ?_ ?_ rfl rfl) ?_
      · (repeat' (first | exact trivial | refine And.intro ?_ ?_)) <;> (first | rfl | skip)
      · trivial
      intro k hk
      have hb := tyS_bd hR p k hk
      by_cases hc : k < R.length
      · have hs : tyS R p (k + 1) = tyS R p k + if p (R.getD k []) = true then tyCnt (R.getD k []) else 0 := rfl
        have hok := hR _ (getD_memL hc : R.getD k [] ∈ R)
        have hcb := tyCnt_bd hok
        obtain ⟨row, hrw⟩ : ∃ row, row = R.getD k [] := ⟨_, rfl⟩
        rw [← hrw] at hs hok hcb
        have hcc := chCount_spec row hok
        have htt := chTimes_spec row hok.2.1 hok.2.2.1
        have hpr : p row = decide (((lcT row row.length : Nat) : Int) = m) := by rw [hpd]
        generalize tyS R p k = a at *
        generalize tyCnt row = b at *
        generalize lcT row row.length = q at *
        by_cases hp : ((q : Nat) : Int) = m
        · rw [hpr, if_pos (decide_eq_true hp)] at hs
          repeat (first | (refine step_ops ?_; (first | (refine m_lss rfl rfl ?_) | (refine m_idx1_ro rfl rfl ?_ ?_; (· omega)))) | refine end_ops ?_ | refine seq_ops ?_ | (refine cond_t rfl ?_ ?_; (· first | rfl | assumption | (refine decide_eq_true ?_; first | assumption | omega) | (refine nt ?_; first | assumption | omega) | (simp [*]; done))) | refine skip_then ?_ | refine AW_seq ?_ | refine AW_block ?_)
          refine step_ops ?_
          refine m_ld_rp rfl (rowT_at hc) ?_
          rw [← hrw]
          repeat (first | (refine step_ops ?_; (refine m_mov (by conv => lhs; whnf) ?_)) | refine end_ops ?_ | refine seq_ops ?_)
          (refine step_ops ?_); (apply m_call (htt)); (· repeat (first | exact lends_nil | (refine lends_cons ?_ ?_; (· (refine lend_ints ?_; first | rfl | omega)))))
          repeat (first | (refine step_ops ?_; (first | (refine m_mov (by conv => lhs; whnf) ?_) | (refine m_eql rfl rfl ?_))) | refine end_ops ?_ | refine AW_ops ?_ | (refine cond_t rfl ?_ ?_; (· first | rfl | assumption | (refine decide_eq_true ?_; first | assumption | omega) | (refine nt ?_; first | assumption | omega) | (simp [*]; done))))
          (refine step_ops ?_); (apply m_call (hcc)); (· repeat (first | exact lends_nil | (refine lends_cons ?_ ?_; (· (refine lend_ints ?_; first | rfl | omega)))))
          repeat (first | (refine step_ops ?_; (first | (refine m_mov (by conv => lhs; whnf) ?_) | (refine m_add rfl rfl ?_ ?_ ?_; (· omega); (· omega)))) | refine end_ops ?_ | refine AW_ops ?_ | refine norm_then ?_ | refine norm_block ?_)
          refine next_round (k + 1) (by omega) (weak_st ?_ ?_ rfl rfl) ?_
          · rw [hs]
            (repeat' (first | exact trivial | refine And.intro ?_ ?_)) <;> (first | rfl | skip)
          · trivial
          · omega
        · rw [hpr, if_neg fun h => hp (of_decide_eq_true h), Int.add_zero] at hs
          repeat (first | (refine step_ops ?_; (first | (refine m_lss rfl rfl ?_) | (refine m_idx1_ro rfl rfl ?_ ?_; (· omega)))) | refine end_ops ?_ | refine seq_ops ?_ | (refine cond_t rfl ?_ ?_; (· first | rfl | assumption | (refine decide_eq_true ?_; first | assumption | omega) | (refine nt ?_; first | assumption | omega) | (simp [*]; done))) | refine skip_then ?_ | refine AW_seq ?_ | refine AW_block ?_)
          refine step_ops ?_
          refine m_ld_rp rfl (rowT_at hc) ?_
          rw [← hrw]
          repeat (first | (refine step_ops ?_; (refine m_mov (by conv => lhs; whnf) ?_)) | refine end_ops ?_ | refine seq_ops ?_)
          (refine step_ops ?_); (apply m_call (htt)); (· repeat (first | exact lends_nil | (refine lends_cons ?_ ?_; (· (refine lend_ints ?_; first | rfl | omega)))))
          repeat (first | (refine step_ops ?_; (first | (refine m_mov (by conv => lhs; whnf) ?_) | (refine m_eql rfl rfl ?_) | (refine m_add rfl rfl ?_ ?_ ?_; (· omega); (· omega)))) | refine end_ops ?_ | refine AW_ops ?_ | (refine cond_f rfl ?_ ?_; (· first | rfl | assumption | (refine decide_eq_false ?_; first | assumption | omega) | (refine nf ?_; first | assumption | omega) | (simp [*]; done))) | refine norm_then ?_ | refine norm_block ?_ | refine AW_skip ?_)
          refine next_round (k + 1) (by omega) (weak_st ?_ ?_ rfl rfl) ?_
          · rw [hs]
            (repeat' (first | exact trivial | refine And.intro ?_ ?_)) <;> (first | rfl | skip)
          · trivial
          · omega
      · obtain rfl : k = R.length := by omega
        repeat (first | (refine step_ops ?_; (first | (refine m_mov (by conv => lhs; whnf) ?_) | (refine m_lss rfl rfl ?_))) | refine end_ops ?_ | refine seq_ops ?_ | (refine cond_f rfl ?_ ?_; (· first | rfl | assumption | (refine decide_eq_false ?_; first | assumption | omega) | (refine nf ?_; first | assumption | omega) | (simp [*]; done))) | refine AW_seq ?_ | refine AW_ret ?_ | refine ret_done ?_ | refine norm_then ?_ | refine exit_then ?_ | refine exit_round ?_ | refine AW_exit ?_ | refine exit_block ?_)
        exact outs_tup2 (outs_i rfl) (outs_b (decide_eq_true h).symm)
    · have h : ¬ BtOk g m := fun hh => h2 hh.2
      have e : btR g m = _ := if_neg h
      rw [e]
      repeat (first | (refine step_ops ?_; (refine m_mov (by conv => lhs; whnf) ?_)) | refine end_ops ?_ | refine seq_ops ?_ | refine AW_seq ?_)
      (refine step_ops ?_); (apply m_call (exGuests_spec _)); (· repeat (first | exact lends_nil | (refine lends_cons ?_ ?_; (· exact lend_v))))
      repeat (refine step_ops ?_; ((try (refine g_yes rfl ?_ ?_; (· first | rfl | assumption | (refine decide_eq_true ?_; first | assumption | omega) | (refine nt ?_; first | assumption | omega) | (simp [*]; done) | (refine decide_eq_false ?_; first | assumption | omega) | (refine nf ?_; first | assumption | omega)))); (first | (refine m_mov (by conv => lhs; whnf) ?_) | (refine m_not rfl ?_))))
      (refine step_ops ?_); (refine g_yes rfl ?_ ?_; (· first | (first | rfl | assumption | (refine decide_eq_true ?_; first | assumption | omega) | (refine nt ?_; first | assumption | omega) | (simp [*]; done)) | (first | rfl | assumption | (refine decide_eq_false ?_; first | assumption | omega) | (refine nf ?_; first | assumption | omega) | (simp [*]; done))); (apply m_call (l1In_spec _ _ _))); (· repeat (first | exact lends_nil | (refine lends_cons ?_ ?_; (· exact lend_v))))
      repeat (first | (refine step_ops ?_; ((try (refine g_yes rfl ?_ ?_; (· first | rfl | assumption | (refine decide_eq_true ?_; first | assumption | omega) | (refine nt ?_; first | assumption | omega) | (simp [*]; done) | (refine decide_eq_false ?_; first | assumption | omega) | (refine nf ?_; first | assumption | omega)))); (first | (refine m_mov (by conv => lhs; whnf) ?_) | (refine m_not rfl ?_) | (refine m_pick_f rfl ?_ (by conv => lhs; whnf) ?_; (· first | rfl | assumption | (refine decide_eq_false ?_; first | assumption | omega) | (refine nf ?_; first | assumption | omega) | (simp [*]; done)))))) | refine end_ops ?_ | refine seq_ops ?_ | (refine cond_t rfl ?_ ?_; (· first | rfl | assumption | (refine decide_eq_true ?_; first | assumption | omega) | (refine nt ?_; first | assumption | omega) | (simp [*]; done))) | refine AW_ret ?_ | refine ret_done ?_ | refine ret_then ?_)
      exact outs_tup2 (outs_i rfl) (outs_b (decide_eq_false h).symm)
  · have h : ¬ BtOk g m := fun hh => h1 hh.1
    have e : btR g m = _ := if_neg h
    rw [e]
    repeat (first | (refine step_ops ?_; (refine m_mov (by conv => lhs; whnf) ?_)) | refine end_ops ?_ | refine seq_ops ?_ | refine AW_seq ?_)
    (refine step_ops ?_); (apply m_call (exGuests_spec _)); (· repeat (first | exact lends_nil | (refine lends_cons ?_ ?_; (· exact lend_v))))
    repeat (first | (refine step_ops ?_; (first | (first | (refine m_mov (by conv => lhs; whnf) ?_) | (refine m_not rfl ?_) | (refine m_pick_t rfl ?_ (by conv => lhs; whnf) ?_; (· first | rfl | assumption | (refine decide_eq_true ?_; first | assumption | omega) | (refine nt ?_; first | assumption | omega) | (simp [*]; done)))) | (refine g_noF rfl ?_ ?_; (· first | rfl | assumption | (refine decide_eq_true ?_; first | assumption | omega) | (refine nt ?_; first | assumption | omega) | (simp [*]; done))))) | refine end_ops ?_ | refine seq_ops ?_ | (refine cond_t rfl ?_ ?_; (· first | rfl | assumption | (refine decide_eq_true ?_; first | assumption | omega) | (refine nt ?_; first | assumption | omega) | (simp [*]; done))) | refine AW_ret ?_ | refine ret_done ?_ | refine ret_then ?_)
    exact outs_tup2 (outs_i rfl) (outs_b (decide_eq_false h).symm)
def mlR (g m : Int) : Int × Int := if LoOk g m then (1, m) else (0, 0)
def mlTup (g m : Int) : AV := .tup [.i (mlR g m).1, .i (mlR g m).2, .b (decide (LoOk g m))]
theorem specMeanOfLength_spec (g m : Int) : Sp Try.prog 31 [.i g, .i m] (mlTup g m) := by
  unfold mlTup
  refine spec_of Try.func31 rfl cc31 rfl ?_
  unfold ac31
  by_cases h1 : 1 ≤ g ∧ g ≤ 12
  · by_cases h2 : 1 ≤ m ∧ m ≤ g
    · have h : LoOk g m := ⟨h1, h2⟩
      have e : mlR g m = _ := if_pos h
      rw [e]
      repeat (first | (refine step_ops ?_; (refine m_mov (by conv => lhs; whnf) ?_)) | refine end_ops ?_ | refine seq_ops ?_ | refine AW_seq ?_)
      (refine step_ops ?_); (apply m_call (exGuests_spec _)); (· repeat (first | exact lends_nil | (refine lends_cons ?_ ?_; (· exact lend_v))))
      repeat (refine step_ops ?_; ((try (refine g_yes rfl ?_ ?_; (· first | rfl | assumption | (refine decide_eq_true ?_; first | assumption | omega) | (refine nt ?_; first | assumption | omega) | (simp [*]; done) | (refine decide_eq_false ?_; first | assumption | omega) | (refine nf ?_; first | assumption | omega)))); (first | (refine m_mov (by conv => lhs; whnf) ?_) | (refine m_not rfl ?_))))
      (refine step_ops ?_); (refine g_yes rfl ?_ ?_; (· first | (first | rfl | assumption | (refine decide_eq_true ?_; first | assumption | omega) | (refine nt ?_; first | assumption | omega) | (simp [*]; done)) | (first | rfl | assumption | (refine decide_eq_false ?_; first | assumption | omega) | (refine nf ?_; first | assumption | omega) | (simp [*]; done))); (apply m_call (l1In_spec _ _ _))); (· repeat (first | exact lends_nil | (refine lends_cons ?_ ?_; (· exact lend_v))))
      repeat (first | (refine step_ops ?_; ((try (refine g_yes rfl ?_ ?_; (· first | rfl | assumption | (refine decide_eq_true ?_; first | assumption | omega) | (refine nt ?_; first | assumption | omega) | (simp [*]; done) | (refine decide_eq_false ?_; first | assumption | omega) | (refine nf ?_; first | assumption | omega)))); (first | (refine m_mov (by conv => lhs; whnf) ?_) | (refine m_not rfl ?_) | (refine m_pick_f rfl ?_ (by conv => lhs; whnf) ?_; (· first | rfl | assumption | (refine decide_eq_false ?_; first | assumption | omega) | (refine nf ?_; first | assumption | omega) | (simp [*]; done)))))) | refine end_ops ?_ | refine seq_ops ?_ | (refine cond_f rfl ?_ ?_; (· first | rfl | assumption | (refine decide_eq_false ?_; first | assumption | omega) | (refine nf ?_; first | assumption | omega) | (simp [*]; done))) | refine skip_then ?_ | refine AW_ret ?_ | refine ret_done ?_)
      exact outs_tup3 (outs_i rfl) (outs_i rfl) (outs_b (decide_eq_true h).symm)
    · have h : ¬ LoOk g m := fun hh => h2 hh.2
      have e : mlR g m = _ := if_neg h
      rw [e]
      repeat (first | (refine step_ops ?_; (refine m_mov (by conv => lhs; whnf) ?_)) | refine end_ops ?_ | refine seq_ops ?_ | refine AW_seq ?_)
      (refine step_ops ?_); (apply m_call (exGuests_spec _)); (· repeat (first | exact lends_nil | (refine lends_cons ?_ ?_; (· exact lend_v))))
      repeat (refine step_ops ?_; ((try (refine g_yes rfl ?_ ?_; (· first | rfl | assumption | (refine decide_eq_true ?_; first | assumption | omega) | (refine nt ?_; first | assumption | omega) | (simp [*]; done) | (refine decide_eq_false ?_; first | assumption | omega) | (refine nf ?_; first | assumption | omega)))); (first | (refine m_mov (by conv => lhs; whnf) ?_) | (refine m_not rfl ?_))))
      (refine step_ops ?_); (refine g_yes rfl ?_ ?_; (· first | (first | rfl | assumption | (refine decide_eq_true ?_; first | assumption | omega) | (refine nt ?_; first | assumption | omega) | (simp [*]; done)) | (first | rfl | assumption | (refine decide_eq_false ?_; first | assumption | omega) | (refine nf ?_; first | assumption | omega) | (simp [*]; done))); (apply m_call (l1In_spec _ _ _))); (· repeat (first | exact lends_nil | (refine lends_cons ?_ ?_; (· exact lend_v))))
      repeat (first | (refine step_ops ?_; ((try (refine g_yes rfl ?_ ?_; (· first | rfl | assumption | (refine decide_eq_true ?_; first | assumption | omega) | (refine nt ?_; first | assumption | omega) | (simp [*]; done) | (refine decide_eq_false ?_; first | assumption | omega) | (refine nf ?_; first | assumption | omega)))); (first | (refine m_mov (by conv => lhs; whnf) ?_) | (refine m_not rfl ?_) | (refine m_pick_f rfl ?_ (by conv => lhs; whnf) ?_; (· first | rfl | assumption | (refine decide_eq_false ?_; first | assumption | omega) | (refine nf ?_; first | assumption | omega) | (simp [*]; done)))))) | refine end_ops ?_ | refine seq_ops ?_ | (refine cond_t rfl ?_ ?_; (· first | rfl | assumption | (refine decide_eq_true ?_; first | assumption | omega) | (refine nt ?_; first | assumption | omega) | (simp [*]; done))) | refine AW_ret ?_ | refine ret_done ?_ | refine ret_then ?_)
      exact outs_tup3 (outs_i rfl) (outs_i rfl) (outs_b (decide_eq_false h).symm)
  · have h : ¬ LoOk g m := fun hh => h1 hh.1
    have e : mlR g m = _ := if_neg h
    rw [e]
    repeat (first | (refine step_ops ?_; (refine m_mov (by conv => lhs; whnf) ?_)) | refine end_ops ?_ | refine seq_ops ?_ | refine AW_seq ?_)
    (refine step_ops ?_); (apply m_call (exGuests_spec _)); (· repeat (first | exact lends_nil | (refine lends_cons ?_ ?_; (· exact lend_v))))
    repeat (first | (refine step_ops ?_; (first | (first | (refine m_mov (by conv => lhs; whnf) ?_) | (refine m_not rfl ?_) | (refine m_pick_t rfl ?_ (by conv => lhs; whnf) ?_; (· first | rfl | assumption | (refine decide_eq_true ?_; first | assumption | omega) | (refine nt ?_; first | assumption | omega) | (simp [*]; done)))) | (refine g_noF rfl ?_ ?_; (· first | rfl | assumption | (refine decide_eq_true ?_; first | assumption | omega) | (refine nt ?_; first | assumption | omega) | (simp [*]; done))))) | refine end_ops ?_ | refine seq_ops ?_ | (refine cond_t rfl ?_ ?_; (· first | rfl | assumption | (refine decide_eq_true ?_; first | assumption | omega) | (refine nt ?_; first | assumption | omega) | (simp [*]; done))) | refine AW_ret ?_ | refine ret_done ?_ | refine ret_then ?_)
    exact outs_tup3 (outs_i rfl) (outs_i rfl) (outs_b (decide_eq_false h).symm)
def meR (g : Int) : Nat × Nat := if 1 ≤ g ∧ g ≤ 12 then mcP g.toNat else (0, 0)
def meTup (g : Int) : AV := .tup [.i ((meR g).1 : Nat), .i ((meR g).2 : Nat), .b (decide (1 ≤ g ∧ g ≤ 12))]
theorem specMeanChains_spec (g : Int) : Sp Try.prog 10 [.i g] (meTup g) := by
  unfold meTup
  refine spec_of Try.func10 rfl cc10 rfl ?_
  unfold ac10
  by_cases h : 1 ≤ g ∧ g ≤ 12
  · have e : meR g = _ := if_pos h
    rw [e]
    obtain ⟨n, rfl⟩ := Int.eq_ofNat_of_zero_le (show 0 ≤ g by omega)
    rw [Int.toNat_natCast]
    repeat (first | (refine step_ops ?_; (refine m_mov (by conv => lhs; whnf) ?_)) | refine end_ops ?_ | refine seq_ops ?_ | refine AW_seq ?_)
    (refine step_ops ?_); (apply m_call (exGuests_spec _)); (· repeat (first | exact lends_nil | (refine lends_cons ?_ ?_; (· exact lend_v))))
    repeat (first | (refine step_ops ?_; (first | (refine m_mov (by conv => lhs; whnf) ?_) | (refine m_not rfl ?_))) | refine end_ops ?_ | refine seq_ops ?_ | (refine cond_f rfl ?_ ?_; (· first | rfl | assumption | (refine decide_eq_false ?_; first | assumption | omega) | (refine nf ?_; first | assumption | omega) | (simp [*]; done))) | refine skip_then ?_ | refine AW_seq ?_ | refine AW_block ?_)
    refine AW_loop (α := Nat) (fun k => k ≤ n) (fun k => st [(0, .i n), (5, .i ((mcP k).1 : Nat)), (6, .i ((mcP k).2 : Nat)), (7, .i ((k + 1 : Nat) : Int))] []) (fun k => n - k) 0 (Nat.zero_le _) (weak_st ?_ ?_ rfl rfl) ?_
    · (repeat' (first | exact trivial | refine And.intro ?_ ?_)) <;> (first | rfl | skip)
    · trivial
    intro k hk
    obtain ⟨b1, b2, b3⟩ := mcP_bd k (by omega)
    by_cases hc : k < n
    · have hs : mcP (k + 1) = low ((mcP k).1 * (k + 1) + (mcP k).2) ((mcP k).2 * (k + 1)) := rfl
      generalize (mcP k).1 = a at *
      generalize (mcP k).2 = b at *
      have m1 : a * (k + 1) ≤ 1000000 * 13 := Nat.mul_le_mul b1 (by omega)
      have m2 : b * (k + 1) ≤ 1000000 * 13 := Nat.mul_le_mul b3 (by omega)
      have m3 : 1 ≤ b * (k + 1) := Nat.mul_pos b2 (by omega)
      have h3 := exLowN_spec (a * (k + 1) + b) (b * (k + 1)) (by omega) (by omega) m3
      have e1 : ((a : Nat) : Int) * ((k + 1 : Nat) : Int) = ((a * (k + 1) : Nat) : Int) := by rw [Int.natCast_mul]
      have e2 : ((b : Nat) : Int) * ((k + 1 : Nat) : Int) = ((b * (k + 1) : Nat) : Int) := by rw [Int.natCast_mul]
      rw [← hs] at h3
      have e3 : ((a * (k + 1) + b : Nat) : Int) = ((a * (k + 1) : Nat) : Int) + (b : Nat) := by rw [Int.natCast_add]
      rw [e3] at h3
      generalize hX : a * (k + 1) = X at *
      generalize hY : b * (k + 1) = Y at *
      have hle : ((k + 1 : Nat) : Int) ≤ (n : Nat) := by omega
      obtain ⟨p, hpp⟩ : ∃ p, p = mcP (k + 1) := ⟨_, rfl⟩
      rw [← hpp] at h3
      repeat (first | (refine step_ops ?_; (first | (refine m_mov (by conv => lhs; whnf) ?_) | (refine m_leq rfl rfl ?_) | (refine m_add rfl rfl ?_ ?_ ?_; (· omega); (· omega)) | (refine m_mul rfl rfl ?_ ?_ ?_; (· first | omega | (simp; done)); (· first | omega | (simp; done))))) | refine end_ops ?_ | refine seq_ops ?_ | refine AW_ops ?_ | (refine cond_t rfl ?_ ?_; (· first | rfl | assumption | (refine decide_eq_true ?_; first | assumption | omega) | (refine nt ?_; first | assumption | omega) | (simp [*]; done))) | refine skip_then ?_ | refine AW_seq ?_ | refine AW_block ?_)
      rw [e1, e2]
      (refine step_ops ?_); (apply m_call (h3)); (· repeat (first | exact lends_nil | (refine lends_cons ?_ ?_; (· exact lend_v))))
      repeat (first | (refine step_ops ?_; (first | (refine m_mov (by conv => lhs; whnf) ?_) | (refine m_add rfl rfl ?_ ?_ ?_; (· omega); (· omega)) | (refine m_ext rfl rfl ?_))) | refine end_ops ?_ | refine AW_ops ?_ | refine norm_then ?_ | refine norm_block ?_)
      refine next_round (k + 1) (by omega) (weak_st ?_ ?_ rfl rfl) ?_
      · rw [← hpp]
        (repeat' (first | exact trivial | refine And.intro ?_ ?_)) <;> (first | rfl | skip)
      · trivial
      · omega
    · obtain rfl : k = n := by omega
      have hle : ¬ ((k + 1 : Nat) : Int) ≤ (k : Nat) := by omega
      repeat (first | (refine step_ops ?_; (first | (refine m_mov (by conv => lhs; whnf) ?_) | (refine m_leq rfl rfl ?_))) | refine end_ops ?_ | refine seq_ops ?_ | (refine cond_f rfl ?_ ?_; (· first | rfl | assumption | (refine decide_eq_false ?_; first | assumption | omega) | (refine nf ?_; first | assumption | omega) | (simp [*]; done))) | refine AW_seq ?_ | refine AW_ret ?_ | refine ret_done ?_ | refine norm_then ?_ | refine exit_then ?_ | refine exit_round ?_ | refine AW_exit ?_ | refine exit_block ?_)
      exact outs_tup3 (outs_i rfl) (outs_i rfl) (outs_b (decide_eq_true h).symm)
  · have e : meR g = _ := if_neg h
    rw [e]
    repeat (first | (refine step_ops ?_; (refine m_mov (by conv => lhs; whnf) ?_)) | refine end_ops ?_ | refine seq_ops ?_ | refine AW_seq ?_)
    (refine step_ops ?_); (apply m_call (exGuests_spec _)); (· repeat (first | exact lends_nil | (refine lends_cons ?_ ?_; (· exact lend_v))))
    repeat (first | (refine step_ops ?_; (first | (refine m_mov (by conv => lhs; whnf) ?_) | (refine m_not rfl ?_))) | refine end_ops ?_ | refine seq_ops ?_ | (refine cond_t rfl ?_ ?_; (· first | rfl | assumption | (refine decide_eq_true ?_; first | assumption | omega) | (refine nt ?_; first | assumption | omega) | (simp [*]; done))) | refine AW_ret ?_ | refine ret_done ?_ | refine ret_then ?_)
    exact outs_tup3 (outs_i rfl) (outs_i rfl) (outs_b (decide_eq_false h).symm)
end Go.Proofs.Ytmckfjnbbfdepaa
namespace Go.Proofs.Ytmckfjnbbfdepaa
variable [Go.Am.CodeBlk]
open Go.Am
attribute [local irreducible] AW Outs Weak Lends Lend Sp aops atree aop1 Then Round InBlock Done
attribute [local irreducible] SpH DoneH SpG DoneT
theorem ty_desc {K : List Int} (h : TyOk K) : ∀ i j, i ≤ j → j < K.length → K.getD j 0 ≤ K.getD i 0 := by
  intro i j hij
  induction j with
  | zero => intro _; obtain rfl : i = 0 := by omega
            omega
  | succ j ih =>
    intro hj
    by_cases e : i = j + 1
    · rw [e]; omega
    · have h1 := ih (by omega) (by omega)
      have h2 := h.2.2.2.2 j (by omega)
      omega
theorem slicesMax_spec (K : List Int) (hK : TyOk K) : Sp Try.prog 57 [ints K] (.i (K.getD 0 0)) := by
  have h1 := hK.1
  have h12 := hK.2.1
  have hlt : ¬ ((K.length : Nat) : Int) < 1 := by omega
  have hd := ty_desc hK
  refine spec_of Try.func57 rfl cc57 rfl ?_
  unfold ac57
  repeat (first | (refine step_ops ?_; (first | (refine m_mov (by conv => lhs; whnf) ?_) | (refine m_lss rfl rfl ?_) | (refine m_len_ro rfl ?_) | (refine m_idx_ro rfl rfl ?_ ?_ ?_; (· omega); (· omega)) | (refine m_ld_rpi rfl ?_ ?_; (· omega)))) | refine end_ops ?_ | refine seq_ops ?_ | (refine cond_f rfl ?_ ?_; (· first | rfl | assumption | (refine decide_eq_false ?_; first | assumption | omega) | (refine nf ?_; first | assumption | omega) | (simp [*]; done))) | refine skip_then ?_ | refine AW_seq ?_ | refine AW_block ?_)
  refine AW_loop (α := Nat) (fun k => 1 ≤ k ∧ k ≤ K.length) (fun k => st [(0, ints K), (3, .i (K.getD 0 0)), (4, .i k)] []) (fun k => K.length - k) 1 ⟨Nat.le_refl _, h1⟩ (weak_st ?_ ?_ rfl rfl) ?_
  · (repeat' (first | exact trivial | refine And.intro ?_ ?_)) <;> (first | rfl | skip)
  · trivial
  rintro k ⟨hk1, hk⟩
  by_cases hc : k < K.length
  · have hle := hd 0 k (by omega) hc
    have hmx : (if K.getD 0 0 < K.getD k 0 then K.getD k 0 else K.getD 0 0) = K.getD 0 0 := if_neg (by omega)
    repeat (first | (refine step_ops ?_; (first | (refine m_mov (by conv => lhs; whnf) ?_) | (refine m_lss rfl rfl ?_) | (refine m_add rfl rfl ?_ ?_ ?_; (· omega); (· omega)) | (refine m_len_ro rfl ?_) | (refine m_idx1_ro rfl rfl ?_ ?_; (· omega)) | (refine m_ld_rpi rfl ?_ ?_; (· omega)) | (refine m_max rfl rfl ?_))) | refine end_ops ?_ | refine seq_ops ?_ | refine AW_ops ?_ | (refine cond_t rfl ?_ ?_; (· first | rfl | assumption | (refine decide_eq_true ?_; first | assumption | omega) | (refine nt ?_; first | assumption | omega) | (simp [*]; done))) | refine skip_then ?_ | refine AW_seq ?_ | refine norm_then ?_ | refine AW_block ?_ | refine norm_block ?_)
    rw [hmx]
    skip
    refine next_round (k + 1) ⟨by omega, by omega⟩ (weak_st ?_ ?_ rfl rfl) ?_
    · (repeat' (first | exact trivial | refine And.intro ?_ ?_)) <;> (first | rfl | skip)
    · trivial
    · omega
  · repeat (first | (refine step_ops ?_; (first | (refine m_mov (by conv => lhs; whnf) ?_) | (refine m_lss rfl rfl ?_) | (refine m_len_ro rfl ?_))) | refine end_ops ?_ | refine seq_ops ?_ | (refine cond_f rfl ?_ ?_; (· first | rfl | assumption | (refine decide_eq_false ?_; first | assumption | omega) | (refine nf ?_; first | assumption | omega) | (simp [*]; done))) | refine AW_seq ?_ | refine AW_ret ?_ | refine ret_done ?_ | refine norm_then ?_ | refine exit_then ?_ | refine exit_round ?_ | refine AW_exit ?_ | refine exit_block ?_)
    exact outs_i rfl
theorem slicesMin_spec (K : List Int) (hK : TyOk K) : Sp Try.prog 59 [ints K] (.i (K.getD (K.length - 1) 0)) := by
  have h1 := hK.1
  have h12 := hK.2.1
  have hlt : ¬ ((K.length : Nat) : Int) < 1 := by omega
  have hd := ty_desc hK
  refine spec_of Try.func59 rfl cc59 rfl ?_
  unfold ac59
  repeat (first | (refine step_ops ?_; (first | (refine m_mov (by conv => lhs; whnf) ?_) | (refine m_lss rfl rfl ?_) | (refine m_len_ro rfl ?_) | (refine m_idx_ro rfl rfl ?_ ?_ ?_; (· omega); (· omega)) | (refine m_ld_rpi rfl ?_ ?_; (· omega)))) | refine end_ops ?_ | refine seq_ops ?_ | (refine cond_f rfl ?_ ?_; (· first | rfl | assumption | (refine decide_eq_false ?_; first | assumption | omega) | (refine nf ?_; first | assumption | omega) | (simp [*]; done))) | refine skip_then ?_ | refine AW_seq ?_ | refine AW_block ?_)
  refine AW_loop (α := Nat) (fun k => 1 ≤ k ∧ k ≤ K.length) (fun k => st [(0, ints K), (3, .i (K.getD (k - 1) 0)), (4, .i k)] []) (fun k => K.length - k) 1 ⟨Nat.le_refl _, h1⟩ (weak_st ?_ ?_ rfl rfl) ?_
  · (repeat' (first | exact trivial | refine And.intro ?_ ?_)) <;> (first | rfl | skip)
  · trivial
  rintro k ⟨hk1, hk⟩
  by_cases hc : k < K.length
  · have hle := hd (k - 1) k (by omega) hc
    have hmn : (if K.getD k 0 < K.getD (k - 1) 0 then K.getD k 0 else K.getD (k - 1) 0) = K.getD k 0 := by split <;> omega
    repeat (first | (refine step_ops ?_; (first | (refine m_mov (by conv => lhs; whnf) ?_) | (refine m_lss rfl rfl ?_) | (refine m_add rfl rfl ?_ ?_ ?_; (· omega); (· omega)) | (refine m_len_ro rfl ?_) | (refine m_idx1_ro rfl rfl ?_ ?_; (· omega)) | (refine m_ld_rpi rfl ?_ ?_; (· omega)) | (refine m_min rfl rfl ?_))) | refine end_ops ?_ | refine seq_ops ?_ | refine AW_ops ?_ | (refine cond_t rfl ?_ ?_; (· first | rfl | assumption | (refine decide_eq_true ?_; first | assumption | omega) | (refine nt ?_; first | assumption | omega) | (simp [*]; done))) | refine skip_then ?_ | refine AW_seq ?_ | refine norm_then ?_ | refine AW_block ?_ | refine norm_block ?_)
    rw [hmn]
    skip
    refine next_round (k + 1) ⟨by omega, by omega⟩ (weak_st ?_ ?_ rfl rfl) ?_
    · (repeat' (first | exact trivial | refine And.intro ?_ ?_)) <;> (first | rfl | skip)
    · trivial
    · omega
  · obtain rfl : k = K.length := by omega
    repeat (first | (refine step_ops ?_; (first | (refine m_mov (by conv => lhs; whnf) ?_) | (refine m_lss rfl rfl ?_) | (refine m_len_ro rfl ?_))) | refine end_ops ?_ | refine seq_ops ?_ | (refine cond_f rfl ?_ ?_; (· first | rfl | assumption | (refine decide_eq_false ?_; first | assumption | omega) | (refine nf ?_; first | assumption | omega) | (simp [*]; done))) | refine AW_seq ?_ | refine AW_ret ?_ | refine ret_done ?_ | refine norm_then ?_ | refine exit_then ?_ | refine exit_round ?_ | refine AW_exit ?_ | refine exit_block ?_)
    exact outs_i rfl
/-- A function value that is asked of types; it bears a number. -/
theorem countWhere_spec (g : Nat) (h1 : 1 ≤ g) (h12 : g ≤ 12) (f : FuncId) (m : Int) (p : List Int → Bool) (hcb : Callable Try.prog f) (hsp : ∀ K, TyOk K → Sp Try.prog f [ints K, .rp [.i m]] (.b (p K))) : Sp Try.prog 53 [.i g, .fn f [.rp [.i m]] 0] (.i (tySum g p)) := by
  have hall := sp_mat1 (typesOf_spec g h1 h12)
  have hR := tyAll_ty h1 h12
  have hRl := tyAll_len (s := g) (m := g) h12 h12
  unfold tySum
  generalize tyAll g g = R at *
  refine spec_of Try.func53 rfl cc53 rfl ?_
  unfold ac53
  repeat (first | (refine step_ops ?_; (refine m_mov (by conv => lhs; whnf) ?_)) | refine end_ops ?_ | refine seq_ops ?_ | refine AW_seq ?_)
  (refine step_ops ?_); (apply m_call (hall)); (· repeat (first | exact lends_nil | (refine lends_cons ?_ ?_; (· exact lend_v))))
  repeat (first | (refine step_ops ?_; (first | (refine m_mov (by conv => lhs; whnf) ?_) | (refine m_len_ro rfl ?_))) | refine end_ops ?_ | refine AW_block ?_)
  refine AW_loop (α := Nat) (fun k => k ≤ R.length) (fun k => st [(1, .fn f [.rp [.i m]] 0), (5, .i (tyS R p k)), (9, roF R), (10, .i R.length), (11, .i k)] []) (fun k => R.length - k) 0 (Nat.zero_le _) (weak_st ?_ ?_ rfl rfl) ?_
  · (repeat' (first | exact trivial | refine And.intro ?_ ?_)) <;> (first | rfl | skip)
  · trivial
  intro k hk
  have hb := tyS_bd hR p k hk
  by_cases hc : k < R.length
  · have hs : tyS R p (k + 1) = tyS R p k + if p (R.getD k []) = true then tyCnt (R.getD k []) else 0 := rfl
    have hok := hR _ (getD_memL hc : R.getD k [] ∈ R)
    have hcb2 := tyCnt_bd hok
    obtain ⟨row, hrw⟩ : ∃ row, row = R.getD k [] := ⟨_, rfl⟩
    rw [← hrw] at hs hok hcb2
    have hcc := countType_spec row hok
    have hask := hsp row hok
    generalize tyS R p k = a at *
    generalize tyCnt row = b at *
    by_cases hp : p row = true
    · rw [if_pos hp] at hs
      rw [hp] at hask
      repeat (first | (refine step_ops ?_; (first | (refine m_lss rfl rfl ?_) | (refine m_idx1_ro rfl rfl ?_ ?_; (· omega)))) | refine end_ops ?_ | refine seq_ops ?_ | (refine cond_t rfl ?_ ?_; (· first | rfl | assumption | (refine decide_eq_true ?_; first | assumption | omega) | (refine nt ?_; first | assumption | omega) | (simp [*]; done))) | refine skip_then ?_ | refine AW_seq ?_ | refine AW_block ?_)
      refine step_ops ?_
      refine m_ld_rp rfl (rowT_at hc) ?_
      rw [← hrw]
      repeat (first | (refine step_ops ?_; (refine m_mov (by conv => lhs; whnf) ?_)) | refine end_ops ?_ | refine seq_ops ?_)
      refine step_ops ?_
      refine m_callf rfl hcb hask (lends_cons (lend_ints rfl) (lends_cons (lend_rp rfl) lends_nil)) ?_
      repeat (first | (refine step_ops ?_; (refine m_mov (by conv => lhs; whnf) ?_)) | refine end_ops ?_ | refine AW_ops ?_ | (refine cond_t rfl ?_ ?_; (· first | rfl | assumption | (refine decide_eq_true ?_; first | assumption | omega) | (refine nt ?_; first | assumption | omega) | (simp [*]; done))))
      (refine step_ops ?_); (apply m_call (hcc)); (· repeat (first | exact lends_nil | (refine lends_cons ?_ ?_; (· (refine lend_ints ?_; first | rfl | omega)))))
      repeat (first | (refine step_ops ?_; (first | (refine m_mov (by conv => lhs; whnf) ?_) | (refine m_add rfl rfl ?_ ?_ ?_; (· omega); (· omega)))) | refine end_ops ?_ | refine AW_ops ?_ | refine norm_then ?_ | refine norm_block ?_)
      refine next_round (k + 1) (by omega) (weak_st ?_ ?_ rfl rfl) ?_
      · rw [hs]
        (repeat' (first | exact trivial | refine And.intro ?_ ?_)) <;> (first | rfl | skip)
      · trivial
      · omega
    · rw [if_neg hp, Int.add_zero] at hs
      rw [Bool.not_eq_true] at hp
      rw [hp] at hask
      repeat (first | (refine step_ops ?_; (first | (refine m_lss rfl rfl ?_) | (refine m_idx1_ro rfl rfl ?_ ?_; (· omega)))) | refine end_ops ?_ | refine seq_ops ?_ | (refine cond_t rfl ?_ ?_; (· first | rfl | assumption | (refine decide_eq_true ?_; first | assumption | omega) | (refine nt ?_; first | assumption | omega) | (simp [*]; done))) | refine skip_then ?_ | refine AW_seq ?_ | refine AW_block ?_)
      refine step_ops ?_
      refine m_ld_rp rfl (rowT_at hc) ?_
      rw [← hrw]
      repeat (first | (refine step_ops ?_; (refine m_mov (by conv => lhs; whnf) ?_)) | refine end_ops ?_ | refine seq_ops ?_)
      refine step_ops ?_
      refine m_callf rfl hcb hask (lends_cons (lend_ints rfl) (lends_cons (lend_rp rfl) lends_nil)) ?_
      repeat (first | (refine step_ops ?_; (first | (refine m_mov (by conv => lhs; whnf) ?_) | (refine m_add rfl rfl ?_ ?_ ?_; (· omega); (· omega)))) | refine end_ops ?_ | refine AW_ops ?_ | (refine cond_f rfl ?_ ?_; (· first | rfl | assumption | (refine decide_eq_false ?_; first | assumption | omega) | (refine nf ?_; first | assumption | omega) | (simp [*]; done))) | refine norm_then ?_ | refine norm_block ?_ | refine AW_skip ?_)
      refine next_round (k + 1) (by omega) (weak_st ?_ ?_ rfl rfl) ?_
      · rw [hs]
        (repeat' (first | exact trivial | refine And.intro ?_ ?_)) <;> (first | rfl | skip)
      · trivial
      · omega
  · obtain rfl : k = R.length := by omega
    repeat (first | (refine step_ops ?_; (first | (refine m_mov (by conv => lhs; whnf) ?_) | (refine m_lss rfl rfl ?_))) | refine end_ops ?_ | refine seq_ops ?_ | (refine cond_f rfl ?_ ?_; (· first | rfl | assumption | (refine decide_eq_false ?_; first | assumption | omega) | (refine nf ?_; first | assumption | omega) | (simp [*]; done))) | refine AW_seq ?_ | refine AW_ret ?_ | refine ret_done ?_ | refine norm_then ?_ | refine exit_then ?_ | refine exit_round ?_ | refine AW_exit ?_ | refine exit_block ?_)
    exact outs_i rfl
theorem canHaveLength_spec (g m : Int) : Sp Try.prog 55 [.i g, .i m] (.b (decide (LoOk g m))) := by
  refine spec_of Try.func55 rfl cc55 rfl ?_
  unfold ac55
  by_cases h1 : 1 ≤ g ∧ g ≤ 12
  · by_cases h2 : m ≥ 1
    · by_cases h3 : m ≤ g
      · repeat (first | (refine step_ops ?_; (refine m_mov (by conv => lhs; whnf) ?_)) | refine end_ops ?_ | refine seq_ops ?_)
        (refine step_ops ?_); (apply m_call (isGuestCount_spec _)); (· repeat (first | exact lends_nil | (refine lends_cons ?_ ?_; (· exact lend_v))))
        repeat (first | (refine step_ops ?_; ((try (refine g_yes rfl ?_ ?_; (· first | rfl | assumption | (refine decide_eq_true ?_; first | assumption | omega) | (refine nt ?_; first | assumption | omega) | (simp [*]; done) | (refine decide_eq_false ?_; first | assumption | omega) | (refine nf ?_; first | assumption | omega)))); (first | (refine m_mov (by conv => lhs; whnf) ?_) | (refine m_leq rfl rfl ?_) | (refine m_geq rfl rfl ?_) | (refine m_pick_t rfl ?_ (by conv => lhs; whnf) ?_; (· first | rfl | assumption | (refine decide_eq_true ?_; first | assumption | omega) | (refine nt ?_; first | assumption | omega) | (simp [*]; done)))))) | refine end_ops ?_ | refine AW_ret ?_ | refine ret_done ?_)
        exact outs_b (decide_eq_true h3 |>.trans (decide_eq_true (show LoOk g m from ⟨h1, h2, h3⟩)).symm)
      · repeat (first | (refine step_ops ?_; (refine m_mov (by conv => lhs; whnf) ?_)) | refine end_ops ?_ | refine seq_ops ?_)
        (refine step_ops ?_); (apply m_call (isGuestCount_spec _)); (· repeat (first | exact lends_nil | (refine lends_cons ?_ ?_; (· exact lend_v))))
        repeat (first | (refine step_ops ?_; ((try (refine g_yes rfl ?_ ?_; (· first | rfl | assumption | (refine decide_eq_true ?_; first | assumption | omega) | (refine nt ?_; first | assumption | omega) | (simp [*]; done) | (refine decide_eq_false ?_; first | assumption | omega) | (refine nf ?_; first | assumption | omega)))); (first | (refine m_mov (by conv => lhs; whnf) ?_) | (refine m_leq rfl rfl ?_) | (refine m_geq rfl rfl ?_) | (refine m_pick_t rfl ?_ (by conv => lhs; whnf) ?_; (· first | rfl | assumption | (refine decide_eq_true ?_; first | assumption | omega) | (refine nt ?_; first | assumption | omega) | (simp [*]; done)))))) | refine end_ops ?_ | refine AW_ret ?_ | refine ret_done ?_)
        exact outs_b ((decide_eq_false h3).trans (decide_eq_false fun hh : LoOk g m => h3 hh.2.2).symm)
    · repeat (first | (refine step_ops ?_; (refine m_mov (by conv => lhs; whnf) ?_)) | refine end_ops ?_ | refine seq_ops ?_)
      (refine step_ops ?_); (apply m_call (isGuestCount_spec _)); (· repeat (first | exact lends_nil | (refine lends_cons ?_ ?_; (· exact lend_v))))
      repeat (first | (refine step_ops ?_; (first | ((try (refine g_yes rfl ?_ ?_; (· first | rfl | assumption | (refine decide_eq_true ?_; first | assumption | omega) | (refine nt ?_; first | assumption | omega) | (simp [*]; done) | (refine decide_eq_false ?_; first | assumption | omega) | (refine nf ?_; first | assumption | omega)))); (first | (refine m_mov (by conv => lhs; whnf) ?_) | (refine m_geq rfl rfl ?_) | (refine m_pick_t rfl ?_ (by conv => lhs; whnf) ?_; (· first | rfl | assumption | (refine decide_eq_true ?_; first | assumption | omega) | (refine nt ?_; first | assumption | omega) | (simp [*]; done))) | (refine m_pick_f rfl ?_ (by conv => lhs; whnf) ?_; (· first | rfl | assumption | (refine decide_eq_false ?_; first | assumption | omega) | (refine nf ?_; first | assumption | omega) | (simp [*]; done))))) | (refine g_noT rfl ?_ ?_; (· first | rfl | assumption | (refine decide_eq_false ?_; first | assumption | omega) | (refine nf ?_; first | assumption | omega) | (simp [*]; done))))) | refine end_ops ?_ | refine AW_ret ?_ | refine ret_done ?_)
      exact outs_b (decide_eq_false fun hh : LoOk g m => h2 hh.2.1).symm
  · repeat (first | (refine step_ops ?_; (refine m_mov (by conv => lhs; whnf) ?_)) | refine end_ops ?_ | refine seq_ops ?_)
    (refine step_ops ?_); (apply m_call (isGuestCount_spec _)); (· repeat (first | exact lends_nil | (refine lends_cons ?_ ?_; (· exact lend_v))))
    repeat (first | (refine step_ops ?_; (first | (first | (refine m_mov (by conv => lhs; whnf) ?_) | (refine m_pick_f rfl ?_ (by conv => lhs; whnf) ?_; (· first | rfl | assumption | (refine decide_eq_false ?_; first | assumption | omega) | (refine nf ?_; first | assumption | omega) | (simp [*]; done)))) | (refine g_noT rfl ?_ ?_; (· first | rfl | assumption | (refine decide_eq_false ?_; first | assumption | omega) | (refine nf ?_; first | assumption | omega) | (simp [*]; done))))) | refine end_ops ?_ | refine AW_ret ?_ | refine ret_done ?_)
    exact outs_b (decide_eq_false fun hh : LoOk g m => h1 hh.1).symm
theorem byChains_spec (m : Int) (K : List Int) (_hK : TyOk K) : Sp Try.prog 54 [ints K, .rp [.i m]] (.b (decide ((K.length : Int) = m))) := by
  refine spec_of Try.func54 rfl cc54 rfl ?_
  unfold ac54
  repeat (first | (refine step_ops ?_; (first | (refine m_mov (by conv => lhs; whnf) ?_) | (refine m_eql rfl rfl ?_) | (refine m_len_ro rfl ?_) | (apply m_ld_rp; (· rfl); (· rfl)))) | refine end_ops ?_ | refine seq_ops ?_ | refine AW_ret ?_ | refine ret_done ?_)
  exact outs_b rfl
theorem byLongest_spec (m : Int) (K : List Int) (hK : TyOk K) : Sp Try.prog 56 [ints K, .rp [.i m]] (.b (decide (K.getD 0 0 = m))) := by
  refine spec_of Try.func56 rfl cc56 rfl ?_
  unfold ac56
  repeat (first | ((first | refine step_ops ?_ | refine step_tree ?_); (refine m_mov (by conv => lhs; whnf) ?_)) | refine end_ops ?_ | refine seq_ops ?_ | refine seq_tree ?_)
  refine step_tree ?_; (apply m_call (slicesMax_spec K hK)); (· repeat (first | exact lends_nil | (refine lends_cons ?_ ?_; (· (refine lend_ints ?_; first | rfl | omega)))))
  repeat (first | (refine step_tree ?_; (first | (refine m_mov (by conv => lhs; whnf) ?_) | (refine m_eql rfl rfl ?_) | (apply m_ld_rp; (· rfl); (· rfl)))) | refine end_tree ?_ | refine AW_ret ?_ | refine ret_done ?_)
  exact outs_b rfl
theorem byShortest_spec (m : Int) (K : List Int) (hK : TyOk K) : Sp Try.prog 58 [ints K, .rp [.i m]] (.b (decide (K.getD (K.length - 1) 0 = m))) := by
  refine spec_of Try.func58 rfl cc58 rfl ?_
  unfold ac58
  repeat (first | ((first | refine step_ops ?_ | refine step_tree ?_); (refine m_mov (by conv => lhs; whnf) ?_)) | refine end_ops ?_ | refine seq_ops ?_ | refine seq_tree ?_)
  refine step_tree ?_; (apply m_call (slicesMin_spec K hK)); (· repeat (first | exact lends_nil | (refine lends_cons ?_ ?_; (· (refine lend_ints ?_; first | rfl | omega)))))
  repeat (first | (refine step_tree ?_; (first | (refine m_mov (by conv => lhs; whnf) ?_) | (refine m_eql rfl rfl ?_) | (apply m_ld_rp; (· rfl); (· rfl)))) | refine end_tree ?_ | refine AW_ret ?_ | refine ret_done ?_)
  exact outs_b rfl
theorem byTimes_spec (m : Int) (K : List Int) (hK : TyOk K) : Sp Try.prog 67 [ints K, .rp [.i m]] (.b (decide (((lcT K K.length : Nat) : Int) = m))) := by
  refine spec_of Try.func67 rfl cc67 rfl ?_
  unfold ac67
  repeat (first | ((first | refine step_ops ?_ | refine step_tree ?_); (refine m_mov (by conv => lhs; whnf) ?_)) | refine end_ops ?_ | refine seq_ops ?_ | refine seq_tree ?_)
  refine step_tree ?_; (apply m_call (timesOf_spec K hK.2.1 hK.2.2.1)); (· repeat (first | exact lends_nil | (refine lends_cons ?_ ?_; (· (refine lend_ints ?_; first | rfl | omega)))))
  repeat (first | (refine step_tree ?_; (first | (refine m_mov (by conv => lhs; whnf) ?_) | (refine m_eql rfl rfl ?_) | (apply m_ld_rp; (· rfl); (· rfl)))) | refine end_tree ?_ | refine AW_ret ?_ | refine ret_done ?_)
  exact outs_b rfl
end Go.Proofs.Ytmckfjnbbfdepaa
namespace Go.Proofs.Ytmckfjnbbfdepaa
variable [Go.Am.CodeBlk]
open Go.Am
attribute [local irreducible] AW Outs Weak Lends Lend Sp aops atree aop1 Then Round InBlock Done
attribute [local irreducible] SpH DoneH SpG DoneT
theorem implCountByChains_spec (g m : Int) : Sp Try.prog 21 [.i g, .i m] (cbTup g m) := by
  unfold cbTup
  by_cases h : CbOk g m
  · have e : cbR g m = _ := if_pos h
    rw [e]
    obtain ⟨⟨h1, h2⟩, h3, h4⟩ := id h
    obtain ⟨n, rfl⟩ := Int.eq_ofNat_of_zero_le (show 0 ≤ g by omega)
    rw [Int.toNat_natCast]
    unfold cbN
    have hs := countWhere_spec n (by omega) (by omega) 54 m (fun K => decide ((K.length : Int) = m)) ⟨_, Try.func54, by rfl, by rfl⟩ (byChains_spec m)
    have hg1 : ¬ m < 0 := by omega
    have hg2 : ¬ m > (n : Nat) := by omega
    generalize tySum n _ = r at *
    refine spec_of Try.func21 rfl cc21 rfl ?_
    unfold ac21
    repeat (first | (refine step_ops ?_; (first | (refine m_mov (by conv => lhs; whnf) ?_) | (refine m_box1 rfl rfl ?_))) | refine end_ops ?_ | refine seq_ops ?_ | refine AW_seq ?_)
    (refine step_ops ?_); (apply m_call (isGuestCount_spec _)); (· repeat (first | exact lends_nil | (refine lends_cons ?_ ?_; (· exact lend_v))))
    repeat (first | (refine step_ops ?_; ((try (refine g_yes rfl ?_ ?_; (· first | rfl | assumption | (refine decide_eq_true ?_; first | assumption | omega) | (refine nt ?_; first | assumption | omega) | (simp [*]; done) | (refine decide_eq_false ?_; first | assumption | omega) | (refine nf ?_; first | assumption | omega)))); (first | (refine m_mov (by conv => lhs; whnf) ?_) | (refine m_lss rfl rfl ?_) | (refine m_gtr rfl rfl ?_) | (refine m_not rfl ?_) | (apply m_ld_pt; (· rfl); (· rfl); (· rfl)) | (refine m_pick_f rfl ?_ (by conv => lhs; whnf) ?_; (· first | rfl | assumption | (refine decide_eq_false ?_; first | assumption | omega) | (refine nf ?_; first | assumption | omega) | (simp [*]; done))) | (refine m_mkf ?_)))) | refine end_ops ?_ | refine seq_ops ?_ | (refine cond_f rfl ?_ ?_; (· first | rfl | assumption | (refine decide_eq_false ?_; first | assumption | omega) | (refine nf ?_; first | assumption | omega) | (simp [*]; done))) | refine skip_then ?_)
    refine step_ops ?_
    refine m_call hs (lends_cons lend_v (lends_cons (lend_fn (lends_cons (lend_pt (cs := [.i m]) rfl rfl) lends_nil)) lends_nil)) ?_
    repeat (first | (refine step_ops ?_; (refine m_mov (by conv => lhs; whnf) ?_)) | refine end_ops ?_ | refine AW_ret ?_ | refine ret_done ?_)
    exact outs_tup2 (outs_i rfl) (outs_b (decide_eq_true h).symm)
  · have e : cbR g m = 0 := if_neg h
    rw [e]
    refine spec_of Try.func21 rfl cc21 rfl ?_
    unfold ac21
    by_cases h1 : 1 ≤ g ∧ g ≤ 12
    · by_cases h2 : m < 0
      · repeat (first | (refine step_ops ?_; (first | (refine m_mov (by conv => lhs; whnf) ?_) | (refine m_box1 rfl rfl ?_))) | refine end_ops ?_ | refine seq_ops ?_ | refine AW_seq ?_)
        (refine step_ops ?_); (apply m_call (isGuestCount_spec _)); (· repeat (first | exact lends_nil | (refine lends_cons ?_ ?_; (· exact lend_v))))
        repeat (first | (refine step_ops ?_; (first | ((try (refine g_yes rfl ?_ ?_; (· first | rfl | assumption | (refine decide_eq_true ?_; first | assumption | omega) | (refine nt ?_; first | assumption | omega) | (simp [*]; done) | (refine decide_eq_false ?_; first | assumption | omega) | (refine nf ?_; first | assumption | omega)))); (first | (refine m_mov (by conv => lhs; whnf) ?_) | (refine m_lss rfl rfl ?_) | (refine m_not rfl ?_) | (apply m_ld_pt; (· rfl); (· rfl); (· rfl)) | (refine m_pick_t rfl ?_ (by conv => lhs; whnf) ?_; (· first | rfl | assumption | (refine decide_eq_true ?_; first | assumption | omega) | (refine nt ?_; first | assumption | omega) | (simp [*]; done))) | (refine m_pick_f rfl ?_ (by conv => lhs; whnf) ?_; (· first | rfl | assumption | (refine decide_eq_false ?_; first | assumption | omega) | (refine nf ?_; first | assumption | omega) | (simp [*]; done))))) | (refine g_noF rfl ?_ ?_; (· first | rfl | assumption | (refine decide_eq_true ?_; first | assumption | omega) | (refine nt ?_; first | assumption | omega) | (simp [*]; done))))) | refine end_ops ?_ | refine seq_ops ?_ | (refine cond_t rfl ?_ ?_; (· first | rfl | assumption | (refine decide_eq_true ?_; first | assumption | omega) | (refine nt ?_; first | assumption | omega) | (simp [*]; done))) | refine AW_ret ?_ | refine ret_done ?_ | refine ret_then ?_)
        exact outs_tup2 (outs_i rfl) (outs_b (decide_eq_false h).symm)
      · have h3 : m > g := by
          rcases Int.lt_or_le g m with hh | hh
          · exact hh
          · exact absurd ⟨h1, by omega, hh⟩ h
        repeat (first | (refine step_ops ?_; (first | (refine m_mov (by conv => lhs; whnf) ?_) | (refine m_box1 rfl rfl ?_))) | refine end_ops ?_ | refine seq_ops ?_ | refine AW_seq ?_)
        (refine step_ops ?_); (apply m_call (isGuestCount_spec _)); (· repeat (first | exact lends_nil | (refine lends_cons ?_ ?_; (· exact lend_v))))
        repeat (first | (refine step_ops ?_; ((try (refine g_yes rfl ?_ ?_; (· first | rfl | assumption | (refine decide_eq_true ?_; first | assumption | omega) | (refine nt ?_; first | assumption | omega) | (simp [*]; done) | (refine decide_eq_false ?_; first | assumption | omega) | (refine nf ?_; first | assumption | omega)))); (first | (refine m_mov (by conv => lhs; whnf) ?_) | (refine m_lss rfl rfl ?_) | (refine m_gtr rfl rfl ?_) | (refine m_not rfl ?_) | (apply m_ld_pt; (· rfl); (· rfl); (· rfl)) | (refine m_pick_f rfl ?_ (by conv => lhs; whnf) ?_; (· first | rfl | assumption | (refine decide_eq_false ?_; first | assumption | omega) | (refine nf ?_; first | assumption | omega) | (simp [*]; done)))))) | refine end_ops ?_ | refine seq_ops ?_ | (refine cond_t rfl ?_ ?_; (· first | rfl | assumption | (refine decide_eq_true ?_; first | assumption | omega) | (refine nt ?_; first | assumption | omega) | (simp [*]; done))) | refine AW_ret ?_ | refine ret_done ?_ | refine ret_then ?_)
        exact outs_tup2 (outs_i rfl) (outs_b (decide_eq_false h).symm)
    · repeat (first | (refine step_ops ?_; (first | (refine m_mov (by conv => lhs; whnf) ?_) | (refine m_box1 rfl rfl ?_))) | refine end_ops ?_ | refine seq_ops ?_ | refine AW_seq ?_)
      (refine step_ops ?_); (apply m_call (isGuestCount_spec _)); (· repeat (first | exact lends_nil | (refine lends_cons ?_ ?_; (· exact lend_v))))
      repeat (first | (refine step_ops ?_; (first | (first | (refine m_mov (by conv => lhs; whnf) ?_) | (refine m_not rfl ?_) | (refine m_pick_t rfl ?_ (by conv => lhs; whnf) ?_; (· first | rfl | assumption | (refine decide_eq_true ?_; first | assumption | omega) | (refine nt ?_; first | assumption | omega) | (simp [*]; done)))) | (refine g_noF rfl ?_ ?_; (· first | rfl | assumption | (refine decide_eq_true ?_; first | assumption | omega) | (refine nt ?_; first | assumption | omega) | (simp [*]; done))))) | refine end_ops ?_ | refine seq_ops ?_ | (refine cond_t rfl ?_ ?_; (· first | rfl | assumption | (refine decide_eq_true ?_; first | assumption | omega) | (refine nt ?_; first | assumption | omega) | (simp [*]; done))) | refine AW_ret ?_ | refine ret_done ?_ | refine ret_then ?_)
      exact outs_tup2 (outs_i rfl) (outs_b (decide_eq_false h).symm)
theorem longest_cnt : ∀ g < 13, 1 ≤ g → ∀ m < 13, 1 ≤ m → chLongN g ((m : Nat) : Int) - chLongN g (((m : Nat) : Int) - 1) = tySum g fun K => decide (K.getD 0 0 = ((m : Nat) : Int)) := by decide +kernel
theorem implCountLongest_spec (g m : Int) : Sp Try.prog 22 [.i g, .i m] (loTup g m) := by
  unfold loTup
  by_cases h : LoOk g m
  · have e : loR g m = _ := if_pos h
    rw [e]
    obtain ⟨⟨h1, h2⟩, h3, h4⟩ := id h
    obtain ⟨n, rfl⟩ := Int.eq_ofNat_of_zero_le (show 0 ≤ g by omega)
    obtain ⟨k, rfl⟩ := Int.eq_ofNat_of_zero_le (show 0 ≤ m by omega)
    rw [Int.toNat_natCast, longest_cnt n (by omega) (by omega) k (by omega) (by omega)]
    have hs := countWhere_spec n (by omega) (by omega) 56 k (fun K => decide (K.getD 0 0 = ((k : Nat) : Int))) ⟨_, Try.func56, by rfl, by rfl⟩ (byLongest_spec k)
    generalize tySum n _ = r at *
    refine spec_of Try.func22 rfl cc22 rfl ?_
    unfold ac22
    repeat (first | (refine step_ops ?_; (first | (refine m_mov (by conv => lhs; whnf) ?_) | (apply m_ld_pt; (· rfl); (· rfl); (· rfl)) | (refine m_box1 rfl rfl ?_))) | refine end_ops ?_ | refine seq_ops ?_ | refine AW_seq ?_)
    (refine step_ops ?_); (apply m_call (canHaveLength_spec _ _)); (· repeat (first | exact lends_nil | (refine lends_cons ?_ ?_; (· exact lend_v))))
    repeat (first | (refine step_ops ?_; (first | (refine m_mov (by conv => lhs; whnf) ?_) | (refine m_not rfl ?_) | (refine m_mkf ?_))) | refine end_ops ?_ | refine seq_ops ?_ | (refine cond_f rfl ?_ ?_; (· first | rfl | assumption | (refine decide_eq_false ?_; first | assumption | omega) | (refine nf ?_; first | assumption | omega) | (simp [*]; done))) | refine skip_then ?_)
    refine step_ops ?_
    refine m_call hs (lends_cons lend_v (lends_cons (lend_fn (lends_cons (lend_pt (cs := [.i (k : Nat)]) rfl rfl) lends_nil)) lends_nil)) ?_
    repeat (first | (refine step_ops ?_; (refine m_mov (by conv => lhs; whnf) ?_)) | refine end_ops ?_ | refine AW_ret ?_ | refine ret_done ?_)
    exact outs_tup2 (outs_i rfl) (outs_b (decide_eq_true h).symm)
  · have e : loR g m = 0 := if_neg h
    rw [e]
    refine spec_of Try.func22 rfl cc22 rfl ?_
    unfold ac22
    repeat (first | (refine step_ops ?_; (first | (refine m_mov (by conv => lhs; whnf) ?_) | (apply m_ld_pt; (· rfl); (· rfl); (· rfl)) | (refine m_box1 rfl rfl ?_))) | refine end_ops ?_ | refine seq_ops ?_ | refine AW_seq ?_)
    (refine step_ops ?_); (apply m_call (canHaveLength_spec _ _)); (· repeat (first | exact lends_nil | (refine lends_cons ?_ ?_; (· exact lend_v))))
    repeat (first | (refine step_ops ?_; (first | (refine m_mov (by conv => lhs; whnf) ?_) | (refine m_not rfl ?_))) | refine end_ops ?_ | refine seq_ops ?_ | (refine cond_t rfl ?_ ?_; (· first | rfl | assumption | (refine decide_eq_true ?_; first | assumption | omega) | (refine nt ?_; first | assumption | omega) | (simp [*]; done))) | refine AW_ret ?_ | refine ret_done ?_ | refine ret_then ?_)
    exact outs_tup2 (outs_i rfl) (outs_b (decide_eq_false h).symm)
theorem implCountShortest_spec (g m : Int) : Sp Try.prog 23 [.i g, .i m] (csTup g m) := by
  unfold csTup
  by_cases h : LoOk g m
  · have e : csR g m = _ := if_pos h
    rw [e]
    obtain ⟨⟨h1, h2⟩, h3, h4⟩ := id h
    obtain ⟨n, rfl⟩ := Int.eq_ofNat_of_zero_le (show 0 ≤ g by omega)
    rw [Int.toNat_natCast]
    have hs := countWhere_spec n (by omega) (by omega) 58 m (fun K => decide (K.getD (K.length - 1) 0 = m)) ⟨_, Try.func58, by rfl, by rfl⟩ (byShortest_spec m)
    generalize tySum n _ = r at *
    refine spec_of Try.func23 rfl cc23 rfl ?_
    unfold ac23
    repeat (first | (refine step_ops ?_; (first | (refine m_mov (by conv => lhs; whnf) ?_) | (apply m_ld_pt; (· rfl); (· rfl); (· rfl)) | (refine m_box1 rfl rfl ?_))) | refine end_ops ?_ | refine seq_ops ?_ | refine AW_seq ?_)
    (refine step_ops ?_); (apply m_call (canHaveLength_spec _ _)); (· repeat (first | exact lends_nil | (refine lends_cons ?_ ?_; (· exact lend_v))))
    repeat (first | (refine step_ops ?_; (first | (refine m_mov (by conv => lhs; whnf) ?_) | (refine m_not rfl ?_) | (refine m_mkf ?_))) | refine end_ops ?_ | refine seq_ops ?_ | (refine cond_f rfl ?_ ?_; (· first | rfl | assumption | (refine decide_eq_false ?_; first | assumption | omega) | (refine nf ?_; first | assumption | omega) | (simp [*]; done))) | refine skip_then ?_)
    refine step_ops ?_
    refine m_call hs (lends_cons lend_v (lends_cons (lend_fn (lends_cons (lend_pt (cs := [.i m]) rfl rfl) lends_nil)) lends_nil)) ?_
    repeat (first | (refine step_ops ?_; (refine m_mov (by conv => lhs; whnf) ?_)) | refine end_ops ?_ | refine AW_ret ?_ | refine ret_done ?_)
    exact outs_tup2 (outs_i rfl) (outs_b (decide_eq_true h).symm)
  · have e : csR g m = 0 := if_neg h
    rw [e]
    refine spec_of Try.func23 rfl cc23 rfl ?_
    unfold ac23
    repeat (first | (refine step_ops ?_; (first | (refine m_mov (by conv => lhs; whnf) ?_) | (apply m_ld_pt; (· rfl); (· rfl); (· rfl)) | (refine m_box1 rfl rfl ?_))) | refine end_ops ?_ | refine seq_ops ?_ | refine AW_seq ?_)
    (refine step_ops ?_); (apply m_call (canHaveLength_spec _ _)); (· repeat (first | exact lends_nil | (refine lends_cons ?_ ?_; (· exact lend_v))))
    repeat (first | (refine step_ops ?_; (first | (refine m_mov (by conv => lhs; whnf) ?_) | (refine m_not rfl ?_))) | refine end_ops ?_ | refine seq_ops ?_ | (refine cond_t rfl ?_ ?_; (· first | rfl | assumption | (refine decide_eq_true ?_; first | assumption | omega) | (refine nt ?_; first | assumption | omega) | (simp [*]; done))) | refine AW_ret ?_ | refine ret_done ?_ | refine ret_then ?_)
    exact outs_tup2 (outs_i rfl) (outs_b (decide_eq_false h).symm)
theorem implCountByTimes_spec (g m : Int) : Sp Try.prog 33 [.i g, .i m] (btTup g m) := by
  unfold btTup
  by_cases h : BtOk g m
  · have e : btR g m = _ := if_pos h
    rw [e]
    obtain ⟨⟨h1, h2⟩, h3, h4⟩ := id h
    obtain ⟨n, rfl⟩ := Int.eq_ofNat_of_zero_le (show 0 ≤ g by omega)
    rw [Int.toNat_natCast]
    have hs := countWhere_spec n (by omega) (by omega) 67 m (fun K => decide (((lcT K K.length : Nat) : Int) = m)) ⟨_, Try.func67, by rfl, by rfl⟩ (byTimes_spec m)
    have hg1 : ¬ m < 1 := by omega
    have hg2 : ¬ m > 1000 := by omega
    generalize tySum n _ = r at *
    refine spec_of Try.func33 rfl cc33 rfl ?_
    unfold ac33
    repeat (first | (refine step_ops ?_; (first | (refine m_mov (by conv => lhs; whnf) ?_) | (refine m_box1 rfl rfl ?_))) | refine end_ops ?_ | refine seq_ops ?_ | refine AW_seq ?_)
    (refine step_ops ?_); (apply m_call (isGuestCount_spec _)); (· repeat (first | exact lends_nil | (refine lends_cons ?_ ?_; (· exact lend_v))))
    repeat (first | (refine step_ops ?_; ((try (refine g_yes rfl ?_ ?_; (· first | rfl | assumption | (refine decide_eq_true ?_; first | assumption | omega) | (refine nt ?_; first | assumption | omega) | (simp [*]; done) | (refine decide_eq_false ?_; first | assumption | omega) | (refine nf ?_; first | assumption | omega)))); (first | (refine m_mov (by conv => lhs; whnf) ?_) | (refine m_lss rfl rfl ?_) | (refine m_gtr rfl rfl ?_) | (refine m_not rfl ?_) | (apply m_ld_pt; (· rfl); (· rfl); (· rfl)) | (refine m_pick_f rfl ?_ (by conv => lhs; whnf) ?_; (· first | rfl | assumption | (refine decide_eq_false ?_; first | assumption | omega) | (refine nf ?_; first | assumption | omega) | (simp [*]; done))) | (refine m_mkf ?_)))) | refine end_ops ?_ | refine seq_ops ?_ | (refine cond_f rfl ?_ ?_; (· first | rfl | assumption | (refine decide_eq_false ?_; first | assumption | omega) | (refine nf ?_; first | assumption | omega) | (simp [*]; done))) | refine skip_then ?_)
    refine step_ops ?_
    refine m_call hs (lends_cons lend_v (lends_cons (lend_fn (lends_cons (lend_pt (cs := [.i m]) rfl rfl) lends_nil)) lends_nil)) ?_
    repeat (first | (refine step_ops ?_; (refine m_mov (by conv => lhs; whnf) ?_)) | refine end_ops ?_ | refine AW_ret ?_ | refine ret_done ?_)
    exact outs_tup2 (outs_i rfl) (outs_b (decide_eq_true h).symm)
  · have e : btR g m = 0 := if_neg h
    rw [e]
    refine spec_of Try.func33 rfl cc33 rfl ?_
    unfold ac33
    by_cases h1 : 1 ≤ g ∧ g ≤ 12
    · by_cases h2 : m < 1
      · repeat (first | (refine step_ops ?_; (first | (refine m_mov (by conv => lhs; whnf) ?_) | (refine m_box1 rfl rfl ?_))) | refine end_ops ?_ | refine seq_ops ?_ | refine AW_seq ?_)
        (refine step_ops ?_); (apply m_call (isGuestCount_spec _)); (· repeat (first | exact lends_nil | (refine lends_cons ?_ ?_; (· exact lend_v))))
        repeat (first | (refine step_ops ?_; (first | ((try (refine g_yes rfl ?_ ?_; (· first | rfl | assumption | (refine decide_eq_true ?_; first | assumption | omega) | (refine nt ?_; first | assumption | omega) | (simp [*]; done) | (refine decide_eq_false ?_; first | assumption | omega) | (refine nf ?_; first | assumption | omega)))); (first | (refine m_mov (by conv => lhs; whnf) ?_) | (refine m_lss rfl rfl ?_) | (refine m_not rfl ?_) | (apply m_ld_pt; (· rfl); (· rfl); (· rfl)) | (refine m_pick_t rfl ?_ (by conv => lhs; whnf) ?_; (· first | rfl | assumption | (refine decide_eq_true ?_; first | assumption | omega) | (refine nt ?_; first | assumption | omega) | (simp [*]; done))) | (refine m_pick_f rfl ?_ (by conv => lhs; whnf) ?_; (· first | rfl | assumption | (refine decide_eq_false ?_; first | assumption | omega) | (refine nf ?_; first | assumption | omega) | (simp [*]; done))))) | (refine g_noF rfl ?_ ?_; (· first | rfl | assumption | (refine decide_eq_true ?_; first | assumption | omega) | (refine nt ?_; first | assumption | omega) | (simp [*]; done))))) | refine end_ops ?_ | refine seq_ops ?_ | (refine cond_t rfl ?_ ?_; (· first | rfl | assumption | (refine decide_eq_true ?_; first | assumption | omega) | (refine nt ?_; first | assumption | omega) | (simp [*]; done))) | refine AW_ret ?_ | refine ret_done ?_ | refine ret_then ?_)
        exact outs_tup2 (outs_i rfl) (outs_b (decide_eq_false h).symm)
      · have h3 : m > 1000 := by
          rcases Int.lt_or_le 1000 m with hh | hh
          · exact hh
          · exact absurd ⟨h1, by omega, hh⟩ h
        repeat (first | (refine step_ops ?_; (first | (refine m_mov (by conv => lhs; whnf) ?_) | (refine m_box1 rfl rfl ?_))) | refine end_ops ?_ | refine seq_ops ?_ | refine AW_seq ?_)
        (refine step_ops ?_); (apply m_call (isGuestCount_spec _)); (· repeat (first | exact lends_nil | (refine lends_cons ?_ ?_; (· exact lend_v))))
        repeat (first | (refine step_ops ?_; ((try (refine g_yes rfl ?_ ?_; (· first | rfl | assumption | (refine decide_eq_true ?_; first | assumption | omega) | (refine nt ?_; first | assumption | omega) | (simp [*]; done) | (refine decide_eq_false ?_; first | assumption | omega) | (refine nf ?_; first | assumption | omega)))); (first | (refine m_mov (by conv => lhs; whnf) ?_) | (refine m_lss rfl rfl ?_) | (refine m_gtr rfl rfl ?_) | (refine m_not rfl ?_) | (apply m_ld_pt; (· rfl); (· rfl); (· rfl)) | (refine m_pick_f rfl ?_ (by conv => lhs; whnf) ?_; (· first | rfl | assumption | (refine decide_eq_false ?_; first | assumption | omega) | (refine nf ?_; first | assumption | omega) | (simp [*]; done)))))) | refine end_ops ?_ | refine seq_ops ?_ | (refine cond_t rfl ?_ ?_; (· first | rfl | assumption | (refine decide_eq_true ?_; first | assumption | omega) | (refine nt ?_; first | assumption | omega) | (simp [*]; done))) | refine AW_ret ?_ | refine ret_done ?_ | refine ret_then ?_)
        exact outs_tup2 (outs_i rfl) (outs_b (decide_eq_false h).symm)
    · repeat (first | (refine step_ops ?_; (first | (refine m_mov (by conv => lhs; whnf) ?_) | (refine m_box1 rfl rfl ?_))) | refine end_ops ?_ | refine seq_ops ?_ | refine AW_seq ?_)
      (refine step_ops ?_); (apply m_call (isGuestCount_spec _)); (· repeat (first | exact lends_nil | (refine lends_cons ?_ ?_; (· exact lend_v))))
      repeat (first | (refine step_ops ?_; (first | (first | (refine m_mov (by conv => lhs; whnf) ?_) | (refine m_not rfl ?_) | (refine m_pick_t rfl ?_ (by conv => lhs; whnf) ?_; (· first | rfl | assumption | (refine decide_eq_true ?_; first | assumption | omega) | (refine nt ?_; first | assumption | omega) | (simp [*]; done)))) | (refine g_noF rfl ?_ ?_; (· first | rfl | assumption | (refine decide_eq_true ?_; first | assumption | omega) | (refine nt ?_; first | assumption | omega) | (simp [*]; done))))) | refine end_ops ?_ | refine seq_ops ?_ | (refine cond_t rfl ?_ ?_; (· first | rfl | assumption | (refine decide_eq_true ?_; first | assumption | omega) | (refine nt ?_; first | assumption | omega) | (simp [*]; done))) | refine AW_ret ?_ | refine ret_done ?_ | refine ret_then ?_)
      exact outs_tup2 (outs_i rfl) (outs_b (decide_eq_false h).symm)
theorem implTimesOfType_spec (K : List Int) (hL : K.length ≤ 1048576) : Sp Try.prog 18 [ints K] (toTup K) := by
  unfold toTup
  refine spec_of Try.func18 rfl cc18 rfl ?_
  unfold ac18
  by_cases h : TyOk K
  · have e : toR K = _ := if_pos h
    rw [e]
    repeat (first | (refine step_ops ?_; (refine m_mov (by conv => lhs; whnf) ?_)) | refine end_ops ?_ | refine seq_ops ?_ | refine AW_seq ?_)
    (refine step_ops ?_); (apply m_call (isType_spec K hL)); (· repeat (first | exact lends_nil | (refine lends_cons ?_ ?_; (· (refine lend_ints ?_; first | rfl | omega)))))
    repeat (first | (refine step_ops ?_; (first | (refine m_mov (by conv => lhs; whnf) ?_) | (refine m_not rfl ?_))) | refine end_ops ?_ | refine seq_ops ?_ | (refine cond_f rfl ?_ ?_; (· first | rfl | assumption | (refine decide_eq_false ?_; first | assumption | omega) | (refine nf ?_; first | assumption | omega) | (simp [*]; done))) | refine skip_then ?_)
    (refine step_ops ?_); (apply m_call (timesOf_spec K h.2.1 h.2.2.1)); (· repeat (first | exact lends_nil | (refine lends_cons ?_ ?_; (· (refine lend_ints ?_; first | rfl | omega)))))
    repeat (first | (refine step_ops ?_; (refine m_mov (by conv => lhs; whnf) ?_)) | refine end_ops ?_ | refine AW_ret ?_ | refine ret_done ?_)
    exact outs_tup2 (outs_i rfl) (outs_b (decide_eq_true h).symm)
  · have e : toR K = _ := if_neg h
    rw [e]
    repeat (first | (refine step_ops ?_; (refine m_mov (by conv => lhs; whnf) ?_)) | refine end_ops ?_ | refine seq_ops ?_ | refine AW_seq ?_)
    (refine step_ops ?_); (apply m_call (isType_spec K hL)); (· repeat (first | exact lends_nil | (refine lends_cons ?_ ?_; (· (refine lend_ints ?_; first | rfl | omega)))))
    repeat (first | (refine step_ops ?_; (first | (refine m_mov (by conv => lhs; whnf) ?_) | (refine m_not rfl ?_))) | refine end_ops ?_ | refine seq_ops ?_ | (refine cond_t rfl ?_ ?_; (· first | rfl | assumption | (refine decide_eq_true ?_; first | assumption | omega) | (refine nt ?_; first | assumption | omega) | (simp [*]; done))) | refine AW_ret ?_ | refine ret_done ?_ | refine ret_then ?_)
    exact outs_tup2 (outs_i rfl) (outs_b (decide_eq_false h).symm)
theorem implGreatestTimes_spec (g : Int) : Sp Try.prog 13 [.i g] (gtTup g) := by
  unfold gtTup
  refine spec_of Try.func13 rfl cc13 rfl ?_
  unfold ac13
  by_cases h : 1 ≤ g ∧ g ≤ 12
  · have e : gtR g = _ := if_pos h
    rw [e]
    obtain ⟨n, rfl⟩ := Int.eq_ofNat_of_zero_le (show 0 ≤ g by omega)
    rw [Int.toNat_natCast]
    have hall := sp_mat1 (typesOf_spec n (by omega) (by omega))
    have hR := tyAll_ty (s := n) (by omega) (by omega)
    have hRl := tyAll_len (s := n) (m := n) (by omega) (by omega)
    generalize tyAll n n = R at *
    repeat (first | (refine step_ops ?_; (refine m_mov (by conv => lhs; whnf) ?_)) | refine end_ops ?_ | refine seq_ops ?_ | refine AW_seq ?_)
    (refine step_ops ?_); (apply m_call (isGuestCount_spec _)); (· repeat (first | exact lends_nil | (refine lends_cons ?_ ?_; (· exact lend_v))))
    repeat (first | (refine step_ops ?_; (first | (refine m_mov (by conv => lhs; whnf) ?_) | (refine m_not rfl ?_))) | refine end_ops ?_ | refine seq_ops ?_ | (refine cond_f rfl ?_ ?_; (· first | rfl | assumption | (refine decide_eq_false ?_; first | assumption | omega) | (refine nf ?_; first | assumption | omega) | (simp [*]; done))) | refine skip_then ?_ | refine AW_seq ?_)
    (refine step_ops ?_); (apply m_call (hall)); (· repeat (first | exact lends_nil | (refine lends_cons ?_ ?_; (· exact lend_v))))
    repeat (first | (refine step_ops ?_; (first | (refine m_mov (by conv => lhs; whnf) ?_) | (refine m_len_ro rfl ?_))) | refine end_ops ?_ | refine AW_block ?_)
    refine AW_loop (α := Nat) (fun k => k ≤ R.length) (fun k => st [(4, .i (gtM R k)), (11, roF R), (12, .i R.length), (13, .i k)] []) (fun k => R.length - k) 0 (Nat.zero_le _) (weak_st ?_ ?_ rfl rfl) ?_
    · (repeat' (first | exact trivial | refine And.intro ?_ ?_)) <;> (first | rfl | skip)
    · trivial
    intro k hk
    by_cases hc : k < R.length
    · have hs : gtM R (k + 1) = max (gtM R k) (lcT (R.getD k []) (R.getD k []).length : Nat) := rfl
      have hok := hR _ (getD_memL hc : R.getD k [] ∈ R)
      obtain ⟨row, hrw⟩ : ∃ row, row = R.getD k [] := ⟨_, rfl⟩
      rw [← hrw] at hs hok
      have hcc := timesOf_spec row hok.2.1 hok.2.2.1
      generalize gtM R k = a at *
      generalize lcT row row.length = b at *
      have hmx : (if ((b : Nat) : Int) > a then ((b : Nat) : Int) else a) = gtM R (k + 1) := by rw [hs]; split <;> omega
      repeat (first | (refine step_ops ?_; (first | (refine m_lss rfl rfl ?_) | (refine m_idx1_ro rfl rfl ?_ ?_; (· omega)))) | refine end_ops ?_ | refine seq_ops ?_ | (refine cond_t rfl ?_ ?_; (· first | rfl | assumption | (refine decide_eq_true ?_; first | assumption | omega) | (refine nt ?_; first | assumption | omega) | (simp [*]; done))) | refine skip_then ?_ | refine AW_seq ?_ | refine AW_block ?_)
      refine step_ops ?_
      refine m_ld_rp rfl (rowT_at hc) ?_
      rw [← hrw]
      repeat (first | (refine step_ops ?_; (refine m_mov (by conv => lhs; whnf) ?_)) | refine end_ops ?_ | refine AW_ops ?_)
      (refine step_ops ?_); (apply m_call (hcc)); (· repeat (first | exact lends_nil | (refine lends_cons ?_ ?_; (· (refine lend_ints ?_; first | rfl | omega)))))
      repeat (first | (refine step_ops ?_; (first | (refine m_mov (by conv => lhs; whnf) ?_) | (refine m_add rfl rfl ?_ ?_ ?_; (· omega); (· omega)) | (refine m_max rfl rfl ?_))) | refine end_ops ?_ | refine AW_ops ?_ | refine norm_then ?_ | refine norm_block ?_)
      rw [hmx]
      skip
      refine next_round (k + 1) (by omega) (weak_st ?_ ?_ rfl rfl) ?_
      · (repeat' (first | exact trivial | refine And.intro ?_ ?_)) <;> (first | rfl | skip)
      · trivial
      · omega
    · obtain rfl : k = R.length := by omega
      repeat (first | (refine step_ops ?_; (first | (refine m_mov (by conv => lhs; whnf) ?_) | (refine m_lss rfl rfl ?_))) | refine end_ops ?_ | refine seq_ops ?_ | (refine cond_f rfl ?_ ?_; (· first | rfl | assumption | (refine decide_eq_false ?_; first | assumption | omega) | (refine nf ?_; first | assumption | omega) | (simp [*]; done))) | refine AW_seq ?_ | refine AW_ret ?_ | refine ret_done ?_ | refine norm_then ?_ | refine exit_then ?_ | refine exit_round ?_ | refine AW_exit ?_ | refine exit_block ?_)
      exact outs_tup2 (outs_i rfl) (outs_b (decide_eq_true h).symm)
  · have e : gtR g = _ := if_neg h
    rw [e]
    repeat (first | (refine step_ops ?_; (refine m_mov (by conv => lhs; whnf) ?_)) | refine end_ops ?_ | refine seq_ops ?_ | refine AW_seq ?_)
    (refine step_ops ?_); (apply m_call (isGuestCount_spec _)); (· repeat (first | exact lends_nil | (refine lends_cons ?_ ?_; (· exact lend_v))))
    repeat (first | (refine step_ops ?_; (first | (refine m_mov (by conv => lhs; whnf) ?_) | (refine m_not rfl ?_))) | refine end_ops ?_ | refine seq_ops ?_ | (refine cond_t rfl ?_ ?_; (· first | rfl | assumption | (refine decide_eq_true ?_; first | assumption | omega) | (refine nt ?_; first | assumption | omega) | (simp [*]; done))) | refine AW_ret ?_ | refine ret_done ?_ | refine ret_then ?_)
    exact outs_tup2 (outs_i rfl) (outs_b (decide_eq_false h).symm)
theorem implTypesOf_spec (g : Int) : SpH Try.prog 7 [.i g] (fun _ => none) (.tup [.sl nbase 1 0 (tpRes g).length, .v (.bool (decide (1 ≤ g ∧ g ≤ 12)))]) (matO (tpRes g)) := by
  have hpb : pbase = 4000000 := rfl
  refine specH_of Try.func7 rfl cc7 rfl (by first | exact static_mat1 _ | exact static_mat2 _ _ | assumption) ?_
  unfold ac7
  by_cases h : 1 ≤ g ∧ g ≤ 12
  · have e : tpRes g = _ := if_pos h
    rw [e]
    obtain ⟨n, rfl⟩ := Int.eq_ofNat_of_zero_le (show 0 ≤ g by omega)
    rw [Int.toNat_natCast]
    have hall := typesOf_spec n (by omega) (by omega)
    have hRl := tyAll_len (s := n) (m := n) (by omega) (by omega)
    rw [decide_eq_true h]
    generalize tyAll n n = R at *
    have hrl := rowsC_len 1000 R
    repeat (first | (refine step_ops ?_; (first | (refine m_mov (by conv => lhs; whnf) ?_) | (refine m_nils ?_))) | refine end_ops ?_ | refine seq_ops ?_ | refine AW_seq ?_)
    (refine step_ops ?_); (apply m_call (isGuestCount_spec _)); (· repeat (first | exact lends_nil | (refine lends_cons ?_ ?_; (· exact lend_v))))
    repeat (first | (refine step_ops ?_; (first | (refine m_mov (by conv => lhs; whnf) ?_) | (refine m_not rfl ?_))) | refine end_ops ?_ | refine seq_ops ?_ | (refine cond_f rfl ?_ ?_; (· first | rfl | assumption | (refine decide_eq_false ?_; first | assumption | omega) | (refine nf ?_; first | assumption | omega) | (simp [*]; done))) | refine skip_then ?_)
    refine step_ops ?_
    refine m_callM 8 1000 hall ?_ rfl (by omega) (by omega) (by omega) rfl ?_ ?_
    · exact lends_cons lend_v lends_nil
    · intro j hj
      simp (disch := omega) only [hp_put, hp_mem_ne, hp_kill_ne]
      rfl
    repeat (first | (refine step_ops ?_; (refine m_mov (by conv => lhs; whnf) ?_)) | refine end_ops ?_ | refine AW_ret ?_)
    refine ret_mat (r0 := 8) (b := 1000) (by omega) (by omega) (by omega) rfl rfl ?_
    intro j hj
    simp only [hp_put]
    refine addM_row (by omega) ?_ hj
    simp (disch := omega) only [hp_put, hp_mem_ne, hp_kill_ne]
    rfl
  · have e : tpRes g = _ := if_neg h
    rw [e]
    rw [decide_eq_false h]
    repeat (first | (refine step_ops ?_; (first | (refine m_mov (by conv => lhs; whnf) ?_) | (refine m_nils ?_))) | refine end_ops ?_ | refine seq_ops ?_ | refine AW_seq ?_)
    (refine step_ops ?_); (apply m_call (isGuestCount_spec _)); (· repeat (first | exact lends_nil | (refine lends_cons ?_ ?_; (· exact lend_v))))
    repeat (first | (refine step_ops ?_; (first | (refine m_mov (by conv => lhs; whnf) ?_) | (refine m_not rfl ?_) | (refine m_nils ?_))) | refine end_ops ?_ | refine seq_ops ?_ | (refine cond_t rfl ?_ ?_; (· first | rfl | assumption | (refine decide_eq_true ?_; first | assumption | omega) | (refine nt ?_; first | assumption | omega) | (simp [*]; done))) | refine AW_ret ?_ | refine ret_then ?_)
    exact ret_mat0 (r0 := 2) (by omega) rfl rfl
end Go.Proofs.Ytmckfjnbbfdepaa
namespace Go.Am
variable [Go.Am.CodeBlk]
/-- May the guest i behind those of M take x? -/
def MayTake (M : List Int) (i x : Nat) : Prop := x ≠ i ∧ (x : Int) ∉ M
instance (M : List Int) (i x : Nat) : Decidable (MayTake M i x) := inferInstanceAs (Decidable (_ ∧ _))
end Go.Am
namespace Go.Am
variable [Go.Am.CodeBlk]
/-- The first j terms, the least length first. -/
def cPart (w : List Int) (lo n : Nat) : Nat → Int
  | 0 => 0
  | j + 1 => cPart w lo n j + fac (n - 1) / fac (n - (lo + j)) * w.getD (n - (lo + j)) 0
/-- The counts of 0, 1, .. n guests. -/
def cntT (lo hi : Nat) : Nat → List Int
  | 0 => [1]
  | n + 1 => cntT lo hi n ++ [cPart (cntT lo hi n) lo (n + 1) (min hi (n + 1) + 1 - lo)]
theorem cntT_len (lo hi n : Nat) : (cntT lo hi n).length = n + 1 := by
  induction n with
  | zero => rfl
  | succ n ih => rw [cntT, List.length_append, ih]; rfl
def CB (w : List Int) : Prop := ∀ m < w.length, 0 ≤ w.getD m 0 ∧ w.getD m 0 ≤ fac m
theorem fac_pos (n : Nat) : 1 ≤ fac n := by
  induction n with
  | zero => decide
  | succ n ih =>
    have h : (1 : Int) * 1 ≤ fac n * ((n : Int) + 1) := Int.mul_le_mul ih (by omega) (by decide) (by omega)
    exact h
theorem cTerm_le {w : List Int} {n k : Nat} (hw : CB w) (h1 : 1 ≤ k) (hk : k ≤ n) (hl : w.length = n) :
    0 ≤ fac (n - 1) / fac (n - k) * w.getD (n - k) 0 ∧ fac (n - 1) / fac (n - k) * w.getD (n - k) 0 ≤ fac (n - 1) := by
  obtain ⟨h2, h3⟩ := hw (n - k) (by omega)
  have h4 := fac_pos (n - k)
  have h5 := fac_pos (n - 1)
  have h6 : 0 ≤ fac (n - 1) / fac (n - k) := Int.ediv_nonneg (by omega) (by omega)
  refine ⟨Int.mul_nonneg h6 h2, Int.le_trans (Int.mul_le_mul_of_nonneg_left h3 h6) ?_⟩
  exact Int.ediv_mul_le _ (by omega)
theorem cPart_le {w : List Int} {lo n : Nat} (hw : CB w) (hlo : 1 ≤ lo) (hl : w.length = n) (j : Nat) (hj : lo + j ≤ n + 1) : 0 ≤ cPart w lo n j ∧ cPart w lo n j ≤ j * fac (n - 1) := by
  induction j with
  | zero => simp [cPart]
  | succ j ih =>
    have h1 := ih (by omega)
    have h2 := cTerm_le (k := lo + j) hw (by omega) (by omega) hl
    rw [cPart]
    have e : ((j + 1 : Nat) : Int) * fac (n - 1) = (j : Int) * fac (n - 1) + fac (n - 1) := by push_cast; rw [Int.add_mul, Int.one_mul]
    rw [e]
    omega
theorem fac_succ (n : Nat) (h : 1 ≤ n) : fac n = n * fac (n - 1) := by
  obtain ⟨m, rfl⟩ : ∃ m, n = m + 1 := ⟨n - 1, by omega⟩
  rw [Nat.add_sub_cancel, Int.mul_comm]
  show fac m * ((m : Int) + 1) = _
  push_cast; rfl
theorem cPart_fac {w : List Int} {lo n : Nat} (hw : CB w) (hlo : 1 ≤ lo) (hl : w.length = n) (j : Nat) (hj : lo + j ≤ n + 1) : 0 ≤ cPart w lo n j ∧ cPart w lo n j ≤ fac n := by
  obtain ⟨h1, h2⟩ := cPart_le hw hlo hl j hj
  refine ⟨h1, Int.le_trans h2 ?_⟩
  rcases Nat.eq_zero_or_pos n with h0 | h0
  · have : j = 0 := by omega
    subst this; have := fac_pos n; simp; omega
  · rw [fac_succ n h0]
    exact Int.mul_le_mul_of_nonneg_right (by omega) (by have := fac_pos (n - 1); omega)
theorem cntT_cb (lo hi n : Nat) (hlo : 1 ≤ lo) : CB (cntT lo hi n) := by
  induction n with
  | zero =>
    intro m hm
    have : m = 0 := by simp [cntT] at hm; omega
    subst this; simp [cntT, fac]
  | succ n ih =>
    intro m hm
    rw [cntT_len] at hm
    have hl := cntT_len lo hi n
    by_cases e : m = n + 1
    · subst e
      have e2 : (cntT lo hi (n + 1)).getD (n + 1) 0 = cPart (cntT lo hi n) lo (n + 1) (min hi (n + 1) + 1 - lo) := by
        rw [cntT, List.getD_eq_getElem?_getD, List.getElem?_append_right (by omega), hl]; simp
      rw [e2]
      by_cases c : lo ≤ min hi (n + 1) + 1
      · exact cPart_fac ih hlo hl _ (by omega)
      · have : min hi (n + 1) + 1 - lo = 0 := by omega
        rw [this]; have := fac_pos (n + 1); simp only [cPart]; omega
    · have e2 : (cntT lo hi (n + 1)).getD m 0 = (cntT lo hi n).getD m 0 := by
        rw [cntT, List.getD_eq_getElem?_getD, List.getElem?_append_left (by omega), ← List.getD_eq_getElem?_getD]
      rw [e2]
      exact ih m (by omega)
theorem cntT_snoc (lo hi n : Nat) : cntT lo hi (n + 1) = cntT lo hi n ++ [cPart (cntT lo hi n) lo (n + 1) (min hi (n + 1) + 1 - lo)] := rfl
/-- The row of counts of g guests asx it is filled: behind n guests, and behind j terms of the next. -/
def cntW (lo hi g n : Nat) : List Int := cntT lo hi n ++ List.replicate (g - n) 0
def cntI (lo hi g n j : Nat) : List Int := cntT lo hi n ++ cPart (cntT lo hi n) lo (n + 1) j :: List.replicate (g - n - 1) 0
theorem cntW_len (lo hi g n : Nat) (h : n ≤ g) : (cntW lo hi g n).length = g + 1 := by simp [cntW, cntT_len]; omega
theorem cntI_len (lo hi g n j : Nat) (h : n < g) : (cntI lo hi g n j).length = g + 1 := by simp [cntI, cntT_len]; omega
theorem cntI_zero (lo hi g n : Nat) (h : n < g) : cntI lo hi g n 0 = cntW lo hi g n := by
  unfold cntI cntW
  rw [show g - n = (g - n - 1) + 1 by omega, List.replicate_succ]; rfl
theorem cntI_all (lo hi g n : Nat) : cntI lo hi g n (min hi (n + 1) + 1 - lo) = cntW lo hi g (n + 1) := by
  unfold cntI cntW
  rw [cntT_snoc, List.append_assoc, List.singleton_append, Nat.sub_sub]
theorem cntI_at (lo hi g n j : Nat) : (cntI lo hi g n j).getD (n + 1) 0 = cPart (cntT lo hi n) lo (n + 1) j := by
  unfold cntI
  rw [List.getD_eq_getElem?_getD, List.getElem?_append_right (by rw [cntT_len]; omega), cntT_len]; simp
theorem cntI_get (lo hi g n j m : Nat) (h : m ≤ n) : (cntI lo hi g n j).getD m 0 = (cntT lo hi n).getD m 0 := by
  unfold cntI
  rw [List.getD_eq_getElem?_getD, List.getElem?_append_left (by rw [cntT_len]; omega), ← List.getD_eq_getElem?_getD]
theorem cntI_set (lo hi g n j : Nat) (x : Int) (h : x = cPart (cntT lo hi n) lo (n + 1) (j + 1)) : (cntI lo hi g n j).set (n + 1) x = cntI lo hi g n (j + 1) := by
  subst h
  unfold cntI
  rw [List.set_append_right _ _ (by rw [cntT_len]; omega), cntT_len]; simp
theorem cntW_end (lo hi g : Nat) : cntW lo hi g g = cntT lo hi g := by simp [cntW]
/-- So many of g guests. -/
def cntN (lo hi g : Nat) : Int := (cntT lo hi g).getD g 0
theorem cntN_le (lo hi g : Nat) (hlo : 1 ≤ lo) (hg : g ≤ 12) : 0 ≤ cntN lo hi g ∧ cntN lo hi g ≤ 479001600 := by
  have := cntT_cb lo hi g hlo g (by rw [cntT_len]; omega)
  have := fac_le g (by omega)
  unfold cntN; omega
/-- A list asx it is written, behind k rounds. -/
def filled (L : List Int) (k : Nat) : List Int := L.take k ++ List.replicate (L.length - k) 0
end Go.Am
namespace Go.Proofs.Ytmckfjnbbfdepaa
variable [Go.Am.CodeBlk]
open Go.Am
attribute [local irreducible] AW Outs Weak Lends Lend Sp aops atree aop1 Then Round InBlock Done
theorem countByLengths_spec (g lo hi : Nat) (hg : g ≤ 12) (hlo : 1 ≤ lo) (hlo2 : lo ≤ 13) (_hhi : hi ≤ 12) : Sp Try.prog 45 [.i g, .i lo, .i hi] (.i (cntN lo hi g)) := by
  refine spec_of Try.func45 rfl cc45 rfl ?_
  unfold ac45
  repeat (first | (refine step_ops ?_; (first | (refine m_mov (by conv => lhs; whnf) ?_) | (refine m_add rfl rfl ?_ ?_ ?_; (· omega); (· omega)))) | refine end_ops ?_ | refine seq_ops ?_)
  refine step_ops ?_
  refine m_mk (n := g + 1) rfl rfl ?_ ?_ ?_
  · omega
  · omega
  repeat (first | (refine step_ops ?_; (first | (refine m_mov (by conv => lhs; whnf) ?_) | (refine m_idx_sl rfl rfl ?_ ?_ ?_; (· omega); (· omega)) | (apply m_st; (· rfl); (· rfl); (· rfl); (· first | omega | (simp; done) | (simp; omega)); (· rfl)))) | refine end_ops ?_ | refine seq_ops ?_ | refine AW_seq ?_ | refine AW_block ?_)
  refine AW_loop (α := Nat) (fun n => n ≤ g) (fun n => st [(0, .i g), (1, .i lo), (2, .i hi), (7, .sl 12 1 0 (g + 1)), (8, .i ((n : Int) + 1))] [(12, (true, (cntW lo hi g n).map AV.i))]) (fun n => g - n) 0 (by omega) (weak_st ?_ ?_ rfl rfl) ?_
  · (repeat' (first | exact trivial | refine And.intro ?_ ?_)) <;> (first | rfl | skip)
  · refine ⟨?_, trivial⟩
    show some (true, ((List.replicate (g + 1) (List.map AV.v [Value.int IntKind.i64 0])).flatten).set 0 (AV.i 1)) = _
    simp [cntW, cntT, List.replicate_succ]
  intro n hn
  have hwl := cntW_len lo hi g n hn
  by_cases hc : n < g
  · repeat (first | (refine step_ops ?_; (first | (refine m_mov (by conv => lhs; whnf) ?_) | (refine m_leq rfl rfl ?_))) | refine end_ops ?_ | refine seq_ops ?_ | (refine cond_t rfl ?_ ?_; (· first | rfl | assumption | (refine decide_eq_true ?_; first | assumption | omega) | (refine nt ?_; first | assumption | omega) | (simp [*]; done))) | refine skip_then ?_ | refine AW_seq ?_ | refine AW_block ?_)
    refine AW_loop (α := Nat) (fun j => j ≤ min hi (n + 1) + 1 - lo) (fun j => st [(0, .i g), (1, .i lo), (2, .i hi), (7, .sl 12 1 0 (g + 1)), (8, .i ((n : Int) + 1)), (9, .i ((lo : Int) + j))] [(12, (true, (cntI lo hi g n j).map AV.i))]) (fun j => min hi (n + 1) + 1 - lo - j) 0 (by omega) (weak_st ?_ ?_ rfl rfl) ?_
    · refine ⟨rfl, rfl, rfl, rfl, rfl, ?_, trivial⟩
      show AV.i lo = AV.i ((lo : Int) + (0 : Nat))
      simp
    · rw [cntI_zero lo hi g n hc]
      exact ⟨rfl, trivial⟩
    intro j hj
    have hil := cntI_len lo hi g n j hc
    have hmin : (if ((n : Int) + 1) < (hi : Int) then ((n : Int) + 1) else (hi : Int)) = ((min hi (n + 1) : Nat) : Int) := by
      split <;> omega
    by_cases hd : j < min hi (n + 1) + 1 - lo
    · have hcb := cntT_cb lo hi n hlo
      have hcl := cntT_len lo hi n
      have ht := cTerm_le (k := lo + j) hcb (by omega) (by omega) hcl
      have hp := cPart_fac (n := n + 1) hcb hlo hcl (j + 1) (by omega)
      have hp0 := cPart_fac (n := n + 1) hcb hlo hcl j (by omega)
      have hf1 := fac_le (n + 1) (by omega)
      have hf2 := fac_le n (by omega)
      have hf3 := fac_le (n + 1 - (lo + j)) (by omega)
      rw [Nat.add_sub_cancel] at ht
      have e1 : ((n : Int) + 1 - 1) = ((n : Nat) : Int) := by omega
      have e2 : ((n : Int) + 1 - ((lo : Int) + j)) = ((n + 1 - (lo + j) : Nat) : Int) := by omega
      have e3 : ((n : Int) + 1) = ((n + 1 : Nat) : Int) := by omega
      have g1 : (cntI lo hi g n j).getD (n + 1) 0 = _ := cntI_at lo hi g n j
      have g2 : (cntI lo hi g n j).getD (n + 1 - (lo + j)) 0 = _ := cntI_get lo hi g n j (n + 1 - (lo + j)) (by omega)
      have hs1 : Sp Try.prog 63 [.i ((n : Int) + 1 - 1)] (.i (fac n)) := by rw [e1]; exact factorial_spec n (by omega)
      have hs2 : Sp Try.prog 63 [.i ((n : Int) + 1 - ((lo : Int) + j))] (.i (fac (n + 1 - (lo + j)))) := by rw [e2]; exact factorial_spec _ (by omega)
      have hnew : cPart (cntT lo hi n) lo (n + 1) (j + 1) = cPart (cntT lo hi n) lo (n + 1) j + fac n / fac (n + 1 - (lo + j)) * (cntT lo hi n).getD (n + 1 - (lo + j)) 0 := rfl
      rw [hnew] at hp
      repeat (first | ((first | refine step_ops ?_ | refine step_tree ?_); (first | (refine m_mov (by conv => lhs; whnf) ?_) | (refine m_leq rfl rfl ?_) | (refine m_sub rfl rfl ?_ ?_ ?_; (· omega); (· omega)) | (apply m_idx1_slj; (· rfl); (· rfl); (· assumption); (· omega)) | (refine m_ld_pti rfl (by rfl) ?_ ?_; (· first | omega | (simp; omega))) | (refine m_min rfl rfl ?_))) | refine end_ops ?_ | refine seq_ops ?_ | refine AW_tree ?_ | (refine cond_t rfl ?_ ?_; (· first | rfl | assumption | (refine decide_eq_true ?_; first | assumption | omega) | (refine nt ?_; first | assumption | omega) | (simp [*]; done))) | refine skip_then ?_ | refine AW_seq ?_ | refine AW_block ?_)
      refine step_tree ?_; (apply m_call (hs1)); (· repeat (first | exact lends_nil | (refine lends_cons ?_ ?_; (· exact lend_v))))
      repeat (refine step_tree ?_; (first | (refine m_mov (by conv => lhs; whnf) ?_) | (refine m_sub rfl rfl ?_ ?_ ?_; (· omega); (· omega))))
      refine step_tree ?_; (apply m_call (hs2)); (· repeat (first | exact lends_nil | (refine lends_cons ?_ ?_; (· exact lend_v))))
      repeat (refine step_tree ?_; (first | (refine m_mov (by conv => lhs; whnf) ?_) | (refine m_sub rfl rfl ?_ ?_ ?_; (· omega); (· omega)) | (apply m_idx1_slj; (· rfl); (· rfl); (· assumption); (· omega)) | (refine m_ld_pti rfl (by rfl) ?_ ?_; (· first | omega | (simp; omega))) | (refine m_quo rfl rfl ?_ ?_ ?_ ?_; (· omega); (· omega); (· omega))))
      rw [g1, g2]
      repeat (first | ((first | refine step_ops ?_ | refine step_tree ?_); (first | (refine m_mov (by conv => lhs; whnf) ?_) | (refine m_add rfl rfl ?_ ?_ ?_; (· omega); (· omega)) | (refine m_mul rfl rfl ?_ ?_ ?_; (· first | omega | (simp; done)); (· first | omega | (simp; done))) | (apply m_idx1_slj; (· rfl); (· rfl); (· assumption); (· omega)) | (apply m_st; (· rfl); (· rfl); (· rfl); (· first | omega | (simp; done) | (simp; omega)); (· rfl)))) | refine end_ops ?_ | refine AW_ops ?_ | refine end_tree ?_ | refine norm_then ?_ | refine norm_block ?_)
      refine next_round (j + 1) (by omega) (weak_st ?_ ?_ rfl rfl) ?_
      · refine ⟨rfl, rfl, rfl, rfl, rfl, ?_, trivial⟩
        show AV.i ((lo : Int) + j + 1) = AV.i ((lo : Int) + ((j + 1 : Nat) : Int))
        rw [Int.add_assoc]; rfl
      · refine ⟨?_, trivial⟩
        show some (true, ((cntI lo hi g n j).map AV.i).set (n + 1) (AV.i _)) = _
        rw [← cntI_set lo hi g n j _ hnew.symm, List.map_set]
      · omega
    · have hj2 : j = min hi (n + 1) + 1 - lo := by omega
      subst hj2
      repeat (first | (refine step_ops ?_; (first | (refine m_mov (by conv => lhs; whnf) ?_) | (refine m_leq rfl rfl ?_) | (refine m_add rfl rfl ?_ ?_ ?_; (· omega); (· omega)) | (refine m_min rfl rfl ?_))) | refine end_ops ?_ | refine seq_ops ?_ | refine AW_ops ?_ | (refine cond_f rfl ?_ ?_; (· first | rfl | assumption | (refine decide_eq_false ?_; first | assumption | omega) | (refine nf ?_; first | assumption | omega) | (simp [*]; done))) | refine AW_seq ?_ | refine norm_then ?_ | refine exit_then ?_ | refine norm_block ?_ | refine exit_round ?_ | refine AW_exit ?_ | refine exit_block ?_)
      refine next_round (n + 1) (by omega) (weak_st ?_ ?_ rfl rfl) ?_
      · (repeat' (first | exact trivial | refine And.intro ?_ ?_)) <;> (first | rfl | skip)
      · rw [cntI_all]
        exact ⟨rfl, trivial⟩
      · omega
  · repeat (first | (refine step_ops ?_; (first | (refine m_mov (by conv => lhs; whnf) ?_) | (refine m_leq rfl rfl ?_) | (refine m_idx1_sl rfl rfl ?_ ?_; (· omega)) | (refine m_ld_pti rfl (by rfl) ?_ ?_; (· first | omega | (simp; omega))))) | refine end_ops ?_ | refine seq_ops ?_ | (refine cond_f rfl ?_ ?_; (· first | rfl | assumption | (refine decide_eq_false ?_; first | assumption | omega) | (refine nf ?_; first | assumption | omega) | (simp [*]; done))) | refine AW_seq ?_ | refine AW_ret ?_ | refine ret_done ?_ | refine norm_then ?_ | refine exit_then ?_ | refine exit_round ?_ | refine AW_exit ?_ | refine exit_block ?_)
    obtain rfl : n = g := by omega
    refine outs_i ?_
    rw [cntW_end]
    rfl
end Go.Proofs.Ytmckfjnbbfdepaa
