/- The abstract machine, contracts: part 5 of what this claim needs. -/
import Derived.Test.YtmmcldbldbpikaaDoorZs4
namespace Go.Proofs.YtmmcldbldbpikaaDoor
open Go.Am
attribute [local irreducible] AW Outs Weak Lends Lend Sp aops atree aop1 Then Round InBlock Done
attribute [local irreducible] SpH SpX DoneH DoneX
theorem cpl_good : ∀ c < 8, 1 ≤ c → GoodBd (bdT (cplAt c) c c) ∧ sdB (bdT (cplAt c) c c) = c ∧ (bdT (cplAt c) c c).length ≤ 1000 := by decide +kernel
def cplH (c : Nat) : List Int := hitL (bdT (cplAt c) c c)
/-- The code's numbers behind k rounds. -/
def cplK (c k : Nat) : List Int := ((cplH c).take k).map (· * fac (c - 1)) ++ (cplH c).drop k
theorem cplK_ok : ∀ c < 8, 1 ≤ c → (cplH c).length = c + 1 ∧ ∀ k < c + 1, (0 ≤ (cplK c k).getD k 0 ∧ (cplK c k).getD k 0 ≤ 5040) ∧ (0 ≤ (cplK c k).getD k 0 * fac (c - 1) ∧ (cplK c k).getD k 0 * fac (c - 1) ≤ 100000000) ∧ (cplK c k).set k ((cplK c k).getD k 0 * fac (c - 1)) = cplK c (k + 1) := by decide +kernel
theorem cplK_len : ∀ c < 8, 1 ≤ c → ∀ k < c + 2, (cplK c k).length = c + 1 := by decide +kernel
def turnX (c k : Nat) : Int := 2 * (c : Int) * chx (2 * c - k) k k / (2 * (c : Int) - k) * fac (c - k)
def turnS (c k : Nat) : List Int := (List.range k).map fun i => turnX c i
theorem turnS_snoc (c k : Nat) : turnS c (k + 1) = turnS c k ++ [turnX c k] := by simp [turnS, List.range_succ]
theorem turnS_len (c k : Nat) : (turnS c k).length = k := by simp [turnS]
theorem chx_le14 : ∀ c < 8, ∀ k < c + 1, ∀ j < k + 1, (0 ≤ chx (2 * c - k) k j ∧ chx (2 * c - k) k j ≤ 10000) ∧ 0 ≤ chx (2 * c - k) k j * (((2 * c - k : Nat) : Int) - k + ((j : Int) + 1)) ∧ chx (2 * c - k) k j * (((2 * c - k : Nat) : Int) - k + ((j : Int) + 1)) ≤ 1000000 := by decide +kernel
theorem turn_le : ∀ c < (8 : Nat), 1 ≤ c → ∀ k < c + 1, (0 ≤ 2 * (c : Int) * chx (2 * c - k) k k ∧ 2 * (c : Int) * chx (2 * c - k) k k ≤ 1000000) ∧ (0 ≤ 2 * (c : Int) * chx (2 * c - k) k k / (2 * (c : Int) - k) ∧ 2 * (c : Int) * chx (2 * c - k) k k / (2 * (c : Int) - k) ≤ 1000000) ∧ 0 ≤ turnX c k ∧ turnX c k ≤ 1000000 := by decide +kernel
theorem exok_turn : ∀ c < 8, ∀ t < c + 1, ExOk (turnS c (c + 1)) t := by decide +kernel
/-- What is counted. -/
def turnN (c t : Nat) : Int := if c = 1 then t else fac (c - 1) * exactS (turnS c (c + 1)) t
theorem turn_same : ∀ c < 8, 1 ≤ c → ∀ t < c + 1, (cplK c (c + 1)).getD t 0 = turnN c t ∧ (0 ≤ fac (c - 1) * exactS (turnS c (c + 1)) t ∨ c = 1) ∧ fac (c - 1) * exactS (turnS c (c + 1)) t ≤ 100000000 ∧ -100000000 ≤ fac (c - 1) * exactS (turnS c (c + 1)) t := by decide +kernel
theorem factorial7_spec (n : Nat) (h : n ≤ 7) : Sp Tryd.prog 30 [.i n] (.i (fac n)) := by
  refine spec_of Tryd.func30 rfl cc30 rfl ?_
  unfold ac30
  repeat (first | (refine step_ops ?_; (refine m_mov (by conv => lhs; whnf) ?_)) | refine end_ops ?_ | refine seq_ops ?_ | refine AW_seq ?_ | refine AW_block ?_)
  refine AW_loop (α := Nat) (fun j => j + 1 ≤ n ∨ j = 0) (fun j => st [(0, .i n), (3, .i (fac (j + 1))), (4, .i ((j : Int) + 2))] []) (fun j => n - j) 0 (.inr rfl) (weak_st ?_ ?_ rfl rfl) ?_
  · (repeat' (first | exact trivial | refine And.intro ?_ ?_)) <;> (first | rfl | skip)
  · trivial
  intro j hj
  by_cases hc : (j : Int) + 2 ≤ n
  · have hb := fac14_le (j + 2) (by omega)
    have e : fac (j + 2) = fac (j + 1) * ((j : Int) + 2) := rfl
    rw [e] at hb
    repeat (first | (refine step_ops ?_; (first | (refine m_mov (by conv => lhs; whnf) ?_) | (refine m_leq rfl rfl ?_) | (refine m_add rfl rfl ?_ ?_ ?_; (· omega); (· omega)) | (refine m_mul rfl rfl ?_ ?_ ?_; (· first | omega | (simp; done)); (· first | omega | (simp; done))))) | refine end_ops ?_ | refine seq_ops ?_ | refine AW_ops ?_ | (refine cond_t rfl ?_ ?_; (· first | rfl | assumption | (refine decide_eq_true ?_; first | assumption | omega) | (refine nt ?_; first | assumption | omega) | (simp [*]; done))) | refine skip_then ?_ | refine AW_seq ?_ | refine norm_then ?_ | refine AW_block ?_ | refine norm_block ?_)
    refine next_round (j + 1) (by omega) (weak_st ?_ ?_ rfl rfl) ?_
    · (repeat' (first | exact trivial | refine And.intro ?_ ?_)) <;> (first | rfl | skip)
    · trivial
    · omega
  · repeat (first | (refine step_ops ?_; (first | (refine m_mov (by conv => lhs; whnf) ?_) | (refine m_leq rfl rfl ?_))) | refine end_ops ?_ | refine seq_ops ?_ | (refine cond_f rfl ?_ ?_; (· first | rfl | assumption | (refine decide_eq_false ?_; first | assumption | omega) | (refine nf ?_; first | assumption | omega) | (simp [*]; done))) | refine AW_seq ?_ | refine AW_ret ?_ | refine ret_done ?_ | refine norm_then ?_ | refine exit_then ?_ | refine exit_round ?_ | refine AW_exit ?_ | refine exit_block ?_)
    refine outs_i ?_
    rcases hj with hj | rfl
    · have : j + 1 = n := by omega
      rw [this]
    · have : n = 0 ∨ n = 1 := by omega
      rcases this with rfl | rfl <;> rfl
theorem exTimes7_spec (n : Nat) (h : n ≤ 7) : Sp Tryd.prog 33 [.i n] (.i (fac n)) := by
  refine spec_of Tryd.func33 rfl cc33 rfl ?_
  unfold ac33
  repeat (first | (refine step_ops ?_; (refine m_mov (by conv => lhs; whnf) ?_)) | refine end_ops ?_ | refine seq_ops ?_ | refine AW_seq ?_ | refine AW_block ?_)
  refine AW_loop (α := Nat) (fun j => j + 1 ≤ n ∨ j = 0) (fun j => st [(0, .i n), (3, .i (fac (j + 1))), (4, .i ((j : Int) + 2))] []) (fun j => n - j) 0 (.inr rfl) (weak_st ?_ ?_ rfl rfl) ?_
  · (repeat' (first | exact trivial | refine And.intro ?_ ?_)) <;> (first | rfl | skip)
  · trivial
  intro j hj
  by_cases hc : (j : Int) + 2 ≤ n
  · have hb := fac14_le (j + 2) (by omega)
    have e : fac (j + 2) = fac (j + 1) * ((j : Int) + 2) := rfl
    rw [e] at hb
    repeat (first | (refine step_ops ?_; (first | (refine m_mov (by conv => lhs; whnf) ?_) | (refine m_leq rfl rfl ?_) | (refine m_add rfl rfl ?_ ?_ ?_; (· omega); (· omega)) | (refine m_mul rfl rfl ?_ ?_ ?_; (· first | omega | (simp; done)); (· first | omega | (simp; done))))) | refine end_ops ?_ | refine seq_ops ?_ | refine AW_ops ?_ | (refine cond_t rfl ?_ ?_; (· first | rfl | assumption | (refine decide_eq_true ?_; first | assumption | omega) | (refine nt ?_; first | assumption | omega) | (simp [*]; done))) | refine skip_then ?_ | refine AW_seq ?_ | refine norm_then ?_ | refine AW_block ?_ | refine norm_block ?_)
    refine next_round (j + 1) (by omega) (weak_st ?_ ?_ rfl rfl) ?_
    · (repeat' (first | exact trivial | refine And.intro ?_ ?_)) <;> (first | rfl | skip)
    · trivial
    · omega
  · repeat (first | (refine step_ops ?_; (first | (refine m_mov (by conv => lhs; whnf) ?_) | (refine m_leq rfl rfl ?_))) | refine end_ops ?_ | refine seq_ops ?_ | (refine cond_f rfl ?_ ?_; (· first | rfl | assumption | (refine decide_eq_false ?_; first | assumption | omega) | (refine nf ?_; first | assumption | omega) | (simp [*]; done))) | refine AW_seq ?_ | refine AW_ret ?_ | refine ret_done ?_ | refine norm_then ?_ | refine exit_then ?_ | refine exit_round ?_ | refine AW_exit ?_ | refine exit_block ?_)
    refine outs_i ?_
    rcases hj with hj | rfl
    · have : j + 1 = n := by omega
      rw [this]
    · have : n = 0 ∨ n = 1 := by omega
      rcases this with rfl | rfl <;> rfl
theorem exChooseG_spec (n k : Nat) (hk : k ≤ 7) (hn : n ≤ 14) (hb : ∀ j < k + 1, (0 ≤ chx n k j ∧ chx n k j ≤ 10000) ∧ 0 ≤ chx n k j * ((n : Int) - k + ((j : Int) + 1)) ∧ chx n k j * ((n : Int) - k + ((j : Int) + 1)) ≤ 1000000) : Sp Tryd.prog 31 [.i n, .i k] (.i (chx n k k)) := by
  refine spec_of Tryd.func31 rfl cc31 rfl ?_
  unfold ac31
  repeat (first | (refine step_ops ?_; (refine m_mov (by conv => lhs; whnf) ?_)) | refine end_ops ?_ | refine seq_ops ?_ | refine AW_seq ?_ | refine AW_block ?_)
  refine AW_loop (α := Nat) (fun j => j ≤ k) (fun j => st [(0, .i n), (1, .i k), (5, .i (chx n k j)), (6, .i ((j : Int) + 1))] []) (fun j => k - j) 0 (by omega) (weak_st ?_ ?_ rfl rfl) ?_
  · (repeat' (first | exact trivial | refine And.intro ?_ ?_)) <;> (first | rfl | skip)
  · trivial
  intro j hj
  have hb := hb j (by omega)
  by_cases hc : (j : Int) + 1 ≤ k
  · repeat (first | (refine step_ops ?_; (first | (refine m_mov (by conv => lhs; whnf) ?_) | (refine m_leq rfl rfl ?_) | (refine m_add rfl rfl ?_ ?_ ?_; (· omega); (· omega)) | (refine m_sub rfl rfl ?_ ?_ ?_; (· omega); (· omega)) | (refine m_mul rfl rfl ?_ ?_ ?_; (· first | omega | (simp; done)); (· first | omega | (simp; done))) | (refine m_quo rfl rfl ?_ ?_ ?_ ?_; (· omega); (· omega); (· omega)))) | refine end_ops ?_ | refine seq_ops ?_ | refine AW_ops ?_ | (refine cond_t rfl ?_ ?_; (· first | rfl | assumption | (refine decide_eq_true ?_; first | assumption | omega) | (refine nt ?_; first | assumption | omega) | (simp [*]; done))) | refine skip_then ?_ | refine AW_seq ?_ | refine norm_then ?_ | refine AW_block ?_ | refine norm_block ?_)
    refine next_round (j + 1) (by omega) (weak_st ?_ ?_ rfl rfl) ?_
    · (repeat' (first | exact trivial | refine And.intro ?_ ?_)) <;> (first | rfl | skip)
    · trivial
    · omega
  · repeat (first | (refine step_ops ?_; (first | (refine m_mov (by conv => lhs; whnf) ?_) | (refine m_leq rfl rfl ?_))) | refine end_ops ?_ | refine seq_ops ?_ | (refine cond_f rfl ?_ ?_; (· first | rfl | assumption | (refine decide_eq_false ?_; first | assumption | omega) | (refine nf ?_; first | assumption | omega) | (simp [*]; done))) | refine AW_seq ?_ | refine AW_ret ?_ | refine ret_done ?_ | refine norm_then ?_ | refine exit_then ?_ | refine exit_round ?_ | refine AW_exit ?_ | refine exit_block ?_)
    obtain rfl : j = k := by omega
    exact outs_i rfl
def turnNum (c t : Int) : Int := if TogOk c t then turnN c.toNat t.toNat else 0
theorem turnNumbers_spec (c : Nat) (h1 : 1 ≤ c) (h7 : c ≤ 7) : Sp Tryd.prog 34 [.i c] (newInts (cplK c (c + 1))) := by
  have hg := cpl_good c (by omega) h1
  have hk0 := cplK_ok c (by omega) h1
  have hcb := implCoupleBoard_spec (c : Int)
  have e : cplBd (c : Int) = bdT (cplAt c) c c := by
    unfold cplBd
    rw [if_pos (by omega), Int.toNat_natCast]
    exact bdT_congr (fun i j hi hj => cpl_in c i j hi hj) (Nat.le_refl _)
  rw [e] at hcb
  have hh := implHitNumbers_spec (bdT (cplAt c) c c) (by omega)
  have e2 : hitR (bdT (cplAt c) c c) = .tup [newInts (cplH c), .b true] := by
    unfold hitR hitB
    rw [if_pos hg.1, decide_eq_true hg.1]
    rfl
  rw [e2] at hh
  have hl := hk0.1
  refine spec_of Tryd.func34 rfl cc34 rfl ?_
  unfold ac34
  repeat (first | (refine step_ops ?_; (first | (refine m_mov (by conv => lhs; whnf) ?_) | (refine m_nils ?_))) | refine end_ops ?_ | refine seq_ops ?_)
  refine step_ops ?_; (apply m_call (hcb)); (· repeat (first | exact lends_nil | (refine lends_cons ?_ ?_; (· exact lend_v))))
  repeat (first | (refine step_ops ?_; (first | (refine m_mov (by conv => lhs; whnf) ?_) | (refine m_ext rfl rfl ?_))) | refine end_ops ?_ | refine seq_ops ?_)
  refine step_ops ?_; (apply m_callt (hh)); (· repeat (first | exact lends_nil | (refine lends_cons ?_ ?_; (· exact lend_v)))); (· first | exact allv_ints _ | rfl | (simp; done)); (· first | rfl | (simp; done))
  repeat (first | (refine step_ops ?_; (first | (refine m_mov (by conv => lhs; whnf) ?_) | (refine m_len_sl rfl ?_) | (refine m_ext rfl rfl ?_))) | refine end_ops ?_ | refine seq_ops ?_ | refine AW_seq ?_ | refine AW_block ?_)
  refine AW_loop (α := Nat) (fun k => k ≤ c + 1) (fun k => st [(0, .i c), (5, .sl 15 1 0 (c + 1)), (19, .i ((c + 1 : Nat) : Int)), (20, .i k)] [(15, (true, (cplK c k).map AV.i))]) (fun k => c + 1 - k) 0 (by omega) (weak_st ?_ ?_ rfl rfl) ?_
  · rw [← hl]
    (repeat' (first | exact trivial | refine And.intro ?_ ?_)) <;> (first | rfl | skip)
  · exact ⟨rfl, trivial⟩
  intro k hk
  have hlen := cplK_len c (by omega) h1 k (by omega)
  by_cases hc : k < c + 1
  · have hb := hk0.2 k hc
    repeat (first | ((first | refine step_ops ?_ | refine step_tree ?_); (first | (refine m_mov (by conv => lhs; whnf) ?_) | (refine m_lss rfl rfl ?_) | (refine m_sub rfl rfl ?_ ?_ ?_; (· omega); (· omega)) | (refine m_idx1_sl rfl rfl ?_ ?_; (· omega)) | (refine m_ld_pti rfl (by rfl) ?_ ?_; (· first | omega | (simp; omega))))) | refine end_ops ?_ | refine seq_ops ?_ | refine AW_tree ?_ | (refine cond_t rfl ?_ ?_; (· first | rfl | assumption | (refine decide_eq_true ?_; first | assumption | omega) | (refine nt ?_; first | assumption | omega) | (simp [*]; done))) | refine skip_then ?_ | refine AW_seq ?_ | refine AW_block ?_)
    rw [show (c : Int) - 1 = ((c - 1 : Nat) : Int) by omega]
    refine step_tree ?_; (apply m_call (factorial7_spec (c - 1) (by omega))); (· repeat (first | exact lends_nil | (refine lends_cons ?_ ?_; (· exact lend_v))))
    repeat (first | ((first | refine step_ops ?_ | refine step_tree ?_); (first | (refine m_mov (by conv => lhs; whnf) ?_) | (refine m_add rfl rfl ?_ ?_ ?_; (· omega); (· omega)) | (refine m_mul rfl rfl ?_ ?_ ?_; (· first | omega | (simp; done)); (· first | omega | (simp; done))) | (refine m_idx1_sl rfl rfl ?_ ?_; (· omega)) | (apply m_st; (· rfl); (· rfl); (· rfl); (· first | omega | (simp; done) | (simp; omega)); (· rfl)))) | refine end_ops ?_ | refine AW_ops ?_ | refine end_tree ?_ | refine norm_then ?_ | refine norm_block ?_)
    refine next_round (k + 1) (by omega) (weak_st ?_ ?_ rfl rfl) ?_
    · (repeat' (first | exact trivial | refine And.intro ?_ ?_)) <;> (first | rfl | skip)
    · refine ⟨?_, trivial⟩
      rw [← hb.2.2, List.map_set]
      rfl
    · omega
  · obtain rfl : k = c + 1 := by omega
    repeat (first | (refine step_ops ?_; (first | (refine m_mov (by conv => lhs; whnf) ?_) | (refine m_lss rfl rfl ?_))) | refine end_ops ?_ | refine seq_ops ?_ | (refine cond_f rfl ?_ ?_; (· first | rfl | assumption | (refine decide_eq_false ?_; first | assumption | omega) | (refine nf ?_; first | assumption | omega) | (simp [*]; done))) | refine AW_seq ?_ | refine AW_ret ?_ | refine ret_done ?_ | refine norm_then ?_ | refine exit_then ?_ | refine exit_round ?_ | refine AW_exit ?_ | refine exit_block ?_)
    exact outs_ints rfl rfl hlen.symm
theorem specCountTurnTogether_spec (c t : Int) : Sp Tryd.prog 9 [.i c, .i t] (.tup [.i (turnNum c t), .b (decide (TogOk c t))]) := by
  refine spec_of Tryd.func9 rfl cc9 rfl ?_
  unfold ac9
  by_cases h1 : 1 ≤ c ∧ c ≤ 7
  · by_cases h2 : 0 ≤ t ∧ t ≤ c
    · have hok : TogOk c t := ⟨h1, h2⟩
      have e : turnNum c t = _ := if_pos hok
      rw [e]
      obtain ⟨n, rfl⟩ := Int.eq_ofNat_of_zero_le (show 0 ≤ c by omega)
      obtain ⟨m, rfl⟩ := Int.eq_ofNat_of_zero_le h2.1
      rw [Int.toNat_natCast, Int.toNat_natCast]
      by_cases hone : (n : Int) = 1
      · rw [show turnN n m = (m : Int) from if_pos (by omega)]
        repeat (first | (refine step_ops ?_; (refine m_mov (by conv => lhs; whnf) ?_)) | refine end_ops ?_ | refine seq_ops ?_ | refine AW_seq ?_)
        (refine step_ops ?_); (apply m_call (taCouples_spec _)); (· repeat (first | exact lends_nil | (refine lends_cons ?_ ?_; (· exact lend_v))))
        repeat (refine step_ops ?_; ((try (refine g_yes rfl ?_ ?_; (· first | rfl | assumption | (refine decide_eq_true ?_; first | assumption | omega) | (refine nt ?_; first | assumption | omega) | (simp [*]; done) | (refine decide_eq_false ?_; first | assumption | omega) | (refine nf ?_; first | assumption | omega)))); (first | (refine m_mov (by conv => lhs; whnf) ?_) | (refine m_not rfl ?_))))
        (refine step_ops ?_); (refine g_yes rfl ?_ ?_; (· first | (first | rfl | assumption | (refine decide_eq_true ?_; first | assumption | omega) | (refine nt ?_; first | assumption | omega) | (simp [*]; done)) | (first | rfl | assumption | (refine decide_eq_false ?_; first | assumption | omega) | (refine nf ?_; first | assumption | omega) | (simp [*]; done))); (apply m_call (l1In_spec _ _ _))); (· repeat (first | exact lends_nil | (refine lends_cons ?_ ?_; (· exact lend_v))))
        repeat (first | (refine step_ops ?_; ((try (refine g_yes rfl ?_ ?_; (· first | rfl | assumption | (refine decide_eq_true ?_; first | assumption | omega) | (refine nt ?_; first | assumption | omega) | (simp [*]; done) | (refine decide_eq_false ?_; first | assumption | omega) | (refine nf ?_; first | assumption | omega)))); (first | (refine m_mov (by conv => lhs; whnf) ?_) | (refine m_eql rfl rfl ?_) | (refine m_not rfl ?_) | (refine m_pick_f rfl ?_ (by conv => lhs; whnf) ?_; (· first | rfl | assumption | (refine decide_eq_false ?_; first | assumption | omega) | (refine nf ?_; first | assumption | omega) | (simp [*]; done)))))) | refine end_ops ?_ | refine seq_ops ?_ | (refine cond_t rfl ?_ ?_; (· first | rfl | assumption | (refine decide_eq_true ?_; first | assumption | omega) | (refine nt ?_; first | assumption | omega) | (simp [*]; done))) | (refine cond_f rfl ?_ ?_; (· first | rfl | assumption | (refine decide_eq_false ?_; first | assumption | omega) | (refine nf ?_; first | assumption | omega) | (simp [*]; done))) | refine skip_then ?_ | refine AW_seq ?_ | refine AW_ret ?_ | refine ret_done ?_ | refine ret_then ?_)
        exact outs_tup2 (outs_i rfl) (outs_b (decide_eq_true hok).symm)
      · rw [show turnN n m = fac (n - 1) * exactS (turnS n (n + 1)) m from if_neg (by omega)]
        have hsame := turn_same n (by omega) (by omega) m (by omega)
        have hlen1 := turnS_len n (n + 1)
        repeat (first | (refine step_ops ?_; (refine m_mov (by conv => lhs; whnf) ?_)) | refine end_ops ?_ | refine seq_ops ?_ | refine AW_seq ?_)
        (refine step_ops ?_); (apply m_call (taCouples_spec _)); (· repeat (first | exact lends_nil | (refine lends_cons ?_ ?_; (· exact lend_v))))
        repeat (refine step_ops ?_; ((try (refine g_yes rfl ?_ ?_; (· first | rfl | assumption | (refine decide_eq_true ?_; first | assumption | omega) | (refine nt ?_; first | assumption | omega) | (simp [*]; done) | (refine decide_eq_false ?_; first | assumption | omega) | (refine nf ?_; first | assumption | omega)))); (first | (refine m_mov (by conv => lhs; whnf) ?_) | (refine m_not rfl ?_))))
        (refine step_ops ?_); (refine g_yes rfl ?_ ?_; (· first | (first | rfl | assumption | (refine decide_eq_true ?_; first | assumption | omega) | (refine nt ?_; first | assumption | omega) | (simp [*]; done)) | (first | rfl | assumption | (refine decide_eq_false ?_; first | assumption | omega) | (refine nf ?_; first | assumption | omega) | (simp [*]; done))); (apply m_call (l1In_spec _ _ _))); (· repeat (first | exact lends_nil | (refine lends_cons ?_ ?_; (· exact lend_v))))
        repeat (first | (refine step_ops ?_; ((try (refine g_yes rfl ?_ ?_; (· first | rfl | assumption | (refine decide_eq_true ?_; first | assumption | omega) | (refine nt ?_; first | assumption | omega) | (simp [*]; done) | (refine decide_eq_false ?_; first | assumption | omega) | (refine nf ?_; first | assumption | omega)))); (first | (refine m_mov (by conv => lhs; whnf) ?_) | (refine m_eql rfl rfl ?_) | (refine m_not rfl ?_) | (refine m_pick_f rfl ?_ (by conv => lhs; whnf) ?_; (· first | rfl | assumption | (refine decide_eq_false ?_; first | assumption | omega) | (refine nf ?_; first | assumption | omega) | (simp [*]; done))) | (refine m_nils ?_)))) | refine end_ops ?_ | refine seq_ops ?_ | (refine cond_f rfl ?_ ?_; (· first | rfl | assumption | (refine decide_eq_false ?_; first | assumption | omega) | (refine nf ?_; first | assumption | omega) | (simp [*]; done))) | refine skip_then ?_ | refine AW_seq ?_ | refine AW_block ?_)
        refine AW_loop (α := Nat) (fun k => k ≤ n + 1) (fun k => st [(0, .i n), (1, .i m), (7, .i k), (6, .sl 6 1 0 (turnS n k).length)] [(6, (true, (turnS n k).map AV.i))]) (fun k => n + 1 - k) 0 (by omega) (weak_st ?_ ?_ rfl rfl) ?_
        · (repeat' (first | exact trivial | refine And.intro ?_ ?_)) <;> (first | rfl | skip)
        · exact ⟨rfl, trivial⟩
        intro k hk
        have hlen := turnS_len n k
        have hsn := turnS_snoc n k
        by_cases hc : (k : Int) ≤ n
        · have hb := turn_le n (by omega) (by omega) k (by omega)
          have hx := chx_le14 n (by omega) k (by omega) k (by omega)
          have hte : turnX n k = 2 * (n : Int) * chx (2 * n - k) k k / (2 * (n : Int) - k) * fac (n - k) := rfl
          rw [hte] at hsn hb
          repeat (first | (refine step_ops ?_; (first | (refine m_mov (by conv => lhs; whnf) ?_) | (refine m_leq rfl rfl ?_) | (refine m_sub rfl rfl ?_ ?_ ?_; (· omega); (· omega)) | (refine m_mul rfl rfl ?_ ?_ ?_; (· first | omega | (simp; done)); (· first | omega | (simp; done))))) | refine end_ops ?_ | refine seq_ops ?_ | (refine cond_t rfl ?_ ?_; (· first | rfl | assumption | (refine decide_eq_true ?_; first | assumption | omega) | (refine nt ?_; first | assumption | omega) | (simp [*]; done))) | refine skip_then ?_ | refine AW_seq ?_ | refine AW_block ?_)
          rw [show 2 * (n : Int) - (k : Int) = ((2 * n - k : Nat) : Int) by omega]
          (refine step_ops ?_); (apply m_call (exChooseG_spec (2 * n - k) k (by omega) (by omega) (chx_le14 n (by omega) k (by omega)))); (· repeat (first | exact lends_nil | (refine lends_cons ?_ ?_; (· exact lend_v))))
          repeat (first | (refine step_ops ?_; (first | (refine m_mov (by conv => lhs; whnf) ?_) | (refine m_sub rfl rfl ?_ ?_ ?_; (· omega); (· omega)) | (refine m_mul rfl rfl ?_ ?_ ?_; (· first | omega | (simp; done)); (· first | omega | (simp; done))) | (refine m_quo rfl rfl ?_ ?_ ?_ ?_; (· omega); (· omega); (· omega)))) | refine end_ops ?_ | refine AW_ops ?_)
          rw [show (n : Int) - (k : Int) = ((n - k : Nat) : Int) by omega]
          (refine step_ops ?_); (apply m_call (exTimes7_spec (n - k) (by omega))); (· repeat (first | exact lends_nil | (refine lends_cons ?_ ?_; (· exact lend_v))))
          repeat (first | (refine step_ops ?_; (first | (refine m_mov (by conv => lhs; whnf) ?_) | (refine m_add rfl rfl ?_ ?_ ?_; (· omega); (· omega)) | (refine m_mul rfl rfl ?_ ?_ ?_; (· first | omega | (simp; done)); (· first | omega | (simp; done))) | (refine m_bsl1 rfl rfl ?_) | (refine m_app1i rfl (by decide) (by rfl) (by first | rfl | omega | (simp; done)) rfl rfl ?_ (by decide) ?_; (· first | omega | (simp; omega))))) | refine end_ops ?_ | refine AW_ops ?_ | refine norm_then ?_ | refine norm_block ?_)
          refine next_round (k + 1) (by omega) (Weak.trans (weak_move (r := 48) (q := 6) rfl (by decide) (by decide)) (weak_st ?_ ?_ rfl rfl)) ?_
          · rw [hsn]
            (repeat' (first | exact trivial | refine And.intro ?_ ?_)) <;> (first | rfl | skip)
          · rw [hsn]
            exact ⟨rfl, trivial⟩
          · omega
        · obtain rfl : k = n + 1 := by omega
          repeat (first | (refine step_ops ?_; (first | (refine m_mov (by conv => lhs; whnf) ?_) | (refine m_leq rfl rfl ?_) | (refine m_sub rfl rfl ?_ ?_ ?_; (· omega); (· omega)))) | refine end_ops ?_ | refine seq_ops ?_ | (refine cond_f rfl ?_ ?_; (· first | rfl | assumption | (refine decide_eq_false ?_; first | assumption | omega) | (refine nf ?_; first | assumption | omega) | (simp [*]; done))) | refine AW_seq ?_ | refine norm_then ?_ | refine exit_then ?_ | refine exit_round ?_ | refine AW_exit ?_ | refine exit_block ?_)
          rw [show (n : Int) - 1 = ((n - 1 : Nat) : Int) by omega]
          (refine step_ops ?_); (apply m_call (exTimes7_spec (n - 1) (by omega))); (· repeat (first | exact lends_nil | (refine lends_cons ?_ ?_; (· exact lend_v))))
          repeat (refine step_ops ?_; (refine m_mov (by conv => lhs; whnf) ?_))
          (refine step_ops ?_); (apply m_call (taExactly_spec (turnS n (n + 1)) m (by omega) (by omega) (exok_turn n (by omega) m (by omega)))); (· repeat (first | exact lends_nil | (refine lends_cons ?_ ?_; (· (first | exact lend_v | (refine lend_sli (by rfl) ?_; first | rfl | omega | (simp; done)))))))
          repeat (first | (refine step_ops ?_; (first | (refine m_mov (by conv => lhs; whnf) ?_) | (refine m_mul rfl rfl ?_ ?_ ?_; (· first | omega | (simp; done)); (· first | omega | (simp; done))))) | refine end_ops ?_ | refine AW_ret ?_ | refine ret_done ?_)
          exact outs_tup2 (outs_i rfl) (outs_b (decide_eq_true hok).symm)
    · have hok : ¬ TogOk c t := fun h => h2 h.2
      have e : turnNum c t = 0 := if_neg hok
      rw [e]
      repeat (first | (refine step_ops ?_; (refine m_mov (by conv => lhs; whnf) ?_)) | refine end_ops ?_ | refine seq_ops ?_ | refine AW_seq ?_)
      (refine step_ops ?_); (apply m_call (taCouples_spec _)); (· repeat (first | exact lends_nil | (refine lends_cons ?_ ?_; (· exact lend_v))))
      repeat (refine step_ops ?_; ((try (refine g_yes rfl ?_ ?_; (· first | rfl | assumption | (refine decide_eq_true ?_; first | assumption | omega) | (refine nt ?_; first | assumption | omega) | (simp [*]; done) | (refine decide_eq_false ?_; first | assumption | omega) | (refine nf ?_; first | assumption | omega)))); (first | (refine m_mov (by conv => lhs; whnf) ?_) | (refine m_not rfl ?_))))
      (refine step_ops ?_); (refine g_yes rfl ?_ ?_; (· first | (first | rfl | assumption | (refine decide_eq_true ?_; first | assumption | omega) | (refine nt ?_; first | assumption | omega) | (simp [*]; done)) | (first | rfl | assumption | (refine decide_eq_false ?_; first | assumption | omega) | (refine nf ?_; first | assumption | omega) | (simp [*]; done))); (apply m_call (l1In_spec _ _ _))); (· repeat (first | exact lends_nil | (refine lends_cons ?_ ?_; (· exact lend_v))))
      repeat (first | (refine step_ops ?_; ((try (refine g_yes rfl ?_ ?_; (· first | rfl | assumption | (refine decide_eq_true ?_; first | assumption | omega) | (refine nt ?_; first | assumption | omega) | (simp [*]; done) | (refine decide_eq_false ?_; first | assumption | omega) | (refine nf ?_; first | assumption | omega)))); (first | (refine m_mov (by conv => lhs; whnf) ?_) | (refine m_not rfl ?_) | (refine m_pick_f rfl ?_ (by conv => lhs; whnf) ?_; (· first | rfl | assumption | (refine decide_eq_false ?_; first | assumption | omega) | (refine nf ?_; first | assumption | omega) | (simp [*]; done)))))) | refine end_ops ?_ | refine seq_ops ?_ | (refine cond_t rfl ?_ ?_; (· first | rfl | assumption | (refine decide_eq_true ?_; first | assumption | omega) | (refine nt ?_; first | assumption | omega) | (simp [*]; done))) | refine AW_ret ?_ | refine ret_done ?_ | refine ret_then ?_)
      exact outs_tup2 (outs_i rfl) (outs_b (decide_eq_false hok).symm)
  · have hok : ¬ TogOk c t := fun h => h1 h.1
    have e : turnNum c t = 0 := if_neg hok
    rw [e]
    repeat (first | (refine step_ops ?_; (refine m_mov (by conv => lhs; whnf) ?_)) | refine end_ops ?_ | refine seq_ops ?_ | refine AW_seq ?_)
    (refine step_ops ?_); (apply m_call (taCouples_spec _)); (· repeat (first | exact lends_nil | (refine lends_cons ?_ ?_; (· exact lend_v))))
    repeat (first | (refine step_ops ?_; (first | (first | (refine m_mov (by conv => lhs; whnf) ?_) | (refine m_not rfl ?_) | (refine m_pick_t rfl ?_ (by conv => lhs; whnf) ?_; (· first | rfl | assumption | (refine decide_eq_true ?_; first | assumption | omega) | (refine nt ?_; first | assumption | omega) | (simp [*]; done)))) | (refine g_noF rfl ?_ ?_; (· first | rfl | assumption | (refine decide_eq_true ?_; first | assumption | omega) | (refine nt ?_; first | assumption | omega) | (simp [*]; done))))) | refine end_ops ?_ | refine seq_ops ?_ | (refine cond_t rfl ?_ ?_; (· first | rfl | assumption | (refine decide_eq_true ?_; first | assumption | omega) | (refine nt ?_; first | assumption | omega) | (simp [*]; done))) | refine AW_ret ?_ | refine ret_done ?_ | refine ret_then ?_)
    exact outs_tup2 (outs_i rfl) (outs_b (decide_eq_false hok).symm)
theorem implCountTurnTogether_spec (c t : Int) : Sp Tryd.prog 8 [.i c, .i t] (.tup [.i (turnNum c t), .b (decide (TogOk c t))]) := by
  refine spec_of Tryd.func8 rfl cc8 rfl ?_
  unfold ac8
  by_cases hok : TogOk c t
  · have e : turnNum c t = _ := if_pos hok
    have h1 := hok.1
    have h2 := hok.2
    rw [e]
    obtain ⟨n, rfl⟩ := Int.eq_ofNat_of_zero_le (show 0 ≤ c by omega)
    obtain ⟨m, rfl⟩ := Int.eq_ofNat_of_zero_le h2.1
    rw [Int.toNat_natCast, Int.toNat_natCast]
    have hsame := (turn_same n (by omega) (by omega) m (by omega)).1
    have hlen := cplK_len n (by omega) (by omega) (n + 1) (by omega)
    rw [← hsame]
    repeat (first | (refine step_ops ?_; (refine m_mov (by conv => lhs; whnf) ?_)) | refine end_ops ?_ | refine seq_ops ?_ | refine AW_seq ?_)
    (refine step_ops ?_); (apply m_call (canBeTogether_spec _ _)); (· repeat (first | exact lends_nil | (refine lends_cons ?_ ?_; (· exact lend_v))))
    repeat (first | (refine step_ops ?_; (first | (refine m_mov (by conv => lhs; whnf) ?_) | (refine m_not rfl ?_))) | refine end_ops ?_ | refine seq_ops ?_ | (refine cond_f rfl ?_ ?_; (· first | rfl | assumption | (refine decide_eq_false ?_; first | assumption | omega) | (refine nf ?_; first | assumption | omega) | (simp [*]; done))) | refine skip_then ?_)
    (refine step_ops ?_); (apply m_call (turnNumbers_spec n (by omega) (by omega))); (· repeat (first | exact lends_nil | (refine lends_cons ?_ ?_; (· exact lend_v))))
    repeat (first | (refine step_ops ?_; (first | (refine m_mov (by conv => lhs; whnf) ?_) | (refine m_idx1_ro rfl rfl ?_ ?_; (· omega)) | (refine m_ld_rpi rfl ?_ ?_; (· omega)))) | refine end_ops ?_ | refine AW_ret ?_ | refine ret_done ?_)
    exact outs_tup2 (outs_i rfl) (outs_b (decide_eq_true hok).symm)
  · have e : turnNum c t = 0 := if_neg hok
    rw [e]
    repeat (first | (refine step_ops ?_; (refine m_mov (by conv => lhs; whnf) ?_)) | refine end_ops ?_ | refine seq_ops ?_ | refine AW_seq ?_)
    (refine step_ops ?_); (apply m_call (canBeTogether_spec _ _)); (· repeat (first | exact lends_nil | (refine lends_cons ?_ ?_; (· exact lend_v))))
    repeat (first | (refine step_ops ?_; (first | (refine m_mov (by conv => lhs; whnf) ?_) | (refine m_not rfl ?_))) | refine end_ops ?_ | refine seq_ops ?_ | (refine cond_t rfl ?_ ?_; (· first | rfl | assumption | (refine decide_eq_true ?_; first | assumption | omega) | (refine nt ?_; first | assumption | omega) | (simp [*]; done))) | refine AW_ret ?_ | refine ret_done ?_ | refine ret_then ?_)
    exact outs_tup2 (outs_i rfl) (outs_b (decide_eq_false hok).symm)
end Go.Proofs.YtmmcldbldbpikaaDoor
namespace Go.Proofs.YtmmcldbldbpikaaDoor
open Go.Am
attribute [local irreducible] AW Outs Weak Lends Lend Sp aops atree aop1 Then Round InBlock Done
/-- Where a coat is, or -1. -/
def whoIs (L : List Int) (c : Int) : Int := if c ∈ L then (L.idxOf c : Int) else -1
theorem whoIs_at {L : List Int} {c : Int} {k : Nat} (h : k < L.length) (he : c ∉ L.take k) (hx : L.getD k 0 = c) : whoIs L c = k := by
  have hm : c ∈ L := hx ▸ getD_mem h
  have h1 : L.idxOf c = k := by
    conv => lhs; rw [← List.take_append_drop k L]
    rw [List.idxOf_append, if_neg he, List.drop_eq_getElem_cons h]
    have : L[k] = c := by simpa [h] using hx
    rw [this, List.idxOf_cons_self, List.length_take]
    omega
  rw [whoIs, if_pos hm, h1]
theorem slicesIndex_spec (L : List Int) (c : Int) (hL : L.length ≤ 1048576) : Sp Tryd.prog 72 [ints L, .i c] (.i (whoIs L c)) := by
  refine spec_of Tryd.func72 rfl cc72 rfl ?_
  unfold ac72
  repeat (first | (refine step_ops ?_; (first | (refine m_mov (by conv => lhs; whnf) ?_) | (refine m_len_ro rfl ?_))) | refine end_ops ?_ | refine seq_ops ?_ | refine AW_seq ?_ | refine AW_block ?_)
  refine AW_loop (α := Nat) (fun k => k ≤ L.length ∧ c ∉ L.take k) (fun k => st [(0, ints L), (1, .i c), (7, .i L.length), (8, .i k)] []) (fun k => L.length - k) 0 (by simp) (weak_st ?_ ?_ rfl rfl) ?_
  · (repeat' (first | exact trivial | refine And.intro ?_ ?_)) <;> (first | rfl | skip)
  · trivial
  rintro k ⟨hk, he⟩
  by_cases h : k < L.length
  · by_cases hx : c = L.getD k 0
    · repeat (first | (refine step_ops ?_; (first | (refine m_mov (by conv => lhs; whnf) ?_) | (refine m_lss rfl rfl ?_) | (refine m_eql rfl rfl ?_) | (refine m_idx1_ro rfl rfl ?_ ?_; (· omega)) | (refine m_ld_rpi rfl ?_ ?_; (· omega)))) | refine end_ops ?_ | refine seq_ops ?_ | (refine cond_t rfl ?_ ?_; (· first | rfl | assumption | (refine decide_eq_true ?_; first | assumption | omega) | (refine nt ?_; first | assumption | omega) | (simp [*]; done))) | refine skip_then ?_ | refine AW_seq ?_ | refine AW_ret ?_ | refine ret_done ?_ | refine ret_then ?_ | refine AW_block ?_ | refine ret_block ?_ | refine ret_round ?_)
      exact outs_i (whoIs_at h he hx.symm).symm
    · repeat (first | (refine step_ops ?_; (first | (refine m_mov (by conv => lhs; whnf) ?_) | (refine m_lss rfl rfl ?_) | (refine m_eql rfl rfl ?_) | (refine m_add rfl rfl ?_ ?_ ?_; (· omega); (· omega)) | (refine m_idx1_ro rfl rfl ?_ ?_; (· omega)) | (refine m_ld_rpi rfl ?_ ?_; (· omega)))) | refine end_ops ?_ | refine seq_ops ?_ | refine AW_ops ?_ | (refine cond_t rfl ?_ ?_; (· first | rfl | assumption | (refine decide_eq_true ?_; first | assumption | omega) | (refine nt ?_; first | assumption | omega) | (simp [*]; done))) | (refine cond_f rfl ?_ ?_; (· first | rfl | assumption | (refine decide_eq_false ?_; first | assumption | omega) | (refine nf ?_; first | assumption | omega) | (simp [*]; done))) | refine skip_then ?_ | refine AW_seq ?_ | refine norm_then ?_ | refine AW_block ?_ | refine norm_block ?_ | refine AW_skip ?_)
      refine next_round (k + 1) ⟨by omega, ?_⟩ (weak_st ?_ ?_ rfl rfl) ?_
      · rw [take_snoc L k 0 h, List.mem_append, List.mem_singleton]
        rintro (h1 | h1)
        · exact he h1
        · exact hx h1
      · (repeat' (first | exact trivial | refine And.intro ?_ ?_)) <;> (first | rfl | skip)
      · trivial
      · omega
  · repeat (first | (refine step_ops ?_; (first | (refine m_mov (by conv => lhs; whnf) ?_) | (refine m_lss rfl rfl ?_))) | refine end_ops ?_ | refine seq_ops ?_ | (refine cond_f rfl ?_ ?_; (· first | rfl | assumption | (refine decide_eq_false ?_; first | assumption | omega) | (refine nf ?_; first | assumption | omega) | (simp [*]; done))) | refine AW_seq ?_ | refine AW_ret ?_ | refine ret_done ?_ | refine norm_then ?_ | refine exit_then ?_ | refine exit_round ?_ | refine AW_exit ?_ | refine exit_block ?_)
    refine outs_i ?_
    rw [List.take_of_length_le (by omega)] at he
    rw [whoIs, if_neg he]
end Go.Proofs.YtmmcldbldbpikaaDoor
namespace Go.Am
theorem lend_nil {hp : Hp} : Lend hp (.v (.slice none 0 0)) (ints []) := by
  intro w0 mu N tm w phi ro v hS hv
  simp only [SimV] at hv ⊢
  exact .inl ⟨rfl, rfl, none, 0, hv, by simp⟩
/-- New memory that a callee made is handed on. -/
theorem outs_ro {s : AS} {z n : Nat} {cs : List AV} (hall : cs.all plainV = true) : Outs s (.ro true z cs n) (.ro true z cs n) := by
  intro w0 N tm w phi ro y hS h
  simp only [SimV] at h ⊢
  rcases h with h | ⟨b, o, cap, cur, e, fz, h1, h2, h3, h4, h5, h6, h7⟩
  · exact .inl h
  · obtain ⟨k1, k2⟩ := h6 trivial
    exact .inr ⟨b, o, cap, cur, e, fz, h1, h2, ⟨k1, lt_of_get h2⟩, h4, h5, fun _ => ⟨k1, k2⟩, simL_allv hall h7⟩
end Go.Am
namespace Go.Proofs.YtmmcldbldbpikaaDoor
open Go.Am
attribute [local irreducible] AW Outs Weak Lends Lend Sp aops atree aop1 Then Round InBlock Done
theorem slicesContains_spec (L : List Int) (c : Int) (hL : L.length ≤ 1048576) : Sp Tryd.prog 56 [ints L, .i c] (.b (decide (c ∈ L))) := by
  refine spec_of Tryd.func56 rfl cc56 rfl ?_
  unfold ac56
  repeat (first | (refine step_ops ?_; (refine m_mov (by conv => lhs; whnf) ?_)) | refine end_ops ?_ | refine seq_ops ?_)
  (refine step_ops ?_); (apply m_call (slicesIndex_spec _ _ hL)); (· repeat (first | exact lends_nil | (refine lends_cons ?_ ?_; (· (first | exact lend_v | (refine lend_ints ?_; first | rfl | omega))))))
  repeat (first | (refine step_ops ?_; (first | (refine m_mov (by conv => lhs; whnf) ?_) | (refine m_geq rfl rfl ?_))) | refine end_ops ?_ | refine AW_ret ?_ | refine ret_done ?_)
  refine outs_b ?_
  refine decide_eq_decide.2 ?_
  unfold whoIs
  by_cases h : c ∈ L
  · simp [h]
  · simp [h]
theorem slicesClone_nil_spec : Sp Tryd.prog 66 [ints []] (newInts []) := by
  refine spec_of Tryd.func66 rfl cc66 rfl ?_
  unfold ac66
  repeat (first | (refine step_ops ?_; (first | (refine m_mov (by conv => lhs; whnf) ?_) | (refine m_nils ?_))) | refine end_ops ?_ | refine seq_ops ?_ | refine AW_seq ?_)
  refine step_ops ?_
  refine m_isnil_ro0 rfl fun b => ?_
  cases b
  · repeat (first | (refine step_ops ?_; (first | (refine m_mov (by conv => lhs; whnf) ?_) | (refine m_bsl0 ?_))) | refine end_ops ?_ | refine seq_ops ?_ | (refine cond_f rfl ?_ ?_; (· first | rfl | assumption | (refine decide_eq_false ?_; first | assumption | omega) | (refine nf ?_; first | assumption | omega) | (simp [*]; done))) | refine skip_then ?_)
    refine step_ops ?_
    refine m_appro (ys := []) (cs := []) (m := 0) (n := 0) rfl (by decide) rfl rfl rfl rfl (by decide) (by decide) ?_
    repeat (first | (refine step_ops ?_; (refine m_mov (by conv => lhs; whnf) ?_)) | refine end_ops ?_ | refine AW_ret ?_ | refine ret_done ?_)
    exact outs_ints (cs := []) rfl rfl rfl
  · repeat (first | (refine step_ops ?_; (refine m_nils ?_)) | refine end_ops ?_ | refine seq_ops ?_ | (refine cond_t rfl ?_ ?_; (· first | rfl | assumption | (refine decide_eq_true ?_; first | assumption | omega) | (refine nt ?_; first | assumption | omega) | (simp [*]; done))) | refine AW_ret ?_ | refine ret_done ?_ | refine ret_then ?_)
    exact outs_ints (cs := []) rfl rfl rfl
theorem slicesClone0_spec (L : List Int) (hL : L.length ≤ 1048576) : Sp Tryd.prog 66 [ints L] (newInts L) := by
  by_cases h1 : 1 ≤ L.length
  · exact slicesClone_spec L hL h1
  · obtain rfl : L = [] := by
      cases L with
      | nil => rfl
      | cons a l => simp at h1
    exact slicesClone_nil_spec
/-- What a search finds. -/
def srchR (o : Option (List Int)) : AV := .tup [newInts (o.getD []), .b o.isSome]
theorem fittingFrom_spec {f : FuncId} {fl : List AV} {kk : Nat} {n : Nat} {fits : List Int → Nat → Bool} (A : AsksK Tryd.prog f fl kk n fits) (l : List Int) (g : Nat) (hn : n ≤ 1000) (hl : l.length < n) (hb : ∀ x ∈ l, 0 ≤ x ∧ x < n) (hg : g ≤ n) :
    Sp Tryd.prog 54 [.i n, ints l, .i g, .fn f fl kk] (srchR (goAt fits n l g).head?) := by
  unfold srchR
  refine spec_of Tryd.func54 rfl cc54 rfl ?_
  unfold ac54
  repeat (first | (refine step_ops ?_; (first | (refine m_mov (by conv => lhs; whnf) ?_) | (refine m_nils ?_))) | refine end_ops ?_ | refine seq_ops ?_)
  refine AW_scope (α := Unit) 0 (fun _ => False) (fun _ => st [] []) (fun _ => 0) rfl ?_ (fun _ hf => hf.elim)
  repeat (first | (refine step_ops ?_; (refine m_mov (by conv => lhs; whnf) ?_)) | refine seq_ops ?_)
  (refine step_ops ?_); (apply m_callo (slicesClone0_spec l (by omega))); (· repeat (first | exact lends_nil | (refine lends_cons ?_ ?_; (· (refine lend_ints ?_; first | rfl | omega))))); (· first | exact allv_ints _ | rfl | (simp; done))
  repeat (first | (refine step_ops ?_; (refine m_mov (by conv => lhs; whnf) ?_)) | refine end_ops ?_ | refine seq_ops ?_ | refine AW_seq ?_)
  refine AW_label ?_
  refine norm_then ?_
  repeat (first | refine AW_seq ?_ | refine AW_block ?_)
  refine AW_loop (α := List Int × Nat) (fun a => a.1.length ≤ n ∧ (∀ x ∈ a.1, 0 ≤ x ∧ x < n) ∧ a.2 ≤ n ∧ (goAt fits n a.1 a.2).head? = (goAt fits n l g).head?)
    (fun a => st [(0, .i n), (3, .fn f fl kk), (10, .sl 10 1 0 a.1.length), (11, .i a.2)] [(10, (true, a.1.map AV.i))]) (fun a => goMeas n a.1 a.2) (l, g) ⟨by show l.length ≤ n; omega, hb, hg, rfl⟩
    (Weak.trans (weak_move (r := 14) (q := 10) rfl (by decide) (by decide)) (weak_st ?_ ?_ ?_ rfl)) ?_
  · (repeat' (first | exact trivial | refine And.intro ?_ ?_)) <;> (first | rfl | skip)
    all_goals (simp (disch := decide) [tm_put_ne', tm_put_none, tm_mem, tm_kill, tm_mv, tm_st, tm_en0, tm_en1, tm_en2, tm_en3, tm_en4, Am.look, kill_fn A.nokill, mv_fn A.nokill])
  · exact ⟨rfl, trivial⟩
  · simp [refsT, refsV, A.norefs, Am.look]
  rintro ⟨M, y⟩ ⟨hM, hMb, hy, hres⟩
  dsimp only at hM hMb hy hres ⊢
  by_cases hfull : M.length = n
  · have hr1 : (goAt fits n l g).head? = some M := by rw [← hres]; exact goAt_full _ _ hfull
    repeat (first | (refine step_ops ?_; (first | (refine m_mov (by conv => lhs; whnf) ?_) | (refine m_eql rfl rfl ?_) | (refine m_len_sl rfl ?_))) | refine end_ops ?_ | refine seq_ops ?_ | (refine cond_t rfl ?_ ?_; (· first | rfl | assumption | (refine decide_eq_true ?_; first | assumption | omega) | (refine nt ?_; first | assumption | omega) | (simp [*]; done))) | refine AW_ret ?_ | refine ret_done ?_ | refine norm_then ?_ | refine AW_block ?_ | refine exit_round ?_ | refine AW_exit ?_ | refine exit_block ?_ | (refine exit_other ?_ ?_; (· decide)))
    rw [hr1]
    exact outs_tup2 (outs_ints rfl rfl rfl) (outs_b rfl)
  · have hMl : M.length < n := by omega
    by_cases hy2 : y < n
    · by_cases hf : fits M y = true
      · repeat (first | (refine step_ops ?_; ((try (refine g_yes rfl ?_ ?_; (· first | rfl | assumption | (refine decide_eq_true ?_; first | assumption | omega) | (refine nt ?_; first | assumption | omega) | (simp [*]; done) | (refine decide_eq_false ?_; first | assumption | omega) | (refine nf ?_; first | assumption | omega)))); (first | (refine m_mov (by conv => lhs; whnf) ?_) | (refine m_lss rfl rfl ?_) | (refine m_eql rfl rfl ?_) | (refine m_len_sl rfl ?_)))) | refine end_ops ?_ | refine seq_ops ?_ | (refine cond_f rfl ?_ ?_; (· first | rfl | assumption | (refine decide_eq_false ?_; first | assumption | omega) | (refine nf ?_; first | assumption | omega) | (simp [*]; done))) | refine AW_block ?_)
        refine step_ops ?_
        refine g_yes rfl ?_ ?_
        · first | rfl | assumption | (refine decide_eq_true ?_; first | assumption | omega) | (refine nt ?_; first | assumption | omega) | (simp [*]; done)
        refine m_callf rfl A.call (A.spec M y (by omega) hMb hy2) ?_ ?_
        · exact asksK_lend A.bears rfl rfl (lends_cons (lend_sli (by rfl) rfl) (lends_cons lend_v lends_nil))
        repeat (first | (refine step_ops ?_; (first | (refine m_mov (by conv => lhs; whnf) ?_) | (refine m_pick_t rfl ?_ (by conv => lhs; whnf) ?_; (· first | rfl | assumption | (refine decide_eq_true ?_; first | assumption | omega) | (refine nt ?_; first | assumption | omega) | (simp [*]; done))) | (refine m_bsl1 rfl rfl ?_) | (refine m_app1i rfl (by decide) (by rfl) (by first | rfl | omega | (simp; done)) rfl rfl ?_ (by decide) ?_; (· first | omega | (simp; omega))))) | refine end_ops ?_ | refine seq_ops ?_ | refine AW_ops ?_ | (refine cond_t rfl ?_ ?_; (· first | rfl | assumption | (refine decide_eq_true ?_; first | assumption | omega) | (refine nt ?_; first | assumption | omega) | (simp [*]; done))) | refine norm_block ?_)
        refine next_round (M ++ [(y : Int)], 0) ⟨by simp; omega, fun x hx => ?_, Nat.zero_le _, by rw [← hres]; exact congrArg _ (goAt_take _ _ hMl hy2 hf)⟩ (Weak.trans (weak_move (r := 45) (q := 10) rfl (by decide) (by decide)) (weak_st ?_ ?_ ?_ rfl)) ?_
        · rcases List.mem_append.1 hx with hx | hx
          · exact hMb x hx
          · rw [List.mem_singleton.1 hx]; omega
        · (repeat' (first | exact trivial | refine And.intro ?_ ?_)) <;> (first | rfl | skip)
          all_goals (simp (disch := decide) [tm_put_ne', tm_put_none, tm_mem, tm_kill, tm_mv, tm_st, tm_en0, tm_en1, tm_en2, tm_en3, tm_en4, Am.look, kill_fn A.nokill, mv_fn A.nokill])
        · exact ⟨rfl, trivial⟩
        · simp [refsT, refsV, A.norefs, Am.look]
        · exact goMeas_take hMl hy2
      · have hf : fits M y = false := by simpa using hf
        repeat (first | (refine step_ops ?_; ((try (refine g_yes rfl ?_ ?_; (· first | rfl | assumption | (refine decide_eq_true ?_; first | assumption | omega) | (refine nt ?_; first | assumption | omega) | (simp [*]; done) | (refine decide_eq_false ?_; first | assumption | omega) | (refine nf ?_; first | assumption | omega)))); (first | (refine m_mov (by conv => lhs; whnf) ?_) | (refine m_lss rfl rfl ?_) | (refine m_eql rfl rfl ?_) | (refine m_len_sl rfl ?_)))) | refine end_ops ?_ | refine seq_ops ?_ | (refine cond_f rfl ?_ ?_; (· first | rfl | assumption | (refine decide_eq_false ?_; first | assumption | omega) | (refine nf ?_; first | assumption | omega) | (simp [*]; done))) | refine AW_block ?_)
        refine step_ops ?_
        refine g_yes rfl ?_ ?_
        · first | rfl | assumption | (refine decide_eq_true ?_; first | assumption | omega) | (refine nt ?_; first | assumption | omega) | (simp [*]; done)
        refine m_callf rfl A.call (A.spec M y (by omega) hMb hy2) ?_ ?_
        · exact asksK_lend A.bears rfl rfl (lends_cons (lend_sli (by rfl) rfl) (lends_cons lend_v lends_nil))
        repeat (first | (refine step_ops ?_; (first | (refine m_mov (by conv => lhs; whnf) ?_) | (refine m_lss rfl rfl ?_) | (refine m_add rfl rfl ?_ ?_ ?_; (· omega); (· omega)) | (refine m_pick_t rfl ?_ (by conv => lhs; whnf) ?_; (· first | rfl | assumption | (refine decide_eq_true ?_; first | assumption | omega) | (refine nt ?_; first | assumption | omega) | (simp [*]; done))))) | refine end_ops ?_ | refine seq_ops ?_ | refine AW_ops ?_ | (refine cond_t rfl ?_ ?_; (· first | rfl | assumption | (refine decide_eq_true ?_; first | assumption | omega) | (refine nt ?_; first | assumption | omega) | (simp [*]; done))) | (refine cond_f rfl ?_ ?_; (· first | rfl | assumption | (refine decide_eq_false ?_; first | assumption | omega) | (refine nf ?_; first | assumption | omega) | (simp [*]; done))) | refine norm_block ?_)
        refine next_round (M, y + 1) ⟨hM, hMb, hy2, by rw [← hres]; exact congrArg _ (goAt_skip _ _ hMl hy2 hf)⟩ (weak_st ?_ ?_ ?_ rfl) ?_
        · (repeat' (first | exact trivial | refine And.intro ?_ ?_)) <;> (first | rfl | skip)
          all_goals (simp (disch := decide) [tm_put_ne', tm_put_none, tm_mem, tm_kill, tm_mv, tm_st, tm_en0, tm_en1, tm_en2, tm_en3, tm_en4, Am.look, kill_fn A.nokill, mv_fn A.nokill])
        · exact ⟨rfl, trivial⟩
        · simp [refsT, refsV, A.norefs, Am.look]
        · exact goMeas_skip hMl hy2
    · by_cases hM0 : M.length = 0
      · have hr1 : (goAt fits n l g).head? = none := by
          rw [← hres, List.length_eq_zero_iff.1 hM0, goAt_none _ _ (by omega) (by omega)]; rfl
        repeat (first | (refine step_ops ?_; (first | (first | (refine m_mov (by conv => lhs; whnf) ?_) | (refine m_lss rfl rfl ?_) | (refine m_eql rfl rfl ?_) | (refine m_len_sl rfl ?_) | (refine m_pick_f rfl ?_ (by conv => lhs; whnf) ?_; (· first | rfl | assumption | (refine decide_eq_false ?_; first | assumption | omega) | (refine nf ?_; first | assumption | omega) | (simp [*]; done))) | (refine m_nils ?_)) | (refine g_noT rfl ?_ ?_; (· first | rfl | assumption | (refine decide_eq_false ?_; first | assumption | omega) | (refine nf ?_; first | assumption | omega) | (simp [*]; done))))) | refine end_ops ?_ | refine seq_ops ?_ | (refine cond_t rfl ?_ ?_; (· first | rfl | assumption | (refine decide_eq_true ?_; first | assumption | omega) | (refine nt ?_; first | assumption | omega) | (simp [*]; done))) | (refine cond_f rfl ?_ ?_; (· first | rfl | assumption | (refine decide_eq_false ?_; first | assumption | omega) | (refine nf ?_; first | assumption | omega) | (simp [*]; done))) | refine AW_ret ?_ | refine ret_done ?_ | refine ret_then ?_ | refine AW_block ?_ | refine ret_block ?_ | refine ret_round ?_)
        rw [hr1]
        exact outs_tup2 (outs_ints rfl rfl rfl) (outs_b rfl)
      · obtain ⟨q, hq⟩ : ∃ q, M.length = q + 1 := ⟨M.length - 1, by omega⟩
        have hx := hMb _ (getD_mem (show q < M.length by omega))
        obtain ⟨k, hk⟩ := Int.eq_ofNat_of_zero_le hx.1
        have hlen : (M.take q).length = q := List.length_take_of_le (by omega)
        have hsp : M = M.take q ++ [(k : Int)] := by
          have h1 := take_snoc M q 0 (by omega)
          rw [List.take_of_length_le (by omega), hk] at h1
          exact h1
        have hgo : goAt fits n M y = goAt fits n (M.take q) (k + 1) := by
          conv => lhs; rw [hsp]
          rw [goAt_back _ _ (by omega) (by omega), Int.toNat_natCast]
        have hms : goMeas n (M.take q) (k + 1) < goMeas n M y := by
          have := goMeas_back (n := n) (l := M.take q) (x := (k : Int)) (g := y) (by omega)
          rw [← hsp, Int.toNat_natCast] at this
          exact this
        clear hsp
        repeat (first | (refine step_ops ?_; (first | (first | (refine m_mov (by conv => lhs; whnf) ?_) | (refine m_lss rfl rfl ?_) | (refine m_eql rfl rfl ?_) | (refine m_sub rfl rfl ?_ ?_ ?_; (· omega); (· omega)) | (refine m_len_sl rfl ?_) | (refine m_idx_sl rfl rfl ?_ ?_ ?_; (· omega); (· omega)) | (refine m_ld_pti rfl (by rfl) ?_ ?_; (· first | omega | (simp; omega))) | (refine m_pick_f rfl ?_ (by conv => lhs; whnf) ?_; (· first | rfl | assumption | (refine decide_eq_false ?_; first | assumption | omega) | (refine nf ?_; first | assumption | omega) | (simp [*]; done)))) | (refine g_noT rfl ?_ ?_; (· first | rfl | assumption | (refine decide_eq_false ?_; first | assumption | omega) | (refine nf ?_; first | assumption | omega) | (simp [*]; done))))) | refine end_ops ?_ | refine seq_ops ?_ | (refine cond_f rfl ?_ ?_; (· first | rfl | assumption | (refine decide_eq_false ?_; first | assumption | omega) | (refine nf ?_; first | assumption | omega) | (simp [*]; done))) | refine AW_block ?_)
        rw [show (M.length : Int) - 1 = (q : Int) by omega]
        skip
        rw [show M.getD (0 + (q : Int).toNat * 1) 0 = (k : Int) by rw [Int.toNat_natCast, Nat.zero_add, Nat.mul_one]; exact hk]
        repeat (first | (refine step_ops ?_; (first | (refine m_mov (by conv => lhs; whnf) ?_) | (refine m_add rfl rfl ?_ ?_ ?_; (· omega); (· omega)))) | refine end_ops ?_ | refine AW_ops ?_)
        refine step_ops ?_
        refine m_cut_sl (l := 0) (h := q) rfl rfl ⟨_, rfl⟩ (Nat.zero_le _) (by omega) ?_
        repeat (first | (refine step_ops ?_; (refine m_mov (by conv => lhs; whnf) ?_)) | refine end_ops ?_ | refine norm_block ?_)
        refine next_round (M.take q, k + 1) ⟨by show (M.take q).length ≤ _; omega, fun x hx => hMb x (List.mem_of_mem_take hx), by show k + 1 ≤ n; omega, by rw [← hres]; exact congrArg _ hgo.symm⟩ (Weak.trans (weak_shrink 10 q rfl (allv_ints _)) (weak_st ?_ ?_ ?_ rfl)) hms
        · rw [hlen]
          (repeat' (first | exact trivial | refine And.intro ?_ ?_)) <;> (first | rfl | skip)
          all_goals (simp (disch := decide) [tm_put_ne', tm_put_none, tm_mem, tm_kill, tm_mv, tm_st, tm_en0, tm_en1, tm_en2, tm_en3, tm_en4, Am.look, kill_fn A.nokill, mv_fn A.nokill])
        · rw [List.map_take]
          exact ⟨rfl, trivial⟩
        · simp [refsT, refsV, A.norefs, Am.look]
theorem firstFitting_spec {f : FuncId} {fl : List AV} {kk : Nat} {n : Nat} {fits : List Int → Nat → Bool} (A : AsksK Tryd.prog f fl kk n fits) (hn : n ≤ 1000) (h1 : 1 ≤ n) :
    Sp Tryd.prog 40 [.i n, .fn f fl kk] (srchR (goOn fits n n []).head?) := by
  have hs := fittingFrom_spec A [] 0 hn h1 (fun x hx => by simp at hx) (Nat.zero_le _)
  rw [goAt_start _ _ h1] at hs
  unfold srchR at hs ⊢
  generalize hsr : (goOn fits n n []).head? = sr at hs ⊢
  refine spec_of Tryd.func40 rfl cc40 rfl ?_
  unfold ac40
  repeat (first | (refine step_ops ?_; (first | (refine m_mov (by conv => lhs; whnf) ?_) | (refine m_nils ?_))) | refine end_ops ?_ | refine seq_ops ?_)
  refine step_ops ?_
  refine m_callt hs ?_ (allv_ints _) rfl ?_
  · refine lends_cons lend_v (lends_cons lend_nil (lends_cons lend_v (lends_cons ?_ lends_nil)))
    rw [show AS.ev _ (.t 7) = AV.fn f fl kk by (show killV 4 (AV.fn f fl kk) = _; exact kill_fn A.nokill)]
    exact lend_bears A.bears
  repeat (first | (refine step_ops ?_; (first | (refine m_mov (by conv => lhs; whnf) ?_) | (refine m_ext rfl rfl ?_))) | refine end_ops ?_ | refine AW_ret ?_ | refine ret_done ?_)
  exact outs_tup2 (outs_ints rfl rfl rfl) (outs_b rfl)
theorem nextFitting_spec {f : FuncId} {fl : List AV} {kk : Nat} {n : Nat} {fits : List Int → Nat → Bool} (A : AsksK Tryd.prog f fl kk n fits) (hn : n ≤ 1000) (h1 : 1 ≤ n) (L : List Int) (hL : L.length = n) (hb : ∀ x ∈ L, 0 ≤ x ∧ x < n) :
    Sp Tryd.prog 44 [ints L, .fn f fl kk] (srchR ((goOn fits n n []).find? (fun m => comesB L m))) := by
  have hbb : ∀ i < n, ∃ g : Nat, L.getD i 0 = g ∧ g < n := fun i hi => by
    have hr := hb _ (getD_mem (show i < L.length by omega))
    obtain ⟨q, hq⟩ := Int.eq_ofNat_of_zero_le hr.1
    exact ⟨q, hq, by omega⟩
  unfold srchR
  refine spec_of Tryd.func44 rfl cc44 rfl ?_
  unfold ac44
  repeat (first | (refine step_ops ?_; (first | (refine m_mov (by conv => lhs; whnf) ?_) | (refine m_nils ?_))) | refine end_ops ?_ | refine seq_ops ?_ | refine AW_seq ?_ | refine AW_block ?_)
  refine AW_loop (α := Nat) (fun k => k < n ∧ ∀ i < k, fits (L.take i) (L.getD i 0).toNat = true) (fun k => st [(0, ints L), (1, .fn f fl kk), (6, .i k)] []) (fun k => n - k) 0 ⟨by omega, fun i hi => by omega⟩ (weak_st ?_ ?_ ?_ rfl) ?_
  · (repeat' (first | exact trivial | refine And.intro ?_ ?_)) <;> (first | rfl | skip)
    all_goals (simp (disch := decide) [tm_put_ne', tm_put_none, tm_mem, tm_kill, tm_mv, tm_st, tm_en0, tm_en1, tm_en2, tm_en3, tm_en4, Am.look, kill_fn A.nokill, mv_fn A.nokill])
  · exact trivial
  · simp [refsT, refsV, A.norefs, Am.look]
  rintro k ⟨hk, ha⟩
  obtain ⟨j, hj, hjn⟩ := hbb k hk
  have hlt : (L.take k).length = k := List.length_take_of_le (by omega)
  have hend : fits (L.take k) (L.getD k 0).toNat = false ∨ k + 1 = n → Sp Tryd.prog 54 [.i n, ints (L.take k), .i (j + 1), .fn f fl kk] (srchR ((goOn fits n n []).find? (fun m => comesB L m))) := by
    intro he
    rw [find_behind fits n hL hbb hk ha he, hj, Int.toNat_natCast]
    exact fittingFrom_spec A (L.take k) (j + 1) hn (by omega) (fun x hx => hb x (List.mem_of_mem_take hx)) (by omega)
  unfold srchR at hend
  generalize hsr : (goOn fits n n []).find? (fun m => comesB L m) = sr at hend ⊢
  by_cases hc : (k : Int) < L.length - 1
  · have hsp := A.spec (L.take k) j (by omega) (fun x hx => hb x (List.mem_of_mem_take hx)) hjn
    by_cases hf : fits (L.take k) j = true
    · repeat (first | (refine step_tree ?_; ((try (refine g_yes rfl ?_ ?_; (· first | rfl | assumption | (refine decide_eq_true ?_; first | assumption | omega) | (refine nt ?_; first | assumption | omega) | (simp [*]; done) | (refine decide_eq_false ?_; first | assumption | omega) | (refine nf ?_; first | assumption | omega)))); (first | (refine m_mov (by conv => lhs; whnf) ?_) | (refine m_lss rfl rfl ?_) | (refine m_sub rfl rfl ?_ ?_ ?_; (· omega); (· omega)) | (refine m_len_ro rfl ?_) | (refine m_idx1_ro rfl rfl ?_ ?_; (· omega)) | (refine m_ld_rpi rfl ?_ ?_; (· omega)) | (refine m_cut_hi rfl rfl ?_ ?_ ?_; (· first | rfl | omega | simp); (· first | omega | (simp; omega)))))) | refine seq_tree ?_ | refine AW_seq ?_)
      rw [hj]
      skip
      refine step_tree ?_
      refine g_yes rfl ?_ ?_
      · first | rfl | assumption | (refine decide_eq_true ?_; first | assumption | omega) | (refine nt ?_; first | assumption | omega) | (simp [*]; done)
      refine m_callf rfl A.call hsp ?_ ?_
      · exact asksK_lend A.bears rfl rfl (lends_cons (lend_ints rfl) (lends_cons lend_v lends_nil))
      repeat (first | ((first | refine step_ops ?_ | refine step_tree ?_); (first | (refine m_mov (by conv => lhs; whnf) ?_) | (refine m_add rfl rfl ?_ ?_ ?_; (· omega); (· omega)) | (refine m_pick_t rfl ?_ (by conv => lhs; whnf) ?_; (· first | rfl | assumption | (refine decide_eq_true ?_; first | assumption | omega) | (refine nt ?_; first | assumption | omega) | (simp [*]; done))))) | refine end_ops ?_ | refine AW_ops ?_ | refine end_tree ?_ | (refine cond_t rfl ?_ ?_; (· first | rfl | assumption | (refine decide_eq_true ?_; first | assumption | omega) | (refine nt ?_; first | assumption | omega) | (simp [*]; done))) | refine skip_then ?_ | refine AW_block ?_ | refine norm_block ?_)
      refine next_round (k + 1) ⟨by omega, fun i hi => ?_⟩ (weak_st ?_ ?_ ?_ rfl) ?_
      · by_cases hik : i = k
        · subst hik; rw [hj, Int.toNat_natCast]; exact hf
        · exact ha i (by omega)
      · (repeat' (first | exact trivial | refine And.intro ?_ ?_)) <;> (first | rfl | skip)
        all_goals (simp (disch := decide) [tm_put_ne', tm_put_none, tm_mem, tm_kill, tm_mv, tm_st, tm_en0, tm_en1, tm_en2, tm_en3, tm_en4, Am.look, kill_fn A.nokill, mv_fn A.nokill])
      · exact trivial
      · simp [refsT, refsV, A.norefs, Am.look]
      · omega
    · have hf : fits (L.take k) j = false := by simpa using hf
      have hs := hend (.inl (by rw [hj, Int.toNat_natCast]; exact hf))
      repeat (first | (refine step_tree ?_; ((try (refine g_yes rfl ?_ ?_; (· first | rfl | assumption | (refine decide_eq_true ?_; first | assumption | omega) | (refine nt ?_; first | assumption | omega) | (simp [*]; done) | (refine decide_eq_false ?_; first | assumption | omega) | (refine nf ?_; first | assumption | omega)))); (first | (refine m_mov (by conv => lhs; whnf) ?_) | (refine m_lss rfl rfl ?_) | (refine m_sub rfl rfl ?_ ?_ ?_; (· omega); (· omega)) | (refine m_len_ro rfl ?_) | (refine m_idx1_ro rfl rfl ?_ ?_; (· omega)) | (refine m_ld_rpi rfl ?_ ?_; (· omega)) | (refine m_cut_hi rfl rfl ?_ ?_ ?_; (· first | rfl | omega | simp); (· first | omega | (simp; omega)))))) | refine seq_tree ?_ | refine AW_seq ?_)
      rw [hj]
      skip
      refine step_tree ?_
      refine g_yes rfl ?_ ?_
      · first | rfl | assumption | (refine decide_eq_true ?_; first | assumption | omega) | (refine nt ?_; first | assumption | omega) | (simp [*]; done)
      refine m_callf rfl A.call hsp ?_ ?_
      · exact asksK_lend A.bears rfl rfl (lends_cons (lend_ints rfl) (lends_cons lend_v lends_nil))
      repeat (first | (refine step_tree ?_; (first | (refine m_mov (by conv => lhs; whnf) ?_) | (refine m_add rfl rfl ?_ ?_ ?_; (· omega); (· omega)) | (refine m_len_ro rfl ?_) | (refine m_idx1_ro rfl rfl ?_ ?_; (· omega)) | (refine m_ld_rpi rfl ?_ ?_; (· omega)) | (refine m_pick_t rfl ?_ (by conv => lhs; whnf) ?_; (· first | rfl | assumption | (refine decide_eq_true ?_; first | assumption | omega) | (refine nt ?_; first | assumption | omega) | (simp [*]; done))) | (refine m_cut_hi rfl rfl ?_ ?_ ?_; (· first | rfl | omega | simp); (· first | omega | (simp; omega))))) | refine end_tree ?_ | refine seq_tree ?_ | (refine cond_f rfl ?_ ?_; (· first | rfl | assumption | (refine decide_eq_false ?_; first | assumption | omega) | (refine nf ?_; first | assumption | omega) | (simp [*]; done))) | refine norm_then ?_ | refine exit_then ?_ | refine exit_round ?_ | refine AW_exit ?_ | refine exit_block ?_)
      rw [hj]
      skip
      refine step_tree ?_
      refine m_call hs ?_ ?_
      · rw [← hL]
        exact lends_cons lend_v (lends_cons (lend_ints rfl) (lends_cons lend_v (lends_cons (lend_bears A.bears) lends_nil)))
      repeat (first | (refine step_tree ?_; (first | (refine m_mov (by conv => lhs; whnf) ?_) | (refine m_ext rfl rfl ?_))) | refine end_tree ?_ | refine AW_ret ?_ | refine ret_done ?_)
      exact outs_tup2 (outs_ro (allv_ints _)) (outs_b rfl)
  · have hs := hend (.inr (by omega))
    repeat (first | (refine step_tree ?_; (first | (first | (refine m_mov (by conv => lhs; whnf) ?_) | (refine m_lss rfl rfl ?_) | (refine m_add rfl rfl ?_ ?_ ?_; (· omega); (· omega)) | (refine m_sub rfl rfl ?_ ?_ ?_; (· omega); (· omega)) | (refine m_len_ro rfl ?_) | (refine m_idx1_ro rfl rfl ?_ ?_; (· omega)) | (refine m_ld_rpi rfl ?_ ?_; (· omega)) | (refine m_pick_f rfl ?_ (by conv => lhs; whnf) ?_; (· first | rfl | assumption | (refine decide_eq_false ?_; first | assumption | omega) | (refine nf ?_; first | assumption | omega) | (simp [*]; done))) | (refine m_cut_hi rfl rfl ?_ ?_ ?_; (· first | rfl | omega | simp); (· first | omega | (simp; omega)))) | (refine g_noT rfl ?_ ?_; (· first | rfl | assumption | (refine decide_eq_false ?_; first | assumption | omega) | (refine nf ?_; first | assumption | omega) | (simp [*]; done))))) | refine end_tree ?_ | refine seq_tree ?_ | (refine cond_f rfl ?_ ?_; (· first | rfl | assumption | (refine decide_eq_false ?_; first | assumption | omega) | (refine nf ?_; first | assumption | omega) | (simp [*]; done))) | refine AW_seq ?_ | refine norm_then ?_ | refine exit_then ?_ | refine exit_round ?_ | refine AW_exit ?_ | refine exit_block ?_)
    rw [hj]
    skip
    refine step_tree ?_
    refine m_call hs ?_ ?_
    · rw [← hL]
      exact lends_cons lend_v (lends_cons (lend_ints rfl) (lends_cons lend_v (lends_cons (lend_bears A.bears) lends_nil)))
    repeat (first | (refine step_tree ?_; (first | (refine m_mov (by conv => lhs; whnf) ?_) | (refine m_ext rfl rfl ?_))) | refine end_tree ?_ | refine AW_ret ?_ | refine ret_done ?_)
    exact outs_tup2 (outs_ro (allv_ints _)) (outs_b rfl)
end Go.Proofs.YtmmcldbldbpikaaDoor
namespace Go.Am
/-- A member of what goes on is found. -/
theorem goOn_len {fits : List Int → Nat → Bool} {n k : Nat} {l m : List Int} (h : m ∈ goOn fits n k l) : m.length = l.length + k := by
  obtain ⟨r, rfl, hr⟩ := goOn_shape fits n _ _ _ h
  rw [List.length_append, hr]
/-- The first that goes on from l, behind a list if that is not empty. -/
def fstB (fits : List Int → Nat → Bool) (n k : Nat) (l bh : List Int) : Option (List Int) := if bh = [] then (goOn fits n k l).head? else (goOn fits n k l).find? (fun m => comesB bh m)
/-- What is found among the first nexts. -/
def partB (fits : List Int → Nat → Bool) (n k : Nat) (l bh : List Int) (x : Nat) : Option (List Int) := (List.range x).findSome? fun x => if fits l x then fstB fits n k (l ++ [(x : Int)]) bh else none
theorem partB_zero (fits : List Int → Nat → Bool) (n k : Nat) (l bh : List Int) : partB fits n k l bh 0 = none := rfl
theorem partB_succ (fits : List Int → Nat → Bool) (n k : Nat) (l bh : List Int) (x : Nat) : partB fits n k l bh (x + 1) = (partB fits n k l bh x).or (if fits l x then fstB fits n k (l ++ [(x : Int)]) bh else none) := by
  unfold partB
  rw [List.range_succ, List.findSome?_append]
  simp
theorem findSome_filter {α β : Type} (p : α → Bool) (f : α → Option β) : ∀ l : List α, (l.filter p).findSome? f = l.findSome? fun x => if p x then f x else none
  | [] => rfl
  | a :: l => by
    simp only [List.filter_cons, List.findSome?_cons]
    cases p a
    · simp only [Bool.false_eq_true, if_false]
      exact findSome_filter p f l
    · simp only [if_true, List.findSome?_cons, findSome_filter p f l]
theorem partB_all (fits : List Int → Nat → Bool) (n k : Nat) (l bh : List Int) : partB fits n k l bh n = fstB fits n (k + 1) l bh := by
  unfold partB fstB
  by_cases h : bh = []
  · simp only [if_pos h]
    rw [goOn, List.head?_flatMap, findSome_filter]
  · simp only [if_neg h]
    rw [goOn, List.find?_flatMap, findSome_filter]
end Go.Am
namespace Go.Am
/-- Are the last two of a beginning a couple, or, at its full length, the last one and the first? -/
def Chk (n : Nat) (l : List Int) : Prop := (1 < l.length ∧ l.getD (l.length - 1) 0 / 2 = l.getD (l.length - 2) 0 / 2) ∨ (l.length = n ∧ l.getD (l.length - 1) 0 / 2 = l.getD 0 0 / 2)
instance (n : Nat) (l : List Int) : Decidable (Chk n l) := inferInstanceAs (Decidable (_ ∨ _))
/-- May the guest y sit behind those of M? -/
def fitsT (n : Nat) (M : List Int) (y : Nat) : Bool := if M = [] then decide (y = 0) else !decide ((y : Int) ∈ M) && !decide (Chk n (M ++ [(y : Int)]))
theorem chk_snoc {n : Nat} {M : List Int} {y : Int} (h : M ≠ []) : Chk n (M ++ [y]) ↔ (M.getD (M.length - 1) 0 / 2 = y / 2) ∨ (M.length + 1 = n ∧ M.getD 0 0 / 2 = y / 2) := by
  have hp : 0 < M.length := List.length_pos_iff.2 h
  have e1 : (M ++ [y]).getD ((M ++ [y]).length - 1) 0 = y := by simp
  have e2 : (M ++ [y]).getD ((M ++ [y]).length - 2) 0 = M.getD (M.length - 1) 0 := by
    rw [List.length_append, List.length_singleton, show M.length + 1 - 2 = M.length - 1 by omega, List.getD_eq_getElem?_getD, List.getD_eq_getElem?_getD, List.getElem?_append_left (by omega)]
  have e3 : (M ++ [y]).getD 0 0 = M.getD 0 0 := by
    rw [List.getD_eq_getElem?_getD, List.getD_eq_getElem?_getD, List.getElem?_append_left hp]
  unfold Chk
  rw [e1, e2, e3, List.length_append, List.length_singleton]
  constructor
  · rintro (⟨_, h1⟩ | ⟨h1, h2⟩)
    · exact .inl h1.symm
    · exact .inr ⟨h1, h2.symm⟩
  · rintro (h1 | ⟨h1, h2⟩)
    · exact .inl ⟨by omega, h1.symm⟩
    · exact .inr ⟨h1, h2.symm⟩
theorem chk_one {n : Nat} {x : Int} (h : 2 ≤ n) : ¬ Chk n [x] := by
  rintro (⟨h1, _⟩ | ⟨h1, _⟩)
  · simp at h1
  · simp at h1; omega
theorem goOn_first (n : Nat) : goOn (fitsT (n + 1)) (n + 1) (n + 1) [] = goOn (fitsT (n + 1)) (n + 1) n [0] := by
  rw [goOn]
  have e : (List.range (n + 1)).filter (fun x => fitsT (n + 1) [] x) = [0] := by
    rw [List.range_succ_eq_map, List.filter_cons]
    have h1 : fitsT (n + 1) [] 0 = true := by simp [fitsT]
    rw [if_pos h1, List.filter_eq_nil_iff.2]
    intro x hx
    obtain ⟨y, _, rfl⟩ := List.mem_map.1 hx
    simp [fitsT]
  rw [e]
  simp
theorem fstB_first (n : Nat) (bh : List Int) : fstB (fitsT (n + 1)) (n + 1) (n + 1) [] bh = fstB (fitsT (n + 1)) (n + 1) n [0] bh := by
  unfold fstB
  rw [goOn_first]
theorem fstB_zero {fits : List Int → Nat → Bool} {n : Nat} {l bh : List Int} : fstB fits n 0 l bh = if bh = [] ∨ comesB bh l = true then some l else none := by
  unfold fstB
  by_cases h : bh = []
  · simp [h, goOn]
  · simp only [if_neg h, goOn, List.find?_cons, List.find?_nil, h, false_or]
    cases comesB bh l <;> rfl
theorem partB_mono {fits : List Int → Nat → Bool} {n k : Nat} {l bh m : List Int} {x : Nat} (h : partB fits n k l bh x = some m) : ∀ y, x ≤ y → partB fits n k l bh y = some m := by
  intro y hy
  obtain ⟨d, rfl⟩ := Nat.exists_eq_add_of_le hy
  clear hy
  induction d with
  | zero => exact h
  | succ d ih => rw [Nat.add_succ, partB_succ, ih]; rfl
theorem fitsT_cons {n : Nat} {l : List Int} (h : 0 < l.length) (x : Nat) : fitsT n l x = (!decide ((x : Int) ∈ l) && !decide (Chk n (l ++ [(x : Int)]))) := by
  unfold fitsT
  rw [if_neg (by rintro rfl; simp at h)]
/-- Where a full list differs from another for the first time by less, it doesn't come behind. -/
theorem comesB_less {n i : Nat} {l b : List Int} (hl : i < l.length) (hb : i < b.length) (he : l.take i = b.take i) (hlt : l.getD i 0 < b.getD i 0) : comesB b l = false := by
  have h := find_prune (fitsT n) n (k := 0) hl hb he hlt
  rw [goOn, List.find?_cons, List.find?_nil] at h
  cases hc : comesB b l with
  | false => rfl
  | true => rw [hc] at h; cases h
end Go.Am
namespace Go.Proofs.YtmmcldbldbpikaaDoor
open Go.Am
attribute [local irreducible] AW Outs Weak Lends Lend Sp aops atree aop1 Then Round InBlock Done
theorem apartAsk_nil (n : Nat) (M : List Int) (y : Nat) (hM0 : M = []) : Sp Tryd.prog 55 [ints M, .i y, .rp [.i n]] (.b (fitsT n M y)) := by
  have hl0 : M.length = 0 := by rw [hM0]; rfl
  have hf : fitsT n M y = decide ((y : Int) = 0) := by
    unfold fitsT; rw [if_pos hM0]
    by_cases h : y = 0
    · subst h; rfl
    · rw [decide_eq_false h, decide_eq_false (by omega)]
  clear hM0
  rw [hf]
  refine spec_of Tryd.func55 rfl cc55 rfl ?_
  unfold ac55
  repeat (first | (refine step_ops ?_; (first | (refine m_mov (by conv => lhs; whnf) ?_) | (refine m_eql rfl rfl ?_) | (refine m_len_ro rfl ?_))) | refine end_ops ?_ | refine seq_ops ?_ | (refine cond_t rfl ?_ ?_; (· first | rfl | assumption | (refine decide_eq_true ?_; first | assumption | omega) | (refine nt ?_; first | assumption | omega) | (simp [*]; done))) | refine AW_seq ?_ | refine AW_ret ?_ | refine ret_done ?_ | refine ret_then ?_)
  exact outs_b rfl
theorem apartAsk_spec (n : Nat) (hn : n ≤ 14) (M : List Int) (y : Nat) (hM : M.length < n) (hb : ∀ x ∈ M, 0 ≤ x ∧ x < n) (hy : y < n) : Sp Tryd.prog 55 [ints M, .i y, .rp [.i n]] (.b (fitsT n M y)) := by
  by_cases hM0 : M = []
  · exact apartAsk_nil n M y hM0
  have hp : 0 < M.length := List.length_pos_iff.2 hM0
  obtain ⟨q, hq⟩ : ∃ q : Nat, M.length = q + 1 := ⟨M.length - 1, by omega⟩
  have hq2 : (M.length : Int) - 1 = (q : Nat) := by omega
  have hx := hb _ (getD_mem (show q < M.length by omega))
  have hz := hb _ (getD_mem (show 0 < M.length by omega))
  obtain ⟨x, hx1⟩ := Int.eq_ofNat_of_zero_le hx.1
  obtain ⟨z, hz1⟩ := Int.eq_ofNat_of_zero_le hz.1
  have hz2 : M.getD (Int.toNat 0 * 1) 0 = (z : Nat) := hz1
  have hxn : x < n := by omega
  have hzn : z < n := by omega
  have hf : fitsT n M y = (!decide ((y : Int) ∈ M) && !decide (((x : Int) / 2 = (y : Int) / 2) ∨ (M.length + 1 = n ∧ (z : Int) / 2 = (y : Int) / 2))) := by
    unfold fitsT
    rw [if_neg hM0]
    congr 2
    refine decide_eq_decide.2 ?_
    rw [chk_snoc hM0, show M.length - 1 = q by omega, hx1, hz1]
  rw [hf]
  clear hf hb hM0 hx hz hp
  refine spec_of Tryd.func55 rfl cc55 rfl ?_
  unfold ac55
  by_cases hm : (y : Int) ∈ M
  · repeat (first | (refine step_ops ?_; (first | (refine m_mov (by conv => lhs; whnf) ?_) | (refine m_eql rfl rfl ?_) | (refine m_len_ro rfl ?_))) | refine end_ops ?_ | refine seq_ops ?_ | (refine cond_f rfl ?_ ?_; (· first | rfl | assumption | (refine decide_eq_false ?_; first | assumption | omega) | (refine nf ?_; first | assumption | omega) | (simp [*]; done))) | refine skip_then ?_ | refine AW_seq ?_)
    (refine step_ops ?_); (apply m_call (slicesContains_spec M y (by omega))); (· repeat (first | exact lends_nil | (refine lends_cons ?_ ?_; (· (first | exact lend_v | (refine lend_ints ?_; first | rfl | omega))))))
    repeat (first | (refine step_ops ?_; (first | (first | (refine m_mov (by conv => lhs; whnf) ?_) | (refine m_pick_t rfl ?_ (by conv => lhs; whnf) ?_; (· first | rfl | assumption | (refine decide_eq_true ?_; first | assumption | omega) | (refine nt ?_; first | assumption | omega) | (simp [*]; done)))) | (refine g_noF rfl ?_ ?_; (· first | rfl | assumption | (refine decide_eq_true ?_; first | assumption | omega) | (refine nt ?_; first | assumption | omega) | (simp [*]; done))))) | refine end_ops ?_ | refine seq_ops ?_ | (refine cond_t rfl ?_ ?_; (· first | rfl | assumption | (refine decide_eq_true ?_; first | assumption | omega) | (refine nt ?_; first | assumption | omega) | (simp [*]; done))) | refine AW_ret ?_ | refine ret_done ?_ | refine ret_then ?_)
    exact outs_b (by simp [hm])
  by_cases he1 : (x : Int) / 2 = (y : Int) / 2
  · repeat (first | (refine step_ops ?_; (first | (refine m_mov (by conv => lhs; whnf) ?_) | (refine m_eql rfl rfl ?_) | (refine m_len_ro rfl ?_))) | refine end_ops ?_ | refine seq_ops ?_ | (refine cond_f rfl ?_ ?_; (· first | rfl | assumption | (refine decide_eq_false ?_; first | assumption | omega) | (refine nf ?_; first | assumption | omega) | (simp [*]; done))) | refine skip_then ?_ | refine AW_seq ?_)
    (refine step_ops ?_); (apply m_call (slicesContains_spec M y (by omega))); (· repeat (first | exact lends_nil | (refine lends_cons ?_ ?_; (· (first | exact lend_v | (refine lend_ints ?_; first | rfl | omega))))))
    repeat (refine step_ops ?_; ((try (refine g_yes rfl ?_ ?_; (· first | rfl | assumption | (refine decide_eq_true ?_; first | assumption | omega) | (refine nt ?_; first | assumption | omega) | (simp [*]; done) | (refine decide_eq_false ?_; first | assumption | omega) | (refine nf ?_; first | assumption | omega)))); (first | (refine m_mov (by conv => lhs; whnf) ?_) | (refine m_sub rfl rfl ?_ ?_ ?_; (· omega); (· omega)) | (refine m_len_ro rfl ?_) | (apply m_idx1_roj; (· rfl); (· rfl); (· assumption); (· omega)) | (refine m_ld_rpi rfl ?_ ?_; (· omega)))))
    rw [hx1]
    skip
    (refine step_ops ?_); (refine g_yes rfl ?_ ?_; (· first | (first | rfl | assumption | (refine decide_eq_true ?_; first | assumption | omega) | (refine nt ?_; first | assumption | omega) | (simp [*]; done)) | (first | rfl | assumption | (refine decide_eq_false ?_; first | assumption | omega) | (refine nf ?_; first | assumption | omega) | (simp [*]; done))); (apply m_call (areCouple_spec x y (by omega) (by omega)))); (· repeat (first | exact lends_nil | (refine lends_cons ?_ ?_; (· exact lend_v))))
    repeat (first | (refine step_ops ?_; (first | (refine m_mov (by conv => lhs; whnf) ?_) | (refine m_pick_f rfl ?_ (by conv => lhs; whnf) ?_; (· first | rfl | assumption | (refine decide_eq_false ?_; first | assumption | omega) | (refine nf ?_; first | assumption | omega) | (simp [*]; done))))) | refine end_ops ?_ | refine seq_ops ?_ | (refine cond_t rfl ?_ ?_; (· first | rfl | assumption | (refine decide_eq_true ?_; first | assumption | omega) | (refine nt ?_; first | assumption | omega) | (simp [*]; done))) | refine AW_ret ?_ | refine ret_done ?_ | refine ret_then ?_)
    exact outs_b (by simp [he1])
  by_cases hl : (M.length : Int) < (n : Int) - 1
  · repeat (first | (refine step_ops ?_; (first | (refine m_mov (by conv => lhs; whnf) ?_) | (refine m_eql rfl rfl ?_) | (refine m_len_ro rfl ?_))) | refine end_ops ?_ | refine seq_ops ?_ | (refine cond_f rfl ?_ ?_; (· first | rfl | assumption | (refine decide_eq_false ?_; first | assumption | omega) | (refine nf ?_; first | assumption | omega) | (simp [*]; done))) | refine skip_then ?_ | refine AW_seq ?_)
    (refine step_ops ?_); (apply m_call (slicesContains_spec M y (by omega))); (· repeat (first | exact lends_nil | (refine lends_cons ?_ ?_; (· (first | exact lend_v | (refine lend_ints ?_; first | rfl | omega))))))
    repeat (refine step_ops ?_; ((try (refine g_yes rfl ?_ ?_; (· first | rfl | assumption | (refine decide_eq_true ?_; first | assumption | omega) | (refine nt ?_; first | assumption | omega) | (simp [*]; done) | (refine decide_eq_false ?_; first | assumption | omega) | (refine nf ?_; first | assumption | omega)))); (first | (refine m_mov (by conv => lhs; whnf) ?_) | (refine m_sub rfl rfl ?_ ?_ ?_; (· omega); (· omega)) | (refine m_len_ro rfl ?_) | (apply m_idx1_roj; (· rfl); (· rfl); (· assumption); (· omega)) | (refine m_ld_rpi rfl ?_ ?_; (· omega)))))
    rw [hx1]
    skip
    (refine step_ops ?_); (refine g_yes rfl ?_ ?_; (· first | (first | rfl | assumption | (refine decide_eq_true ?_; first | assumption | omega) | (refine nt ?_; first | assumption | omega) | (simp [*]; done)) | (first | rfl | assumption | (refine decide_eq_false ?_; first | assumption | omega) | (refine nf ?_; first | assumption | omega) | (simp [*]; done))); (apply m_call (areCouple_spec x y (by omega) (by omega)))); (· repeat (first | exact lends_nil | (refine lends_cons ?_ ?_; (· exact lend_v))))
    repeat (first | (refine step_ops ?_; (first | (first | (refine m_mov (by conv => lhs; whnf) ?_) | (refine m_lss rfl rfl ?_) | (refine m_sub rfl rfl ?_ ?_ ?_; (· omega); (· omega)) | (refine m_len_ro rfl ?_) | (apply m_ld_rp; (· rfl); (· rfl)) | (refine m_pick_t rfl ?_ (by conv => lhs; whnf) ?_; (· first | rfl | assumption | (refine decide_eq_true ?_; first | assumption | omega) | (refine nt ?_; first | assumption | omega) | (simp [*]; done))) | (refine m_pick_f rfl ?_ (by conv => lhs; whnf) ?_; (· first | rfl | assumption | (refine decide_eq_false ?_; first | assumption | omega) | (refine nf ?_; first | assumption | omega) | (simp [*]; done)))) | (refine g_noF rfl ?_ ?_; (· first | rfl | assumption | (refine decide_eq_true ?_; first | assumption | omega) | (refine nt ?_; first | assumption | omega) | (simp [*]; done))))) | refine end_ops ?_ | refine seq_ops ?_ | (refine cond_f rfl ?_ ?_; (· first | rfl | assumption | (refine decide_eq_false ?_; first | assumption | omega) | (refine nf ?_; first | assumption | omega) | (simp [*]; done))) | refine skip_then ?_ | refine AW_ret ?_ | refine ret_done ?_)
    refine outs_b ?_
    have : ¬ (M.length + 1 = n) := by omega
    simp [hm, he1, this]
  · repeat (first | (refine step_ops ?_; (first | (refine m_mov (by conv => lhs; whnf) ?_) | (refine m_eql rfl rfl ?_) | (refine m_len_ro rfl ?_))) | refine end_ops ?_ | refine seq_ops ?_ | (refine cond_f rfl ?_ ?_; (· first | rfl | assumption | (refine decide_eq_false ?_; first | assumption | omega) | (refine nf ?_; first | assumption | omega) | (simp [*]; done))) | refine skip_then ?_ | refine AW_seq ?_)
    (refine step_ops ?_); (apply m_call (slicesContains_spec M y (by omega))); (· repeat (first | exact lends_nil | (refine lends_cons ?_ ?_; (· (first | exact lend_v | (refine lend_ints ?_; first | rfl | omega))))))
    repeat (refine step_ops ?_; ((try (refine g_yes rfl ?_ ?_; (· first | rfl | assumption | (refine decide_eq_true ?_; first | assumption | omega) | (refine nt ?_; first | assumption | omega) | (simp [*]; done) | (refine decide_eq_false ?_; first | assumption | omega) | (refine nf ?_; first | assumption | omega)))); (first | (refine m_mov (by conv => lhs; whnf) ?_) | (refine m_sub rfl rfl ?_ ?_ ?_; (· omega); (· omega)) | (refine m_len_ro rfl ?_) | (apply m_idx1_roj; (· rfl); (· rfl); (· assumption); (· omega)) | (refine m_ld_rpi rfl ?_ ?_; (· omega)))))
    rw [hx1]
    skip
    (refine step_ops ?_); (refine g_yes rfl ?_ ?_; (· first | (first | rfl | assumption | (refine decide_eq_true ?_; first | assumption | omega) | (refine nt ?_; first | assumption | omega) | (simp [*]; done)) | (first | rfl | assumption | (refine decide_eq_false ?_; first | assumption | omega) | (refine nf ?_; first | assumption | omega) | (simp [*]; done))); (apply m_call (areCouple_spec x y (by omega) (by omega)))); (· repeat (first | exact lends_nil | (refine lends_cons ?_ ?_; (· exact lend_v))))
    repeat (first | (refine step_ops ?_; ((try (refine g_yes rfl ?_ ?_; (· first | rfl | assumption | (refine decide_eq_true ?_; first | assumption | omega) | (refine nt ?_; first | assumption | omega) | (simp [*]; done) | (refine decide_eq_false ?_; first | assumption | omega) | (refine nf ?_; first | assumption | omega)))); (first | (refine m_mov (by conv => lhs; whnf) ?_) | (refine m_lss rfl rfl ?_) | (refine m_sub rfl rfl ?_ ?_ ?_; (· omega); (· omega)) | (refine m_len_ro rfl ?_) | (refine m_idx_ro rfl rfl ?_ ?_ ?_; (· omega); (· omega)) | (refine m_ld_rpi rfl ?_ ?_; (· omega)) | (apply m_ld_rp; (· rfl); (· rfl)) | (refine m_pick_f rfl ?_ (by conv => lhs; whnf) ?_; (· first | rfl | assumption | (refine decide_eq_false ?_; first | assumption | omega) | (refine nf ?_; first | assumption | omega) | (simp [*]; done)))))) | refine end_ops ?_ | refine seq_ops ?_ | (refine cond_f rfl ?_ ?_; (· first | rfl | assumption | (refine decide_eq_false ?_; first | assumption | omega) | (refine nf ?_; first | assumption | omega) | (simp [*]; done))) | refine skip_then ?_)
    rw [hz2]
    skip
    (refine step_ops ?_); (refine g_yes rfl ?_ ?_; (· first | (first | rfl | assumption | (refine decide_eq_true ?_; first | assumption | omega) | (refine nt ?_; first | assumption | omega) | (simp [*]; done)) | (first | rfl | assumption | (refine decide_eq_false ?_; first | assumption | omega) | (refine nf ?_; first | assumption | omega) | (simp [*]; done))); (apply m_call (areCouple_spec z y (by omega) (by omega)))); (· repeat (first | exact lends_nil | (refine lends_cons ?_ ?_; (· exact lend_v))))
    repeat (first | (refine step_ops ?_; ((try (refine g_yes rfl ?_ ?_; (· first | rfl | assumption | (refine decide_eq_true ?_; first | assumption | omega) | (refine nt ?_; first | assumption | omega) | (simp [*]; done) | (refine decide_eq_false ?_; first | assumption | omega) | (refine nf ?_; first | assumption | omega)))); (first | (refine m_mov (by conv => lhs; whnf) ?_) | (refine m_not rfl ?_) | (refine m_pick_f rfl ?_ (by conv => lhs; whnf) ?_; (· first | rfl | assumption | (refine decide_eq_false ?_; first | assumption | omega) | (refine nf ?_; first | assumption | omega) | (simp [*]; done)))))) | refine end_ops ?_ | refine AW_ret ?_ | refine ret_done ?_)
    refine outs_b ?_
    have : M.length + 1 = n := by omega
    by_cases he2 : (z : Int) / 2 = (y : Int) / 2 <;> simp [hm, he1, this, he2]
theorem apartAmong_spec (n : Nat) : Sp Tryd.prog 41 [.i n] (.fn 55 [.rp [.i n]] 0) := by
  refine spec_of Tryd.func41 rfl cc41 rfl ?_
  unfold ac41
  repeat (first | (refine step_ops ?_; (first | (refine m_mov (by conv => lhs; whnf) ?_) | (refine m_mkf ?_) | (refine m_box1 rfl rfl ?_))) | refine end_ops ?_ | refine seq_ops ?_ | refine AW_ret ?_ | refine ret_done ?_)
  exact outs_fnp rfl rfl
theorem apartAsks (n : Nat) (hn : n ≤ 14) : AsksK Tryd.prog 55 [.rp [.i n]] 0 n (fitsT n) where
  call := ⟨_, Tryd.func55, by rfl, by rfl⟩
  bears := bears_rp rfl
  norefs := fun _ => rfl
  nokill := fun _ => rfl
  spec := fun M y h1 h2 h3 => apartAsk_spec n hn M y h1 h2 h3
/-- The first table with no couple together, and the first one behind another. -/
def frstT (c : Int) : Option (List Int) := if 1 ≤ c ∧ c ≤ 7 then (goOn (fitsT (2 * c.toNat)) (2 * c.toNat) (2 * c.toNat) []).head? else none
def NxOk (L : List Int) : Prop := IsTab L ∧ L.getD 0 0 = 0
instance (L : List Int) : Decidable (NxOk L) := inferInstanceAs (Decidable (_ ∧ _))
def nextT (L : List Int) : Option (List Int) := if NxOk L then (goOn (fitsT L.length) L.length L.length []).find? (fun m => comesB L m) else none
theorem implFirstApart_spec (c : Int) : Sp Tryd.prog 16 [.i c] (srchR (frstT c)) := by
  unfold srchR
  refine spec_of Tryd.func16 rfl cc16 rfl ?_
  unfold ac16
  by_cases h : 1 ≤ c ∧ c ≤ 7
  · obtain ⟨q, rfl⟩ := Int.eq_ofNat_of_zero_le (show 0 ≤ c by omega)
    have hs := firstFitting_spec (apartAsks (2 * q) (by omega)) (by omega) (by omega)
    have e : frstT (q : Int) = (goOn (fitsT (2 * q)) (2 * q) (2 * q) []).head? := by unfold frstT; rw [if_pos h, Int.toNat_natCast]
    rw [← e] at hs
    unfold srchR at hs
    generalize frstT (q : Int) = T at hs
    repeat (first | (refine step_ops ?_; (first | (refine m_mov (by conv => lhs; whnf) ?_) | (refine m_nils ?_))) | refine end_ops ?_ | refine seq_ops ?_ | refine AW_seq ?_)
    (refine step_ops ?_); (apply m_call (isCoupleCount_spec _)); (· repeat (first | exact lends_nil | (refine lends_cons ?_ ?_; (· exact lend_v))))
    repeat (first | (refine step_ops ?_; (first | (refine m_mov (by conv => lhs; whnf) ?_) | (refine m_mul rfl rfl ?_ ?_ ?_; (· first | omega | (simp; done)); (· first | omega | (simp; done))) | (refine m_not rfl ?_))) | refine end_ops ?_ | refine seq_ops ?_ | (refine cond_f rfl ?_ ?_; (· first | rfl | assumption | (refine decide_eq_false ?_; first | assumption | omega) | (refine nf ?_; first | assumption | omega) | (simp [*]; done))) | refine skip_then ?_)
    rw [show 2 * (q : Int) = ((2 * q : Nat) : Int) by omega]
    skip
    (refine step_ops ?_); (apply m_call (apartAmong_spec (2 * q))); (· repeat (first | exact lends_nil | (refine lends_cons ?_ ?_; (· exact lend_v))))
    skip
    refine step_ops ?_
    refine m_call hs ?_ ?_
    · exact lends_cons lend_v (lends_cons (lend_bears (bears_rp rfl)) lends_nil)
    repeat (first | (refine step_ops ?_; (first | (refine m_mov (by conv => lhs; whnf) ?_) | (refine m_ext rfl rfl ?_))) | refine end_ops ?_ | refine AW_ret ?_ | refine ret_done ?_)
    exact outs_tup2 (outs_ro (allv_ints _)) (outs_b rfl)
  · have e : frstT c = none := if_neg h
    rw [e]
    repeat (first | (refine step_ops ?_; (first | (refine m_mov (by conv => lhs; whnf) ?_) | (refine m_nils ?_))) | refine end_ops ?_ | refine seq_ops ?_ | refine AW_seq ?_)
    (refine step_ops ?_); (apply m_call (isCoupleCount_spec _)); (· repeat (first | exact lends_nil | (refine lends_cons ?_ ?_; (· exact lend_v))))
    repeat (first | (refine step_ops ?_; (first | (refine m_mov (by conv => lhs; whnf) ?_) | (refine m_not rfl ?_) | (refine m_nils ?_))) | refine end_ops ?_ | refine seq_ops ?_ | (refine cond_t rfl ?_ ?_; (· first | rfl | assumption | (refine decide_eq_true ?_; first | assumption | omega) | (refine nt ?_; first | assumption | omega) | (simp [*]; done))) | refine AW_ret ?_ | refine ret_done ?_ | refine ret_then ?_)
    exact outs_tup2 (outs_ints rfl rfl rfl) (outs_b rfl)
theorem implNextApart_spec (L : List Int) (hL : L.length ≤ 1048576) : Sp Tryd.prog 18 [ints L] (srchR (nextT L)) := by
  unfold srchR
  refine spec_of Tryd.func18 rfl cc18 rfl ?_
  unfold ac18
  by_cases h : IsTab L
  · have h2 := h.1
    have h14 := h.2.1
    obtain ⟨x, hx, hxl⟩ := tab_get h (k := 0) (by omega)
    by_cases h0 : x = 0
    · subst h0
      have hs := nextFitting_spec (apartAsks L.length (by omega)) (by omega) (by omega) L rfl h.2.2.2.1
      have e : nextT L = _ := if_pos ⟨h, hx⟩
      rw [← e] at hs
      unfold srchR at hs
      generalize nextT L = T at hs
      repeat (first | (refine step_ops ?_; (first | (refine m_mov (by conv => lhs; whnf) ?_) | (refine m_nils ?_))) | refine end_ops ?_ | refine seq_ops ?_ | refine AW_seq ?_)
      (refine step_ops ?_); (apply m_call (implIsTable_spec _ hL)); (· repeat (first | exact lends_nil | (refine lends_cons ?_ ?_; (· (refine lend_ints ?_; first | rfl | omega)))))
      repeat (first | (refine step_ops ?_; ((try (refine g_yes rfl ?_ ?_; (· first | rfl | assumption | (refine decide_eq_true ?_; first | assumption | omega) | (refine nt ?_; first | assumption | omega) | (simp [*]; done) | (refine decide_eq_false ?_; first | assumption | omega) | (refine nf ?_; first | assumption | omega)))); (first | (refine m_mov (by conv => lhs; whnf) ?_) | (refine m_neq rfl rfl ?_) | (refine m_not rfl ?_) | (refine m_idx1_ro rfl rfl ?_ ?_; (· omega)) | (refine m_ld_rpi rfl ?_ ?_; (· omega)) | (refine m_pick_f rfl ?_ (by conv => lhs; whnf) ?_; (· first | rfl | assumption | (refine decide_eq_false ?_; first | assumption | omega) | (refine nf ?_; first | assumption | omega) | (simp [*]; done)))))) | refine end_ops ?_)
      rw [hx]
      repeat (first | (refine step_ops ?_; (first | (refine m_mov (by conv => lhs; whnf) ?_) | (refine m_len_ro rfl ?_))) | refine seq_ops ?_ | (refine cond_f rfl ?_ ?_; (· first | rfl | assumption | (refine decide_eq_false ?_; first | assumption | omega) | (refine nf ?_; first | assumption | omega) | (simp [*]; done))) | refine skip_then ?_)
      (refine step_ops ?_); (apply m_call (apartAmong_spec L.length)); (· repeat (first | exact lends_nil | (refine lends_cons ?_ ?_; (· exact lend_v))))
      skip
      refine step_ops ?_
      refine m_call hs ?_ ?_
      · exact lends_cons (lend_ints rfl) (lends_cons (lend_bears (bears_rp rfl)) lends_nil)
      repeat (first | (refine step_ops ?_; (first | (refine m_mov (by conv => lhs; whnf) ?_) | (refine m_ext rfl rfl ?_))) | refine end_ops ?_ | refine AW_ret ?_ | refine ret_done ?_)
      exact outs_tup2 (outs_ro (allv_ints _)) (outs_b rfl)
    · have e : nextT L = none := if_neg fun hh => h0 (by have := hh.2; omega)
      rw [e]
      repeat (first | (refine step_ops ?_; (first | (refine m_mov (by conv => lhs; whnf) ?_) | (refine m_nils ?_))) | refine end_ops ?_ | refine seq_ops ?_ | refine AW_seq ?_)
      (refine step_ops ?_); (apply m_call (implIsTable_spec _ hL)); (· repeat (first | exact lends_nil | (refine lends_cons ?_ ?_; (· (refine lend_ints ?_; first | rfl | omega)))))
      repeat (first | (refine step_ops ?_; ((try (refine g_yes rfl ?_ ?_; (· first | rfl | assumption | (refine decide_eq_true ?_; first | assumption | omega) | (refine nt ?_; first | assumption | omega) | (simp [*]; done) | (refine decide_eq_false ?_; first | assumption | omega) | (refine nf ?_; first | assumption | omega)))); (first | (refine m_mov (by conv => lhs; whnf) ?_) | (refine m_neq rfl rfl ?_) | (refine m_not rfl ?_) | (refine m_idx_ro rfl rfl ?_ ?_ ?_; (· omega); (· omega)) | (refine m_ld_rpi rfl ?_ ?_; (· omega)) | (refine m_pick_f rfl ?_ (by conv => lhs; whnf) ?_; (· first | rfl | assumption | (refine decide_eq_false ?_; first | assumption | omega) | (refine nf ?_; first | assumption | omega) | (simp [*]; done)))))) | refine end_ops ?_)
      rw [show L.getD (Int.toNat 0 * 1) 0 = (x : Nat) from hx]
      repeat (first | (refine step_ops ?_; (first | (refine m_mov (by conv => lhs; whnf) ?_) | (refine m_nils ?_))) | refine end_ops ?_ | refine seq_ops ?_ | (refine cond_t rfl ?_ ?_; (· first | rfl | assumption | (refine decide_eq_true ?_; first | assumption | omega) | (refine nt ?_; first | assumption | omega) | (simp [*]; done))) | refine AW_ret ?_ | refine ret_done ?_ | refine ret_then ?_)
      exact outs_tup2 (outs_ints rfl rfl rfl) (outs_b rfl)
  · have e : nextT L = none := if_neg fun hh => h hh.1
    rw [e]
    repeat (first | (refine step_ops ?_; (first | (refine m_mov (by conv => lhs; whnf) ?_) | (refine m_nils ?_))) | refine end_ops ?_ | refine seq_ops ?_ | refine AW_seq ?_)
    (refine step_ops ?_); (apply m_call (implIsTable_spec _ hL)); (· repeat (first | exact lends_nil | (refine lends_cons ?_ ?_; (· (refine lend_ints ?_; first | rfl | omega)))))
    repeat (first | (refine step_ops ?_; (first | (first | (refine m_mov (by conv => lhs; whnf) ?_) | (refine m_not rfl ?_) | (refine m_pick_t rfl ?_ (by conv => lhs; whnf) ?_; (· first | rfl | assumption | (refine decide_eq_true ?_; first | assumption | omega) | (refine nt ?_; first | assumption | omega) | (simp [*]; done))) | (refine m_nils ?_)) | (refine g_noF rfl ?_ ?_; (· first | rfl | assumption | (refine decide_eq_true ?_; first | assumption | omega) | (refine nt ?_; first | assumption | omega) | (simp [*]; done))))) | refine end_ops ?_ | refine seq_ops ?_ | (refine cond_t rfl ?_ ?_; (· first | rfl | assumption | (refine decide_eq_true ?_; first | assumption | omega) | (refine nt ?_; first | assumption | omega) | (simp [*]; done))) | refine AW_ret ?_ | refine ret_done ?_ | refine ret_then ?_)
    exact outs_tup2 (outs_ints rfl rfl rfl) (outs_b rfl)
end Go.Proofs.YtmmcldbldbpikaaDoor
namespace Go.Am
/-- An operation whose guard was never told is left out. -/
theorem g_un {P : Program} {own : Bool} {s : AS} {K : AS → Prop} {d : Option Nat} {op : AOp} {t : Nat} {w : Bool} (h : s.tm t = .v undef) (k : K (s.put d (.v undef))) : aop1 P own ⟨d, op, some (t, w)⟩ s K := .inr ⟨h, k⟩
theorem outs_any {s : AS} {x : AV} : Outs s x .any := fun _ _ _ _ _ _ _ _ _ => by simp [SimV]
end Go.Am
namespace Go.Proofs.YtmmcldbldbpikaaDoor
open Go.Am
attribute [local irreducible] AW Outs Weak Lends Lend Sp aops atree aop1 Then Round InBlock Done
attribute [local irreducible] SpM DoneM SpH DoneH
theorem giBefore_spec (a b : List Int) (ha : a.length ≤ 1048576) (hl : a.length = b.length) : Sp Tryd.prog 58 [ints a, ints b] (.b (comesB a b)) := by
  refine spec_of Tryd.func58 rfl cc58 rfl ?_
  unfold ac58
  repeat (first | (refine step_ops ?_; (first | (refine m_mov (by conv => lhs; whnf) ?_) | (refine m_len_ro rfl ?_))) | refine end_ops ?_ | refine seq_ops ?_ | refine AW_seq ?_ | refine AW_block ?_)
  refine AW_loop (α := Nat) (fun k => k ≤ a.length ∧ a.take k = b.take k) (fun k => st [(1, ints b), (7, ints a), (8, .i a.length), (9, .i k)] []) (fun k => a.length - k) 0 ⟨Nat.zero_le _, rfl⟩ (weak_st ?_ ?_ rfl rfl) ?_
  · (repeat' (first | exact trivial | refine And.intro ?_ ?_)) <;> (first | rfl | skip)
  · trivial
  rintro k ⟨hk, he⟩
  by_cases hc : k < a.length
  · by_cases hx : a.getD k 0 = b.getD k 0
    · repeat (first | (refine step_ops ?_; (first | (refine m_mov (by conv => lhs; whnf) ?_) | (refine m_lss rfl rfl ?_) | (refine m_neq rfl rfl ?_) | (refine m_add rfl rfl ?_ ?_ ?_; (· omega); (· omega)) | (refine m_idx1_ro rfl rfl ?_ ?_; (· omega)) | (refine m_ld_rpi rfl ?_ ?_; (· omega)))) | refine end_ops ?_ | refine seq_ops ?_ | refine AW_ops ?_ | (refine cond_t rfl ?_ ?_; (· first | rfl | assumption | (refine decide_eq_true ?_; first | assumption | omega) | (refine nt ?_; first | assumption | omega) | (simp [*]; done))) | (refine cond_f rfl ?_ ?_; (· first | rfl | assumption | (refine decide_eq_false ?_; first | assumption | omega) | (refine nf ?_; first | assumption | omega) | (simp [*]; done))) | refine skip_then ?_ | refine AW_seq ?_ | refine norm_then ?_ | refine AW_block ?_ | refine norm_block ?_ | refine AW_skip ?_)
      refine next_round (k + 1) ⟨hc, by rw [take_snoc a k 0 hc, take_snoc b k 0 (by omega), he, hx]⟩ (weak_st ?_ ?_ rfl rfl) ?_
      · (repeat' (first | exact trivial | refine And.intro ?_ ?_)) <;> (first | rfl | skip)
      · trivial
      · omega
    · have h1 : a = a.take k ++ a.getD k 0 :: a.drop (k + 1) := by
        have h2 := List.take_append_drop (k + 1) a
        rw [take_snoc a k 0 hc, List.append_assoc] at h2
        exact h2.symm
      have h2 : b = a.take k ++ b.getD k 0 :: b.drop (k + 1) := by
        have h2 := List.take_append_drop (k + 1) b
        rw [take_snoc b k 0 (by omega), List.append_assoc, ← he] at h2
        exact h2.symm
      have h3 : comesB a b = decide (a.getD k 0 < b.getD k 0) := by
        conv => lhs; rw [h1, h2]
        rw [comesB_append]
        simp only [comesB, if_neg hx]
      repeat (first | (refine step_ops ?_; (first | (refine m_mov (by conv => lhs; whnf) ?_) | (refine m_lss rfl rfl ?_) | (refine m_neq rfl rfl ?_) | (refine m_idx1_ro rfl rfl ?_ ?_; (· omega)) | (refine m_ld_rpi rfl ?_ ?_; (· omega)))) | refine end_ops ?_ | refine seq_ops ?_ | (refine cond_t rfl ?_ ?_; (· first | rfl | assumption | (refine decide_eq_true ?_; first | assumption | omega) | (refine nt ?_; first | assumption | omega) | (simp [*]; done))) | refine skip_then ?_ | refine AW_seq ?_ | refine AW_ret ?_ | refine ret_done ?_ | refine ret_then ?_ | refine AW_block ?_ | refine ret_block ?_ | refine ret_round ?_)
      exact outs_b h3.symm
  · obtain rfl : k = a.length := by omega
    have h3 : comesB a b = false := by
      rw [List.take_length, List.take_of_length_le (by omega)] at he
      rw [← he, comesB_self]
    rw [h3]
    repeat (first | (refine step_ops ?_; (first | (refine m_mov (by conv => lhs; whnf) ?_) | (refine m_lss rfl rfl ?_))) | refine end_ops ?_ | refine seq_ops ?_ | (refine cond_f rfl ?_ ?_; (· first | rfl | assumption | (refine decide_eq_false ?_; first | assumption | omega) | (refine nf ?_; first | assumption | omega) | (simp [*]; done))) | refine AW_seq ?_ | refine AW_ret ?_ | refine ret_done ?_ | refine norm_then ?_ | refine exit_then ?_ | refine exit_round ?_ | refine AW_exit ?_ | refine exit_block ?_)
    exact outs_b rfl
/-- The last numbers of a beginning, for the looks that the search has at it. -/
structure Ends (l : List Int) (x y z : Nat) : Prop where
  pos : 0 < l.length
  last : l.getD (l.length - 1) 0 = x
  prev : 1 < l.length → l.getD (l.length - 2) 0 = y
  first : l.getD 0 0 = z
theorem ends_of {n : Nat} {l : List Int} (h0 : 0 < l.length) (hb : ∀ x ∈ l, 0 ≤ x ∧ x < (n : Int)) : ∃ x y z : Nat, x < n ∧ y < n ∧ z < n ∧ Ends l x y z := by
  have h1 := hb _ (getD_mem (show l.length - 1 < l.length by omega))
  have h2 := hb _ (getD_mem (show l.length - 2 < l.length by omega))
  have h3 := hb _ (getD_mem (show 0 < l.length by omega))
  obtain ⟨x, hx⟩ := Int.eq_ofNat_of_zero_le h1.1
  obtain ⟨y, hy⟩ := Int.eq_ofNat_of_zero_le h2.1
  obtain ⟨z, hz⟩ := Int.eq_ofNat_of_zero_le h3.1
  exact ⟨x, y, z, by omega, by omega, by omega, h0, hx, fun _ => hy, hz⟩
theorem taLook_bad1 (n : Nat) (hn : n ≤ 14) (l bh : List Int) (hl : l.length ≤ n) (hb : ∀ x ∈ l, 0 ≤ x ∧ x < (n : Int)) (h1 : 1 < l.length) (hc : l.getD (l.length - 1) 0 / 2 = l.getD (l.length - 2) 0 / 2) : Sp Tryd.prog 42 [.i n, ints l, ints bh] (srchR none) := by
  obtain ⟨x, y, z, hx, hy, hz, he⟩ := ends_of (by omega) hb
  have hl1 := he.last
  have hl2 := he.prev h1
  rw [hl1, hl2] at hc
  have e1 : (l.length : Int) - 1 = (l.length - 1 : Nat) := by omega
  have e2 : (l.length : Int) - 2 = (l.length - 2 : Nat) := by omega
  unfold srchR
  refine spec_of Tryd.func42 rfl cc42 rfl ?_
  unfold ac42
  repeat (first | ((first | ((first | refine step_ops ?_ | refine step_tree ?_); (first | ((try (refine g_yes rfl ?_ ?_; (· first | rfl | assumption | (refine decide_eq_true ?_; first | assumption | omega) | (refine nt ?_; first | assumption | omega) | (simp [*]; done) | (refine decide_eq_false ?_; first | assumption | omega) | (refine nf ?_; first | assumption | omega)))); (first | (refine m_mov (by conv => lhs; whnf) ?_) | (refine m_gtr rfl rfl ?_) | (refine m_eql rfl rfl ?_) | (refine m_sub rfl rfl ?_ ?_ ?_; (· omega); (· omega)) | (refine m_len_ro rfl ?_) | (apply m_idx1_roj; (· rfl); (· rfl); (· assumption); (· omega)) | (refine m_ld_rpi rfl ?_ ?_; (· omega)) | (refine m_pick_t rfl ?_ (by conv => lhs; whnf) ?_; (· first | rfl | assumption | (refine decide_eq_true ?_; first | assumption | omega) | (refine nt ?_; first | assumption | omega) | (simp [*]; done))) | (refine m_nils ?_) | (refine m_quo rfl rfl ?_ ?_ ?_ ?_; (· omega); (· omega); (· omega)))) | (refine g_noF rfl ?_ ?_; (· first | rfl | assumption | (refine decide_eq_true ?_; first | assumption | omega) | (refine nt ?_; first | assumption | omega) | (simp [*]; done))))) | refine end_ops ?_ | refine seq_ops ?_ | refine end_tree ?_ | refine seq_tree ?_ | (refine cond_t rfl ?_ ?_; (· first | rfl | assumption | (refine decide_eq_true ?_; first | assumption | omega) | (refine nt ?_; first | assumption | omega) | (simp [*]; done))) | refine AW_seq ?_ | refine AW_ret ?_ | refine ret_done ?_ | refine ret_then ?_)) | (refine step_tree ?_; refine g_un rfl ?_))
  rw [hl1]
  repeat (first | (fail) | (refine step_tree ?_; refine g_un rfl ?_))
  rw [hl2]
  repeat (first | (fail) | (refine step_tree ?_; refine g_un rfl ?_))
  exact outs_tup2 (outs_ints rfl rfl rfl) (outs_b rfl)
theorem taLook_bad2 (n : Nat) (hn : n ≤ 14) (l bh : List Int) (hl : l.length = n) (hb : ∀ x ∈ l, 0 ≤ x ∧ x < (n : Int)) (h1 : 1 < l.length) (hc1 : ¬ l.getD (l.length - 1) 0 / 2 = l.getD (l.length - 2) 0 / 2) (hc : l.getD (l.length - 1) 0 / 2 = l.getD 0 0 / 2) : Sp Tryd.prog 42 [.i n, ints l, ints bh] (srchR none) := by
  obtain ⟨x, y, z, hx, hy, hz, he⟩ := ends_of (by omega) hb
  have hl1 := he.last
  have hl2 := he.prev h1
  have hl3 := he.first
  rw [hl1, hl2] at hc1
  rw [hl1, hl3] at hc
  have hl4 : l.getD (Int.toNat 0 * 1) 0 = (z : Nat) := hl3
  have e1 : (l.length : Int) - 1 = (l.length - 1 : Nat) := by omega
  have e2 : (l.length : Int) - 2 = (l.length - 2 : Nat) := by omega
  unfold srchR
  refine spec_of Tryd.func42 rfl cc42 rfl ?_
  unfold ac42
  repeat (first | ((first | refine step_ops ?_ | refine step_tree ?_); ((try (refine g_yes rfl ?_ ?_; (· first | rfl | assumption | (refine decide_eq_true ?_; first | assumption | omega) | (refine nt ?_; first | assumption | omega) | (simp [*]; done) | (refine decide_eq_false ?_; first | assumption | omega) | (refine nf ?_; first | assumption | omega)))); (first | (refine m_mov (by conv => lhs; whnf) ?_) | (refine m_gtr rfl rfl ?_) | (refine m_eql rfl rfl ?_) | (refine m_sub rfl rfl ?_ ?_ ?_; (· omega); (· omega)) | (refine m_len_ro rfl ?_) | (apply m_idx1_roj; (· rfl); (· rfl); (· assumption); (· omega)) | (refine m_idx_ro rfl rfl ?_ ?_ ?_; (· omega); (· omega)) | (refine m_ld_rpi rfl ?_ ?_; (· omega)) | (refine m_pick_t rfl ?_ (by conv => lhs; whnf) ?_; (· first | rfl | assumption | (refine decide_eq_true ?_; first | assumption | omega) | (refine nt ?_; first | assumption | omega) | (simp [*]; done))) | (refine m_pick_f rfl ?_ (by conv => lhs; whnf) ?_; (· first | rfl | assumption | (refine decide_eq_false ?_; first | assumption | omega) | (refine nf ?_; first | assumption | omega) | (simp [*]; done))) | (refine m_nils ?_) | (refine m_quo rfl rfl ?_ ?_ ?_ ?_; (· omega); (· omega); (· omega))))) | refine end_ops ?_ | refine seq_ops ?_ | refine end_tree ?_ | refine seq_tree ?_ | (refine cond_t rfl ?_ ?_; (· first | rfl | assumption | (refine decide_eq_true ?_; first | assumption | omega) | (refine nt ?_; first | assumption | omega) | (simp [*]; done))) | refine AW_seq ?_ | refine AW_ret ?_ | refine ret_done ?_ | refine ret_then ?_)
  rw [hl1]
  skip
  rw [hl2]
  skip
  exact outs_tup2 (outs_ints rfl rfl rfl) (outs_b rfl)
theorem taLook_bad (n : Nat) (hn : n ≤ 14) (l bh : List Int) (h0 : 0 < l.length) (hl : l.length ≤ n) (hb : ∀ x ∈ l, 0 ≤ x ∧ x < (n : Int)) (h2 : 2 ≤ n) (hc : Chk n l) : Sp Tryd.prog 42 [.i n, ints l, ints bh] (srchR none) := by
  by_cases h1 : 1 < l.length ∧ l.getD (l.length - 1) 0 / 2 = l.getD (l.length - 2) 0 / 2
  · exact taLook_bad1 n hn l bh hl hb h1.1 h1.2
  · rcases hc with hc | hc
    · exact absurd hc h1
    · exact taLook_bad2 n hn l bh hc.1 hb (by omega) (fun e => h1 ⟨by omega, e⟩) hc.2
theorem taLook_leafN (n : Nat) (hn : n ≤ 14) (h2 : 2 ≤ n) (l bh : List Int) (hl : l.length = n) (hbl : bh = [] ∨ bh.length = n) (hb : ∀ x ∈ l, 0 ≤ x ∧ x < (n : Int)) (hc : ¬ Chk n l) (hno : ¬ (bh = [] ∨ comesB bh l = true)) : Sp Tryd.prog 42 [.i n, ints l, ints bh] (.tup [.any, .b false]) := by
  obtain ⟨x, y, z, hx, hy, hz, he⟩ := ends_of (by omega) hb
  have hl1 := he.last
  have hl2 := he.prev (by omega)
  have hl3 := he.first
  have hc1 : ¬ (x : Int) / 2 = (y : Int) / 2 := fun e => hc (.inl ⟨by omega, by rw [hl1, hl2]; exact e⟩)
  have hc2 : ¬ (x : Int) / 2 = (z : Int) / 2 := fun e => hc (.inr ⟨hl, by rw [hl1, hl3]; exact e⟩)
  have hl4 : l.getD (Int.toNat 0 * 1) 0 = (z : Nat) := hl3
  have e1 : (l.length : Int) - 1 = (l.length - 1 : Nat) := by omega
  have e2 : (l.length : Int) - 2 = (l.length - 2 : Nat) := by omega
  have hbn : bh.length = n := hbl.resolve_left fun e => hno (.inl e)
  have hcb : comesB bh l = false := by
    cases h : comesB bh l with
    | false => rfl
    | true => exact absurd (.inr h) hno
  clear hc hno hb hbl he
  refine spec_of Tryd.func42 rfl cc42 rfl ?_
  unfold ac42
  repeat (first | ((first | refine step_ops ?_ | refine step_tree ?_); ((try (refine g_yes rfl ?_ ?_; (· first | rfl | assumption | (refine decide_eq_true ?_; first | assumption | omega) | (refine nt ?_; first | assumption | omega) | (simp [*]; done) | (refine decide_eq_false ?_; first | assumption | omega) | (refine nf ?_; first | assumption | omega)))); (first | (refine m_mov (by conv => lhs; whnf) ?_) | (refine m_gtr rfl rfl ?_) | (refine m_eql rfl rfl ?_) | (refine m_sub rfl rfl ?_ ?_ ?_; (· omega); (· omega)) | (refine m_len_ro rfl ?_) | (apply m_idx1_roj; (· rfl); (· rfl); (· assumption); (· omega)) | (refine m_idx_ro rfl rfl ?_ ?_ ?_; (· omega); (· omega)) | (refine m_ld_rpi rfl ?_ ?_; (· omega)) | (refine m_pick_t rfl ?_ (by conv => lhs; whnf) ?_; (· first | rfl | assumption | (refine decide_eq_true ?_; first | assumption | omega) | (refine nt ?_; first | assumption | omega) | (simp [*]; done))) | (refine m_pick_f rfl ?_ (by conv => lhs; whnf) ?_; (· first | rfl | assumption | (refine decide_eq_false ?_; first | assumption | omega) | (refine nf ?_; first | assumption | omega) | (simp [*]; done))) | (refine m_nils ?_) | (refine m_quo rfl rfl ?_ ?_ ?_ ?_; (· omega); (· omega); (· omega))))) | refine end_ops ?_ | refine seq_ops ?_ | refine end_tree ?_ | refine seq_tree ?_ | (refine cond_f rfl ?_ ?_; (· first | rfl | assumption | (refine decide_eq_false ?_; first | assumption | omega) | (refine nf ?_; first | assumption | omega) | (simp [*]; done))) | refine skip_then ?_ | refine AW_seq ?_ | refine AW_block ?_)
  refine AW_cutloop (st [(0, .i n), (1, ints l), (2, ints bh), (8, .i l.length)] []) ?_ ?_
  case refine_2 =>
    refine AW_loop (α := Nat) (fun i => i ≤ l.length ∧ l.take i = bh.take i ∧ i ≤ bh.length) (fun i => st [(0, .i n), (1, ints l), (2, ints bh), (8, .i l.length), (9, .i i)] []) (fun i => l.length - i) 0 ⟨Nat.zero_le _, rfl, Nat.zero_le _⟩ (weak_st ?_ ?_ rfl rfl) ?_
    · (repeat' (first | exact trivial | refine And.intro ?_ ?_)) <;> (first | rfl | skip)
    · (repeat' (first | exact trivial | refine And.intro ?_ ?_)) <;> (first | rfl | skip)
    rintro i ⟨hi, he, hib⟩
    by_cases hc : i < l.length
    · by_cases hcb : i < bh.length
      · by_cases hx : l.getD i 0 = bh.getD i 0
        · repeat (first | ((first | refine step_ops ?_ | refine step_tree ?_); ((try (refine g_yes rfl ?_ ?_; (· first | rfl | assumption | (refine decide_eq_true ?_; first | assumption | omega) | (refine nt ?_; first | assumption | omega) | (simp [*]; done) | (refine decide_eq_false ?_; first | assumption | omega) | (refine nf ?_; first | assumption | omega)))); (first | (refine m_mov (by conv => lhs; whnf) ?_) | (refine m_lss rfl rfl ?_) | (refine m_neq rfl rfl ?_) | (refine m_add rfl rfl ?_ ?_ ?_; (· omega); (· omega)) | (refine m_len_ro rfl ?_) | (refine m_idx1_ro rfl rfl ?_ ?_; (· omega)) | (refine m_ld_rpi rfl ?_ ?_; (· omega)) | (refine m_pick_t rfl ?_ (by conv => lhs; whnf) ?_; (· first | rfl | assumption | (refine decide_eq_true ?_; first | assumption | omega) | (refine nt ?_; first | assumption | omega) | (simp [*]; done)))))) | refine end_ops ?_ | refine seq_ops ?_ | refine AW_ops ?_ | refine end_tree ?_ | refine seq_tree ?_ | (refine cond_t rfl ?_ ?_; (· first | rfl | assumption | (refine decide_eq_true ?_; first | assumption | omega) | (refine nt ?_; first | assumption | omega) | (simp [*]; done))) | (refine cond_f rfl ?_ ?_; (· first | rfl | assumption | (refine decide_eq_false ?_; first | assumption | omega) | (refine nf ?_; first | assumption | omega) | (simp [*]; done))) | refine skip_then ?_ | refine AW_seq ?_ | refine norm_then ?_ | refine AW_block ?_ | refine norm_block ?_ | refine AW_skip ?_)
          refine next_round (i + 1) ⟨hc, by rw [take_snoc l i 0 hc, take_snoc bh i 0 hcb, he, hx], hcb⟩ (weak_st ?_ ?_ rfl rfl) ?_
          · (repeat' (first | exact trivial | refine And.intro ?_ ?_)) <;> (first | rfl | skip)
          · (repeat' (first | exact trivial | refine And.intro ?_ ?_)) <;> (first | rfl | skip)
          · omega
        · by_cases hlt : l.getD i 0 < bh.getD i 0
          · repeat (first | ((first | refine step_ops ?_ | refine step_tree ?_); ((try (refine g_yes rfl ?_ ?_; (· first | rfl | assumption | (refine decide_eq_true ?_; first | assumption | omega) | (refine nt ?_; first | assumption | omega) | (simp [*]; done) | (refine decide_eq_false ?_; first | assumption | omega) | (refine nf ?_; first | assumption | omega)))); (first | (refine m_mov (by conv => lhs; whnf) ?_) | (refine m_lss rfl rfl ?_) | (refine m_neq rfl rfl ?_) | (refine m_len_ro rfl ?_) | (refine m_idx1_ro rfl rfl ?_ ?_; (· omega)) | (refine m_ld_rpi rfl ?_ ?_; (· omega)) | (refine m_pick_t rfl ?_ (by conv => lhs; whnf) ?_; (· first | rfl | assumption | (refine decide_eq_true ?_; first | assumption | omega) | (refine nt ?_; first | assumption | omega) | (simp [*]; done))) | (refine m_nils ?_)))) | refine end_ops ?_ | refine seq_ops ?_ | refine end_tree ?_ | refine seq_tree ?_ | (refine cond_t rfl ?_ ?_; (· first | rfl | assumption | (refine decide_eq_true ?_; first | assumption | omega) | (refine nt ?_; first | assumption | omega) | (simp [*]; done))) | refine skip_then ?_ | refine AW_seq ?_ | refine AW_ret ?_ | refine ret_done ?_ | refine ret_then ?_ | refine AW_block ?_ | refine ret_block ?_ | refine ret_round ?_)
            exact outs_tup2 outs_any (outs_b rfl)
          · repeat (first | ((first | refine step_ops ?_ | refine step_tree ?_); ((try (refine g_yes rfl ?_ ?_; (· first | rfl | assumption | (refine decide_eq_true ?_; first | assumption | omega) | (refine nt ?_; first | assumption | omega) | (simp [*]; done) | (refine decide_eq_false ?_; first | assumption | omega) | (refine nf ?_; first | assumption | omega)))); (first | (refine m_mov (by conv => lhs; whnf) ?_) | (refine m_lss rfl rfl ?_) | (refine m_neq rfl rfl ?_) | (refine m_len_ro rfl ?_) | (refine m_idx1_ro rfl rfl ?_ ?_; (· omega)) | (refine m_ld_rpi rfl ?_ ?_; (· omega)) | (refine m_pick_t rfl ?_ (by conv => lhs; whnf) ?_; (· first | rfl | assumption | (refine decide_eq_true ?_; first | assumption | omega) | (refine nt ?_; first | assumption | omega) | (simp [*]; done)))))) | refine end_ops ?_ | refine seq_ops ?_ | refine end_tree ?_ | refine seq_tree ?_ | (refine cond_t rfl ?_ ?_; (· first | rfl | assumption | (refine decide_eq_true ?_; first | assumption | omega) | (refine nt ?_; first | assumption | omega) | (simp [*]; done))) | (refine cond_f rfl ?_ ?_; (· first | rfl | assumption | (refine decide_eq_false ?_; first | assumption | omega) | (refine nf ?_; first | assumption | omega) | (simp [*]; done))) | refine skip_then ?_ | refine AW_seq ?_ | refine exit_then ?_ | refine AW_block ?_ | refine exit_round ?_ | refine AW_exit ?_ | refine exit_block ?_ | (refine exit_other ?_ ?_; (· decide)))
            refine weak_st ?_ ?_ rfl rfl
            · (repeat' (first | exact trivial | refine And.intro ?_ ?_)) <;> (first | rfl | skip)
            · (repeat' (first | exact trivial | refine And.intro ?_ ?_)) <;> (first | rfl | skip)
      · omega
    · repeat (first | (refine step_ops ?_; (first | (first | (refine m_mov (by conv => lhs; whnf) ?_) | (refine m_lss rfl rfl ?_) | (refine m_pick_f rfl ?_ (by conv => lhs; whnf) ?_; (· first | rfl | assumption | (refine decide_eq_false ?_; first | assumption | omega) | (refine nf ?_; first | assumption | omega) | (simp [*]; done)))) | (refine g_noT rfl ?_ ?_; (· first | rfl | assumption | (refine decide_eq_false ?_; first | assumption | omega) | (refine nf ?_; first | assumption | omega) | (simp [*]; done))))) | refine end_ops ?_ | refine seq_ops ?_ | (refine cond_f rfl ?_ ?_; (· first | rfl | assumption | (refine decide_eq_false ?_; first | assumption | omega) | (refine nf ?_; first | assumption | omega) | (simp [*]; done))) | refine AW_seq ?_ | refine exit_then ?_ | refine exit_round ?_ | refine AW_exit ?_ | refine exit_block ?_)
      refine weak_st ?_ ?_ rfl rfl
      · (repeat' (first | exact trivial | refine And.intro ?_ ?_)) <;> (first | rfl | skip)
      · (repeat' (first | exact trivial | refine And.intro ?_ ?_)) <;> (first | rfl | skip)
  have hbp : 0 < bh.length := by omega
  repeat (first | (refine step_ops ?_; ((try (refine g_yes rfl ?_ ?_; (· first | rfl | assumption | (refine decide_eq_true ?_; first | assumption | omega) | (refine nt ?_; first | assumption | omega) | (simp [*]; done) | (refine decide_eq_false ?_; first | assumption | omega) | (refine nf ?_; first | assumption | omega)))); (first | (refine m_mov (by conv => lhs; whnf) ?_) | (refine m_eql rfl rfl ?_) | (refine m_len_ro rfl ?_)))) | refine end_ops ?_ | refine seq_ops ?_ | (refine cond_t rfl ?_ ?_; (· first | rfl | assumption | (refine decide_eq_true ?_; first | assumption | omega) | (refine nt ?_; first | assumption | omega) | (simp [*]; done))) | refine AW_seq ?_)
  refine step_ops ?_; (refine g_yes rfl ?_ ?_; (· first | (first | rfl | assumption | (refine decide_eq_true ?_; first | assumption | omega) | (refine nt ?_; first | assumption | omega) | (simp [*]; done)) | (first | rfl | assumption | (refine decide_eq_false ?_; first | assumption | omega) | (refine nf ?_; first | assumption | omega) | (simp [*]; done))); (apply m_call (giBefore_spec bh l (by omega) (by omega)))); (· repeat (first | exact lends_nil | (refine lends_cons ?_ ?_; (· (refine lend_ints ?_; first | rfl | omega)))))
  rw [hcb]
  repeat (first | (refine step_ops ?_; (first | (refine m_mov (by conv => lhs; whnf) ?_) | (refine m_pick_f rfl ?_ (by conv => lhs; whnf) ?_; (· first | rfl | assumption | (refine decide_eq_false ?_; first | assumption | omega) | (refine nf ?_; first | assumption | omega) | (simp [*]; done))))) | refine end_ops ?_ | refine AW_ret ?_ | refine ret_done ?_ | refine ret_then ?_)
  exact outs_tup2 outs_any (outs_b rfl)
theorem taLook_leafY (n : Nat) (hn : n ≤ 14) (h2 : 2 ≤ n) (l bh : List Int) (hl : l.length = n) (hbl : bh = [] ∨ bh.length = n) (hb : ∀ x ∈ l, 0 ≤ x ∧ x < (n : Int)) (hc : ¬ Chk n l) (hyes : bh = [] ∨ comesB bh l = true) :
    SpH Tryd.prog 42 [.i n, .sl pbase 1 0 l.length, ints bh] (Am.look [(pbase, (true, l.map AV.i))]) (.tup [.sl pbase 1 0 l.length, .b true]) (Am.look [(pbase, (true, l.map AV.i))]) := by
  have hst : Static (Am.look [(pbase, (true, l.map AV.i))]) (.tup [.sl pbase 1 0 l.length, .b true]) (Am.look [(pbase, (true, l.map AV.i))]) := static_R (by simp) (fun p hp => by rw [List.mem_singleton] at hp; subst hp; exact ⟨ownL_ints _ _, refsL_ints _ _⟩) (by simp [ownV, ownL, refsV, refsL, Am.look])
  have hp0 : pbase = 4000000 := rfl
  obtain ⟨x, y, z, hx, hy, hz, he⟩ := ends_of (by omega) hb
  have hl1 := he.last
  have hl2 := he.prev (by omega)
  have hl3 := he.first
  have hc1 : ¬ (x : Int) / 2 = (y : Int) / 2 := fun e => hc (.inl ⟨by omega, by rw [hl1, hl2]; exact e⟩)
  have hc2 : ¬ (x : Int) / 2 = (z : Int) / 2 := fun e => hc (.inr ⟨hl, by rw [hl1, hl3]; exact e⟩)
  have hl4 : l.getD (Int.toNat 0 * 1) 0 = (z : Nat) := hl3
  have hl5 : l.getD (0 + Int.toNat 0 * 1) 0 = (z : Nat) := hl3
  have e1 : (l.length : Int) - 1 = (l.length - 1 : Nat) := by omega
  have e2 : (l.length : Int) - 2 = (l.length - 2 : Nat) := by omega
  have hpr : ∀ i, i < l.length → i < bh.length → l.take i = bh.take i → ¬ l.getD i 0 < bh.getD i 0 := by
    intro i h1 h2 h3 h4
    rcases hyes with e | e
    · rw [e] at h2; simp at h2
    · rw [comesB_less (n := n) h1 h2 h3 h4] at e; cases e
  clear hc hb he
  refine specH_of Tryd.func42 rfl cc42 rfl (by first | exact static_mat1 _ | exact static_mat2 _ _ | assumption) ?_
  unfold ac42
  repeat (first | ((first | refine step_ops ?_ | refine step_tree ?_); ((try (refine g_yes rfl ?_ ?_; (· first | rfl | assumption | (refine decide_eq_true ?_; first | assumption | omega) | (refine nt ?_; first | assumption | omega) | (simp [*]; done) | (refine decide_eq_false ?_; first | assumption | omega) | (refine nf ?_; first | assumption | omega)))); (first | (refine m_mov (by conv => lhs; whnf) ?_) | (refine m_gtr rfl rfl ?_) | (refine m_eql rfl rfl ?_) | (refine m_sub rfl rfl ?_ ?_ ?_; (· omega); (· omega)) | (refine m_len_sl rfl ?_) | (apply m_idx1_slj; (· rfl); (· rfl); (· assumption); (· omega)) | (refine m_idx_sl rfl rfl ?_ ?_ ?_; (· omega); (· omega)) | (refine m_ld_pti rfl (by rfl) ?_ ?_; (· first | omega | (simp; omega))) | (refine m_pick_t rfl ?_ (by conv => lhs; whnf) ?_; (· first | rfl | assumption | (refine decide_eq_true ?_; first | assumption | omega) | (refine nt ?_; first | assumption | omega) | (simp [*]; done))) | (refine m_pick_f rfl ?_ (by conv => lhs; whnf) ?_; (· first | rfl | assumption | (refine decide_eq_false ?_; first | assumption | omega) | (refine nf ?_; first | assumption | omega) | (simp [*]; done))) | (refine m_nils ?_) | (refine m_quo rfl rfl ?_ ?_ ?_ ?_; (· omega); (· omega); (· omega))))) | refine end_ops ?_ | refine seq_ops ?_ | refine end_tree ?_ | refine seq_tree ?_ | (refine cond_f rfl ?_ ?_; (· first | rfl | assumption | (refine decide_eq_false ?_; first | assumption | omega) | (refine nf ?_; first | assumption | omega) | (simp [*]; done))) | refine skip_then ?_ | refine AW_seq ?_ | refine AW_block ?_)
  refine AW_cutloop (st [(0, .i n), (1, .sl pbase 1 0 l.length), (2, ints bh), (8, .i l.length)] [(pbase, (true, l.map AV.i))]) ?_ ?_
  case refine_2 =>
    refine AW_loop (α := Nat) (fun i => i ≤ l.length ∧ l.take i = bh.take i ∧ i ≤ bh.length) (fun i => st [(0, .i n), (1, .sl pbase 1 0 l.length), (2, ints bh), (8, .i l.length), (9, .i i)] [(pbase, (true, l.map AV.i))]) (fun i => l.length - i) 0 ⟨Nat.zero_le _, rfl, Nat.zero_le _⟩ (weak_st ?_ ?_ rfl rfl) ?_
    · (repeat' (first | exact trivial | refine And.intro ?_ ?_)) <;> (first | rfl | skip)
    · (repeat' (first | exact trivial | refine And.intro ?_ ?_)) <;> (first | rfl | skip)
    rintro i ⟨hi, he, hib⟩
    by_cases hc : i < l.length
    · by_cases hcb : i < bh.length
      · by_cases hx : l.getD i 0 = bh.getD i 0
        · repeat (first | ((first | refine step_ops ?_ | refine step_tree ?_); ((try (refine g_yes rfl ?_ ?_; (· first | rfl | assumption | (refine decide_eq_true ?_; first | assumption | omega) | (refine nt ?_; first | assumption | omega) | (simp [*]; done) | (refine decide_eq_false ?_; first | assumption | omega) | (refine nf ?_; first | assumption | omega)))); (first | (refine m_mov (by conv => lhs; whnf) ?_) | (refine m_lss rfl rfl ?_) | (refine m_neq rfl rfl ?_) | (refine m_add rfl rfl ?_ ?_ ?_; (· omega); (· omega)) | (refine m_len_ro rfl ?_) | (refine m_idx1_ro rfl rfl ?_ ?_; (· omega)) | (refine m_idx1_sl rfl rfl ?_ ?_; (· omega)) | (refine m_ld_rpi rfl ?_ ?_; (· omega)) | (refine m_ld_pti rfl (by rfl) ?_ ?_; (· first | omega | (simp; omega))) | (refine m_pick_t rfl ?_ (by conv => lhs; whnf) ?_; (· first | rfl | assumption | (refine decide_eq_true ?_; first | assumption | omega) | (refine nt ?_; first | assumption | omega) | (simp [*]; done)))))) | refine end_ops ?_ | refine seq_ops ?_ | refine AW_ops ?_ | refine end_tree ?_ | refine seq_tree ?_ | (refine cond_t rfl ?_ ?_; (· first | rfl | assumption | (refine decide_eq_true ?_; first | assumption | omega) | (refine nt ?_; first | assumption | omega) | (simp [*]; done))) | (refine cond_f rfl ?_ ?_; (· first | rfl | assumption | (refine decide_eq_false ?_; first | assumption | omega) | (refine nf ?_; first | assumption | omega) | (simp [*]; done))) | refine skip_then ?_ | refine AW_seq ?_ | refine norm_then ?_ | refine AW_block ?_ | refine norm_block ?_ | refine AW_skip ?_)
          refine next_round (i + 1) ⟨hc, by rw [take_snoc l i 0 hc, take_snoc bh i 0 hcb, he, hx], hcb⟩ (weak_st ?_ ?_ rfl rfl) ?_
          · (repeat' (first | exact trivial | refine And.intro ?_ ?_)) <;> (first | rfl | skip)
          · (repeat' (first | exact trivial | refine And.intro ?_ ?_)) <;> (first | rfl | skip)
          · omega
        · by_cases hlt : l.getD i 0 < bh.getD i 0
          · exact absurd hlt (hpr i hc hcb he)
          · repeat (first | ((first | refine step_ops ?_ | refine step_tree ?_); ((try (refine g_yes rfl ?_ ?_; (· first | rfl | assumption | (refine decide_eq_true ?_; first | assumption | omega) | (refine nt ?_; first | assumption | omega) | (simp [*]; done) | (refine decide_eq_false ?_; first | assumption | omega) | (refine nf ?_; first | assumption | omega)))); (first | (refine m_mov (by conv => lhs; whnf) ?_) | (refine m_lss rfl rfl ?_) | (refine m_neq rfl rfl ?_) | (refine m_len_ro rfl ?_) | (refine m_idx1_ro rfl rfl ?_ ?_; (· omega)) | (refine m_idx1_sl rfl rfl ?_ ?_; (· omega)) | (refine m_ld_rpi rfl ?_ ?_; (· omega)) | (refine m_ld_pti rfl (by rfl) ?_ ?_; (· first | omega | (simp; omega))) | (refine m_pick_t rfl ?_ (by conv => lhs; whnf) ?_; (· first | rfl | assumption | (refine decide_eq_true ?_; first | assumption | omega) | (refine nt ?_; first | assumption | omega) | (simp [*]; done)))))) | refine end_ops ?_ | refine seq_ops ?_ | refine end_tree ?_ | refine seq_tree ?_ | (refine cond_t rfl ?_ ?_; (· first | rfl | assumption | (refine decide_eq_true ?_; first | assumption | omega) | (refine nt ?_; first | assumption | omega) | (simp [*]; done))) | (refine cond_f rfl ?_ ?_; (· first | rfl | assumption | (refine decide_eq_false ?_; first | assumption | omega) | (refine nf ?_; first | assumption | omega) | (simp [*]; done))) | refine skip_then ?_ | refine AW_seq ?_ | refine exit_then ?_ | refine AW_block ?_ | refine exit_round ?_ | refine AW_exit ?_ | refine exit_block ?_ | (refine exit_other ?_ ?_; (· decide)))
            refine weak_st ?_ ?_ rfl rfl
            · (repeat' (first | exact trivial | refine And.intro ?_ ?_)) <;> (first | rfl | skip)
            · (repeat' (first | exact trivial | refine And.intro ?_ ?_)) <;> (first | rfl | skip)
      · repeat (first | (refine step_ops ?_; ((try (refine g_yes rfl ?_ ?_; (· first | rfl | assumption | (refine decide_eq_true ?_; first | assumption | omega) | (refine nt ?_; first | assumption | omega) | (simp [*]; done) | (refine decide_eq_false ?_; first | assumption | omega) | (refine nf ?_; first | assumption | omega)))); (first | (refine m_mov (by conv => lhs; whnf) ?_) | (refine m_lss rfl rfl ?_) | (refine m_len_ro rfl ?_) | (refine m_pick_t rfl ?_ (by conv => lhs; whnf) ?_; (· first | rfl | assumption | (refine decide_eq_true ?_; first | assumption | omega) | (refine nt ?_; first | assumption | omega) | (simp [*]; done)))))) | refine end_ops ?_ | refine seq_ops ?_ | (refine cond_f rfl ?_ ?_; (· first | rfl | assumption | (refine decide_eq_false ?_; first | assumption | omega) | (refine nf ?_; first | assumption | omega) | (simp [*]; done))) | refine AW_seq ?_ | refine exit_then ?_ | refine exit_round ?_ | refine AW_exit ?_ | refine exit_block ?_)
        refine weak_st ?_ ?_ rfl rfl
        · (repeat' (first | exact trivial | refine And.intro ?_ ?_)) <;> (first | rfl | skip)
        · (repeat' (first | exact trivial | refine And.intro ?_ ?_)) <;> (first | rfl | skip)
    · repeat (first | (refine step_ops ?_; (first | (first | (refine m_mov (by conv => lhs; whnf) ?_) | (refine m_lss rfl rfl ?_) | (refine m_pick_f rfl ?_ (by conv => lhs; whnf) ?_; (· first | rfl | assumption | (refine decide_eq_false ?_; first | assumption | omega) | (refine nf ?_; first | assumption | omega) | (simp [*]; done)))) | (refine g_noT rfl ?_ ?_; (· first | rfl | assumption | (refine decide_eq_false ?_; first | assumption | omega) | (refine nf ?_; first | assumption | omega) | (simp [*]; done))))) | refine end_ops ?_ | refine seq_ops ?_ | (refine cond_f rfl ?_ ?_; (· first | rfl | assumption | (refine decide_eq_false ?_; first | assumption | omega) | (refine nf ?_; first | assumption | omega) | (simp [*]; done))) | refine AW_seq ?_ | refine exit_then ?_ | refine exit_round ?_ | refine AW_exit ?_ | refine exit_block ?_)
      refine weak_st ?_ ?_ rfl rfl
      · (repeat' (first | exact trivial | refine And.intro ?_ ?_)) <;> (first | rfl | skip)
      · (repeat' (first | exact trivial | refine And.intro ?_ ?_)) <;> (first | rfl | skip)
  by_cases he : bh = []
  · have hbl : bh.length = 0 := by rw [he]; rfl
    repeat (first | (refine step_ops ?_; (first | (first | (refine m_mov (by conv => lhs; whnf) ?_) | (refine m_eql rfl rfl ?_) | (refine m_len_ro rfl ?_) | (refine m_pick_t rfl ?_ (by conv => lhs; whnf) ?_; (· first | rfl | assumption | (refine decide_eq_true ?_; first | assumption | omega) | (refine nt ?_; first | assumption | omega) | (simp [*]; done)))) | (refine g_noF rfl ?_ ?_; (· first | rfl | assumption | (refine decide_eq_true ?_; first | assumption | omega) | (refine nt ?_; first | assumption | omega) | (simp [*]; done))))) | refine end_ops ?_ | refine seq_ops ?_ | (refine cond_t rfl ?_ ?_; (· first | rfl | assumption | (refine decide_eq_true ?_; first | assumption | omega) | (refine nt ?_; first | assumption | omega) | (simp [*]; done))) | refine AW_seq ?_ | refine AW_ret ?_ | refine ret_then ?_)
    refine ret_R id (by rfl) ?_ (by simp) (by simp) (by simp)
    (repeat' (first | exact trivial | refine And.intro ?_ ?_ | (refine ⟨_, rfl, .inl ?_⟩; first | rfl | exact congrArg (Prod.mk true) (renL_ints _ _).symm | exact congrArg (Prod.mk true) (txs_ren _ _).symm)))
  · have hbl := hbl.resolve_left he
    have hbp : 0 < bh.length := by omega
    have hc := hyes.resolve_left he
    repeat (first | (refine step_ops ?_; ((try (refine g_yes rfl ?_ ?_; (· first | rfl | assumption | (refine decide_eq_true ?_; first | assumption | omega) | (refine nt ?_; first | assumption | omega) | (simp [*]; done) | (refine decide_eq_false ?_; first | assumption | omega) | (refine nf ?_; first | assumption | omega)))); (first | (refine m_mov (by conv => lhs; whnf) ?_) | (refine m_eql rfl rfl ?_) | (refine m_len_ro rfl ?_)))) | refine end_ops ?_ | refine seq_ops ?_ | (refine cond_t rfl ?_ ?_; (· first | rfl | assumption | (refine decide_eq_true ?_; first | assumption | omega) | (refine nt ?_; first | assumption | omega) | (simp [*]; done))) | refine AW_seq ?_)
    refine step_ops ?_; (refine g_yes rfl ?_ ?_; (· first | (first | rfl | assumption | (refine decide_eq_true ?_; first | assumption | omega) | (refine nt ?_; first | assumption | omega) | (simp [*]; done)) | (first | rfl | assumption | (refine decide_eq_false ?_; first | assumption | omega) | (refine nf ?_; first | assumption | omega) | (simp [*]; done))); (apply m_call (giBefore_spec bh l (by omega) (by omega)))); (· repeat (first | exact lends_nil | (refine lends_cons ?_ ?_; (· (first | (refine lend_ints ?_; first | rfl | omega) | (refine lend_sli (by rfl) ?_; first | rfl | omega | (simp; done)))))))
    rw [hc]
    repeat (first | (refine step_ops ?_; (first | (refine m_mov (by conv => lhs; whnf) ?_) | (refine m_pick_f rfl ?_ (by conv => lhs; whnf) ?_; (· first | rfl | assumption | (refine decide_eq_false ?_; first | assumption | omega) | (refine nf ?_; first | assumption | omega) | (simp [*]; done))))) | refine end_ops ?_ | refine AW_ret ?_ | refine ret_then ?_)
    refine ret_R id (by rfl) ?_ (by simp) (by simp) (by simp)
    (repeat' (first | exact trivial | refine And.intro ?_ ?_ | (refine ⟨_, rfl, .inl ?_⟩; first | rfl | exact congrArg (Prod.mk true) (renL_ints _ _).symm | exact congrArg (Prod.mk true) (txs_ren _ _).symm)))
/-- The second part of a code. -/
def sndC : ACode → ACode
  | .seq _ y => y
  | c => c
theorem taLook_rest (n : Nat) (hn : n ≤ 14) (h2 : 2 ≤ n) (bh : List Int) (k : Nat)
    (ihB : ∀ l, 0 < l.length → l.length + k = n → (∀ x ∈ l, 0 ≤ x ∧ x < (n : Int)) → Chk n l → Sp Tryd.prog 42 [.i n, ints l, ints bh] (srchR none))
    (ihI : ∀ l, 0 < l.length → l.length + k = n → (∀ x ∈ l, 0 ≤ x ∧ x < (n : Int)) → ¬ Chk n l → k ≠ 0 → Sp Tryd.prog 42 [.i n, ints l, ints bh] (srchR (fstB (fitsT n) n k l bh)))
    (ihN : ∀ l, l.length + k = n → (∀ x ∈ l, 0 ≤ x ∧ x < (n : Int)) → ¬ Chk n l → k = 0 → ¬ (bh = [] ∨ comesB bh l = true) → Sp Tryd.prog 42 [.i n, ints l, ints bh] (.tup [.any, .b false]))
    (ihY : ∀ l, l.length + k = n → (∀ x ∈ l, 0 ≤ x ∧ x < (n : Int)) → ¬ Chk n l → k = 0 → (bh = [] ∨ comesB bh l = true) → SpH Tryd.prog 42 [.i n, .sl pbase 1 0 l.length, ints bh] (Am.look [(pbase, (true, l.map AV.i))]) (.tup [.sl pbase 1 0 l.length, .b true]) (Am.look [(pbase, (true, l.map AV.i))]))
    (l : List Int) (h0 : 0 < l.length) (hl : l.length + (k + 1) = n) (hb : ∀ x ∈ l, 0 ≤ x ∧ x < (n : Int)) :
    AW Tryd.prog (min Tryd.f42.ntmps pbase) (sndC (sndC (sndC (sndC ac42)))) (st [(0, .i n), (1, ints l), (2, ints bh), (8, .i l.length)] []) (Done [7, 6].reverse (srchR (fstB (fitsT n) n (k + 1) l bh))) := by
  have hall := partB_all (fitsT n) n k l bh
  have hmono : ∀ x m, x ≤ n → partB (fitsT n) n k l bh x = some m → fstB (fitsT n) n (k + 1) l bh = some m := fun x m hx h => by rw [← hall]; exact partB_mono h n hx
  generalize fstB (fitsT n) n (k + 1) l bh = T at *
  unfold srchR
  unfold ac42
  simp only [sndC]
  repeat (first | (refine step_ops ?_; (first | (refine m_mov (by conv => lhs; whnf) ?_) | (refine m_eql rfl rfl ?_))) | refine end_ops ?_ | refine seq_ops ?_ | (refine cond_f rfl ?_ ?_; (· first | rfl | assumption | (refine decide_eq_false ?_; first | assumption | omega) | (refine nf ?_; first | assumption | omega) | (simp [*]; done))) | refine skip_then ?_ | refine AW_seq ?_ | refine AW_block ?_)
  refine AW_loop (α := Nat) (fun x => x ≤ n ∧ partB (fitsT n) n k l bh x = none) (fun x => st [(0, .i n), (1, ints l), (2, ints bh), (10, .i x)] []) (fun x => n - x) 0 ⟨Nat.zero_le _, partB_zero _ _ _ _ _⟩ (weak_st ?_ ?_ rfl rfl) ?_
  · (repeat' (first | exact trivial | refine And.intro ?_ ?_)) <;> (first | rfl | skip)
  · (repeat' (first | exact trivial | refine And.intro ?_ ?_)) <;> (first | rfl | skip)
  rintro x ⟨hx, hp⟩
  by_cases hc : x < n
  · have hps := partB_succ (fitsT n) n k l bh x
    rw [hp, Option.none_or, fitsT_cons h0] at hps
    by_cases hm : (x : Int) ∈ l
    · rw [decide_eq_true hm] at hps
      have hps : partB (fitsT n) n k l bh (x + 1) = none := hps
      repeat (first | (refine step_ops ?_; (first | (refine m_mov (by conv => lhs; whnf) ?_) | (refine m_lss rfl rfl ?_))) | refine end_ops ?_ | refine seq_ops ?_ | (refine cond_t rfl ?_ ?_; (· first | rfl | assumption | (refine decide_eq_true ?_; first | assumption | omega) | (refine nt ?_; first | assumption | omega) | (simp [*]; done))) | refine skip_then ?_ | refine AW_seq ?_ | refine AW_block ?_)
      refine step_ops ?_; (apply m_call (l1Has_spec l x (by omega))); (· repeat (first | exact lends_nil | (refine lends_cons ?_ ?_; (· (first | exact lend_v | (refine lend_ints ?_; first | rfl | omega))))))
      repeat (first | (refine step_ops ?_; (first | (refine m_mov (by conv => lhs; whnf) ?_) | (refine m_add rfl rfl ?_ ?_ ?_; (· omega); (· omega)))) | refine end_ops ?_ | refine AW_ops ?_ | (refine cond_t rfl ?_ ?_; (· first | rfl | assumption | (refine decide_eq_true ?_; first | assumption | omega) | (refine nt ?_; first | assumption | omega) | (simp [*]; done))) | refine norm_then ?_ | refine exit_then ?_ | refine AW_exit ?_ | refine exit_block ?_)
      refine next_round (x + 1) ⟨hc, hps⟩ (weak_st ?_ ?_ rfl rfl) ?_
      · (repeat' (first | exact trivial | refine And.intro ?_ ?_)) <;> (first | rfl | skip)
      · (repeat' (first | exact trivial | refine And.intro ?_ ?_)) <;> (first | rfl | skip)
      · omega
    rw [decide_eq_false hm] at hps
    have hl' : (l ++ [(x : Int)]).length + k = n := by simp; omega
    have hb' : ∀ y ∈ l ++ [(x : Int)], 0 ≤ y ∧ y < (n : Int) := fun y hy => by
      rcases List.mem_append.1 hy with hy | hy
      · exact hb y hy
      · rw [List.mem_singleton.1 hy]; omega
    by_cases hch : Chk n (l ++ [(x : Int)])
    · rw [decide_eq_true hch] at hps
      have hps : partB (fitsT n) n k l bh (x + 1) = none := hps
      have hs := ihB (l ++ [(x : Int)]) (by simp) hl' hb' hch
      unfold srchR at hs
      repeat (first | (refine step_ops ?_; (first | (refine m_mov (by conv => lhs; whnf) ?_) | (refine m_lss rfl rfl ?_))) | refine end_ops ?_ | refine seq_ops ?_ | (refine cond_t rfl ?_ ?_; (· first | rfl | assumption | (refine decide_eq_true ?_; first | assumption | omega) | (refine nt ?_; first | assumption | omega) | (simp [*]; done))) | refine skip_then ?_ | refine AW_seq ?_ | refine AW_block ?_)
      refine step_ops ?_; (apply m_call (l1Has_spec l x (by omega))); (· repeat (first | exact lends_nil | (refine lends_cons ?_ ?_; (· (first | exact lend_v | (refine lend_ints ?_; first | rfl | omega))))))
      repeat (first | (refine step_ops ?_; (refine m_mov (by conv => lhs; whnf) ?_)) | refine end_ops ?_ | refine seq_ops ?_ | (refine cond_f rfl ?_ ?_; (· first | rfl | assumption | (refine decide_eq_false ?_; first | assumption | omega) | (refine nf ?_; first | assumption | omega) | (simp [*]; done))) | refine skip_then ?_)
      refine step_ops ?_; (apply m_callo (l1Own_spec l (by omega))); (· repeat (first | exact lends_nil | (refine lends_cons ?_ ?_; (· (refine lend_ints ?_; first | rfl | omega))))); (· first | exact allv_ints _ | rfl | (simp; done))
      repeat (refine step_ops ?_; (first | (refine m_mov (by conv => lhs; whnf) ?_) | (refine m_bsl1 rfl rfl ?_) | (refine m_app1i rfl (by decide) (by rfl) (by first | rfl | omega | (simp; done)) rfl rfl ?_ (by decide) ?_; (· first | omega | (simp; omega)))))
      refine step_ops ?_; (apply m_call (hs)); (· repeat (first | exact lends_nil | (refine lends_cons ?_ ?_; (· (first | exact lend_v | (refine lend_ints ?_; first | rfl | omega) | (refine lend_sli (by rfl) ?_; first | rfl | omega | (simp; done)))))))
      repeat (first | (refine step_ops ?_; (first | (refine m_mov (by conv => lhs; whnf) ?_) | (refine m_add rfl rfl ?_ ?_ ?_; (· omega); (· omega)) | (refine m_ext rfl rfl ?_))) | refine end_ops ?_ | refine seq_ops ?_ | refine AW_ops ?_ | (refine cond_f rfl ?_ ?_; (· first | rfl | assumption | (refine decide_eq_false ?_; first | assumption | omega) | (refine nf ?_; first | assumption | omega) | (simp [*]; done))) | refine norm_then ?_ | refine norm_block ?_ | refine AW_skip ?_)
      refine next_round (x + 1) ⟨hc, hps⟩ (weak_st ?_ ?_ rfl rfl) ?_
      · (repeat' (first | exact trivial | refine And.intro ?_ ?_)) <;> (first | rfl | skip)
      · (repeat' (first | exact trivial | refine And.intro ?_ ?_)) <;> (first | rfl | skip)
      · omega
    rw [decide_eq_false hch] at hps
    have hps : partB (fitsT n) n k l bh (x + 1) = fstB (fitsT n) n k (l ++ [(x : Int)]) bh := hps
    by_cases hk : k = 0
    · by_cases hy : bh = [] ∨ comesB bh (l ++ [(x : Int)]) = true
      · have hs := ihY (l ++ [(x : Int)]) hl' hb' hch hk hy
        have ho : partB (fitsT n) n k l bh (x + 1) = some (l ++ [(x : Int)]) := by
          rw [hps]
          subst hk
          rw [fstB_zero, if_pos hy]
        rw [hmono (x + 1) _ (by omega) ho]
        repeat (first | (refine step_ops ?_; (first | (refine m_mov (by conv => lhs; whnf) ?_) | (refine m_lss rfl rfl ?_))) | refine end_ops ?_ | refine seq_ops ?_ | (refine cond_t rfl ?_ ?_; (· first | rfl | assumption | (refine decide_eq_true ?_; first | assumption | omega) | (refine nt ?_; first | assumption | omega) | (simp [*]; done))) | refine skip_then ?_ | refine AW_seq ?_ | refine AW_block ?_)
        refine step_ops ?_; (apply m_call (l1Has_spec l x (by omega))); (· repeat (first | exact lends_nil | (refine lends_cons ?_ ?_; (· (first | exact lend_v | (refine lend_ints ?_; first | rfl | omega))))))
        repeat (first | (refine step_ops ?_; (refine m_mov (by conv => lhs; whnf) ?_)) | refine end_ops ?_ | refine seq_ops ?_ | (refine cond_f rfl ?_ ?_; (· first | rfl | assumption | (refine decide_eq_false ?_; first | assumption | omega) | (refine nf ?_; first | assumption | omega) | (simp [*]; done))) | refine skip_then ?_)
        refine step_ops ?_; (apply m_callo (l1Own_spec l (by omega))); (· repeat (first | exact lends_nil | (refine lends_cons ?_ ?_; (· (refine lend_ints ?_; first | rfl | omega))))); (· first | exact allv_ints _ | rfl | (simp; done))
        repeat (refine step_ops ?_; (first | (refine m_mov (by conv => lhs; whnf) ?_) | (refine m_bsl1 rfl rfl ?_) | (refine m_app1i rfl (by decide) (by rfl) (by first | rfl | omega | (simp; done)) rfl rfl ?_ (by decide) ?_; (· first | omega | (simp; omega)))))
        refine step_ops ?_
        refine m_callR (fun r => if r = pbase then 105 else r) hs (by rfl) ?_ ?_ ?_ ?_ ?_ ?_ ?_ ?_ ?_ ?_
        · simp [ownL, ownV, plainV]
        · simp [refsL, refsV, Am.look]
        · ((repeat' (first | exact trivial | refine And.intro ?_ ?_)) <;> (first | rfl | exact congrArg (fun c => some (true, c)) (renL_ints _ _).symm | exact congrArg (fun c => some (true, c)) (txs_ren _ _).symm | skip))
        · simp
        · simp
        · simp
        · exact fun p hp => by rw [List.mem_singleton] at hp; subst hp; exact ⟨ownL_ints _ _, refsL_ints _ _⟩
        · exact fun p hp => by rw [List.mem_singleton] at hp; subst hp; exact ownL_ints _ _
        · rfl
        repeat (first | (refine step_ops ?_; (first | (refine m_mov (by conv => lhs; whnf) ?_) | (refine m_ext rfl rfl ?_))) | refine end_ops ?_ | refine seq_ops ?_ | (refine cond_t rfl ?_ ?_; (· first | rfl | assumption | (refine decide_eq_true ?_; first | assumption | omega) | (refine nt ?_; first | assumption | omega) | (simp [*]; done))) | refine AW_ret ?_ | refine ret_done ?_ | refine ret_then ?_ | refine ret_block ?_ | refine ret_round ?_)
        refine outs_tup2 (outs_ints (cs := (l ++ [(x : Int)]).map AV.i) ?_ rfl rfl) (outs_b rfl)
        exact congrArg (fun c => some (true, c)) (renL_ints _ _)
      · have hs := ihN (l ++ [(x : Int)]) hl' hb' hch hk hy
        have ho : partB (fitsT n) n k l bh (x + 1) = none := by
          rw [hps]
          subst hk
          rw [fstB_zero, if_neg hy]
        repeat (first | (refine step_ops ?_; (first | (refine m_mov (by conv => lhs; whnf) ?_) | (refine m_lss rfl rfl ?_))) | refine end_ops ?_ | refine seq_ops ?_ | (refine cond_t rfl ?_ ?_; (· first | rfl | assumption | (refine decide_eq_true ?_; first | assumption | omega) | (refine nt ?_; first | assumption | omega) | (simp [*]; done))) | refine skip_then ?_ | refine AW_seq ?_ | refine AW_block ?_)
        refine step_ops ?_; (apply m_call (l1Has_spec l x (by omega))); (· repeat (first | exact lends_nil | (refine lends_cons ?_ ?_; (· (first | exact lend_v | (refine lend_ints ?_; first | rfl | omega))))))
        repeat (first | (refine step_ops ?_; (refine m_mov (by conv => lhs; whnf) ?_)) | refine end_ops ?_ | refine seq_ops ?_ | (refine cond_f rfl ?_ ?_; (· first | rfl | assumption | (refine decide_eq_false ?_; first | assumption | omega) | (refine nf ?_; first | assumption | omega) | (simp [*]; done))) | refine skip_then ?_)
        refine step_ops ?_; (apply m_callo (l1Own_spec l (by omega))); (· repeat (first | exact lends_nil | (refine lends_cons ?_ ?_; (· (refine lend_ints ?_; first | rfl | omega))))); (· first | exact allv_ints _ | rfl | (simp; done))
        repeat (refine step_ops ?_; (first | (refine m_mov (by conv => lhs; whnf) ?_) | (refine m_bsl1 rfl rfl ?_) | (refine m_app1i rfl (by decide) (by rfl) (by first | rfl | omega | (simp; done)) rfl rfl ?_ (by decide) ?_; (· first | omega | (simp; omega)))))
        refine step_ops ?_; (apply m_call (hs)); (· repeat (first | exact lends_nil | (refine lends_cons ?_ ?_; (· (first | exact lend_v | (refine lend_ints ?_; first | rfl | omega) | (refine lend_sli (by rfl) ?_; first | rfl | omega | (simp; done)))))))
        repeat (first | (refine step_ops ?_; (first | (refine m_mov (by conv => lhs; whnf) ?_) | (refine m_add rfl rfl ?_ ?_ ?_; (· omega); (· omega)) | (refine m_ext rfl rfl ?_))) | refine end_ops ?_ | refine seq_ops ?_ | refine AW_ops ?_ | (refine cond_f rfl ?_ ?_; (· first | rfl | assumption | (refine decide_eq_false ?_; first | assumption | omega) | (refine nf ?_; first | assumption | omega) | (simp [*]; done))) | refine norm_then ?_ | refine norm_block ?_ | refine AW_skip ?_)
        refine next_round (x + 1) ⟨hc, ho⟩ (weak_st ?_ ?_ rfl rfl) ?_
        · (repeat' (first | exact trivial | refine And.intro ?_ ?_)) <;> (first | rfl | skip)
        · (repeat' (first | exact trivial | refine And.intro ?_ ?_)) <;> (first | rfl | skip)
        · omega
    · have hs := ihI (l ++ [(x : Int)]) (by simp) hl' hb' hch hk
      rw [← hps] at hs
      unfold srchR at hs
      cases ho : partB (fitsT n) n k l bh (x + 1) with
      | none =>
        rw [ho] at hs
        repeat (first | (refine step_ops ?_; (first | (refine m_mov (by conv => lhs; whnf) ?_) | (refine m_lss rfl rfl ?_))) | refine end_ops ?_ | refine seq_ops ?_ | (refine cond_t rfl ?_ ?_; (· first | rfl | assumption | (refine decide_eq_true ?_; first | assumption | omega) | (refine nt ?_; first | assumption | omega) | (simp [*]; done))) | refine skip_then ?_ | refine AW_seq ?_ | refine AW_block ?_)
        refine step_ops ?_; (apply m_call (l1Has_spec l x (by omega))); (· repeat (first | exact lends_nil | (refine lends_cons ?_ ?_; (· (first | exact lend_v | (refine lend_ints ?_; first | rfl | omega))))))
        repeat (first | (refine step_ops ?_; (refine m_mov (by conv => lhs; whnf) ?_)) | refine end_ops ?_ | refine seq_ops ?_ | (refine cond_f rfl ?_ ?_; (· first | rfl | assumption | (refine decide_eq_false ?_; first | assumption | omega) | (refine nf ?_; first | assumption | omega) | (simp [*]; done))) | refine skip_then ?_)
        refine step_ops ?_; (apply m_callo (l1Own_spec l (by omega))); (· repeat (first | exact lends_nil | (refine lends_cons ?_ ?_; (· (refine lend_ints ?_; first | rfl | omega))))); (· first | exact allv_ints _ | rfl | (simp; done))
        repeat (refine step_ops ?_; (first | (refine m_mov (by conv => lhs; whnf) ?_) | (refine m_bsl1 rfl rfl ?_) | (refine m_app1i rfl (by decide) (by rfl) (by first | rfl | omega | (simp; done)) rfl rfl ?_ (by decide) ?_; (· first | omega | (simp; omega)))))
        refine step_ops ?_; (apply m_call (hs)); (· repeat (first | exact lends_nil | (refine lends_cons ?_ ?_; (· (first | exact lend_v | (refine lend_ints ?_; first | rfl | omega) | (refine lend_sli (by rfl) ?_; first | rfl | omega | (simp; done)))))))
        repeat (first | (refine step_ops ?_; (first | (refine m_mov (by conv => lhs; whnf) ?_) | (refine m_add rfl rfl ?_ ?_ ?_; (· omega); (· omega)) | (refine m_ext rfl rfl ?_))) | refine end_ops ?_ | refine seq_ops ?_ | refine AW_ops ?_ | (refine cond_f rfl ?_ ?_; (· first | rfl | assumption | (refine decide_eq_false ?_; first | assumption | omega) | (refine nf ?_; first | assumption | omega) | (simp [*]; done))) | refine norm_then ?_ | refine norm_block ?_ | refine AW_skip ?_)
        refine next_round (x + 1) ⟨hc, ho⟩ (weak_st ?_ ?_ rfl rfl) ?_
        · (repeat' (first | exact trivial | refine And.intro ?_ ?_)) <;> (first | rfl | skip)
        · (repeat' (first | exact trivial | refine And.intro ?_ ?_)) <;> (first | rfl | skip)
        · omega
      | some m =>
        rw [ho] at hs
        rw [hmono (x + 1) m (by omega) ho]
        repeat (first | (refine step_ops ?_; (first | (refine m_mov (by conv => lhs; whnf) ?_) | (refine m_lss rfl rfl ?_))) | refine end_ops ?_ | refine seq_ops ?_ | (refine cond_t rfl ?_ ?_; (· first | rfl | assumption | (refine decide_eq_true ?_; first | assumption | omega) | (refine nt ?_; first | assumption | omega) | (simp [*]; done))) | refine skip_then ?_ | refine AW_seq ?_ | refine AW_block ?_)
        refine step_ops ?_; (apply m_call (l1Has_spec l x (by omega))); (· repeat (first | exact lends_nil | (refine lends_cons ?_ ?_; (· (first | exact lend_v | (refine lend_ints ?_; first | rfl | omega))))))
        repeat (first | (refine step_ops ?_; (refine m_mov (by conv => lhs; whnf) ?_)) | refine end_ops ?_ | refine seq_ops ?_ | (refine cond_f rfl ?_ ?_; (· first | rfl | assumption | (refine decide_eq_false ?_; first | assumption | omega) | (refine nf ?_; first | assumption | omega) | (simp [*]; done))) | refine skip_then ?_)
        refine step_ops ?_; (apply m_callo (l1Own_spec l (by omega))); (· repeat (first | exact lends_nil | (refine lends_cons ?_ ?_; (· (refine lend_ints ?_; first | rfl | omega))))); (· first | exact allv_ints _ | rfl | (simp; done))
        repeat (refine step_ops ?_; (first | (refine m_mov (by conv => lhs; whnf) ?_) | (refine m_bsl1 rfl rfl ?_) | (refine m_app1i rfl (by decide) (by rfl) (by first | rfl | omega | (simp; done)) rfl rfl ?_ (by decide) ?_; (· first | omega | (simp; omega)))))
        refine step_ops ?_; (apply m_call (hs)); (· repeat (first | exact lends_nil | (refine lends_cons ?_ ?_; (· (first | exact lend_v | (refine lend_ints ?_; first | rfl | omega) | (refine lend_sli (by rfl) ?_; first | rfl | omega | (simp; done)))))))
        repeat (first | (refine step_ops ?_; (first | (refine m_mov (by conv => lhs; whnf) ?_) | (refine m_ext rfl rfl ?_))) | refine end_ops ?_ | refine seq_ops ?_ | (refine cond_t rfl ?_ ?_; (· first | rfl | assumption | (refine decide_eq_true ?_; first | assumption | omega) | (refine nt ?_; first | assumption | omega) | (simp [*]; done))) | refine AW_ret ?_ | refine ret_done ?_ | refine ret_then ?_ | refine ret_block ?_ | refine ret_round ?_)
        exact outs_tup2 (outs_ro (allv_ints _)) (outs_b rfl)
  · obtain rfl : x = n := by omega
    have hT : T = none := by rw [← hall]; exact hp
    rw [hT]
    repeat (first | (refine step_ops ?_; (first | (refine m_mov (by conv => lhs; whnf) ?_) | (refine m_lss rfl rfl ?_) | (refine m_nils ?_))) | refine end_ops ?_ | refine seq_ops ?_ | (refine cond_f rfl ?_ ?_; (· first | rfl | assumption | (refine decide_eq_false ?_; first | assumption | omega) | (refine nf ?_; first | assumption | omega) | (simp [*]; done))) | refine AW_seq ?_ | refine AW_ret ?_ | refine ret_done ?_ | refine norm_then ?_ | refine exit_then ?_ | refine exit_round ?_ | refine AW_exit ?_ | refine exit_block ?_)
    exact outs_tup2 (outs_ints rfl rfl rfl) (outs_b rfl)
theorem taLook_in1 (n : Nat) (hn : n ≤ 14) (h2 : 2 ≤ n) (bh : List Int) (hbl : bh = [] ∨ bh.length = n) (k : Nat)
    (ihB : ∀ l, 0 < l.length → l.length + k = n → (∀ x ∈ l, 0 ≤ x ∧ x < (n : Int)) → Chk n l → Sp Tryd.prog 42 [.i n, ints l, ints bh] (srchR none))
    (ihI : ∀ l, 0 < l.length → l.length + k = n → (∀ x ∈ l, 0 ≤ x ∧ x < (n : Int)) → ¬ Chk n l → k ≠ 0 → Sp Tryd.prog 42 [.i n, ints l, ints bh] (srchR (fstB (fitsT n) n k l bh)))
    (ihN : ∀ l, l.length + k = n → (∀ x ∈ l, 0 ≤ x ∧ x < (n : Int)) → ¬ Chk n l → k = 0 → ¬ (bh = [] ∨ comesB bh l = true) → Sp Tryd.prog 42 [.i n, ints l, ints bh] (.tup [.any, .b false]))
    (ihY : ∀ l, l.length + k = n → (∀ x ∈ l, 0 ≤ x ∧ x < (n : Int)) → ¬ Chk n l → k = 0 → (bh = [] ∨ comesB bh l = true) → SpH Tryd.prog 42 [.i n, .sl pbase 1 0 l.length, ints bh] (Am.look [(pbase, (true, l.map AV.i))]) (.tup [.sl pbase 1 0 l.length, .b true]) (Am.look [(pbase, (true, l.map AV.i))]))
    (l : List Int) (h0 : 0 < l.length) (hl : l.length + (k + 1) = n) (hb : ∀ x ∈ l, 0 ≤ x ∧ x < (n : Int)) (hc : ¬ Chk n l) (h1 : 1 < l.length) : Sp Tryd.prog 42 [.i n, ints l, ints bh] (srchR (fstB (fitsT n) n (k + 1) l bh)) := by
  obtain ⟨x, y, z, hx, hy, hz, he⟩ := ends_of h0 hb
  have hl1 := he.last
  have hpr : ∀ i, i < l.length → i < bh.length → l.take i = bh.take i → l.getD i 0 < bh.getD i 0 → fstB (fitsT n) n (k + 1) l bh = none := by
    intro i h1 h2 h3 h4
    unfold fstB
    rw [if_neg (by rintro rfl; simp at h2)]
    exact find_prune _ _ h1 h2 h3 h4
  have hcc : 1 < l.length → l.getD (l.length - 2) 0 = (y : Nat) ∧ ¬ (x : Int) / 2 = (y : Int) / 2 := fun h1 => ⟨he.prev h1, fun e => hc (.inl ⟨h1, by rw [hl1, he.prev h1]; exact e⟩)⟩
  have e1 : (l.length : Int) - 1 = (l.length - 1 : Nat) := by omega
  obtain ⟨hl2, hc1⟩ := hcc h1
  have e2 : (l.length : Int) - 2 = (l.length - 2 : Nat) := by omega
  clear hc he hcc
  have hrest := taLook_rest n hn h2 bh k ihB ihI ihN ihY l h0 hl hb
  clear ihB ihI ihN ihY hb
  generalize fstB (fitsT n) n (k + 1) l bh = T at *
  unfold srchR at hrest ⊢
  refine spec_of Tryd.func42 rfl cc42 rfl ?_
  unfold ac42
  repeat (first | ((first | refine step_ops ?_ | refine step_tree ?_); (first | ((try (refine g_yes rfl ?_ ?_; (· first | rfl | assumption | (refine decide_eq_true ?_; first | assumption | omega) | (refine nt ?_; first | assumption | omega) | (simp [*]; done) | (refine decide_eq_false ?_; first | assumption | omega) | (refine nf ?_; first | assumption | omega)))); (first | (refine m_mov (by conv => lhs; whnf) ?_) | (refine m_gtr rfl rfl ?_) | (refine m_eql rfl rfl ?_) | (refine m_sub rfl rfl ?_ ?_ ?_; (· omega); (· omega)) | (refine m_len_ro rfl ?_) | (apply m_idx1_roj; (· rfl); (· rfl); (· assumption); (· omega)) | (refine m_ld_rpi rfl ?_ ?_; (· omega)) | (refine m_pick_t rfl ?_ (by conv => lhs; whnf) ?_; (· first | rfl | assumption | (refine decide_eq_true ?_; first | assumption | omega) | (refine nt ?_; first | assumption | omega) | (simp [*]; done))) | (refine m_pick_f rfl ?_ (by conv => lhs; whnf) ?_; (· first | rfl | assumption | (refine decide_eq_false ?_; first | assumption | omega) | (refine nf ?_; first | assumption | omega) | (simp [*]; done))) | (refine m_nils ?_) | (refine m_quo rfl rfl ?_ ?_ ?_ ?_; (· omega); (· omega); (· omega)))) | (refine g_noT rfl ?_ ?_; (· first | rfl | assumption | (refine decide_eq_false ?_; first | assumption | omega) | (refine nf ?_; first | assumption | omega) | (simp [*]; done))))) | refine end_ops ?_ | refine seq_ops ?_ | refine end_tree ?_ | refine seq_tree ?_ | (refine cond_f rfl ?_ ?_; (· first | rfl | assumption | (refine decide_eq_false ?_; first | assumption | omega) | (refine nf ?_; first | assumption | omega) | (simp [*]; done))) | refine skip_then ?_ | refine AW_seq ?_ | refine AW_block ?_)
  refine AW_cutloop (st [(0, .i n), (1, ints l), (2, ints bh), (8, .i l.length)] []) hrest ?_
  clear hrest
  refine AW_loop (α := Nat) (fun i => i ≤ l.length ∧ l.take i = bh.take i ∧ i ≤ bh.length) (fun i => st [(0, .i n), (1, ints l), (2, ints bh), (8, .i l.length), (9, .i i)] []) (fun i => l.length - i) 0 ⟨Nat.zero_le _, rfl, Nat.zero_le _⟩ (weak_st ?_ ?_ rfl rfl) ?_
  · (repeat' (first | exact trivial | refine And.intro ?_ ?_)) <;> (first | rfl | skip)
  · (repeat' (first | exact trivial | refine And.intro ?_ ?_)) <;> (first | rfl | skip)
  rintro i ⟨hi, he, hib⟩
  by_cases hc : i < l.length
  · by_cases hcb : i < bh.length
    · by_cases hx : l.getD i 0 = bh.getD i 0
      · repeat (first | ((first | refine step_ops ?_ | refine step_tree ?_); ((try (refine g_yes rfl ?_ ?_; (· first | rfl | assumption | (refine decide_eq_true ?_; first | assumption | omega) | (refine nt ?_; first | assumption | omega) | (simp [*]; done) | (refine decide_eq_false ?_; first | assumption | omega) | (refine nf ?_; first | assumption | omega)))); (first | (refine m_mov (by conv => lhs; whnf) ?_) | (refine m_lss rfl rfl ?_) | (refine m_neq rfl rfl ?_) | (refine m_add rfl rfl ?_ ?_ ?_; (· omega); (· omega)) | (refine m_len_ro rfl ?_) | (refine m_idx1_ro rfl rfl ?_ ?_; (· omega)) | (refine m_ld_rpi rfl ?_ ?_; (· omega)) | (refine m_pick_t rfl ?_ (by conv => lhs; whnf) ?_; (· first | rfl | assumption | (refine decide_eq_true ?_; first | assumption | omega) | (refine nt ?_; first | assumption | omega) | (simp [*]; done)))))) | refine end_ops ?_ | refine seq_ops ?_ | refine AW_ops ?_ | refine end_tree ?_ | refine seq_tree ?_ | (refine cond_t rfl ?_ ?_; (· first | rfl | assumption | (refine decide_eq_true ?_; first | assumption | omega) | (refine nt ?_; first | assumption | omega) | (simp [*]; done))) | (refine cond_f rfl ?_ ?_; (· first | rfl | assumption | (refine decide_eq_false ?_; first | assumption | omega) | (refine nf ?_; first | assumption | omega) | (simp [*]; done))) | refine skip_then ?_ | refine AW_seq ?_ | refine norm_then ?_ | refine AW_block ?_ | refine norm_block ?_ | refine AW_skip ?_)
        refine next_round (i + 1) ⟨hc, by rw [take_snoc l i 0 hc, take_snoc bh i 0 hcb, he, hx], hcb⟩ (weak_st ?_ ?_ rfl rfl) ?_
        · (repeat' (first | exact trivial | refine And.intro ?_ ?_)) <;> (first | rfl | skip)
        · (repeat' (first | exact trivial | refine And.intro ?_ ?_)) <;> (first | rfl | skip)
        · omega
      · by_cases hlt : l.getD i 0 < bh.getD i 0
        · have hT := hpr i hc hcb he hlt
          subst hT
          repeat (first | ((first | refine step_ops ?_ | refine step_tree ?_); ((try (refine g_yes rfl ?_ ?_; (· first | rfl | assumption | (refine decide_eq_true ?_; first | assumption | omega) | (refine nt ?_; first | assumption | omega) | (simp [*]; done) | (refine decide_eq_false ?_; first | assumption | omega) | (refine nf ?_; first | assumption | omega)))); (first | (refine m_mov (by conv => lhs; whnf) ?_) | (refine m_lss rfl rfl ?_) | (refine m_neq rfl rfl ?_) | (refine m_len_ro rfl ?_) | (refine m_idx1_ro rfl rfl ?_ ?_; (· omega)) | (refine m_ld_rpi rfl ?_ ?_; (· omega)) | (refine m_pick_t rfl ?_ (by conv => lhs; whnf) ?_; (· first | rfl | assumption | (refine decide_eq_true ?_; first | assumption | omega) | (refine nt ?_; first | assumption | omega) | (simp [*]; done))) | (refine m_nils ?_)))) | refine end_ops ?_ | refine seq_ops ?_ | refine end_tree ?_ | refine seq_tree ?_ | (refine cond_t rfl ?_ ?_; (· first | rfl | assumption | (refine decide_eq_true ?_; first | assumption | omega) | (refine nt ?_; first | assumption | omega) | (simp [*]; done))) | refine skip_then ?_ | refine AW_seq ?_ | refine AW_ret ?_ | refine ret_done ?_ | refine ret_then ?_ | refine AW_block ?_ | refine ret_block ?_ | refine ret_round ?_)
          exact outs_tup2 (outs_ints rfl rfl rfl) (outs_b rfl)
        · repeat (first | ((first | refine step_ops ?_ | refine step_tree ?_); ((try (refine g_yes rfl ?_ ?_; (· first | rfl | assumption | (refine decide_eq_true ?_; first | assumption | omega) | (refine nt ?_; first | assumption | omega) | (simp [*]; done) | (refine decide_eq_false ?_; first | assumption | omega) | (refine nf ?_; first | assumption | omega)))); (first | (refine m_mov (by conv => lhs; whnf) ?_) | (refine m_lss rfl rfl ?_) | (refine m_neq rfl rfl ?_) | (refine m_len_ro rfl ?_) | (refine m_idx1_ro rfl rfl ?_ ?_; (· omega)) | (refine m_ld_rpi rfl ?_ ?_; (· omega)) | (refine m_pick_t rfl ?_ (by conv => lhs; whnf) ?_; (· first | rfl | assumption | (refine decide_eq_true ?_; first | assumption | omega) | (refine nt ?_; first | assumption | omega) | (simp [*]; done)))))) | refine end_ops ?_ | refine seq_ops ?_ | refine end_tree ?_ | refine seq_tree ?_ | (refine cond_t rfl ?_ ?_; (· first | rfl | assumption | (refine decide_eq_true ?_; first | assumption | omega) | (refine nt ?_; first | assumption | omega) | (simp [*]; done))) | (refine cond_f rfl ?_ ?_; (· first | rfl | assumption | (refine decide_eq_false ?_; first | assumption | omega) | (refine nf ?_; first | assumption | omega) | (simp [*]; done))) | refine skip_then ?_ | refine AW_seq ?_ | refine exit_then ?_ | refine AW_block ?_ | refine exit_round ?_ | refine AW_exit ?_ | refine exit_block ?_ | (refine exit_other ?_ ?_; (· decide)))
          refine weak_st ?_ ?_ rfl rfl
          · (repeat' (first | exact trivial | refine And.intro ?_ ?_)) <;> (first | rfl | skip)
          · (repeat' (first | exact trivial | refine And.intro ?_ ?_)) <;> (first | rfl | skip)
    · repeat (first | (refine step_ops ?_; ((try (refine g_yes rfl ?_ ?_; (· first | rfl | assumption | (refine decide_eq_true ?_; first | assumption | omega) | (refine nt ?_; first | assumption | omega) | (simp [*]; done) | (refine decide_eq_false ?_; first | assumption | omega) | (refine nf ?_; first | assumption | omega)))); (first | (refine m_mov (by conv => lhs; whnf) ?_) | (refine m_lss rfl rfl ?_) | (refine m_len_ro rfl ?_) | (refine m_pick_t rfl ?_ (by conv => lhs; whnf) ?_; (· first | rfl | assumption | (refine decide_eq_true ?_; first | assumption | omega) | (refine nt ?_; first | assumption | omega) | (simp [*]; done)))))) | refine end_ops ?_ | refine seq_ops ?_ | (refine cond_f rfl ?_ ?_; (· first | rfl | assumption | (refine decide_eq_false ?_; first | assumption | omega) | (refine nf ?_; first | assumption | omega) | (simp [*]; done))) | refine AW_seq ?_ | refine exit_then ?_ | refine exit_round ?_ | refine AW_exit ?_ | refine exit_block ?_)
      refine weak_st ?_ ?_ rfl rfl
      · (repeat' (first | exact trivial | refine And.intro ?_ ?_)) <;> (first | rfl | skip)
      · (repeat' (first | exact trivial | refine And.intro ?_ ?_)) <;> (first | rfl | skip)
  · repeat (first | (refine step_ops ?_; (first | (first | (refine m_mov (by conv => lhs; whnf) ?_) | (refine m_lss rfl rfl ?_) | (refine m_pick_f rfl ?_ (by conv => lhs; whnf) ?_; (· first | rfl | assumption | (refine decide_eq_false ?_; first | assumption | omega) | (refine nf ?_; first | assumption | omega) | (simp [*]; done)))) | (refine g_noT rfl ?_ ?_; (· first | rfl | assumption | (refine decide_eq_false ?_; first | assumption | omega) | (refine nf ?_; first | assumption | omega) | (simp [*]; done))))) | refine end_ops ?_ | refine seq_ops ?_ | (refine cond_f rfl ?_ ?_; (· first | rfl | assumption | (refine decide_eq_false ?_; first | assumption | omega) | (refine nf ?_; first | assumption | omega) | (simp [*]; done))) | refine AW_seq ?_ | refine exit_then ?_ | refine exit_round ?_ | refine AW_exit ?_ | refine exit_block ?_)
    refine weak_st ?_ ?_ rfl rfl
    · (repeat' (first | exact trivial | refine And.intro ?_ ?_)) <;> (first | rfl | skip)
    · (repeat' (first | exact trivial | refine And.intro ?_ ?_)) <;> (first | rfl | skip)
theorem taLook_in0 (n : Nat) (hn : n ≤ 14) (h2 : 2 ≤ n) (bh : List Int) (hbl : bh = [] ∨ bh.length = n) (k : Nat)
    (ihB : ∀ l, 0 < l.length → l.length + k = n → (∀ x ∈ l, 0 ≤ x ∧ x < (n : Int)) → Chk n l → Sp Tryd.prog 42 [.i n, ints l, ints bh] (srchR none))
    (ihI : ∀ l, 0 < l.length → l.length + k = n → (∀ x ∈ l, 0 ≤ x ∧ x < (n : Int)) → ¬ Chk n l → k ≠ 0 → Sp Tryd.prog 42 [.i n, ints l, ints bh] (srchR (fstB (fitsT n) n k l bh)))
    (ihN : ∀ l, l.length + k = n → (∀ x ∈ l, 0 ≤ x ∧ x < (n : Int)) → ¬ Chk n l → k = 0 → ¬ (bh = [] ∨ comesB bh l = true) → Sp Tryd.prog 42 [.i n, ints l, ints bh] (.tup [.any, .b false]))
    (ihY : ∀ l, l.length + k = n → (∀ x ∈ l, 0 ≤ x ∧ x < (n : Int)) → ¬ Chk n l → k = 0 → (bh = [] ∨ comesB bh l = true) → SpH Tryd.prog 42 [.i n, .sl pbase 1 0 l.length, ints bh] (Am.look [(pbase, (true, l.map AV.i))]) (.tup [.sl pbase 1 0 l.length, .b true]) (Am.look [(pbase, (true, l.map AV.i))]))
    (l : List Int) (h0 : 0 < l.length) (hl : l.length + (k + 1) = n) (hb : ∀ x ∈ l, 0 ≤ x ∧ x < (n : Int)) (hc : ¬ Chk n l) (h1 : ¬ 1 < l.length) : Sp Tryd.prog 42 [.i n, ints l, ints bh] (srchR (fstB (fitsT n) n (k + 1) l bh)) := by
  obtain ⟨x, y, z, hx, hy, hz, he⟩ := ends_of h0 hb
  have hl1 := he.last
  have hpr : ∀ i, i < l.length → i < bh.length → l.take i = bh.take i → l.getD i 0 < bh.getD i 0 → fstB (fitsT n) n (k + 1) l bh = none := by
    intro i h1 h2 h3 h4
    unfold fstB
    rw [if_neg (by rintro rfl; simp at h2)]
    exact find_prune _ _ h1 h2 h3 h4
  have hcc : 1 < l.length → l.getD (l.length - 2) 0 = (y : Nat) ∧ ¬ (x : Int) / 2 = (y : Int) / 2 := fun h1 => ⟨he.prev h1, fun e => hc (.inl ⟨h1, by rw [hl1, he.prev h1]; exact e⟩)⟩
  have e1 : (l.length : Int) - 1 = (l.length - 1 : Nat) := by omega
  clear hc he hcc
  have hrest := taLook_rest n hn h2 bh k ihB ihI ihN ihY l h0 hl hb
  clear ihB ihI ihN ihY hb
  generalize fstB (fitsT n) n (k + 1) l bh = T at *
  unfold srchR at hrest ⊢
  refine spec_of Tryd.func42 rfl cc42 rfl ?_
  unfold ac42
  repeat (first | ((first | refine step_ops ?_ | refine step_tree ?_); (first | ((try (refine g_yes rfl ?_ ?_; (· first | rfl | assumption | (refine decide_eq_true ?_; first | assumption | omega) | (refine nt ?_; first | assumption | omega) | (simp [*]; done) | (refine decide_eq_false ?_; first | assumption | omega) | (refine nf ?_; first | assumption | omega)))); (first | (refine m_mov (by conv => lhs; whnf) ?_) | (refine m_gtr rfl rfl ?_) | (refine m_eql rfl rfl ?_) | (refine m_len_ro rfl ?_) | (refine m_pick_f rfl ?_ (by conv => lhs; whnf) ?_; (· first | rfl | assumption | (refine decide_eq_false ?_; first | assumption | omega) | (refine nf ?_; first | assumption | omega) | (simp [*]; done))) | (refine m_nils ?_))) | (refine g_noT rfl ?_ ?_; (· first | rfl | assumption | (refine decide_eq_false ?_; first | assumption | omega) | (refine nf ?_; first | assumption | omega) | (simp [*]; done))))) | refine end_ops ?_ | refine seq_ops ?_ | refine end_tree ?_ | refine seq_tree ?_ | (refine cond_f rfl ?_ ?_; (· first | rfl | assumption | (refine decide_eq_false ?_; first | assumption | omega) | (refine nf ?_; first | assumption | omega) | (simp [*]; done))) | refine skip_then ?_ | refine AW_seq ?_ | refine AW_block ?_)
  refine AW_cutloop (st [(0, .i n), (1, ints l), (2, ints bh), (8, .i l.length)] []) hrest ?_
  clear hrest
  refine AW_loop (α := Nat) (fun i => i ≤ l.length ∧ l.take i = bh.take i ∧ i ≤ bh.length) (fun i => st [(0, .i n), (1, ints l), (2, ints bh), (8, .i l.length), (9, .i i)] []) (fun i => l.length - i) 0 ⟨Nat.zero_le _, rfl, Nat.zero_le _⟩ (weak_st ?_ ?_ rfl rfl) ?_
  · (repeat' (first | exact trivial | refine And.intro ?_ ?_)) <;> (first | rfl | skip)
  · (repeat' (first | exact trivial | refine And.intro ?_ ?_)) <;> (first | rfl | skip)
  rintro i ⟨hi, he, hib⟩
  by_cases hc : i < l.length
  · by_cases hcb : i < bh.length
    · by_cases hx : l.getD i 0 = bh.getD i 0
      · repeat (first | ((first | refine step_ops ?_ | refine step_tree ?_); ((try (refine g_yes rfl ?_ ?_; (· first | rfl | assumption | (refine decide_eq_true ?_; first | assumption | omega) | (refine nt ?_; first | assumption | omega) | (simp [*]; done) | (refine decide_eq_false ?_; first | assumption | omega) | (refine nf ?_; first | assumption | omega)))); (first | (refine m_mov (by conv => lhs; whnf) ?_) | (refine m_lss rfl rfl ?_) | (refine m_neq rfl rfl ?_) | (refine m_add rfl rfl ?_ ?_ ?_; (· omega); (· omega)) | (refine m_len_ro rfl ?_) | (refine m_idx1_ro rfl rfl ?_ ?_; (· omega)) | (refine m_ld_rpi rfl ?_ ?_; (· omega)) | (refine m_pick_t rfl ?_ (by conv => lhs; whnf) ?_; (· first | rfl | assumption | (refine decide_eq_true ?_; first | assumption | omega) | (refine nt ?_; first | assumption | omega) | (simp [*]; done)))))) | refine end_ops ?_ | refine seq_ops ?_ | refine AW_ops ?_ | refine end_tree ?_ | refine seq_tree ?_ | (refine cond_t rfl ?_ ?_; (· first | rfl | assumption | (refine decide_eq_true ?_; first | assumption | omega) | (refine nt ?_; first | assumption | omega) | (simp [*]; done))) | (refine cond_f rfl ?_ ?_; (· first | rfl | assumption | (refine decide_eq_false ?_; first | assumption | omega) | (refine nf ?_; first | assumption | omega) | (simp [*]; done))) | refine skip_then ?_ | refine AW_seq ?_ | refine norm_then ?_ | refine AW_block ?_ | refine norm_block ?_ | refine AW_skip ?_)
        refine next_round (i + 1) ⟨hc, by rw [take_snoc l i 0 hc, take_snoc bh i 0 hcb, he, hx], hcb⟩ (weak_st ?_ ?_ rfl rfl) ?_
        · (repeat' (first | exact trivial | refine And.intro ?_ ?_)) <;> (first | rfl | skip)
        · (repeat' (first | exact trivial | refine And.intro ?_ ?_)) <;> (first | rfl | skip)
        · omega
      · by_cases hlt : l.getD i 0 < bh.getD i 0
        · have hT := hpr i hc hcb he hlt
          subst hT
          repeat (first | ((first | refine step_ops ?_ | refine step_tree ?_); ((try (refine g_yes rfl ?_ ?_; (· first | rfl | assumption | (refine decide_eq_true ?_; first | assumption | omega) | (refine nt ?_; first | assumption | omega) | (simp [*]; done) | (refine decide_eq_false ?_; first | assumption | omega) | (refine nf ?_; first | assumption | omega)))); (first | (refine m_mov (by conv => lhs; whnf) ?_) | (refine m_lss rfl rfl ?_) | (refine m_neq rfl rfl ?_) | (refine m_len_ro rfl ?_) | (refine m_idx1_ro rfl rfl ?_ ?_; (· omega)) | (refine m_ld_rpi rfl ?_ ?_; (· omega)) | (refine m_pick_t rfl ?_ (by conv => lhs; whnf) ?_; (· first | rfl | assumption | (refine decide_eq_true ?_; first | assumption | omega) | (refine nt ?_; first | assumption | omega) | (simp [*]; done))) | (refine m_nils ?_)))) | refine end_ops ?_ | refine seq_ops ?_ | refine end_tree ?_ | refine seq_tree ?_ | (refine cond_t rfl ?_ ?_; (· first | rfl | assumption | (refine decide_eq_true ?_; first | assumption | omega) | (refine nt ?_; first | assumption | omega) | (simp [*]; done))) | refine skip_then ?_ | refine AW_seq ?_ | refine AW_ret ?_ | refine ret_done ?_ | refine ret_then ?_ | refine AW_block ?_ | refine ret_block ?_ | refine ret_round ?_)
          exact outs_tup2 (outs_ints rfl rfl rfl) (outs_b rfl)
        · repeat (first | ((first | refine step_ops ?_ | refine step_tree ?_); ((try (refine g_yes rfl ?_ ?_; (· first | rfl | assumption | (refine decide_eq_true ?_; first | assumption | omega) | (refine nt ?_; first | assumption | omega) | (simp [*]; done) | (refine decide_eq_false ?_; first | assumption | omega) | (refine nf ?_; first | assumption | omega)))); (first | (refine m_mov (by conv => lhs; whnf) ?_) | (refine m_lss rfl rfl ?_) | (refine m_neq rfl rfl ?_) | (refine m_len_ro rfl ?_) | (refine m_idx1_ro rfl rfl ?_ ?_; (· omega)) | (refine m_ld_rpi rfl ?_ ?_; (· omega)) | (refine m_pick_t rfl ?_ (by conv => lhs; whnf) ?_; (· first | rfl | assumption | (refine decide_eq_true ?_; first | assumption | omega) | (refine nt ?_; first | assumption | omega) | (simp [*]; done)))))) | refine end_ops ?_ | refine seq_ops ?_ | refine end_tree ?_ | refine seq_tree ?_ | (refine cond_t rfl ?_ ?_; (· first | rfl | assumption | (refine decide_eq_true ?_; first | assumption | omega) | (refine nt ?_; first | assumption | omega) | (simp [*]; done))) | (refine cond_f rfl ?_ ?_; (· first | rfl | assumption | (refine decide_eq_false ?_; first | assumption | omega) | (refine nf ?_; first | assumption | omega) | (simp [*]; done))) | refine skip_then ?_ | refine AW_seq ?_ | refine exit_then ?_ | refine AW_block ?_ | refine exit_round ?_ | refine AW_exit ?_ | refine exit_block ?_ | (refine exit_other ?_ ?_; (· decide)))
          refine weak_st ?_ ?_ rfl rfl
          · (repeat' (first | exact trivial | refine And.intro ?_ ?_)) <;> (first | rfl | skip)
          · (repeat' (first | exact trivial | refine And.intro ?_ ?_)) <;> (first | rfl | skip)
    · repeat (first | (refine step_ops ?_; ((try (refine g_yes rfl ?_ ?_; (· first | rfl | assumption | (refine decide_eq_true ?_; first | assumption | omega) | (refine nt ?_; first | assumption | omega) | (simp [*]; done) | (refine decide_eq_false ?_; first | assumption | omega) | (refine nf ?_; first | assumption | omega)))); (first | (refine m_mov (by conv => lhs; whnf) ?_) | (refine m_lss rfl rfl ?_) | (refine m_len_ro rfl ?_) | (refine m_pick_t rfl ?_ (by conv => lhs; whnf) ?_; (· first | rfl | assumption | (refine decide_eq_true ?_; first | assumption | omega) | (refine nt ?_; first | assumption | omega) | (simp [*]; done)))))) | refine end_ops ?_ | refine seq_ops ?_ | (refine cond_f rfl ?_ ?_; (· first | rfl | assumption | (refine decide_eq_false ?_; first | assumption | omega) | (refine nf ?_; first | assumption | omega) | (simp [*]; done))) | refine AW_seq ?_ | refine exit_then ?_ | refine exit_round ?_ | refine AW_exit ?_ | refine exit_block ?_)
      refine weak_st ?_ ?_ rfl rfl
      · (repeat' (first | exact trivial | refine And.intro ?_ ?_)) <;> (first | rfl | skip)
      · (repeat' (first | exact trivial | refine And.intro ?_ ?_)) <;> (first | rfl | skip)
  · repeat (first | (refine step_ops ?_; (first | (first | (refine m_mov (by conv => lhs; whnf) ?_) | (refine m_lss rfl rfl ?_) | (refine m_pick_f rfl ?_ (by conv => lhs; whnf) ?_; (· first | rfl | assumption | (refine decide_eq_false ?_; first | assumption | omega) | (refine nf ?_; first | assumption | omega) | (simp [*]; done)))) | (refine g_noT rfl ?_ ?_; (· first | rfl | assumption | (refine decide_eq_false ?_; first | assumption | omega) | (refine nf ?_; first | assumption | omega) | (simp [*]; done))))) | refine end_ops ?_ | refine seq_ops ?_ | (refine cond_f rfl ?_ ?_; (· first | rfl | assumption | (refine decide_eq_false ?_; first | assumption | omega) | (refine nf ?_; first | assumption | omega) | (simp [*]; done))) | refine AW_seq ?_ | refine exit_then ?_ | refine exit_round ?_ | refine AW_exit ?_ | refine exit_block ?_)
    refine weak_st ?_ ?_ rfl rfl
    · (repeat' (first | exact trivial | refine And.intro ?_ ?_)) <;> (first | rfl | skip)
    · (repeat' (first | exact trivial | refine And.intro ?_ ?_)) <;> (first | rfl | skip)
end Go.Proofs.YtmmcldbldbpikaaDoor
namespace Go.Proofs.YtmmcldbldbpikaaDoor
open Go.Am
attribute [local irreducible] AW Outs Weak Lends Lend Sp aops atree aop1 Then Round InBlock Done
attribute [local irreducible] SpM DoneM SpH DoneH
theorem taLook_all (n : Nat) (hn : n ≤ 14) (h2 : 2 ≤ n) (bh : List Int) (hbl : bh = [] ∨ bh.length = n) : ∀ k l, 0 < l.length → l.length + (k + 1) = n → (∀ x ∈ l, 0 ≤ x ∧ x < (n : Int)) → ¬ Chk n l →
    Sp Tryd.prog 42 [.i n, ints l, ints bh] (srchR (fstB (fitsT n) n (k + 1) l bh)) := by
  intro k
  induction k with
  | zero =>
    intro l h0 hl hb hc
    have hB : ∀ l, 0 < l.length → l.length + 0 = n → (∀ x ∈ l, 0 ≤ x ∧ x < (n : Int)) → Chk n l → _ := fun l h0 hl hb hc => taLook_bad n hn l bh h0 (by omega) hb h2 hc
    have hI : ∀ l, 0 < l.length → l.length + 0 = n → (∀ x ∈ l, 0 ≤ x ∧ x < (n : Int)) → ¬ Chk n l → 0 ≠ 0 → Sp Tryd.prog 42 [.i n, ints l, ints bh] (srchR (fstB (fitsT n) n 0 l bh)) := fun l h0 hl hb hc h => absurd rfl h
    have hN : ∀ l, l.length + 0 = n → (∀ x ∈ l, 0 ≤ x ∧ x < (n : Int)) → ¬ Chk n l → 0 = 0 → ¬ (bh = [] ∨ comesB bh l = true) → _ := fun l hl hb hc _ hno => taLook_leafN n hn h2 l bh (by omega) hbl hb hc hno
    have hY : ∀ l, l.length + 0 = n → (∀ x ∈ l, 0 ≤ x ∧ x < (n : Int)) → ¬ Chk n l → 0 = 0 → (bh = [] ∨ comesB bh l = true) → _ := fun l hl hb hc _ hy => taLook_leafY n hn h2 l bh (by omega) hbl hb hc hy
    by_cases h1 : 1 < l.length
    · exact taLook_in1 n hn h2 bh hbl 0 hB hI hN hY l h0 hl hb hc h1
    · exact taLook_in0 n hn h2 bh hbl 0 hB hI hN hY l h0 hl hb hc h1
  | succ k ih =>
    intro l h0 hl hb hc
    have hB : ∀ l, 0 < l.length → l.length + (k + 1) = n → (∀ x ∈ l, 0 ≤ x ∧ x < (n : Int)) → Chk n l → _ := fun l h0 hl hb hc => taLook_bad n hn l bh h0 (by omega) hb h2 hc
    have hI : ∀ l, 0 < l.length → l.length + (k + 1) = n → (∀ x ∈ l, 0 ≤ x ∧ x < (n : Int)) → ¬ Chk n l → k + 1 ≠ 0 → Sp Tryd.prog 42 [.i n, ints l, ints bh] (srchR (fstB (fitsT n) n (k + 1) l bh)) := fun l h0 hl hb hc _ => ih l h0 hl hb hc
    have hN : ∀ l, l.length + (k + 1) = n → (∀ x ∈ l, 0 ≤ x ∧ x < (n : Int)) → ¬ Chk n l → k + 1 = 0 → ¬ (bh = [] ∨ comesB bh l = true) → Sp Tryd.prog 42 [.i n, ints l, ints bh] (.tup [.any, .b false]) := fun l hl hb hc h => absurd h (by omega)
    have hY : ∀ l, l.length + (k + 1) = n → (∀ x ∈ l, 0 ≤ x ∧ x < (n : Int)) → ¬ Chk n l → k + 1 = 0 → (bh = [] ∨ comesB bh l = true) → SpH Tryd.prog 42 [.i n, .sl pbase 1 0 l.length, ints bh] (Am.look [(pbase, (true, l.map AV.i))]) (.tup [.sl pbase 1 0 l.length, .b true]) (Am.look [(pbase, (true, l.map AV.i))]) := fun l hl hb hc h => absurd h (by omega)
    by_cases h1 : 1 < l.length
    · exact taLook_in1 n hn h2 bh hbl (k + 1) hB hI hN hY l h0 hl hb hc h1
    · exact taLook_in0 n hn h2 bh hbl (k + 1) hB hI hN hY l h0 hl hb hc h1
theorem taLook_spec (n : Nat) (hn : n ≤ 14) (h2 : 2 ≤ n) (bh : List Int) (hbl : bh = [] ∨ bh.length = n) : Sp Tryd.prog 42 [.i n, ints [0], ints bh] (srchR (fstB (fitsT n) n n [] bh)) := by
  obtain ⟨k, rfl⟩ : ∃ k, n = k + 2 := ⟨n - 2, by omega⟩
  rw [fstB_first]
  exact taLook_all (k + 2) hn h2 bh hbl k [0] (by simp) (by simp; omega) (fun x hx => by rw [List.mem_singleton.1 hx]; omega) (chk_one h2)
theorem specFirstApart_spec (c : Int) : Sp Tryd.prog 17 [.i c] (srchR (frstT c)) := by
  unfold srchR
  refine spec_of Tryd.func17 rfl cc17 rfl ?_
  unfold ac17
  by_cases h : 1 ≤ c ∧ c ≤ 7
  · obtain ⟨q, rfl⟩ := Int.eq_ofNat_of_zero_le (show 0 ≤ c by omega)
    have hs := taLook_spec (2 * q) (by omega) (by omega) [] (.inl rfl)
    have e : frstT (q : Int) = fstB (fitsT (2 * q)) (2 * q) (2 * q) [] [] := by unfold frstT fstB; rw [if_pos h, if_pos rfl, Int.toNat_natCast]
    rw [← e] at hs
    unfold srchR at hs
    cases ho : frstT (q : Int) with
    | none =>
      rw [ho] at hs
      repeat (first | (refine step_ops ?_; (first | (refine m_mov (by conv => lhs; whnf) ?_) | (refine m_nils ?_))) | refine end_ops ?_ | refine seq_ops ?_ | refine AW_seq ?_)
      (refine step_ops ?_); (apply m_call (taCouples_spec _)); (· repeat (first | exact lends_nil | (refine lends_cons ?_ ?_; (· exact lend_v))))
      repeat (first | (refine step_ops ?_; (first | (refine m_mov (by conv => lhs; whnf) ?_) | (refine m_mul rfl rfl ?_ ?_ ?_; (· first | omega | (simp; done)); (· first | omega | (simp; done))) | (refine m_not rfl ?_) | (refine m_bsl1 rfl rfl ?_))) | refine end_ops ?_ | refine seq_ops ?_ | (refine cond_f rfl ?_ ?_; (· first | rfl | assumption | (refine decide_eq_false ?_; first | assumption | omega) | (refine nf ?_; first | assumption | omega) | (simp [*]; done))) | refine skip_then ?_)
      rw [show 2 * (q : Int) = ((2 * q : Nat) : Int) by omega]
      skip
      refine step_ops ?_
      refine m_call hs ?_ ?_
      · exact lends_cons lend_v (lends_cons (lend_sli (by rfl) rfl) (lends_cons lend_nil lends_nil))
      repeat (first | (refine step_ops ?_; (first | (refine m_mov (by conv => lhs; whnf) ?_) | (refine m_not rfl ?_) | (refine m_nils ?_) | (refine m_ext rfl rfl ?_))) | refine end_ops ?_ | refine seq_ops ?_ | (refine cond_t rfl ?_ ?_; (· first | rfl | assumption | (refine decide_eq_true ?_; first | assumption | omega) | (refine nt ?_; first | assumption | omega) | (simp [*]; done))) | refine AW_seq ?_ | refine AW_ret ?_ | refine ret_done ?_ | refine ret_then ?_)
      exact outs_tup2 (outs_ints rfl rfl rfl) (outs_b rfl)
    | some m =>
      rw [ho] at hs
      repeat (first | (refine step_ops ?_; (first | (refine m_mov (by conv => lhs; whnf) ?_) | (refine m_nils ?_))) | refine end_ops ?_ | refine seq_ops ?_ | refine AW_seq ?_)
      (refine step_ops ?_); (apply m_call (taCouples_spec _)); (· repeat (first | exact lends_nil | (refine lends_cons ?_ ?_; (· exact lend_v))))
      repeat (first | (refine step_ops ?_; (first | (refine m_mov (by conv => lhs; whnf) ?_) | (refine m_mul rfl rfl ?_ ?_ ?_; (· first | omega | (simp; done)); (· first | omega | (simp; done))) | (refine m_not rfl ?_) | (refine m_bsl1 rfl rfl ?_))) | refine end_ops ?_ | refine seq_ops ?_ | (refine cond_f rfl ?_ ?_; (· first | rfl | assumption | (refine decide_eq_false ?_; first | assumption | omega) | (refine nf ?_; first | assumption | omega) | (simp [*]; done))) | refine skip_then ?_)
      rw [show 2 * (q : Int) = ((2 * q : Nat) : Int) by omega]
      skip
      refine step_ops ?_
      refine m_call hs ?_ ?_
      · exact lends_cons lend_v (lends_cons (lend_sli (by rfl) rfl) (lends_cons lend_nil lends_nil))
      repeat (first | (refine step_ops ?_; (first | (refine m_mov (by conv => lhs; whnf) ?_) | (refine m_not rfl ?_) | (refine m_ext rfl rfl ?_))) | refine end_ops ?_ | refine seq_ops ?_ | (refine cond_f rfl ?_ ?_; (· first | rfl | assumption | (refine decide_eq_false ?_; first | assumption | omega) | (refine nf ?_; first | assumption | omega) | (simp [*]; done))) | refine skip_then ?_ | refine AW_seq ?_ | refine AW_ret ?_ | refine ret_done ?_)
      exact outs_tup2 (outs_ro (allv_ints _)) (outs_b rfl)
  · have e : frstT c = none := if_neg h
    rw [e]
    repeat (first | (refine step_ops ?_; (first | (refine m_mov (by conv => lhs; whnf) ?_) | (refine m_nils ?_))) | refine end_ops ?_ | refine seq_ops ?_ | refine AW_seq ?_)
    (refine step_ops ?_); (apply m_call (taCouples_spec _)); (· repeat (first | exact lends_nil | (refine lends_cons ?_ ?_; (· exact lend_v))))
    repeat (first | (refine step_ops ?_; (first | (refine m_mov (by conv => lhs; whnf) ?_) | (refine m_not rfl ?_) | (refine m_nils ?_))) | refine end_ops ?_ | refine seq_ops ?_ | (refine cond_t rfl ?_ ?_; (· first | rfl | assumption | (refine decide_eq_true ?_; first | assumption | omega) | (refine nt ?_; first | assumption | omega) | (simp [*]; done))) | refine AW_ret ?_ | refine ret_done ?_ | refine ret_then ?_)
    exact outs_tup2 (outs_ints rfl rfl rfl) (outs_b rfl)
theorem specNextApart_spec (L : List Int) (hL : L.length ≤ 1048576) : Sp Tryd.prog 19 [ints L] (srchR (nextT L)) := by
  unfold srchR
  refine spec_of Tryd.func19 rfl cc19 rfl ?_
  unfold ac19
  by_cases h : IsTab L
  · have h2 := h.1
    have h14 := h.2.1
    obtain ⟨x, hx, hxl⟩ := tab_get h (k := 0) (by omega)
    by_cases h0 : x = 0
    · subst h0
      have hs := taLook_spec L.length (by omega) (by omega) L (.inr rfl)
      have e : nextT L = fstB (fitsT L.length) L.length L.length [] L := by unfold nextT fstB; rw [if_pos ⟨h, hx⟩, if_neg (by rintro rfl; simp at h2)]
      rw [← e] at hs
      unfold srchR at hs
      cases ho : nextT L with
      | none =>
        rw [ho] at hs
        repeat (first | (refine step_ops ?_; (first | (refine m_mov (by conv => lhs; whnf) ?_) | (refine m_nils ?_))) | refine end_ops ?_ | refine seq_ops ?_ | refine AW_seq ?_)
        (refine step_ops ?_); (apply m_call (taGood_spec _ hL)); (· repeat (first | exact lends_nil | (refine lends_cons ?_ ?_; (· (refine lend_ints ?_; first | rfl | omega)))))
        repeat (first | (refine step_ops ?_; ((try (refine g_yes rfl ?_ ?_; (· first | rfl | assumption | (refine decide_eq_true ?_; first | assumption | omega) | (refine nt ?_; first | assumption | omega) | (simp [*]; done) | (refine decide_eq_false ?_; first | assumption | omega) | (refine nf ?_; first | assumption | omega)))); (first | (refine m_mov (by conv => lhs; whnf) ?_) | (refine m_neq rfl rfl ?_) | (refine m_not rfl ?_) | (refine m_idx1_ro rfl rfl ?_ ?_; (· omega)) | (refine m_ld_rpi rfl ?_ ?_; (· omega)) | (refine m_pick_f rfl ?_ (by conv => lhs; whnf) ?_; (· first | rfl | assumption | (refine decide_eq_false ?_; first | assumption | omega) | (refine nf ?_; first | assumption | omega) | (simp [*]; done)))))) | refine end_ops ?_)
        rw [hx]
        repeat (first | (refine step_ops ?_; (first | (refine m_mov (by conv => lhs; whnf) ?_) | (refine m_len_ro rfl ?_) | (refine m_bsl1 rfl rfl ?_))) | refine seq_ops ?_ | (refine cond_f rfl ?_ ?_; (· first | rfl | assumption | (refine decide_eq_false ?_; first | assumption | omega) | (refine nf ?_; first | assumption | omega) | (simp [*]; done))) | refine skip_then ?_)
        (refine step_ops ?_); (apply m_call (hs)); (· repeat (first | exact lends_nil | (refine lends_cons ?_ ?_; (· (first | exact lend_v | (refine lend_ints ?_; first | rfl | omega) | (refine lend_sli (by rfl) ?_; first | rfl | omega | (simp; done)))))))
        repeat (first | (refine step_ops ?_; (first | (refine m_mov (by conv => lhs; whnf) ?_) | (refine m_not rfl ?_) | (refine m_nils ?_) | (refine m_ext rfl rfl ?_))) | refine end_ops ?_ | refine seq_ops ?_ | (refine cond_t rfl ?_ ?_; (· first | rfl | assumption | (refine decide_eq_true ?_; first | assumption | omega) | (refine nt ?_; first | assumption | omega) | (simp [*]; done))) | refine AW_seq ?_ | refine AW_ret ?_ | refine ret_done ?_ | refine ret_then ?_)
        exact outs_tup2 (outs_ints rfl rfl rfl) (outs_b rfl)
      | some m =>
        rw [ho] at hs
        repeat (first | (refine step_ops ?_; (first | (refine m_mov (by conv => lhs; whnf) ?_) | (refine m_nils ?_))) | refine end_ops ?_ | refine seq_ops ?_ | refine AW_seq ?_)
        (refine step_ops ?_); (apply m_call (taGood_spec _ hL)); (· repeat (first | exact lends_nil | (refine lends_cons ?_ ?_; (· (refine lend_ints ?_; first | rfl | omega)))))
        repeat (first | (refine step_ops ?_; ((try (refine g_yes rfl ?_ ?_; (· first | rfl | assumption | (refine decide_eq_true ?_; first | assumption | omega) | (refine nt ?_; first | assumption | omega) | (simp [*]; done) | (refine decide_eq_false ?_; first | assumption | omega) | (refine nf ?_; first | assumption | omega)))); (first | (refine m_mov (by conv => lhs; whnf) ?_) | (refine m_neq rfl rfl ?_) | (refine m_not rfl ?_) | (refine m_idx1_ro rfl rfl ?_ ?_; (· omega)) | (refine m_ld_rpi rfl ?_ ?_; (· omega)) | (refine m_pick_f rfl ?_ (by conv => lhs; whnf) ?_; (· first | rfl | assumption | (refine decide_eq_false ?_; first | assumption | omega) | (refine nf ?_; first | assumption | omega) | (simp [*]; done)))))) | refine end_ops ?_)
        rw [hx]
        repeat (first | (refine step_ops ?_; (first | (refine m_mov (by conv => lhs; whnf) ?_) | (refine m_len_ro rfl ?_) | (refine m_bsl1 rfl rfl ?_))) | refine seq_ops ?_ | (refine cond_f rfl ?_ ?_; (· first | rfl | assumption | (refine decide_eq_false ?_; first | assumption | omega) | (refine nf ?_; first | assumption | omega) | (simp [*]; done))) | refine skip_then ?_)
        (refine step_ops ?_); (apply m_call (hs)); (· repeat (first | exact lends_nil | (refine lends_cons ?_ ?_; (· (first | exact lend_v | (refine lend_ints ?_; first | rfl | omega) | (refine lend_sli (by rfl) ?_; first | rfl | omega | (simp; done)))))))
        repeat (first | (refine step_ops ?_; (first | (refine m_mov (by conv => lhs; whnf) ?_) | (refine m_not rfl ?_) | (refine m_ext rfl rfl ?_))) | refine end_ops ?_ | refine seq_ops ?_ | (refine cond_f rfl ?_ ?_; (· first | rfl | assumption | (refine decide_eq_false ?_; first | assumption | omega) | (refine nf ?_; first | assumption | omega) | (simp [*]; done))) | refine skip_then ?_ | refine AW_seq ?_ | refine AW_ret ?_ | refine ret_done ?_)
        exact outs_tup2 (outs_ro (allv_ints _)) (outs_b rfl)
    · have e : nextT L = none := if_neg fun hh => h0 (by have := hh.2; omega)
      rw [e]
      repeat (first | (refine step_ops ?_; (first | (refine m_mov (by conv => lhs; whnf) ?_) | (refine m_nils ?_))) | refine end_ops ?_ | refine seq_ops ?_ | refine AW_seq ?_)
      (refine step_ops ?_); (apply m_call (taGood_spec _ hL)); (· repeat (first | exact lends_nil | (refine lends_cons ?_ ?_; (· (refine lend_ints ?_; first | rfl | omega)))))
      repeat (first | (refine step_ops ?_; ((try (refine g_yes rfl ?_ ?_; (· first | rfl | assumption | (refine decide_eq_true ?_; first | assumption | omega) | (refine nt ?_; first | assumption | omega) | (simp [*]; done) | (refine decide_eq_false ?_; first | assumption | omega) | (refine nf ?_; first | assumption | omega)))); (first | (refine m_mov (by conv => lhs; whnf) ?_) | (refine m_neq rfl rfl ?_) | (refine m_not rfl ?_) | (refine m_idx_ro rfl rfl ?_ ?_ ?_; (· omega); (· omega)) | (refine m_ld_rpi rfl ?_ ?_; (· omega)) | (refine m_pick_f rfl ?_ (by conv => lhs; whnf) ?_; (· first | rfl | assumption | (refine decide_eq_false ?_; first | assumption | omega) | (refine nf ?_; first | assumption | omega) | (simp [*]; done)))))) | refine end_ops ?_)
      rw [show L.getD (Int.toNat 0 * 1) 0 = (x : Nat) from hx]
      repeat (first | (refine step_ops ?_; (first | (refine m_mov (by conv => lhs; whnf) ?_) | (refine m_nils ?_))) | refine end_ops ?_ | refine seq_ops ?_ | (refine cond_t rfl ?_ ?_; (· first | rfl | assumption | (refine decide_eq_true ?_; first | assumption | omega) | (refine nt ?_; first | assumption | omega) | (simp [*]; done))) | refine AW_ret ?_ | refine ret_done ?_ | refine ret_then ?_)
      exact outs_tup2 (outs_ints rfl rfl rfl) (outs_b rfl)
  · have e : nextT L = none := if_neg fun hh => h hh.1
    rw [e]
    repeat (first | (refine step_ops ?_; (first | (refine m_mov (by conv => lhs; whnf) ?_) | (refine m_nils ?_))) | refine end_ops ?_ | refine seq_ops ?_ | refine AW_seq ?_)
    (refine step_ops ?_); (apply m_call (taGood_spec _ hL)); (· repeat (first | exact lends_nil | (refine lends_cons ?_ ?_; (· (refine lend_ints ?_; first | rfl | omega)))))
    repeat (first | (refine step_ops ?_; (first | (first | (refine m_mov (by conv => lhs; whnf) ?_) | (refine m_not rfl ?_) | (refine m_pick_t rfl ?_ (by conv => lhs; whnf) ?_; (· first | rfl | assumption | (refine decide_eq_true ?_; first | assumption | omega) | (refine nt ?_; first | assumption | omega) | (simp [*]; done))) | (refine m_nils ?_)) | (refine g_noF rfl ?_ ?_; (· first | rfl | assumption | (refine decide_eq_true ?_; first | assumption | omega) | (refine nt ?_; first | assumption | omega) | (simp [*]; done))))) | refine end_ops ?_ | refine seq_ops ?_ | (refine cond_t rfl ?_ ?_; (· first | rfl | assumption | (refine decide_eq_true ?_; first | assumption | omega) | (refine nt ?_; first | assumption | omega) | (simp [*]; done))) | refine AW_ret ?_ | refine ret_done ?_ | refine ret_then ?_)
    exact outs_tup2 (outs_ints rfl rfl rfl) (outs_b rfl)
theorem frstT_le (c : Int) : ((frstT c).getD []).length ≤ 14 := by
  unfold frstT
  split
  · rename_i h
    cases hh : (goOn (fitsT (2 * c.toNat)) (2 * c.toNat) (2 * c.toNat) []).head? with
    | none => simp
    | some m =>
      have := goOn_len (List.mem_of_mem_head? (by rw [hh]; rfl))
      simp at this ⊢
      omega
  · simp
theorem nextT_le (L : List Int) : ((nextT L).getD []).length ≤ 14 := by
  unfold nextT
  split
  · rename_i h
    have h14 := h.1.2.1
    cases hh : (goOn (fitsT L.length) L.length L.length []).find? (fun m => comesB L m) with
    | none => simp
    | some m =>
      have := goOn_len (List.mem_of_find?_eq_some hh)
      simp at this ⊢
      omega
  · simp
end Go.Proofs.YtmmcldbldbpikaaDoor
namespace Go.Proofs.YtmmcldbldbpikaaDoor
open Go.Am
attribute [local irreducible] AW Outs Weak Lends Lend Sp aops atree aop1 Then Round InBlock Done
attribute [local irreducible] SpH SpX DoneH DoneX
def tN (c t : Nat) : Int := exactS (roundS c (c + 1)) t
def rN (c t : Nat) : Int := exactS (rowS c (c + 1)) t
theorem tw_num : ∀ c < 8, 1 ≤ c → ∀ t < c + 1, (0 ≤ tN c t ∧ tN c t ≤ 10000000000) ∧ (0 ≤ rN c t ∧ rN c t ≤ 100000000000) ∧ 0 ≤ turnN c t ∧ turnN c t ≤ tN c t := by decide +kernel
def tS (c : Nat) : Nat → Int
  | 0 => 0
  | k + 1 => tS c k + tN c k
def rS (c : Nat) : Nat → Int
  | 0 => 0
  | k + 1 => rS c k + rN c k
def uS (c : Nat) : Nat → Int
  | 0 => 0
  | k + 1 => uS c k + turnN c k
theorem tw_sum : ∀ c < 8, 1 ≤ c → ∀ k < c + 2, (0 ≤ tS c k ∧ tS c k ≤ 1000000000000) ∧ (0 ≤ rS c k ∧ rS c k ≤ 1000000000000) ∧ 0 ≤ uS c k ∧ uS c k ≤ 1000000000000 := by decide +kernel
theorem tw_all : ∀ c < 8, 1 ≤ c → tS c (c + 1) = fac (2 * c - 1) ∧ rS c (c + 1) = fac (2 * c) ∧ uS c (c + 1) = fac c * fac (c - 1) ∧ fac (2 * c) = 2 * (c : Int) * fac (2 * c - 1) ∧ tN c 0 * chDen c = fac (2 * c - 1) * chNum c ∧ (0 ≤ tN c 0 * chDen c ∧ tN c 0 * chDen c ≤ 9000000000000000000) ∧
    (0 ≤ fac (2 * c - 1) ∧ fac (2 * c - 1) ≤ 10000000000) ∧ (0 ≤ chNum c ∧ chNum c ≤ 10000000000) ∧ 0 ≤ chDen c ∧ chDen c ≤ 10000000000 := by decide +kernel
theorem tog_at {c t : Nat} (h1 : 1 ≤ c) (h7 : c ≤ 7) (ht : t ≤ c) : TogOk c t ∧ togNum c t = tN c t ∧ rowNum c t = rN c t ∧ turnNum c t = turnN c t := by
  have h : TogOk c t := ⟨⟨by omega, by omega⟩, by omega, by omega⟩
  refine ⟨h, ?_, ?_, ?_⟩
  · rw [togNum, if_pos h, Int.toNat_natCast, Int.toNat_natCast]; rfl
  · rw [rowNum, if_pos h, Int.toNat_natCast, Int.toNat_natCast]; rfl
  · rw [turnNum, if_pos h, Int.toNat_natCast, Int.toNat_natCast]
theorem tw_snoc {L : List Int} {k : Nat} (h : k < L.length) : L.take (k + 1) = L.take k ++ [L.getD k 0] := by
  rw [List.take_succ_eq_append_getElem h]
  simp [h]
theorem nodup_take {x : List Int} (h : ∀ i, i < x.length → x.getD i 0 ∉ x.take i) : x.Nodup := by
  have key : ∀ k, k ≤ x.length → (x.take k).Nodup := by
    intro k
    induction k with
    | zero => intro _; simp
    | succ k ih =>
      intro hk
      rw [tw_snoc (by omega), List.nodup_append]
      refine ⟨ih (by omega), by simp, fun a ha b hb hab => ?_⟩
      rw [List.mem_singleton] at hb
      subst hb; subst hab
      exact h k (by omega) ha
  have := key x.length (Nat.le_refl _)
  rwa [List.take_length] at this
theorem goOn_fits (fits : List Int → Nat → Bool) (n : Nat) : ∀ k l x, x ∈ goOn fits n k l → ∀ i, i < k → ∃ y : Nat, y < n ∧ x.getD (l.length + i) 0 = y ∧ fits (x.take (l.length + i)) y = true
  | 0, _, _, _, i, hi => by omega
  | k + 1, l, x, h, i, hi => by
    simp only [goOn, List.mem_flatMap] at h
    obtain ⟨y, hy, hx⟩ := h
    rw [List.mem_filter, List.mem_range] at hy
    have hlen : (l ++ [(y : Int)]).length = l.length + 1 := by simp
    cases i with
    | zero =>
      obtain ⟨m, rfl, hm⟩ := goOn_shape fits n k _ _ hx
      refine ⟨y, hy.1, ?_, ?_⟩
      · simp [List.getD_eq_getElem?_getD]
      · rw [Nat.add_zero, List.append_assoc, List.take_left]
        exact hy.2
    | succ i =>
      obtain ⟨z, h1, h2, h3⟩ := goOn_fits fits n k (l ++ [(y : Int)]) x hx i (by omega)
      rw [hlen, show l.length + 1 + i = l.length + (i + 1) by omega] at h2 h3
      exact ⟨z, h1, h2, h3⟩
theorem get_take {x : List Int} {i j : Nat} (h : j < i) : (x.take i).getD j 0 = x.getD j 0 := by
  simp [List.getD_eq_getElem?_getD, List.getElem?_take, h]
/-- A table that a search for tables with all apart finds. -/
theorem apart_tab {c : Nat} (h1 : 1 ≤ c) (h7 : c ≤ 7) {x : List Int} (hx : x ∈ goOn (fitsT (2 * c)) (2 * c) (2 * c) []) : x.length = 2 * c ∧ IsTab x ∧ aroundT x = 0 ∧ x.getD 0 0 = 0 := by
  have hf := goOn_fits (fitsT (2 * c)) (2 * c) (2 * c) [] x hx
  have hlen : x.length = 2 * c := by
    obtain ⟨m, e, hm⟩ := goOn_shape (fitsT (2 * c)) (2 * c) (2 * c) [] x hx
    rw [e, List.nil_append, hm]
  simp only [List.length_nil, Nat.zero_add] at hf
  have h0 : x.getD 0 0 = 0 := by
    obtain ⟨y, _, a2, a3⟩ := hf 0 (by omega)
    rw [List.take_zero, fitsT, if_pos rfl, decide_eq_true_eq] at a3
    rw [a2, a3]; rfl
  have hgo : ∀ i, 1 ≤ i → i < 2 * c → x.getD i 0 ∉ x.take i ∧ ¬ x.getD (i - 1) 0 / 2 = x.getD i 0 / 2 ∧ ¬ (i + 1 = 2 * c ∧ x.getD 0 0 / 2 = x.getD i 0 / 2) := by
    intro i hi1 hi
    obtain ⟨y, a1, a2, a3⟩ := hf i hi
    have hne : x.take i ≠ [] := fun e => by
      have h3 : (x.take i).length = 0 := by rw [e]; rfl
      rw [List.length_take] at h3
      omega
    have hl : (x.take i).length = i := by rw [List.length_take]; omega
    rw [fitsT, if_neg hne] at a3
    simp only [Bool.and_eq_true, Bool.not_eq_true', decide_eq_false_iff_not] at a3
    obtain ⟨b1, b2⟩ := a3
    rw [chk_snoc hne, hl, get_take (by omega), get_take (by omega)] at b2
    rw [a2]
    exact ⟨b1, fun e => b2 (Or.inl e), fun e => b2 (Or.inr e)⟩
  have htab : IsTab x := by
    refine ⟨by omega, by omega, by omega, fun z hz => ?_, nodup_take fun i hi => ?_⟩
    · obtain ⟨i, hi, rfl⟩ := List.mem_iff_getElem.1 hz
      obtain ⟨y, a1, a2, _⟩ := hf i (by omega)
      have : x[i] = x.getD i 0 := by simp [hi]
      rw [this, a2]; omega
    · by_cases hi0 : i = 0
      · subst hi0; simp
      · exact (hgo i (by omega) (by omega)).1
  refine ⟨hlen, htab, ?_, h0⟩
  have key : ∀ k, k ≤ 2 * c → togT x k = 0 := by
    intro k
    induction k with
    | zero => intro _; rfl
    | succ k ih =>
      intro hk
      simp only [togT]
      by_cases e : k + 1 < 2 * c
      · have h2 := (hgo (k + 1) (by omega) e).2.1
        rw [Nat.add_sub_cancel] at h2
        rw [hlen, Nat.mod_eq_of_lt e, if_neg h2]
        exact ih (by omega)
      · have e2 : k + 1 = 2 * c := by omega
        have := (hgo k (by omega) (by omega)).2.2
        rw [hlen, e2, Nat.mod_self, if_neg fun hh => this ⟨e2, hh.symm⟩]
        exact ih (by omega)
  unfold aroundT
  rw [hlen]
  exact key _ (Nat.le_refl _)
theorem frst_some : ∀ c < 8, 1 ≤ c → (frstT ((c : Nat) : Int)).isSome = decide (1 < c) := by decide +kernel
theorem frst_ok {c : Nat} (h1 : 1 < c) (h7 : c ≤ 7) : ∃ F, frstT ((c : Nat) : Int) = some F ∧ F.length = 2 * c ∧ IsTab F ∧ aroundT F = 0 ∧ F.getD 0 0 = 0 := by
  have hs := frst_some c (by omega) (by omega)
  rw [decide_eq_true h1, Option.isSome_iff_exists] at hs
  obtain ⟨F, hF⟩ := hs
  refine ⟨F, hF, ?_⟩
  rw [frstT, if_pos (by omega), Int.toNat_natCast] at hF
  exact apart_tab (by omega) h7 (List.mem_of_mem_head? (by rw [hF]; rfl))
theorem next_ok {L N : List Int} (h : nextT L = some N) : N.length = L.length ∧ IsTab N ∧ aroundT N = 0 ∧ N.getD 0 0 = 0 ∧ comesB L N = true := by
  unfold nextT at h
  by_cases hn : NxOk L
  · rw [if_pos hn] at h
    have ht := hn.1
    obtain ⟨c, hc⟩ : ∃ c, L.length = 2 * c := ⟨L.length / 2, by have := ht.2.2.1; omega⟩
    have hm := List.mem_of_find?_eq_some h
    rw [hc] at hm
    have ha := apart_tab (c := c) (by have := ht.1; omega) (by have := ht.2.1; omega) hm
    exact ⟨by rw [ha.1, hc], ha.2.1, ha.2.2.1, ha.2.2.2, by simpa using List.find?_some h⟩
  · rw [if_neg hn] at h; cases h
/-- The tables of two and of three couples with all apart, and how one leads to the next. -/
def allA (c : Nat) : List (List Int) := goOn (fitsT (2 * c)) (2 * c) (2 * c) []
theorem allA_walk : ∀ c < 4, 1 < c → (frstT ((c : Nat) : Int) = some ((allA c).getD 0 []) ∧ 1 ≤ (allA c).length ∧ (allA c).length < 200 ∧ (((allA c).length : Nat) : Int) = tN c 0) ∧ ∀ k < (allA c).length, nextT ((allA c).getD k []) = if k + 1 < (allA c).length then some ((allA c).getD (k + 1) []) else none := by decide +kernel
theorem nums_zero : nums 0 = [] := by decide
theorem cb_step {a b : List Int} {k : Nat} (h1 : k < a.length) (h2 : k < b.length) : comesB (a.drop k) (b.drop k) = if a.getD k 0 = b.getD k 0 then comesB (a.drop (k + 1)) (b.drop (k + 1)) else decide (a.getD k 0 < b.getD k 0) := by
  rw [List.drop_eq_getElem_cons h1, List.drop_eq_getElem_cons h2]
  simp [comesB, h1, h2]
theorem vBefore_spec (a b : List Int) (ha : a.length ≤ 1048576) (hb : b.length = a.length) : Sp Tryd.prog 22 [ints a, ints b] (.b (comesB a b)) := by
  have h0 : comesB (a.drop 0) (b.drop 0) = comesB a b := rfl
  generalize comesB a b = T at h0 ⊢
  refine spec_of Tryd.func22 rfl cc22 rfl ?_
  unfold ac22
  repeat (first | (refine step_ops ?_; (first | (refine m_mov (by conv => lhs; whnf) ?_) | (refine m_len_ro rfl ?_))) | refine end_ops ?_ | refine seq_ops ?_ | refine AW_seq ?_ | refine AW_block ?_)
  refine AW_loop (α := Nat) (fun k => k ≤ a.length ∧ comesB (a.drop k) (b.drop k) = T) (fun k => st [(0, ints a), (1, ints b), (7, ints a), (8, .i a.length), (9, .i (k : Nat))] []) (fun k => a.length - k) 0 ⟨Nat.zero_le _, h0⟩ (weak_st ?_ ?_ rfl rfl) ?_
  · (repeat' (first | exact trivial | refine And.intro ?_ ?_)) <;> (first | rfl | skip)
  · trivial
  rintro k ⟨hk, he⟩
  by_cases hc : k < a.length
  · rw [cb_step hc (by omega)] at he
    by_cases hx : a.getD k 0 = b.getD k 0
    · rw [if_pos hx] at he
      repeat (first | (refine step_ops ?_; (first | (refine m_mov (by conv => lhs; whnf) ?_) | (refine m_lss rfl rfl ?_) | (refine m_neq rfl rfl ?_) | (refine m_add rfl rfl ?_ ?_ ?_; (· omega); (· omega)) | (refine m_idx1_ro rfl rfl ?_ ?_; (· omega)) | (refine m_ld_rpi rfl ?_ ?_; (· omega)))) | refine end_ops ?_ | refine seq_ops ?_ | refine AW_ops ?_ | (refine cond_t rfl ?_ ?_; (· first | rfl | assumption | (refine decide_eq_true ?_; first | assumption | omega) | (refine nt ?_; first | assumption | omega) | (simp [*]; done))) | (refine cond_f rfl ?_ ?_; (· first | rfl | assumption | (refine decide_eq_false ?_; first | assumption | omega) | (refine nf ?_; first | assumption | omega) | (simp [*]; done))) | refine skip_then ?_ | refine AW_seq ?_ | refine norm_then ?_ | refine AW_block ?_ | refine norm_block ?_ | refine AW_skip ?_)
      refine next_round (k + 1) ⟨hc, he⟩ (weak_st ?_ ?_ rfl rfl) ?_
      · (repeat' (first | exact trivial | refine And.intro ?_ ?_)) <;> (first | rfl | skip)
      · trivial
      · omega
    · rw [if_neg hx] at he
      repeat (first | (refine step_ops ?_; (first | (refine m_mov (by conv => lhs; whnf) ?_) | (refine m_lss rfl rfl ?_) | (refine m_neq rfl rfl ?_) | (refine m_idx1_ro rfl rfl ?_ ?_; (· omega)) | (refine m_ld_rpi rfl ?_ ?_; (· omega)))) | refine end_ops ?_ | refine seq_ops ?_ | (refine cond_t rfl ?_ ?_; (· first | rfl | assumption | (refine decide_eq_true ?_; first | assumption | omega) | (refine nt ?_; first | assumption | omega) | (simp [*]; done))) | refine skip_then ?_ | refine AW_seq ?_ | refine AW_ret ?_ | refine ret_done ?_ | refine ret_then ?_ | refine AW_block ?_ | refine ret_block ?_ | refine ret_round ?_)
      exact outs_b he
  · rw [List.drop_of_length_le (by omega)] at he
    repeat (first | (refine step_ops ?_; (first | (refine m_mov (by conv => lhs; whnf) ?_) | (refine m_lss rfl rfl ?_))) | refine end_ops ?_ | refine seq_ops ?_ | (refine cond_f rfl ?_ ?_; (· first | rfl | assumption | (refine decide_eq_false ?_; first | assumption | omega) | (refine nf ?_; first | assumption | omega) | (simp [*]; done))) | refine AW_seq ?_ | refine AW_ret ?_ | refine ret_done ?_ | refine norm_then ?_ | refine exit_then ?_ | refine exit_round ?_ | refine AW_exit ?_ | refine exit_block ?_)
    exact outs_b he
theorem vSame_self (L : List Int) (hL : L.length ≤ 1048576) : Sp Tryd.prog 20 [ints L, ints L] (.b true) := by
  refine spec_of Tryd.func20 rfl cc20 rfl ?_
  unfold ac20
  repeat (first | (refine step_ops ?_; (first | (refine m_mov (by conv => lhs; whnf) ?_) | (refine m_neq rfl rfl ?_) | (refine m_len_ro rfl ?_))) | refine end_ops ?_ | refine seq_ops ?_ | (refine cond_f rfl ?_ ?_; (· first | rfl | assumption | (refine decide_eq_false ?_; first | assumption | omega) | (refine nf ?_; first | assumption | omega) | (simp [*]; done))) | refine skip_then ?_ | refine AW_seq ?_ | refine AW_block ?_)
  refine AW_loop (α := Nat) (fun k => k ≤ L.length) (fun k => st [(0, ints L), (1, ints L), (12, .i L.length), (13, .i k)] []) (fun k => L.length - k) 0 (by omega) (weak_st ?_ ?_ rfl rfl) ?_
  · (repeat' (first | exact trivial | refine And.intro ?_ ?_)) <;> (first | rfl | skip)
  · trivial
  intro k hk
  by_cases hc : k < L.length
  · repeat (first | ((first | refine step_ops ?_ | refine step_tree ?_); (first | (refine m_mov (by conv => lhs; whnf) ?_) | (refine m_lss rfl rfl ?_) | (refine m_neq rfl rfl ?_) | (refine m_add rfl rfl ?_ ?_ ?_; (· omega); (· omega)) | (refine m_idx1_ro rfl rfl ?_ ?_; (· omega)) | (refine m_ld_rpi rfl ?_ ?_; (· omega)))) | refine end_ops ?_ | refine seq_ops ?_ | refine AW_ops ?_ | refine end_tree ?_ | refine seq_tree ?_ | (refine cond_t rfl ?_ ?_; (· first | rfl | assumption | (refine decide_eq_true ?_; first | assumption | omega) | (refine nt ?_; first | assumption | omega) | (simp [*]; done))) | (refine cond_f rfl ?_ ?_; (· first | rfl | assumption | (refine decide_eq_false ?_; first | assumption | omega) | (refine nf ?_; first | assumption | omega) | (simp [*]; done))) | refine skip_then ?_ | refine AW_seq ?_ | refine norm_then ?_ | refine AW_block ?_ | refine norm_block ?_ | refine AW_skip ?_)
    refine next_round (k + 1) (by omega) (weak_st ?_ ?_ rfl rfl) ?_
    · (repeat' (first | exact trivial | refine And.intro ?_ ?_)) <;> (first | rfl | skip)
    · trivial
    · omega
  · repeat (first | (refine step_ops ?_; (first | (refine m_mov (by conv => lhs; whnf) ?_) | (refine m_lss rfl rfl ?_))) | refine end_ops ?_ | refine seq_ops ?_ | (refine cond_f rfl ?_ ?_; (· first | rfl | assumption | (refine decide_eq_false ?_; first | assumption | omega) | (refine nf ?_; first | assumption | omega) | (simp [*]; done))) | refine AW_seq ?_ | refine AW_ret ?_ | refine ret_done ?_ | refine norm_then ?_ | refine exit_then ?_ | refine exit_round ?_ | refine AW_exit ?_ | refine exit_block ?_)
    exact outs_b rfl
/-- CountRound and CountInTurn. -/
theorem specCountRound_spec (a : Int) : Sp Tryd.prog 11 [.i a] (.tup [.i (roundR a), .b (decide (1 ≤ a ∧ a ≤ 7))]) := by
  refine spec_of Tryd.func11 rfl cc11 rfl ?_
  unfold ac11
  by_cases h : 1 ≤ a ∧ a ≤ 7
  · have e : roundR a = _ := if_pos h
    rw [e]
    obtain ⟨n, rfl⟩ := Int.eq_ofNat_of_zero_le (show 0 ≤ a by omega)
    have hs := exTimes14_spec (2 * n - 1) (by omega)
    rw [show (((2 * n - 1 : Nat) : Nat) : Int) = 2 * (n : Int) - 1 by omega] at hs
    rw [Int.toNat_natCast]
    repeat (first | (refine step_ops ?_; (refine m_mov (by conv => lhs; whnf) ?_)) | refine end_ops ?_ | refine seq_ops ?_ | refine AW_seq ?_)
    (refine step_ops ?_); (apply m_call (taCouples_spec _)); (· repeat (first | exact lends_nil | (refine lends_cons ?_ ?_; (· exact lend_v))))
    repeat (first | (refine step_ops ?_; (first | (refine m_mov (by conv => lhs; whnf) ?_) | (refine m_sub rfl rfl ?_ ?_ ?_; (· omega); (· omega)) | (refine m_mul rfl rfl ?_ ?_ ?_; (· first | omega | (simp; done)); (· first | omega | (simp; done))) | (refine m_not rfl ?_))) | refine end_ops ?_ | refine seq_ops ?_ | (refine cond_f rfl ?_ ?_; (· first | rfl | assumption | (refine decide_eq_false ?_; first | assumption | omega) | (refine nf ?_; first | assumption | omega) | (simp [*]; done))) | refine skip_then ?_)
    (refine step_ops ?_); (apply m_call (hs)); (· repeat (first | exact lends_nil | (refine lends_cons ?_ ?_; (· exact lend_v))))
    repeat (first | (refine step_ops ?_; (refine m_mov (by conv => lhs; whnf) ?_)) | refine end_ops ?_ | refine AW_ret ?_ | refine ret_done ?_)
    exact outs_tup2 (outs_i rfl) (outs_b (decide_eq_true h).symm)
  · have e : roundR a = 0 := if_neg h
    rw [e]
    repeat (first | (refine step_ops ?_; (refine m_mov (by conv => lhs; whnf) ?_)) | refine end_ops ?_ | refine seq_ops ?_ | refine AW_seq ?_)
    (refine step_ops ?_); (apply m_call (taCouples_spec _)); (· repeat (first | exact lends_nil | (refine lends_cons ?_ ?_; (· exact lend_v))))
    repeat (first | (refine step_ops ?_; (first | (refine m_mov (by conv => lhs; whnf) ?_) | (refine m_not rfl ?_))) | refine end_ops ?_ | refine seq_ops ?_ | (refine cond_t rfl ?_ ?_; (· first | rfl | assumption | (refine decide_eq_true ?_; first | assumption | omega) | (refine nt ?_; first | assumption | omega) | (simp [*]; done))) | refine AW_ret ?_ | refine ret_done ?_ | refine ret_then ?_)
    exact outs_tup2 (outs_i rfl) (outs_b (decide_eq_false h).symm)
theorem implCountRound_spec (a : Int) : Sp Tryd.prog 10 [.i a] (.tup [.i (roundR a), .b (decide (1 ≤ a ∧ a ≤ 7))]) := by
  refine spec_of Tryd.func10 rfl cc10 rfl ?_
  unfold ac10
  by_cases h : 1 ≤ a ∧ a ≤ 7
  · have e : roundR a = _ := if_pos h
    rw [e]
    obtain ⟨n, rfl⟩ := Int.eq_ofNat_of_zero_le (show 0 ≤ a by omega)
    rw [Int.toNat_natCast]
    repeat (first | (refine step_ops ?_; (refine m_mov (by conv => lhs; whnf) ?_)) | refine end_ops ?_ | refine seq_ops ?_ | refine AW_seq ?_)
    (refine step_ops ?_); (apply m_call (isCoupleCount_spec _)); (· repeat (first | exact lends_nil | (refine lends_cons ?_ ?_; (· exact lend_v))))
    repeat (first | (refine step_ops ?_; (first | (refine m_mov (by conv => lhs; whnf) ?_) | (refine m_not rfl ?_))) | refine end_ops ?_ | refine seq_ops ?_ | (refine cond_f rfl ?_ ?_; (· first | rfl | assumption | (refine decide_eq_false ?_; first | assumption | omega) | (refine nf ?_; first | assumption | omega) | (simp [*]; done))) | refine skip_then ?_)
    (refine step_ops ?_); (apply m_call (countRound_spec n (by omega) (by omega))); (· repeat (first | exact lends_nil | (refine lends_cons ?_ ?_; (· exact lend_v))))
    repeat (first | (refine step_ops ?_; (refine m_mov (by conv => lhs; whnf) ?_)) | refine end_ops ?_ | refine AW_ret ?_ | refine ret_done ?_)
    exact outs_tup2 (outs_i rfl) (outs_b (decide_eq_true h).symm)
  · have e : roundR a = 0 := if_neg h
    rw [e]
    repeat (first | (refine step_ops ?_; (refine m_mov (by conv => lhs; whnf) ?_)) | refine end_ops ?_ | refine seq_ops ?_ | refine AW_seq ?_)
    (refine step_ops ?_); (apply m_call (isCoupleCount_spec _)); (· repeat (first | exact lends_nil | (refine lends_cons ?_ ?_; (· exact lend_v))))
    repeat (first | (refine step_ops ?_; (first | (refine m_mov (by conv => lhs; whnf) ?_) | (refine m_not rfl ?_))) | refine end_ops ?_ | refine seq_ops ?_ | (refine cond_t rfl ?_ ?_; (· first | rfl | assumption | (refine decide_eq_true ?_; first | assumption | omega) | (refine nt ?_; first | assumption | omega) | (simp [*]; done))) | refine AW_ret ?_ | refine ret_done ?_ | refine ret_then ?_)
    exact outs_tup2 (outs_i rfl) (outs_b (decide_eq_false h).symm)
theorem specCountInTurn_spec (a : Int) : Sp Tryd.prog 13 [.i a] (.tup [.i (inTurnR a), .b (decide (1 ≤ a ∧ a ≤ 7))]) := by
  refine spec_of Tryd.func13 rfl cc13 rfl ?_
  unfold ac13
  by_cases h : 1 ≤ a ∧ a ≤ 7
  · have e : inTurnR a = _ := if_pos h
    rw [e]
    obtain ⟨n, rfl⟩ := Int.eq_ofNat_of_zero_le (show 0 ≤ a by omega)
    have h1 := exTimes14_spec n (by omega)
    have h2 := exTimes14_spec (n - 1) (by omega)
    rw [show (((n - 1 : Nat) : Nat) : Int) = (n : Int) - 1 by omega] at h2
    rw [Int.toNat_natCast]
    have b1 := fac7_le n (by omega)
    have b2 := fac7_le (n - 1) (by omega)
    have b3 : 0 ≤ fac n * fac (n - 1) := Int.mul_nonneg (by omega) (by omega)
    have b4 : fac n * fac (n - 1) ≤ 5040 * 5040 := Int.mul_le_mul b1.1 b2.1 (by omega) (by omega)
    repeat (first | (refine step_ops ?_; (refine m_mov (by conv => lhs; whnf) ?_)) | refine end_ops ?_ | refine seq_ops ?_ | refine AW_seq ?_)
    (refine step_ops ?_); (apply m_call (taCouples_spec _)); (· repeat (first | exact lends_nil | (refine lends_cons ?_ ?_; (· exact lend_v))))
    repeat (first | (refine step_ops ?_; (first | (refine m_mov (by conv => lhs; whnf) ?_) | (refine m_not rfl ?_))) | refine end_ops ?_ | refine seq_ops ?_ | (refine cond_f rfl ?_ ?_; (· first | rfl | assumption | (refine decide_eq_false ?_; first | assumption | omega) | (refine nf ?_; first | assumption | omega) | (simp [*]; done))) | refine skip_then ?_)
    (refine step_ops ?_); (apply m_call (h1)); (· repeat (first | exact lends_nil | (refine lends_cons ?_ ?_; (· exact lend_v))))
    repeat (refine step_ops ?_; (first | (refine m_mov (by conv => lhs; whnf) ?_) | (refine m_sub rfl rfl ?_ ?_ ?_; (· omega); (· omega))))
    (refine step_ops ?_); (apply m_call (h2)); (· repeat (first | exact lends_nil | (refine lends_cons ?_ ?_; (· exact lend_v))))
    repeat (first | (refine step_ops ?_; (first | (refine m_mov (by conv => lhs; whnf) ?_) | (refine m_mul rfl rfl ?_ ?_ ?_; (· first | omega | (simp; done)); (· first | omega | (simp; done))))) | refine end_ops ?_ | refine AW_ret ?_ | refine ret_done ?_)
    exact outs_tup2 (outs_i rfl) (outs_b (decide_eq_true h).symm)
  · have e : inTurnR a = 0 := if_neg h
    rw [e]
    repeat (first | (refine step_ops ?_; (refine m_mov (by conv => lhs; whnf) ?_)) | refine end_ops ?_ | refine seq_ops ?_ | refine AW_seq ?_)
    (refine step_ops ?_); (apply m_call (taCouples_spec _)); (· repeat (first | exact lends_nil | (refine lends_cons ?_ ?_; (· exact lend_v))))
    repeat (first | (refine step_ops ?_; (first | (refine m_mov (by conv => lhs; whnf) ?_) | (refine m_not rfl ?_))) | refine end_ops ?_ | refine seq_ops ?_ | (refine cond_t rfl ?_ ?_; (· first | rfl | assumption | (refine decide_eq_true ?_; first | assumption | omega) | (refine nt ?_; first | assumption | omega) | (simp [*]; done))) | refine AW_ret ?_ | refine ret_done ?_ | refine ret_then ?_)
    exact outs_tup2 (outs_i rfl) (outs_b (decide_eq_false h).symm)
theorem implCountInTurn_spec (a : Int) : Sp Tryd.prog 12 [.i a] (.tup [.i (inTurnR a), .b (decide (1 ≤ a ∧ a ≤ 7))]) := by
  refine spec_of Tryd.func12 rfl cc12 rfl ?_
  unfold ac12
  by_cases h : 1 ≤ a ∧ a ≤ 7
  · have e : inTurnR a = _ := if_pos h
    rw [e]
    obtain ⟨n, rfl⟩ := Int.eq_ofNat_of_zero_le (show 0 ≤ a by omega)
    have h1 := factorial14_spec n (by omega)
    have h2 := factorial14_spec (n - 1) (by omega)
    rw [show (((n - 1 : Nat) : Nat) : Int) = (n : Int) - 1 by omega] at h2
    rw [Int.toNat_natCast]
    have b1 := fac7_le n (by omega)
    have b2 := fac7_le (n - 1) (by omega)
    have b3 : 0 ≤ fac (n - 1) * fac n := Int.mul_nonneg (by omega) (by omega)
    have b4 : fac (n - 1) * fac n ≤ 5040 * 5040 := Int.mul_le_mul b2.1 b1.1 (by omega) (by omega)
    repeat (first | (refine step_ops ?_; (refine m_mov (by conv => lhs; whnf) ?_)) | refine end_ops ?_ | refine seq_ops ?_ | refine AW_seq ?_)
    (refine step_ops ?_); (apply m_call (isCoupleCount_spec _)); (· repeat (first | exact lends_nil | (refine lends_cons ?_ ?_; (· exact lend_v))))
    repeat (first | (refine step_ops ?_; (first | (refine m_mov (by conv => lhs; whnf) ?_) | (refine m_sub rfl rfl ?_ ?_ ?_; (· omega); (· omega)) | (refine m_not rfl ?_))) | refine end_ops ?_ | refine seq_ops ?_ | (refine cond_f rfl ?_ ?_; (· first | rfl | assumption | (refine decide_eq_false ?_; first | assumption | omega) | (refine nf ?_; first | assumption | omega) | (simp [*]; done))) | refine skip_then ?_)
    (refine step_ops ?_); (apply m_call (h2)); (· repeat (first | exact lends_nil | (refine lends_cons ?_ ?_; (· exact lend_v))))
    repeat (refine step_ops ?_; (refine m_mov (by conv => lhs; whnf) ?_))
    (refine step_ops ?_); (apply m_call (h1)); (· repeat (first | exact lends_nil | (refine lends_cons ?_ ?_; (· exact lend_v))))
    repeat (first | (refine step_ops ?_; (first | (refine m_mov (by conv => lhs; whnf) ?_) | (refine m_mul rfl rfl ?_ ?_ ?_; (· first | omega | (simp; done)); (· first | omega | (simp; done))))) | refine end_ops ?_ | refine AW_ret ?_ | refine ret_done ?_)
    exact outs_tup2 (outs_i (Int.mul_comm _ _)) (outs_b (decide_eq_true h).symm)
  · have e : inTurnR a = 0 := if_neg h
    rw [e]
    repeat (first | (refine step_ops ?_; (refine m_mov (by conv => lhs; whnf) ?_)) | refine end_ops ?_ | refine seq_ops ?_ | refine AW_seq ?_)
    (refine step_ops ?_); (apply m_call (isCoupleCount_spec _)); (· repeat (first | exact lends_nil | (refine lends_cons ?_ ?_; (· exact lend_v))))
    repeat (first | (refine step_ops ?_; (first | (refine m_mov (by conv => lhs; whnf) ?_) | (refine m_not rfl ?_))) | refine end_ops ?_ | refine seq_ops ?_ | (refine cond_t rfl ?_ ?_; (· first | rfl | assumption | (refine decide_eq_true ?_; first | assumption | omega) | (refine nt ?_; first | assumption | omega) | (simp [*]; done))) | refine AW_ret ?_ | refine ret_done ?_ | refine ret_then ?_)
    exact outs_tup2 (outs_i rfl) (outs_b (decide_eq_false h).symm)
end Go.Proofs.YtmmcldbldbpikaaDoor
namespace Go.Am
theorem g_unt {P : Program} {own : Bool} {s : AS} {K : AS → Prop} {d : Option Nat} {op : AOp} {t : Nat} {w : Bool} (h : s.tm t = .v undef) (k : K (s.put d (.v undef))) : aop1 P own ⟨d, op, some (t, w)⟩ s K := .inr ⟨h, k⟩
end Go.Am
namespace Go.Proofs.YtmmcldbldbpikaaDoor
open Go.Am
attribute [local irreducible] AW Outs Weak Lends Lend Sp aops atree aop1 Then Round InBlock Done
attribute [local irreducible] SpH SpX DoneH DoneX
/-- The first part of a code. -/
def fstC : ACode → ACode
  | .seq x _ => x
  | c => c
def sndN : Nat → ACode → ACode
  | 0, c => c
  | n + 1, c => sndN n (sndC c)
theorem xor_self (b : Bool) : (true ^^ (b == b)) = false := by cases b <;> rfl
def twF : ACode := sndN 23 ac3
def twE : ACode := sndN 22 ac3
def twD : ACode := sndN 21 ac3
def twC : ACode := sndN 20 ac3
set_option maxRecDepth 20000 in
theorem tw6 (m : Int) : AW Tryd.prog (min Tryd.f3.ntmps pbase) twF (st [(2, .i m), (35, newInts ((frstT m).getD [])), (36, .b (frstT m).isSome)] []) (Done [8].reverse (.b true)) := by
  by_cases h5 : 1 ≤ m ∧ m ≤ 7
  · obtain ⟨c, rfl⟩ := Int.eq_ofNat_of_zero_le (show 0 ≤ m by omega)
    by_cases h1 : 1 < c
    · obtain ⟨F, hF, _⟩ := frst_ok (c := c) h1 (by omega)
      by_cases h4 : c < 4
      · obtain ⟨⟨w1, w2, w3, w4⟩, wn⟩ := allA_walk c h4 h1
        have hlen : ∀ k, k < (allA c).length → ((allA c).getD k []).length ≤ 14 := fun k hk => by
          have := (apart_tab (c := c) (by omega) (by omega) (x := (allA c).getD k []) (by
            have hm : (allA c).getD k [] ∈ allA c := by simp [hk]
            exact hm)).1
          omega
        have hct := implCountTogether_spec (c : Nat) 0
        obtain ⟨o1, o2, _⟩ := tog_at (c := c) (t := 0) (by omega) (by omega) (Nat.zero_le _)
        rw [show (((0 : Nat) : Int)) = 0 from rfl] at o1 o2
        rw [o2, decide_eq_true o1, ← w4] at hct
        rw [w1]
        generalize allA c = G at *
        show AW _ _ twF (st [(2, .i (c : Nat)), (35, newInts (G.getD 0 [])), (36, .b true)] []) _
        unfold twF
        unfold ac3
        simp only [sndN, sndC]
        repeat (first | (refine step_ops ?_; ((try (refine g_yes rfl ?_ ?_; (· first | rfl | assumption | (refine decide_eq_true ?_; first | assumption | omega) | (refine nt ?_; first | assumption | omega) | (simp [*]; done) | (refine decide_eq_false ?_; first | assumption | omega) | (refine nf ?_; first | assumption | omega)))); (first | (refine m_mov (by conv => lhs; whnf) ?_) | (refine m_lss rfl rfl ?_) | (refine m_pick_t rfl ?_ (by conv => lhs; whnf) ?_; (· first | rfl | assumption | (refine decide_eq_true ?_; first | assumption | omega) | (refine nt ?_; first | assumption | omega) | (simp [*]; done)))))) | refine end_ops ?_ | refine seq_ops ?_ | (refine cond_t rfl ?_ ?_; (· first | rfl | assumption | (refine decide_eq_true ?_; first | assumption | omega) | (refine nt ?_; first | assumption | omega) | (simp [*]; done))) | refine AW_seq ?_ | refine AW_block ?_)
        refine AW_loop (α := Nat) (fun k => 1 ≤ k ∧ k ≤ G.length) (fun k => st [(2, .i (c : Nat)), (59, .i (k : Nat)), (60, newInts (G.getD (k - 1) []))] []) (fun k => G.length - k) 1 ⟨Nat.le_refl _, w2⟩ (weak_st ?_ ?_ rfl rfl) ?_
        · (repeat' (first | exact trivial | refine And.intro ?_ ?_)) <;> (first | rfl | skip)
        · trivial
        rintro k ⟨hk1, hk2⟩
        have hn := wn (k - 1) (by omega)
        rw [show k - 1 + 1 = k by omega] at hn
        have hs := implNextApart_spec (G.getD (k - 1) []) (by have := hlen (k - 1) (by omega); omega)
        unfold srchR at hs
        by_cases hc : k < G.length
        · rw [if_pos hc] at hn
          rw [hn] at hs
          replace hs : Sp Tryd.prog 18 [ints (G.getD (k - 1) [])] (.tup [newInts (G.getD k []), .b true]) := hs
          repeat (first | (refine step_ops ?_; (first | (refine m_mov (by conv => lhs; whnf) ?_) | (refine m_lss rfl rfl ?_))) | refine end_ops ?_ | refine seq_ops ?_ | (refine cond_t rfl ?_ ?_; (· first | rfl | assumption | (refine decide_eq_true ?_; first | assumption | omega) | (refine nt ?_; first | assumption | omega) | (simp [*]; done))) | refine skip_then ?_ | refine AW_seq ?_ | refine AW_block ?_)
          refine step_ops ?_; (apply m_call (hs)); (· repeat (first | exact lends_nil | (refine lends_cons ?_ ?_; (· (refine lend_ints ?_; first | rfl | omega)))))
          repeat (first | (refine step_ops ?_; (first | (refine m_mov (by conv => lhs; whnf) ?_) | (refine m_add rfl rfl ?_ ?_ ?_; (· omega); (· omega)) | (refine m_not rfl ?_) | (refine m_ext rfl rfl ?_))) | refine end_ops ?_ | refine seq_ops ?_ | refine AW_ops ?_ | (refine cond_f rfl ?_ ?_; (· first | rfl | assumption | (refine decide_eq_false ?_; first | assumption | omega) | (refine nf ?_; first | assumption | omega) | (simp [*]; done))) | refine skip_then ?_ | refine AW_seq ?_ | refine norm_block ?_)
          refine next_round (k + 1) ⟨by omega, by omega⟩ (weak_st ?_ ?_ rfl rfl) (by omega)
          · (repeat' (first | exact trivial | refine And.intro ?_ ?_)) <;> (first | rfl | skip)
          · trivial
        · rw [if_neg hc] at hn
          rw [hn] at hs
          replace hs : Sp Tryd.prog 18 [ints (G.getD (k - 1) [])] (.tup [newInts [], .b false]) := hs
          have he : ((G.length : Nat) : Int) = (k : Nat) := by omega
          repeat (first | (refine step_ops ?_; (first | (refine m_mov (by conv => lhs; whnf) ?_) | (refine m_lss rfl rfl ?_))) | refine end_ops ?_ | refine seq_ops ?_ | (refine cond_t rfl ?_ ?_; (· first | rfl | assumption | (refine decide_eq_true ?_; first | assumption | omega) | (refine nt ?_; first | assumption | omega) | (simp [*]; done))) | refine skip_then ?_ | refine AW_seq ?_ | refine AW_block ?_)
          refine step_ops ?_; (apply m_call (hs)); (· repeat (first | exact lends_nil | (refine lends_cons ?_ ?_; (· (refine lend_ints ?_; first | rfl | omega)))))
          repeat (first | (refine step_ops ?_; (first | (refine m_mov (by conv => lhs; whnf) ?_) | (refine m_not rfl ?_) | (refine m_ext rfl rfl ?_))) | refine end_ops ?_ | refine seq_ops ?_ | (refine cond_t rfl ?_ ?_; (· first | rfl | assumption | (refine decide_eq_true ?_; first | assumption | omega) | (refine nt ?_; first | assumption | omega) | (simp [*]; done))) | refine AW_seq ?_ | refine norm_then ?_ | refine exit_then ?_ | refine exit_round ?_ | refine AW_exit ?_ | refine exit_block ?_ | (refine exit_other ?_ ?_; (· decide)))
          refine step_ops ?_; (apply m_call (hct)); (· repeat (first | exact lends_nil | (refine lends_cons ?_ ?_; (· exact lend_v))))
          repeat (first | (refine step_ops ?_; ((try (refine g_yes rfl ?_ ?_; (· first | rfl | assumption | (refine decide_eq_true ?_; first | assumption | omega) | (refine nt ?_; first | assumption | omega) | (simp [*]; done) | (refine decide_eq_false ?_; first | assumption | omega) | (refine nf ?_; first | assumption | omega)))); (first | (refine m_mov (by conv => lhs; whnf) ?_) | (refine m_eql rfl rfl ?_) | (refine m_pick_t rfl ?_ (by conv => lhs; whnf) ?_; (· first | rfl | assumption | (refine decide_eq_true ?_; first | assumption | omega) | (refine nt ?_; first | assumption | omega) | (simp [*]; done))) | (refine m_ext rfl rfl ?_)))) | refine end_ops ?_ | refine seq_ops ?_ | refine AW_ret ?_ | refine ret_done ?_ | refine ret_then ?_)
          exact outs_b (decide_eq_true he)
      · rw [hF]
        show AW _ _ twF (st [(2, .i (c : Nat)), (35, newInts F), (36, .b true)] []) _
        unfold twF
        unfold ac3
        simp only [sndN, sndC]
        repeat (first | (refine step_ops ?_; ((try (refine g_yes rfl ?_ ?_; (· first | rfl | assumption | (refine decide_eq_true ?_; first | assumption | omega) | (refine nt ?_; first | assumption | omega) | (simp [*]; done) | (refine decide_eq_false ?_; first | assumption | omega) | (refine nf ?_; first | assumption | omega)))); (first | (refine m_mov (by conv => lhs; whnf) ?_) | (refine m_lss rfl rfl ?_) | (refine m_pick_t rfl ?_ (by conv => lhs; whnf) ?_; (· first | rfl | assumption | (refine decide_eq_true ?_; first | assumption | omega) | (refine nt ?_; first | assumption | omega) | (simp [*]; done)))))) | refine end_ops ?_ | refine seq_ops ?_ | (refine cond_f rfl ?_ ?_; (· first | rfl | assumption | (refine decide_eq_false ?_; first | assumption | omega) | (refine nf ?_; first | assumption | omega) | (simp [*]; done))) | refine skip_then ?_ | refine AW_seq ?_ | refine AW_ret ?_ | refine ret_done ?_)
        exact outs_b rfl
    · have hs := frst_some c (by omega) (by omega)
      rw [decide_eq_false h1] at hs
      rw [hs]
      generalize (frstT ((c : Nat) : Int)).getD [] = F
      unfold twF
      unfold ac3
      simp only [sndN, sndC]
      repeat (first | (refine step_ops ?_; (first | (first | (refine m_mov (by conv => lhs; whnf) ?_) | (refine m_pick_f rfl ?_ (by conv => lhs; whnf) ?_; (· first | rfl | assumption | (refine decide_eq_false ?_; first | assumption | omega) | (refine nf ?_; first | assumption | omega) | (simp [*]; done)))) | (refine g_noT rfl ?_ ?_; (· first | rfl | assumption | (refine decide_eq_false ?_; first | assumption | omega) | (refine nf ?_; first | assumption | omega) | (simp [*]; done))))) | refine end_ops ?_ | refine seq_ops ?_ | (refine cond_f rfl ?_ ?_; (· first | rfl | assumption | (refine decide_eq_false ?_; first | assumption | omega) | (refine nf ?_; first | assumption | omega) | (simp [*]; done))) | refine skip_then ?_ | refine AW_seq ?_ | refine AW_ret ?_ | refine ret_done ?_)
      exact outs_b rfl
  · have hs : frstT m = none := if_neg h5
    rw [hs]
    show AW _ _ twF (st [(2, .i m), (35, newInts []), (36, .b false)] []) _
    unfold twF
    unfold ac3
    simp only [sndN, sndC]
    repeat (first | (refine step_ops ?_; (first | (first | (refine m_mov (by conv => lhs; whnf) ?_) | (refine m_pick_f rfl ?_ (by conv => lhs; whnf) ?_; (· first | rfl | assumption | (refine decide_eq_false ?_; first | assumption | omega) | (refine nf ?_; first | assumption | omega) | (simp [*]; done)))) | (refine g_noT rfl ?_ ?_; (· first | rfl | assumption | (refine decide_eq_false ?_; first | assumption | omega) | (refine nf ?_; first | assumption | omega) | (simp [*]; done))))) | refine end_ops ?_ | refine seq_ops ?_ | (refine cond_f rfl ?_ ?_; (· first | rfl | assumption | (refine decide_eq_false ?_; first | assumption | omega) | (refine nf ?_; first | assumption | omega) | (simp [*]; done))) | refine skip_then ?_ | refine AW_seq ?_ | refine AW_ret ?_ | refine ret_done ?_)
    exact outs_b rfl
theorem coup_none {N : List Int} (ht : IsTab N) (h0 : aroundT N = 0) : Sp Tryd.prog 21 [ints N] (.tup [newInts [], .b true]) := by
  have h := implCouplesTogether_spec N (by have := ht.2.1; omega)
  rw [h0, togR, if_pos ht, nums_zero, decide_eq_true ht] at h
  exact h
theorem tw5 (m : Int) (L : List Int) (hL : L.length ≤ 10000) : AW Tryd.prog (min Tryd.f3.ntmps pbase) twE (st [(2, .i m), (3, ints L), (35, newInts ((frstT m).getD [])), (36, .b (frstT m).isSome), (39, newInts ((nextT L).getD [])), (40, .b (nextT L).isSome)] []) (Done [8].reverse (.b true)) := by
  have h6 := tw6 m
  have hp : twE = .seq (fstC twE) twF := rfl
  rw [hp]
  clear hp
  generalize twF = c6 at *
  generalize (frstT m).getD [] = R1 at *
  generalize (frstT m).isSome = B1 at *
  cases hN : nextT L with
  | none =>
    show AW _ _ _ (st [(2, .i m), (3, ints L), (35, newInts R1), (36, .b B1), (39, newInts []), (40, .b false)] []) _
    unfold twE
    unfold ac3
    simp only [sndN, sndC, fstC]
    repeat (first | (refine step_ops ?_; (refine m_mov (by conv => lhs; whnf) ?_)) | refine end_ops ?_ | refine seq_ops ?_ | (refine cond_f rfl ?_ ?_; (· first | rfl | assumption | (refine decide_eq_false ?_; first | assumption | omega) | (refine nf ?_; first | assumption | omega) | (simp [*]; done))) | refine skip_then ?_ | refine AW_seq ?_)
    refine AW_weak (weak_st ?_ ?_ rfl rfl) h6
    · (repeat' (first | exact trivial | refine And.intro ?_ ?_)) <;> (first | rfl | skip)
    · trivial
  | some N =>
    obtain ⟨n1, n2, n3, n4, n5⟩ := next_ok hN
    have hc := coup_none n2 n3
    have hv := vBefore_spec L N (by omega) n1
    rw [n5] at hv
    have n6 : 0 < N.length := by have := n2.1; omega
    have n7 : N.getD (Int.toNat 0 * 1) 0 = 0 := n4
    have n8 : N[0]?.getD 0 = 0 := by simpa [List.getD_eq_getElem?_getD] using n4
    show AW _ _ _ (st [(2, .i m), (3, ints L), (35, newInts R1), (36, .b B1), (39, newInts N), (40, .b true)] []) _
    unfold twE
    unfold ac3
    simp only [sndN, sndC, fstC]
    repeat (first | (refine step_ops ?_; (refine m_mov (by conv => lhs; whnf) ?_)) | refine end_ops ?_ | refine seq_ops ?_ | (refine cond_t rfl ?_ ?_; (· first | rfl | assumption | (refine decide_eq_true ?_; first | assumption | omega) | (refine nt ?_; first | assumption | omega) | (simp [*]; done))) | refine AW_seq ?_)
    refine step_ops ?_; (apply m_call (hc)); (· repeat (first | exact lends_nil | (refine lends_cons ?_ ?_; (· (refine lend_ints ?_; first | rfl | omega)))))
    repeat (first | (refine step_ops ?_; ((try (refine g_yes rfl ?_ ?_; (· first | rfl | assumption | (refine decide_eq_true ?_; first | assumption | omega) | (refine nt ?_; first | assumption | omega) | (simp [*]; done) | (refine decide_eq_false ?_; first | assumption | omega) | (refine nf ?_; first | assumption | omega)))); (first | (refine m_mov (by conv => lhs; whnf) ?_) | (refine m_neq rfl rfl ?_) | (refine m_not rfl ?_) | (refine m_len_ro rfl ?_) | (refine m_idx1_ro rfl rfl ?_ ?_; (· omega)) | (refine m_ld_rpi rfl ?_ ?_; (· omega)) | (refine m_pick_f rfl ?_ (by conv => lhs; whnf) ?_; (· first | rfl | assumption | (refine decide_eq_false ?_; first | assumption | omega) | (refine nf ?_; first | assumption | omega) | (simp [*]; done))) | (refine m_ext rfl rfl ?_)))) | refine end_ops ?_ | refine seq_ops ?_)
    refine step_ops ?_; (refine g_yes rfl ?_ ?_; (· first | (first | rfl | assumption | (refine decide_eq_true ?_; first | assumption | omega) | (refine nt ?_; first | assumption | omega) | (simp [*]; done)) | (first | rfl | assumption | (refine decide_eq_false ?_; first | assumption | omega) | (refine nf ?_; first | assumption | omega) | (simp [*]; done))); (apply m_call (hv))); (· repeat (first | exact lends_nil | (refine lends_cons ?_ ?_; (· (refine lend_ints ?_; first | rfl | omega)))))
    repeat (first | (refine step_ops ?_; ((try (refine g_yes rfl ?_ ?_; (· first | rfl | assumption | (refine decide_eq_true ?_; first | assumption | omega) | (refine nt ?_; first | assumption | omega) | (simp [*]; done) | (refine decide_eq_false ?_; first | assumption | omega) | (refine nf ?_; first | assumption | omega)))); (first | (refine m_not rfl ?_) | (refine m_pick_f rfl ?_ (by conv => lhs; whnf) ?_; (· first | rfl | assumption | (refine decide_eq_false ?_; first | assumption | omega) | (refine nf ?_; first | assumption | omega) | (simp [*]; done)))))) | refine end_ops ?_ | (refine cond_f rfl ?_ ?_; (· first | rfl | assumption | (refine decide_eq_false ?_; first | assumption | omega) | (refine nf ?_; first | assumption | omega) | (simp [*]; done))) | refine skip_then ?_)
    refine AW_weak (weak_st ?_ ?_ rfl rfl) h6
    · (repeat' (first | exact trivial | refine And.intro ?_ ?_)) <;> (first | rfl | skip)
    · trivial
theorem tw4 (m : Int) (L : List Int) (hL : L.length ≤ 10000) : AW Tryd.prog (min Tryd.f3.ntmps pbase) twD (st [(2, .i m), (3, ints L), (35, newInts ((frstT m).getD [])), (36, .b (frstT m).isSome), (39, newInts ((nextT L).getD [])), (40, .b (nextT L).isSome)] []) (Done [8].reverse (.b true)) := by
  have h6 := tw5 m L hL
  have hp : twD = .seq (fstC twD) twE := rfl
  rw [hp]
  clear hp
  generalize twE = c6 at *
  generalize (nextT L).getD [] = R1 at *
  generalize (nextT L).isSome = B1 at *
  by_cases h5 : (frstT m).isSome = true
  · have hm : 1 ≤ m ∧ m ≤ 7 := by
      refine Classical.byContradiction fun hh => ?_
      rw [frstT, if_neg hh] at h5
      cases h5
    obtain ⟨c, rfl⟩ := Int.eq_ofNat_of_zero_le (show 0 ≤ m by omega)
    have h1 : 1 < c := by
      rw [frst_some c (by omega) (by omega), decide_eq_true_eq] at h5
      exact h5
    obtain ⟨N, hN, n1, n2, n3, n4⟩ := frst_ok (c := c) h1 (by omega)
    have hc := coup_none n2 n3
    have n6 : 0 < N.length := by have := n2.1; omega
    have n7 : N.getD (Int.toNat 0 * 1) 0 = 0 := n4
    have n8 : N[0]?.getD 0 = 0 := by simpa [List.getD_eq_getElem?_getD] using n4
    rw [hN] at h6 ⊢
    replace h6 : AW Tryd.prog (min Tryd.f3.ntmps pbase) c6 (st [(2, .i (c : Nat)), (3, ints L), (35, newInts N), (36, .b true), (39, newInts R1), (40, .b B1)] []) (Done [8].reverse (.b true)) := h6
    show AW _ _ _ (st [(2, .i (c : Nat)), (3, ints L), (35, newInts N), (36, .b true), (39, newInts R1), (40, .b B1)] []) _
    unfold twD
    unfold ac3
    simp only [sndN, sndC, fstC]
    repeat (first | (refine step_ops ?_; (refine m_mov (by conv => lhs; whnf) ?_)) | refine end_ops ?_ | refine seq_ops ?_ | (refine cond_t rfl ?_ ?_; (· first | rfl | assumption | (refine decide_eq_true ?_; first | assumption | omega) | (refine nt ?_; first | assumption | omega) | (simp [*]; done))) | refine AW_seq ?_)
    refine step_ops ?_; (apply m_call (hc)); (· repeat (first | exact lends_nil | (refine lends_cons ?_ ?_; (· (refine lend_ints ?_; first | rfl | omega)))))
    repeat (first | (refine step_ops ?_; ((try (refine g_yes rfl ?_ ?_; (· first | rfl | assumption | (refine decide_eq_true ?_; first | assumption | omega) | (refine nt ?_; first | assumption | omega) | (simp [*]; done) | (refine decide_eq_false ?_; first | assumption | omega) | (refine nf ?_; first | assumption | omega)))); (first | (refine m_mov (by conv => lhs; whnf) ?_) | (refine m_neq rfl rfl ?_) | (refine m_not rfl ?_) | (refine m_len_ro rfl ?_) | (refine m_idx1_ro rfl rfl ?_ ?_; (· omega)) | (refine m_ld_rpi rfl ?_ ?_; (· omega)) | (refine m_pick_f rfl ?_ (by conv => lhs; whnf) ?_; (· first | rfl | assumption | (refine decide_eq_false ?_; first | assumption | omega) | (refine nf ?_; first | assumption | omega) | (simp [*]; done))) | (refine m_ext rfl rfl ?_)))) | refine end_ops ?_ | refine seq_ops ?_ | (refine cond_f rfl ?_ ?_; (· first | rfl | assumption | (refine decide_eq_false ?_; first | assumption | omega) | (refine nf ?_; first | assumption | omega) | (simp [*]; done))) | refine skip_then ?_)
    refine AW_weak (weak_st ?_ ?_ rfl rfl) h6
    · (repeat' (first | exact trivial | refine And.intro ?_ ?_)) <;> (first | rfl | skip)
    · trivial
  · have h7 : (frstT m).isSome = false := by simpa using h5
    rw [h7] at h6 ⊢
    generalize (frstT m).getD [] = R2 at *
    unfold twD
    unfold ac3
    simp only [sndN, sndC, fstC]
    repeat (first | (refine step_ops ?_; (refine m_mov (by conv => lhs; whnf) ?_)) | refine end_ops ?_ | refine seq_ops ?_ | (refine cond_f rfl ?_ ?_; (· first | rfl | assumption | (refine decide_eq_false ?_; first | assumption | omega) | (refine nf ?_; first | assumption | omega) | (simp [*]; done))) | refine skip_then ?_ | refine AW_seq ?_)
    refine AW_weak (weak_st ?_ ?_ rfl rfl) h6
    · (repeat' (first | exact trivial | refine And.intro ?_ ?_)) <;> (first | rfl | skip)
    · trivial
end Go.Proofs.YtmmcldbldbpikaaDoor
namespace Go.Proofs.YtmmcldbldbpikaaDoor
open Go.Am
attribute [local irreducible] AW Outs Weak Lends Lend Sp aops atree aop1 Then Round InBlock Done
attribute [local irreducible] SpH SpX DoneH DoneX
def twB2 : ACode := sndN 19 ac3
def twB : ACode := sndN 9 ac3
def twA2 : ACode := sndN 8 ac3
set_option maxRecDepth 20000 in
theorem tw3 (m : Int) (L : List Int) (hL : L.length ≤ 10000) : AW Tryd.prog (min Tryd.f3.ntmps pbase) twC (st [(2, .i m), (3, ints L), (21, .i (roundR m)), (22, .b (decide (1 ≤ m ∧ m ≤ 7))), (25, .i (inTurnR m)), (29, .i (chNum m)), (30, .i (chDen m)), (35, newInts ((frstT m).getD [])), (36, .b (frstT m).isSome), (39, newInts ((nextT L).getD [])), (40, .b (nextT L).isSome)] []) (Done [8].reverse (.b true)) := by
  have h6 := tw4 m L hL
  have hp : twC = .seq (fstC twC) twD := rfl
  rw [hp]
  clear hp
  generalize twD = c6 at *
  generalize (nextT L).getD [] = R1 at *
  generalize (nextT L).isSome = B1 at *
  generalize (frstT m).getD [] = R2 at *
  generalize (frstT m).isSome = B2 at *
  by_cases h : 1 ≤ m ∧ m ≤ 7
  · obtain ⟨c, rfl⟩ := Int.eq_ofNat_of_zero_le (show 0 ≤ m by omega)
    have h1 : 1 ≤ c := by omega
    have h7 : c ≤ 7 := by omega
    have e1 : roundR ((c : Nat) : Int) = fac (2 * c - 1) := by rw [roundR, if_pos h, Int.toNat_natCast]
    have e2 : inTurnR ((c : Nat) : Int) = fac c * fac (c - 1) := by rw [inTurnR, if_pos h, Int.toNat_natCast]
    obtain ⟨a1, a2, a3, a4, a5, a6, a7, a8, a9⟩ := tw_all c (by omega) h1
    rw [decide_eq_true h, e1, e2]
    have hf := fac14_le
    have hnum := tw_num c (by omega) h1
    have hsum := tw_sum c (by omega) h1
    have htog : ∀ k, k ≤ c → TogOk c k ∧ togNum c k = tN c k ∧ rowNum c k = rN c k ∧ turnNum c k = turnN c k := fun k hk => tog_at h1 h7 hk
    have a4' : rS c (c + 1) = 2 * (c : Int) * fac (2 * c - 1) := by rw [a2, a4]
    generalize hX : fac (2 * c - 1) = X at *
    generalize fac c * fac (c - 1) = Y at *
    generalize chNum ((c : Nat) : Int) = P at *
    generalize chDen ((c : Nat) : Int) = Q at *
    unfold twC
    unfold ac3
    simp only [sndN, sndC, fstC]
    repeat (first | (refine step_ops ?_; (refine m_mov (by conv => lhs; whnf) ?_)) | refine end_ops ?_ | refine seq_ops ?_ | (refine cond_t rfl ?_ ?_; (· first | rfl | assumption | (refine decide_eq_true ?_; first | assumption | omega) | (refine nt ?_; first | assumption | omega) | (simp [*]; done))) | refine AW_seq ?_ | refine AW_block ?_)
    refine AW_loop (α := Nat) (fun k => k ≤ c + 1) (fun k => st [(2, .i (c : Nat)), (3, ints L), (21, .i X), (25, .i Y), (29, .i P), (30, .i Q), (35, newInts R2), (36, .b B2), (39, newInts R1), (40, .b B1), (43, .i (tS c k)), (44, .i (rS c k)), (45, .i (uS c k)), (46, .i 1), (47, .i (k : Nat))] []) (fun k => c + 1 - k) 0 (Nat.zero_le _) (weak_st ?_ ?_ rfl rfl) ?_
    · (repeat' (first | exact trivial | refine And.intro ?_ ?_)) <;> (first | rfl | skip)
    · trivial
    · intro k hk
      by_cases hc : k < c + 1
      · obtain ⟨o1, o2, o3, o4⟩ := htog k (by omega)
        have c1 := implCountTogether_spec (c : Nat) (k : Nat)
        have c2 := implCountInRow_spec (c : Nat) (k : Nat)
        have c3 := implCountTurnTogether_spec (c : Nat) (k : Nat)
        rw [o2, decide_eq_true o1] at c1
        rw [o3, decide_eq_true o1] at c2
        rw [o4, decide_eq_true o1] at c3
        have n1 := hnum k hc
        have n2 := hsum k (by omega)
        have n3 := hsum (k + 1) (by omega)
        have s1 : tS c (k + 1) = tS c k + tN c k := rfl
        have s2 : rS c (k + 1) = rS c k + rN c k := rfl
        have s3 : uS c (k + 1) = uS c k + turnN c k := rfl
        by_cases hk0 : k = 0
        · subst hk0
          have a5' : X * P = tN c 0 * Q := a5.symm
          have b1 : 0 ≤ X * P ∧ X * P ≤ 9000000000000000000 := by rw [a5']; exact a6
          have b2 : decide (tN c 0 * Q ≠ X * P) = false := decide_eq_false fun hh => hh a5
          clear a5 a5'
          generalize tN c 0 = v1 at *
          generalize rN c 0 = v2 at *
          generalize turnN c 0 = v3 at *
          generalize tS c 0 = w1 at *
          generalize rS c 0 = w2 at *
          generalize uS c 0 = w3 at *
          repeat (first | (refine step_ops ?_; (first | (refine m_mov (by conv => lhs; whnf) ?_) | (refine m_leq rfl rfl ?_))) | refine end_ops ?_ | refine seq_ops ?_ | (refine cond_t rfl ?_ ?_; (· first | rfl | assumption | (refine decide_eq_true ?_; first | assumption | omega) | (refine nt ?_; first | assumption | omega) | (simp [*]; done))) | refine skip_then ?_ | refine AW_seq ?_ | refine AW_block ?_)
          refine step_ops ?_; (apply m_call (c1)); (· repeat (first | exact lends_nil | (refine lends_cons ?_ ?_; (· exact lend_v))))
          repeat (first | (refine step_ops ?_; (first | (refine m_mov (by conv => lhs; whnf) ?_) | (refine m_ext rfl rfl ?_))) | refine end_ops ?_ | refine seq_ops ?_)
          refine step_ops ?_; (apply m_call (c2)); (· repeat (first | exact lends_nil | (refine lends_cons ?_ ?_; (· exact lend_v))))
          repeat (first | (refine step_ops ?_; (first | (refine m_mov (by conv => lhs; whnf) ?_) | (refine m_ext rfl rfl ?_))) | refine end_ops ?_ | refine seq_ops ?_)
          refine step_ops ?_; (apply m_call (c3)); (· repeat (first | exact lends_nil | (refine lends_cons ?_ ?_; (· exact lend_v))))
          repeat (first | (refine step_ops ?_; ((try (refine g_yes rfl ?_ ?_; (· first | rfl | assumption | (refine decide_eq_true ?_; first | assumption | omega) | (refine nt ?_; first | assumption | omega) | (simp [*]; done) | (refine decide_eq_false ?_; first | assumption | omega) | (refine nf ?_; first | assumption | omega)))); (first | (refine m_mov (by conv => lhs; whnf) ?_) | (refine m_eql rfl rfl ?_) | (refine m_neq rfl rfl ?_) | (refine m_add rfl rfl ?_ ?_ ?_; (· omega); (· omega)) | (refine m_mul rfl rfl ?_ ?_ ?_; (· first | omega | (simp; done)); (· first | omega | (simp; done))) | (refine m_not rfl ?_) | (refine m_pick_t rfl ?_ (by conv => lhs; whnf) ?_; (· first | rfl | assumption | (refine decide_eq_true ?_; first | assumption | omega) | (refine nt ?_; first | assumption | omega) | (simp [*]; done))) | (refine m_pick_f rfl ?_ (by conv => lhs; whnf) ?_; (· first | rfl | assumption | (refine decide_eq_false ?_; first | assumption | omega) | (refine nf ?_; first | assumption | omega) | (simp [*]; done))) | (refine m_ext rfl rfl ?_)))) | refine end_ops ?_ | refine seq_ops ?_ | refine AW_ops ?_ | (refine cond_f rfl ?_ ?_; (· first | rfl | assumption | (refine decide_eq_false ?_; first | assumption | omega) | (refine nf ?_; first | assumption | omega) | (simp [*]; done))) | refine skip_then ?_ | refine AW_seq ?_ | refine norm_then ?_ | refine norm_block ?_)
          refine next_round (0 + 1) (by omega) (weak_st ?_ ?_ rfl rfl) (by omega)
          · rw [s1, s2, s3]; (repeat' (first | exact trivial | refine And.intro ?_ ?_)) <;> (first | rfl | skip)
          · trivial
        · generalize tN c k = v1 at *
          generalize rN c k = v2 at *
          generalize turnN c k = v3 at *
          generalize tS c k = w1 at *
          generalize rS c k = w2 at *
          generalize uS c k = w3 at *
          clear a6 a5
          repeat (first | (refine step_ops ?_; (first | (refine m_mov (by conv => lhs; whnf) ?_) | (refine m_leq rfl rfl ?_))) | refine end_ops ?_ | refine seq_ops ?_ | (refine cond_t rfl ?_ ?_; (· first | rfl | assumption | (refine decide_eq_true ?_; first | assumption | omega) | (refine nt ?_; first | assumption | omega) | (simp [*]; done))) | refine skip_then ?_ | refine AW_seq ?_ | refine AW_block ?_)
          refine step_ops ?_; (apply m_call (c1)); (· repeat (first | exact lends_nil | (refine lends_cons ?_ ?_; (· exact lend_v))))
          repeat (first | (refine step_ops ?_; (first | (refine m_mov (by conv => lhs; whnf) ?_) | (refine m_ext rfl rfl ?_))) | refine end_ops ?_ | refine seq_ops ?_)
          refine step_ops ?_; (apply m_call (c2)); (· repeat (first | exact lends_nil | (refine lends_cons ?_ ?_; (· exact lend_v))))
          repeat (first | (refine step_ops ?_; (first | (refine m_mov (by conv => lhs; whnf) ?_) | (refine m_ext rfl rfl ?_))) | refine end_ops ?_ | refine seq_ops ?_)
          refine step_ops ?_; (apply m_call (c3)); (· repeat (first | exact lends_nil | (refine lends_cons ?_ ?_; (· exact lend_v))))
          repeat (first | ((first | (refine step_ops ?_; (first | ((try (refine g_yes rfl ?_ ?_; (· first | rfl | assumption | (refine decide_eq_true ?_; first | assumption | omega) | (refine nt ?_; first | assumption | omega) | (simp [*]; done) | (refine decide_eq_false ?_; first | assumption | omega) | (refine nf ?_; first | assumption | omega)))); (first | (refine m_mov (by conv => lhs; whnf) ?_) | (refine m_eql rfl rfl ?_) | (refine m_add rfl rfl ?_ ?_ ?_; (· omega); (· omega)) | (refine m_not rfl ?_) | (refine m_pick_f rfl ?_ (by conv => lhs; whnf) ?_; (· first | rfl | assumption | (refine decide_eq_false ?_; first | assumption | omega) | (refine nf ?_; first | assumption | omega) | (simp [*]; done))) | (refine m_ext rfl rfl ?_))) | (refine g_noT rfl ?_ ?_; (· first | rfl | assumption | (refine decide_eq_false ?_; first | assumption | omega) | (refine nf ?_; first | assumption | omega) | (simp [*]; done))))) | refine end_ops ?_ | refine seq_ops ?_ | refine AW_ops ?_ | (refine cond_f rfl ?_ ?_; (· first | rfl | assumption | (refine decide_eq_false ?_; first | assumption | omega) | (refine nf ?_; first | assumption | omega) | (simp [*]; done))) | refine skip_then ?_ | refine AW_seq ?_ | refine norm_then ?_ | refine norm_block ?_)) | (refine step_ops ?_; refine g_unt rfl ?_))
          refine next_round (k + 1) (by omega) (weak_st ?_ ?_ rfl rfl) (by omega)
          · rw [s1, s2, s3]; (repeat' (first | exact trivial | refine And.intro ?_ ?_)) <;> (first | rfl | skip)
          · trivial
      · obtain rfl : k = c + 1 := by omega
        have hx2 : 0 ≤ 2 * (c : Int) * X ∧ 2 * (c : Int) * X ≤ 1000000000000 := by
          have := hsum (c + 1) (by omega)
          rw [a4'] at this
          exact this.2.1
        rw [a1, a3, a2]
        rw [a4] at a2
        clear a5 a6 hnum hsum htog
        repeat (first | (refine step_ops ?_; (first | (refine m_mov (by conv => lhs; whnf) ?_) | (refine m_leq rfl rfl ?_))) | refine end_ops ?_ | refine seq_ops ?_ | (refine cond_f rfl ?_ ?_; (· first | rfl | assumption | (refine decide_eq_false ?_; first | assumption | omega) | (refine nf ?_; first | assumption | omega) | (simp [*]; done))) | refine AW_seq ?_ | refine norm_then ?_ | refine exit_then ?_ | refine AW_block ?_ | refine exit_round ?_ | refine AW_exit ?_ | refine exit_block ?_)
        refine AW_loop (α := Nat) (fun j => j + 1 ≤ 2 * c) (fun j => st [(2, .i (c : Nat)), (3, ints L), (21, .i X), (25, .i Y), (35, newInts R2), (36, .b B2), (39, newInts R1), (40, .b B1), (43, .i X), (44, .i (fac (2 * c))), (45, .i Y), (46, .i (fac (j + 1))), (54, .i ((j : Int) + 2))] []) (fun j => 2 * c - j) 0 (by omega) (weak_st ?_ ?_ rfl rfl) ?_
        · (repeat' (first | exact trivial | refine And.intro ?_ ?_)) <;> (first | rfl | skip)
        · trivial
        intro j hj
        by_cases hc : (j : Int) + 2 ≤ 2 * (c : Int)
        · have hb := hf (j + 2) (by omega)
          have e : fac (j + 2) = fac (j + 1) * ((j : Int) + 2) := rfl
          rw [e] at hb
          repeat (first | (refine step_ops ?_; (first | (refine m_mov (by conv => lhs; whnf) ?_) | (refine m_leq rfl rfl ?_) | (refine m_add rfl rfl ?_ ?_ ?_; (· omega); (· omega)) | (refine m_mul rfl rfl ?_ ?_ ?_; (· first | omega | (simp; done)); (· first | omega | (simp; done))))) | refine end_ops ?_ | refine seq_ops ?_ | refine AW_ops ?_ | (refine cond_t rfl ?_ ?_; (· first | rfl | assumption | (refine decide_eq_true ?_; first | assumption | omega) | (refine nt ?_; first | assumption | omega) | (simp [*]; done))) | refine skip_then ?_ | refine AW_seq ?_ | refine norm_then ?_ | refine AW_block ?_ | refine norm_block ?_)
          refine next_round (j + 1) (by omega) (weak_st ?_ ?_ rfl rfl) (by omega)
          · (repeat' (first | exact trivial | refine And.intro ?_ ?_)) <;> (first | rfl | skip)
          · trivial
        · obtain rfl : j = 2 * c - 1 := by omega
          rw [show 2 * c - 1 + 1 = 2 * c by omega, a4]
          repeat (first | (refine step_ops ?_; ((try (refine g_yes rfl ?_ ?_; (· first | rfl | assumption | (refine decide_eq_true ?_; first | assumption | omega) | (refine nt ?_; first | assumption | omega) | (simp [*]; done) | (refine decide_eq_false ?_; first | assumption | omega) | (refine nf ?_; first | assumption | omega)))); (first | (refine m_mov (by conv => lhs; whnf) ?_) | (refine m_leq rfl rfl ?_) | (refine m_neq rfl rfl ?_) | (refine m_mul rfl rfl ?_ ?_ ?_; (· first | omega | (simp; done)); (· first | omega | (simp; done))) | (refine m_pick_f rfl ?_ (by conv => lhs; whnf) ?_; (· first | rfl | assumption | (refine decide_eq_false ?_; first | assumption | omega) | (refine nf ?_; first | assumption | omega) | (simp [*]; done)))))) | refine end_ops ?_ | refine seq_ops ?_ | (refine cond_f rfl ?_ ?_; (· first | rfl | assumption | (refine decide_eq_false ?_; first | assumption | omega) | (refine nf ?_; first | assumption | omega) | (simp [*]; done))) | refine skip_then ?_ | refine AW_seq ?_ | refine norm_then ?_ | refine exit_then ?_ | refine exit_round ?_ | refine AW_exit ?_ | refine exit_block ?_)
          refine AW_weak (weak_st ?_ ?_ rfl rfl) h6
          · (repeat' (first | exact trivial | refine And.intro ?_ ?_)) <;> (first | rfl | skip)
          · trivial
  · rw [decide_eq_false h]
    unfold twC
    unfold ac3
    simp only [sndN, sndC, fstC]
    repeat (first | (refine step_ops ?_; (refine m_mov (by conv => lhs; whnf) ?_)) | refine end_ops ?_ | refine seq_ops ?_ | (refine cond_f rfl ?_ ?_; (· first | rfl | assumption | (refine decide_eq_false ?_; first | assumption | omega) | (refine nf ?_; first | assumption | omega) | (simp [*]; done))) | refine skip_then ?_ | refine AW_seq ?_)
    refine AW_weak (weak_st ?_ ?_ rfl rfl) h6
    · (repeat' (first | exact trivial | refine And.intro ?_ ?_)) <;> (first | rfl | skip)
    · trivial
end Go.Proofs.YtmmcldbldbpikaaDoor
namespace Go.Proofs.YtmmcldbldbpikaaDoor
open Go.Am
attribute [local irreducible] AW Outs Weak Lends Lend Sp aops atree aop1 Then Round InBlock Done
attribute [local irreducible] SpH SpX DoneH DoneX
theorem tw2b (m : Int) (L : List Int) (hL : L.length ≤ 10000) : AW Tryd.prog (min Tryd.f3.ntmps pbase) twB2 (st [(2, .i m), (3, ints L), (21, .i (roundR m)), (22, .b (decide (1 ≤ m ∧ m ≤ 7))), (23, .i (roundR m)), (24, .b (decide (1 ≤ m ∧ m ≤ 7))), (25, .i (inTurnR m)), (26, .b (decide (1 ≤ m ∧ m ≤ 7))), (27, .i (inTurnR m)), (28, .b (decide (1 ≤ m ∧ m ≤ 7))), (29, .i (chNum m)), (30, .i (chDen m)), (31, .b (decide (1 ≤ m ∧ m ≤ 7))), (32, .i (chNum m)), (33, .i (chDen m)), (34, .b (decide (1 ≤ m ∧ m ≤ 7))), (35, newInts ((frstT m).getD [])), (36, .b (frstT m).isSome), (37, newInts ((frstT m).getD [])), (38, .b (frstT m).isSome), (39, newInts ((nextT L).getD [])), (40, .b (nextT L).isSome), (41, newInts ((nextT L).getD [])), (42, .b (nextT L).isSome)] []) (Done [8].reverse (.b true)) := by
  have h6 := tw3 m L hL
  have hp : twB2 = .seq (fstC twB2) twC := rfl
  rw [hp]
  clear hp
  generalize twC = c6 at *
  have l1 := vSame_self ((frstT m).getD []) (by have := frstT_le m; omega)
  have l2 := vSame_self ((nextT L).getD []) (by have := nextT_le L; omega)
  have hfs : (frstT m).isSome = true ↔ (1 ≤ m ∧ m ≤ 7) ∧ m > 1 := by
    by_cases h : 1 ≤ m ∧ m ≤ 7
    · obtain ⟨c, rfl⟩ := Int.eq_ofNat_of_zero_le (show 0 ≤ m by omega)
      rw [frst_some c (by omega) (by omega), decide_eq_true_eq]
      exact ⟨fun hh => ⟨h, by omega⟩, fun hh => by omega⟩
    · rw [frstT, if_neg h]
      exact ⟨(fun hh => by cases hh), fun hh => absurd hh.1 h⟩
  have x2 := xor_self (nextT L).isSome
  have n1 : decide (roundR m ≠ roundR m) = false := by simp
  have n2 : decide (inTurnR m ≠ inTurnR m) = false := by simp
  have n3 : decide (chNum m ≠ chNum m) = false := by simp
  have n4 : decide (chDen m ≠ chDen m) = false := by simp
  generalize (nextT L).getD [] = R1 at *
  generalize (nextT L).isSome = B1 at *
  generalize (frstT m).getD [] = R2 at *
  generalize (frstT m).isSome = B2 at *
  generalize roundR m = v1 at *
  generalize inTurnR m = v2 at *
  generalize chNum m = v3 at *
  generalize chDen m = v4 at *
  by_cases h : 1 ≤ m ∧ m ≤ 7
  · by_cases hm : m > 1
    · obtain rfl : B2 = true := hfs.2 ⟨h, hm⟩
      clear hfs
      rw [decide_eq_true h] at *
      unfold twB2
      unfold ac3
      simp only [sndN, sndC, fstC]
      repeat (first | (refine step_ops ?_; ((try (refine g_yes rfl ?_ ?_; (· first | rfl | assumption | (refine decide_eq_true ?_; first | assumption | omega) | (refine nt ?_; first | assumption | omega) | (simp [*]; done) | (refine decide_eq_false ?_; first | assumption | omega) | (refine nf ?_; first | assumption | omega)))); (first | (refine m_mov (by conv => lhs; whnf) ?_) | (refine m_neq rfl rfl ?_) | (refine m_beq rfl rfl ?_) | (refine m_pick_f rfl ?_ (by conv => lhs; whnf) ?_; (· first | rfl | assumption | (refine decide_eq_false ?_; first | assumption | omega) | (refine nf ?_; first | assumption | omega) | (simp [*]; done)))))) | refine seq_ops ?_ | refine AW_seq ?_)
      refine step_ops ?_; (refine g_yes rfl ?_ ?_; (· first | (first | rfl | assumption | (refine decide_eq_true ?_; first | assumption | omega) | (refine nt ?_; first | assumption | omega) | (simp [*]; done)) | (first | rfl | assumption | (refine decide_eq_false ?_; first | assumption | omega) | (refine nf ?_; first | assumption | omega) | (simp [*]; done))); (apply m_call (l1))); (· repeat (first | exact lends_nil | (refine lends_cons ?_ ?_; (· (refine lend_ints ?_; first | rfl | omega)))))
      repeat (refine step_ops ?_; ((try (refine g_yes rfl ?_ ?_; (· first | rfl | assumption | (refine decide_eq_true ?_; first | assumption | omega) | (refine nt ?_; first | assumption | omega) | (simp [*]; done) | (refine decide_eq_false ?_; first | assumption | omega) | (refine nf ?_; first | assumption | omega)))); (first | (refine m_mov (by conv => lhs; whnf) ?_) | (refine m_not rfl ?_) | (refine m_beq rfl rfl ?_) | (refine m_pick_f rfl ?_ (by conv => lhs; whnf) ?_; (· first | rfl | assumption | (refine decide_eq_false ?_; first | assumption | omega) | (refine nf ?_; first | assumption | omega) | (simp [*]; done))))))
      refine step_ops ?_; (refine g_yes rfl ?_ ?_; (· first | (first | rfl | assumption | (refine decide_eq_true ?_; first | assumption | omega) | (refine nt ?_; first | assumption | omega) | (simp [*]; done)) | (first | rfl | assumption | (refine decide_eq_false ?_; first | assumption | omega) | (refine nf ?_; first | assumption | omega) | (simp [*]; done))); (apply m_call (l2))); (· repeat (first | exact lends_nil | (refine lends_cons ?_ ?_; (· (refine lend_ints ?_; first | rfl | omega)))))
      repeat (first | (refine step_ops ?_; ((try (refine g_yes rfl ?_ ?_; (· first | rfl | assumption | (refine decide_eq_true ?_; first | assumption | omega) | (refine nt ?_; first | assumption | omega) | (simp [*]; done) | (refine decide_eq_false ?_; first | assumption | omega) | (refine nf ?_; first | assumption | omega)))); (first | (refine m_mov (by conv => lhs; whnf) ?_) | (refine m_gtr rfl rfl ?_) | (refine m_not rfl ?_) | (refine m_beq rfl rfl ?_) | (refine m_pick_t rfl ?_ (by conv => lhs; whnf) ?_; (· first | rfl | assumption | (refine decide_eq_true ?_; first | assumption | omega) | (refine nt ?_; first | assumption | omega) | (simp [*]; done))) | (refine m_pick_f rfl ?_ (by conv => lhs; whnf) ?_; (· first | rfl | assumption | (refine decide_eq_false ?_; first | assumption | omega) | (refine nf ?_; first | assumption | omega) | (simp [*]; done)))))) | refine end_ops ?_ | (refine cond_f rfl ?_ ?_; (· first | rfl | assumption | (refine decide_eq_false ?_; first | assumption | omega) | (refine nf ?_; first | assumption | omega) | (simp [*]; done))) | refine skip_then ?_)
      refine AW_weak (weak_st ?_ ?_ rfl rfl) h6
      · (repeat' (first | exact trivial | refine And.intro ?_ ?_)) <;> (first | rfl | skip)
      · trivial
    · obtain rfl : B2 = false := by
        cases B2 with
        | false => rfl
        | true => exact absurd (hfs.1 rfl).2 hm
      clear hfs
      rw [decide_eq_true h] at *
      unfold twB2
      unfold ac3
      simp only [sndN, sndC, fstC]
      repeat (first | (refine step_ops ?_; ((try (refine g_yes rfl ?_ ?_; (· first | rfl | assumption | (refine decide_eq_true ?_; first | assumption | omega) | (refine nt ?_; first | assumption | omega) | (simp [*]; done) | (refine decide_eq_false ?_; first | assumption | omega) | (refine nf ?_; first | assumption | omega)))); (first | (refine m_mov (by conv => lhs; whnf) ?_) | (refine m_neq rfl rfl ?_) | (refine m_beq rfl rfl ?_) | (refine m_pick_f rfl ?_ (by conv => lhs; whnf) ?_; (· first | rfl | assumption | (refine decide_eq_false ?_; first | assumption | omega) | (refine nf ?_; first | assumption | omega) | (simp [*]; done)))))) | refine seq_ops ?_ | refine AW_seq ?_)
      refine step_ops ?_; (refine g_yes rfl ?_ ?_; (· first | (first | rfl | assumption | (refine decide_eq_true ?_; first | assumption | omega) | (refine nt ?_; first | assumption | omega) | (simp [*]; done)) | (first | rfl | assumption | (refine decide_eq_false ?_; first | assumption | omega) | (refine nf ?_; first | assumption | omega) | (simp [*]; done))); (apply m_call (l1))); (· repeat (first | exact lends_nil | (refine lends_cons ?_ ?_; (· (refine lend_ints ?_; first | rfl | omega)))))
      repeat (refine step_ops ?_; ((try (refine g_yes rfl ?_ ?_; (· first | rfl | assumption | (refine decide_eq_true ?_; first | assumption | omega) | (refine nt ?_; first | assumption | omega) | (simp [*]; done) | (refine decide_eq_false ?_; first | assumption | omega) | (refine nf ?_; first | assumption | omega)))); (first | (refine m_mov (by conv => lhs; whnf) ?_) | (refine m_not rfl ?_) | (refine m_beq rfl rfl ?_) | (refine m_pick_f rfl ?_ (by conv => lhs; whnf) ?_; (· first | rfl | assumption | (refine decide_eq_false ?_; first | assumption | omega) | (refine nf ?_; first | assumption | omega) | (simp [*]; done))))))
      refine step_ops ?_; (refine g_yes rfl ?_ ?_; (· first | (first | rfl | assumption | (refine decide_eq_true ?_; first | assumption | omega) | (refine nt ?_; first | assumption | omega) | (simp [*]; done)) | (first | rfl | assumption | (refine decide_eq_false ?_; first | assumption | omega) | (refine nf ?_; first | assumption | omega) | (simp [*]; done))); (apply m_call (l2))); (· repeat (first | exact lends_nil | (refine lends_cons ?_ ?_; (· (refine lend_ints ?_; first | rfl | omega)))))
      repeat (first | (refine step_ops ?_; ((try (refine g_yes rfl ?_ ?_; (· first | rfl | assumption | (refine decide_eq_true ?_; first | assumption | omega) | (refine nt ?_; first | assumption | omega) | (simp [*]; done) | (refine decide_eq_false ?_; first | assumption | omega) | (refine nf ?_; first | assumption | omega)))); (first | (refine m_mov (by conv => lhs; whnf) ?_) | (refine m_gtr rfl rfl ?_) | (refine m_not rfl ?_) | (refine m_beq rfl rfl ?_) | (refine m_pick_t rfl ?_ (by conv => lhs; whnf) ?_; (· first | rfl | assumption | (refine decide_eq_true ?_; first | assumption | omega) | (refine nt ?_; first | assumption | omega) | (simp [*]; done))) | (refine m_pick_f rfl ?_ (by conv => lhs; whnf) ?_; (· first | rfl | assumption | (refine decide_eq_false ?_; first | assumption | omega) | (refine nf ?_; first | assumption | omega) | (simp [*]; done)))))) | refine end_ops ?_ | (refine cond_f rfl ?_ ?_; (· first | rfl | assumption | (refine decide_eq_false ?_; first | assumption | omega) | (refine nf ?_; first | assumption | omega) | (simp [*]; done))) | refine skip_then ?_)
      refine AW_weak (weak_st ?_ ?_ rfl rfl) h6
      · (repeat' (first | exact trivial | refine And.intro ?_ ?_)) <;> (first | rfl | skip)
      · trivial
  · obtain rfl : B2 = false := by
      cases B2 with
      | false => rfl
      | true => exact absurd (hfs.1 rfl).1 h
    clear hfs
    rw [decide_eq_false h] at *
    unfold twB2
    unfold ac3
    simp only [sndN, sndC, fstC]
    repeat (first | (refine step_ops ?_; ((try (refine g_yes rfl ?_ ?_; (· first | rfl | assumption | (refine decide_eq_true ?_; first | assumption | omega) | (refine nt ?_; first | assumption | omega) | (simp [*]; done) | (refine decide_eq_false ?_; first | assumption | omega) | (refine nf ?_; first | assumption | omega)))); (first | (refine m_mov (by conv => lhs; whnf) ?_) | (refine m_neq rfl rfl ?_) | (refine m_beq rfl rfl ?_) | (refine m_pick_f rfl ?_ (by conv => lhs; whnf) ?_; (· first | rfl | assumption | (refine decide_eq_false ?_; first | assumption | omega) | (refine nf ?_; first | assumption | omega) | (simp [*]; done)))))) | refine seq_ops ?_ | refine AW_seq ?_)
    refine step_ops ?_; (refine g_yes rfl ?_ ?_; (· first | (first | rfl | assumption | (refine decide_eq_true ?_; first | assumption | omega) | (refine nt ?_; first | assumption | omega) | (simp [*]; done)) | (first | rfl | assumption | (refine decide_eq_false ?_; first | assumption | omega) | (refine nf ?_; first | assumption | omega) | (simp [*]; done))); (apply m_call (l1))); (· repeat (first | exact lends_nil | (refine lends_cons ?_ ?_; (· (refine lend_ints ?_; first | rfl | omega)))))
    repeat (refine step_ops ?_; ((try (refine g_yes rfl ?_ ?_; (· first | rfl | assumption | (refine decide_eq_true ?_; first | assumption | omega) | (refine nt ?_; first | assumption | omega) | (simp [*]; done) | (refine decide_eq_false ?_; first | assumption | omega) | (refine nf ?_; first | assumption | omega)))); (first | (refine m_mov (by conv => lhs; whnf) ?_) | (refine m_not rfl ?_) | (refine m_beq rfl rfl ?_) | (refine m_pick_f rfl ?_ (by conv => lhs; whnf) ?_; (· first | rfl | assumption | (refine decide_eq_false ?_; first | assumption | omega) | (refine nf ?_; first | assumption | omega) | (simp [*]; done))))))
    refine step_ops ?_; (refine g_yes rfl ?_ ?_; (· first | (first | rfl | assumption | (refine decide_eq_true ?_; first | assumption | omega) | (refine nt ?_; first | assumption | omega) | (simp [*]; done)) | (first | rfl | assumption | (refine decide_eq_false ?_; first | assumption | omega) | (refine nf ?_; first | assumption | omega) | (simp [*]; done))); (apply m_call (l2))); (· repeat (first | exact lends_nil | (refine lends_cons ?_ ?_; (· (refine lend_ints ?_; first | rfl | omega)))))
    repeat (first | ((first | (refine step_ops ?_; (first | ((try (refine g_yes rfl ?_ ?_; (· first | rfl | assumption | (refine decide_eq_true ?_; first | assumption | omega) | (refine nt ?_; first | assumption | omega) | (simp [*]; done) | (refine decide_eq_false ?_; first | assumption | omega) | (refine nf ?_; first | assumption | omega)))); (first | (refine m_mov (by conv => lhs; whnf) ?_) | (refine m_not rfl ?_) | (refine m_beq rfl rfl ?_) | (refine m_pick_f rfl ?_ (by conv => lhs; whnf) ?_; (· first | rfl | assumption | (refine decide_eq_false ?_; first | assumption | omega) | (refine nf ?_; first | assumption | omega) | (simp [*]; done))))) | (refine g_noT rfl ?_ ?_; (· first | rfl | assumption | (refine decide_eq_false ?_; first | assumption | omega) | (refine nf ?_; first | assumption | omega) | (simp [*]; done))))) | refine end_ops ?_ | (refine cond_f rfl ?_ ?_; (· first | rfl | assumption | (refine decide_eq_false ?_; first | assumption | omega) | (refine nf ?_; first | assumption | omega) | (simp [*]; done))) | refine skip_then ?_)) | (refine step_ops ?_; refine g_unt rfl ?_))
    refine AW_weak (weak_st ?_ ?_ rfl rfl) h6
    · (repeat' (first | exact trivial | refine And.intro ?_ ?_)) <;> (first | rfl | skip)
    · trivial
theorem tw2 (m : Int) (L : List Int) (hL : L.length ≤ 10000) : AW Tryd.prog (min Tryd.f3.ntmps pbase) twB (st [(2, .i m), (3, ints L)] []) (Done [8].reverse (.b true)) := by
  have h6 := tw2b m L hL
  have s1 := implCountRound_spec m
  have s2 := specCountRound_spec m
  have s3 := implCountInTurn_spec m
  have s4 := specCountInTurn_spec m
  have s5 := implChanceApart_spec m
  have s6 := specChanceApart_spec m
  have s7 := implFirstApart_spec m
  have s8 := specFirstApart_spec m
  have s9 := implNextApart_spec L (by omega)
  have s10 := specNextApart_spec L (by omega)
  unfold srchR at s7 s8 s9 s10
  have hp : twB = .seq (fstC twB) (.seq (fstC (sndN 1 twB)) (.seq (fstC (sndN 2 twB)) (.seq (fstC (sndN 3 twB)) (.seq (fstC (sndN 4 twB)) (.seq (fstC (sndN 5 twB)) (.seq (fstC (sndN 6 twB)) (.seq (fstC (sndN 7 twB)) (.seq (fstC (sndN 8 twB)) (.seq (fstC (sndN 9 twB)) twB2))))))))) := rfl
  rw [hp]
  clear hp
  generalize twB2 = c6 at *
  generalize (nextT L).getD [] = R1 at *
  generalize (nextT L).isSome = B1 at *
  generalize (frstT m).getD [] = R2 at *
  generalize (frstT m).isSome = B2 at *
  generalize roundR m = v1 at *
  generalize inTurnR m = v2 at *
  generalize chNum m = v3 at *
  generalize chDen m = v4 at *
  generalize decide (1 ≤ m ∧ m ≤ 7) = B3 at *
  unfold twB
  unfold ac3
  simp only [sndN, sndC, fstC]
  repeat (first | (refine step_ops ?_; (refine m_mov (by conv => lhs; whnf) ?_)) | refine seq_ops ?_)
  refine step_ops ?_; (apply m_call (s1)); (· repeat (first | exact lends_nil | (refine lends_cons ?_ ?_; (· exact lend_v))))
  repeat (first | (refine step_ops ?_; (first | (refine m_mov (by conv => lhs; whnf) ?_) | (refine m_ext rfl rfl ?_))) | refine end_ops ?_ | refine seq_ops ?_)
  refine step_ops ?_; (apply m_call (s2)); (· repeat (first | exact lends_nil | (refine lends_cons ?_ ?_; (· exact lend_v))))
  repeat (first | (refine step_ops ?_; (first | (refine m_mov (by conv => lhs; whnf) ?_) | (refine m_ext rfl rfl ?_))) | refine end_ops ?_ | refine seq_ops ?_)
  refine step_ops ?_; (apply m_call (s3)); (· repeat (first | exact lends_nil | (refine lends_cons ?_ ?_; (· exact lend_v))))
  repeat (first | (refine step_ops ?_; (first | (refine m_mov (by conv => lhs; whnf) ?_) | (refine m_ext rfl rfl ?_))) | refine end_ops ?_ | refine seq_ops ?_)
  refine step_ops ?_; (apply m_call (s4)); (· repeat (first | exact lends_nil | (refine lends_cons ?_ ?_; (· exact lend_v))))
  repeat (first | (refine step_ops ?_; (first | (refine m_mov (by conv => lhs; whnf) ?_) | (refine m_ext rfl rfl ?_))) | refine end_ops ?_ | refine seq_ops ?_)
  refine step_ops ?_; (apply m_call (s5)); (· repeat (first | exact lends_nil | (refine lends_cons ?_ ?_; (· exact lend_v))))
  repeat (first | (refine step_ops ?_; (first | (refine m_mov (by conv => lhs; whnf) ?_) | (refine m_ext rfl rfl ?_))) | refine end_ops ?_ | refine seq_ops ?_)
  refine step_ops ?_; (apply m_call (s6)); (· repeat (first | exact lends_nil | (refine lends_cons ?_ ?_; (· exact lend_v))))
  repeat (first | (refine step_ops ?_; (first | (refine m_mov (by conv => lhs; whnf) ?_) | (refine m_ext rfl rfl ?_))) | refine end_ops ?_ | refine seq_ops ?_)
  refine step_ops ?_; (apply m_call (s7)); (· repeat (first | exact lends_nil | (refine lends_cons ?_ ?_; (· exact lend_v))))
  repeat (first | (refine step_ops ?_; (first | (refine m_mov (by conv => lhs; whnf) ?_) | (refine m_ext rfl rfl ?_))) | refine end_ops ?_ | refine seq_ops ?_)
  refine step_ops ?_; (apply m_call (s8)); (· repeat (first | exact lends_nil | (refine lends_cons ?_ ?_; (· exact lend_v))))
  repeat (first | (refine step_ops ?_; (first | (refine m_mov (by conv => lhs; whnf) ?_) | (refine m_ext rfl rfl ?_))) | refine end_ops ?_ | refine seq_ops ?_)
  refine step_ops ?_; (apply m_call (s9)); (· repeat (first | exact lends_nil | (refine lends_cons ?_ ?_; (· (refine lend_ints ?_; first | rfl | omega)))))
  repeat (first | (refine step_ops ?_; (first | (refine m_mov (by conv => lhs; whnf) ?_) | (refine m_ext rfl rfl ?_))) | refine end_ops ?_ | refine seq_ops ?_)
  refine step_ops ?_; (apply m_call (s10)); (· repeat (first | exact lends_nil | (refine lends_cons ?_ ?_; (· (refine lend_ints ?_; first | rfl | omega)))))
  repeat (first | (refine step_ops ?_; (first | (refine m_mov (by conv => lhs; whnf) ?_) | (refine m_ext rfl rfl ?_))) | refine end_ops ?_)
  refine AW_weak (weak_st ?_ ?_ rfl rfl) h6
  · (repeat' (first | exact trivial | refine And.intro ?_ ?_)) <;> (first | rfl | skip)
  · trivial
theorem tw1b (n t m : Int) (L : List Int) (hL : L.length ≤ 10000) : AW Tryd.prog (min Tryd.f3.ntmps pbase) twA2 (st [(2, .i m), (3, ints L), (9, .i (togNum n t)), (10, .b (decide (TogOk n t))), (11, .i (togNum n t)), (12, .b (decide (TogOk n t))), (13, .i (rowNum n t)), (14, .b (decide (TogOk n t))), (15, .i (rowNum n t)), (16, .b (decide (TogOk n t))), (17, .i (turnNum n t)), (18, .b (decide (TogOk n t))), (19, .i (turnNum n t)), (20, .b (decide (TogOk n t)))] []) (Done [8].reverse (.b true)) := by
  have h6 := tw2 m L hL
  have hp : twA2 = .seq (fstC twA2) twB := rfl
  rw [hp]
  clear hp
  generalize twB = c6 at *
  have n1 : decide (togNum n t ≠ togNum n t) = false := by simp
  have n2 : decide (rowNum n t ≠ rowNum n t) = false := by simp
  have n3 : decide (turnNum n t ≠ turnNum n t) = false := by simp
  by_cases h : TogOk n t
  · obtain ⟨c, rfl⟩ := Int.eq_ofNat_of_zero_le (show 0 ≤ n by have := h.1.1; omega)
    obtain ⟨k, rfl⟩ := Int.eq_ofNat_of_zero_le (show 0 ≤ t from h.2.1)
    have hh := h
    unfold TogOk at hh
    have ht := tw_num c (by omega) (by omega) k (by omega)
    obtain ⟨_, e1, e2, e3⟩ := tog_at (c := c) (t := k) (by omega) (by omega) (by omega)
    rw [e1] at n1
    rw [e2] at n2
    rw [e3] at n3
    rw [e1, e2, e3, decide_eq_true h]
    generalize tN c k = v1 at *
    generalize rN c k = v2 at *
    generalize turnN c k = v3 at *
    clear e1 e2 e3 h hh
    unfold twA2
    unfold ac3
    simp only [sndN, sndC, fstC]
    repeat (first | (refine step_ops ?_; ((try (refine g_yes rfl ?_ ?_; (· first | rfl | assumption | (refine decide_eq_true ?_; first | assumption | omega) | (refine nt ?_; first | assumption | omega) | (simp [*]; done) | (refine decide_eq_false ?_; first | assumption | omega) | (refine nf ?_; first | assumption | omega)))); (first | (refine m_mov (by conv => lhs; whnf) ?_) | (refine m_lss rfl rfl ?_) | (refine m_gtr rfl rfl ?_) | (refine m_neq rfl rfl ?_) | (refine m_beq rfl rfl ?_) | (refine m_pick_t rfl ?_ (by conv => lhs; whnf) ?_; (· first | rfl | assumption | (refine decide_eq_true ?_; first | assumption | omega) | (refine nt ?_; first | assumption | omega) | (simp [*]; done))) | (refine m_pick_f rfl ?_ (by conv => lhs; whnf) ?_; (· first | rfl | assumption | (refine decide_eq_false ?_; first | assumption | omega) | (refine nf ?_; first | assumption | omega) | (simp [*]; done)))))) | refine end_ops ?_ | refine seq_ops ?_ | (refine cond_f rfl ?_ ?_; (· first | rfl | assumption | (refine decide_eq_false ?_; first | assumption | omega) | (refine nf ?_; first | assumption | omega) | (simp [*]; done))) | refine skip_then ?_ | refine AW_seq ?_)
    refine AW_weak (weak_st ?_ ?_ rfl rfl) h6
    · (repeat' (first | exact trivial | refine And.intro ?_ ?_)) <;> (first | rfl | skip)
    · trivial
  · rw [decide_eq_false h]
    generalize togNum n t = v1 at *
    generalize rowNum n t = v2 at *
    generalize turnNum n t = v3 at *
    unfold twA2
    unfold ac3
    simp only [sndN, sndC, fstC]
    repeat (first | ((first | (refine step_ops ?_; (first | ((try (refine g_yes rfl ?_ ?_; (· first | rfl | assumption | (refine decide_eq_true ?_; first | assumption | omega) | (refine nt ?_; first | assumption | omega) | (simp [*]; done) | (refine decide_eq_false ?_; first | assumption | omega) | (refine nf ?_; first | assumption | omega)))); (first | (refine m_mov (by conv => lhs; whnf) ?_) | (refine m_neq rfl rfl ?_) | (refine m_beq rfl rfl ?_) | (refine m_pick_f rfl ?_ (by conv => lhs; whnf) ?_; (· first | rfl | assumption | (refine decide_eq_false ?_; first | assumption | omega) | (refine nf ?_; first | assumption | omega) | (simp [*]; done))))) | (refine g_noT rfl ?_ ?_; (· first | rfl | assumption | (refine decide_eq_false ?_; first | assumption | omega) | (refine nf ?_; first | assumption | omega) | (simp [*]; done))))) | refine end_ops ?_ | refine seq_ops ?_ | (refine cond_f rfl ?_ ?_; (· first | rfl | assumption | (refine decide_eq_false ?_; first | assumption | omega) | (refine nf ?_; first | assumption | omega) | (simp [*]; done))) | refine skip_then ?_ | refine AW_seq ?_)) | (refine step_ops ?_; refine g_unt rfl ?_))
    refine AW_weak (weak_st ?_ ?_ rfl rfl) h6
    · (repeat' (first | exact trivial | refine And.intro ?_ ?_)) <;> (first | rfl | skip)
    · trivial
end Go.Proofs.YtmmcldbldbpikaaDoor
namespace Go.Am
open Go.ChangeShapes Go.WideShapes Go.ChangeAt Go.RowKit Go.ChangeMaps
variable {P : Program} {H : Type} {enc : TypeId × Value → H}
theorem and_mk {a b : Bool} (h : a = true) (k : b = true) : (a && b) = true := by rw [h, k]; rfl
theorem More.below {w w' : World} (h : More w w') : Below w.heap.size w w' := ⟨h.os, h.tape, h.output, h.size, h.block⟩
theorem trodAll_stays (hl : laidOutB P = true) {W W' : World} (hb : Below W.heap.size W W') (sp : Nat → Bool) : ∀ {ts : List TypeId} {vs : List Value} {ds : List (DataW H)} {ps : List MemPlace},
    (∀ t ∈ ts, P.readableRec t = true ∧ t < P.types.size) → DataW.TrodAll enc P W 0 (fun _ => true) true ts vs ds ps → (∀ p ∈ ps, p.block < W.heap.size) → (∀ p ∈ ps, sp p.block = true) →
    DataW.TrodAll enc P W' 0 sp true ts vs ds ps
  | [], vs, ds, ps, _, h, _, _ => by
    obtain ⟨rfl, rfl, rfl⟩ := trodAll_nil h
    exact trodAll_mk0
  | t :: ts, vs, ds, ps, hr, h, hlt, hsp => by
    obtain ⟨v, vs', d, ds', p, q, rfl, rfl, rfl, h1, h2⟩ := trodAll_cons h
    refine ⟨p, q, ?_, trodAll_stays hl hb sp (fun t ht => hr t (List.mem_cons_of_mem _ ht)) h2 (fun x hx => hlt x (List.mem_append_right _ hx)) (fun x hx => hsp x (List.mem_append_right _ hx)), rfl⟩
    obtain ⟨h3, h4⟩ := hr t (List.mem_cons_self ..)
    exact WideElems.Trod_stays hl h3 h4 h1 (fun x hx => hb.same (hlt x (List.mem_append_left _ hx))) (fun x hx => hsp x (List.mem_append_left _ hx))
/-- What the row's last words ask of a law that says true. -/
theorem law_post (hl : laidOutB P = true) {f : Func} {s : ChangeSpec} {fresh handsOn again : Bool} {W W' : World} {args : Array Value} {ds gs : List (DataW H)} {before : List MemPlace} {bt : TypeId}
    (hW : DataW.Whole enc P f.params.toList s.vars false W args.toList ds gs before) (hvars : s.vars = []) (hfn : s.fn H (ds ++ gs) = { results := [.lit (.bool true)], args := ds })
    (hres : f.resultTypes = #[bt]) (hbt : P.underlying bt = some .bool) (hread : ∀ t ∈ f.params.toList, P.readableRec t = true ∧ t < P.types.size) (hm : More W W') :
    s.post enc P f false fresh handsOn again W args (.bool true) W' := by
  have hb := hm.below
  have hlt : ∀ p ∈ before, p.block < W.heap.size := fun p hp => hW.lt p hp
  obtain ⟨p, q, hA, hV, hpq, hz, hn⟩ := hW
  rw [hvars] at hV
  obtain ⟨rfl, rfl⟩ := trodVars_none hV
  rw [List.append_nil] at hpq
  subst hpq
  have hargs : ∀ sp : Nat → Bool, (∀ x ∈ before, sp x.block = true) → DataW.TrodAll enc P W' 0 sp true f.params.toList args.toList ds before := fun sp hsp => trodAll_stays hl hb sp hread hA hlt hsp
  have hresT : ∀ (b : Nat) (sp : Nat → Bool) (hd : Bool), DataW.TrodAll enc P W' b sp hd f.resultTypes.toList ((Value.bool true).resultList f.resultTypes.size) [.lit (.bool true)] [] := by
    intro b sp hd
    rw [hres]
    exact trodAll_mk1 (shut_bool hbt true)
  have hvarsT : ∀ sp : Nat → Bool, DataW.TrodVars enc P W' sp s.vars (s.fn H (ds ++ [])).vars [] := by
    intro sp
    rw [hvars, hfn]
    rfl
  have hfull : DataW.Whole enc P f.params.toList s.vars false W args.toList ds [] before := ⟨before, [], hA, by rw [hvars]; rfl, by simp, hz, by simp⟩
  refine ⟨ds, [], before, [], before, [], hfull, by rw [hfn]; exact hresT _ _ _, by rw [hfn]; exact hargs _ (fun x hx => by simpa using hlt x hx), hvarsT _, World.keptBut_mono (fun x hx => ⟨hx, .inr (.inl hx)⟩) (hb.frame (· ∈ before)), fun _ => ?_⟩
  refine ⟨ok_one hres rfl (okWide_bool_mk hbt true), _, _, ([] ++ before) ++ [], ⟨[] ++ before, [], trodAll_append (hargs _ (fun _ _ => rfl)) (hresT _ _ _), hvarsT _, rfl, ?_, by simp⟩, ?_⟩
  · intro b off hp
    have hin : MemPlace.cell b off ∈ before := by simpa using hp
    rw [hb.frozen (hlt _ hin)]
    exact hz b off hin
  · intro x hx _
    simpa using hx
abbrev Outer (w : World) : Ctx := { heap := w.heap, ro := fun b => b < w.heap.size, base := w.heap.size, phi := fun _ => none, live := fun _ => false, loc := false }
/-- A slice of integers that came in. -/
theorem arg_ints {W : World} {t e : TypeId} {v : Value} {d : DataW H} {ps : List MemPlace} (ht : P.underlying t = some (.slice e)) (he : P.underlying e = some (.int .i64)) (hc : P.cellsOf e = 1)
    (hval : Value.okWide P W .any 0 t v) (h : DataW.Trod enc P W 0 (fun _ => true) true t v d ps) : ∃ L : List Int, SimV (ints L) (Outer W) v ∧ L.length ≤ maxLen ∧ ∀ x ∈ L, -9223372036854775808 ≤ x ∧ x ≤ 9223372036854775807 := by
  obtain ⟨a0, len0, cap0, rfl⟩ := okWide_slice ht hval
  obtain ⟨fuel, hf⟩ := h
  rcases open_ints ht he hc hf with ⟨hcs, _⟩ | ⟨a, len, cap, zs, hcs, _, hl, hm, hz, hx, hcell, hwz⟩
  · simp [Value.cells] at hcs
    obtain ⟨rfl, rfl, rfl⟩ := hcs
    refine ⟨[], ?_, by simp, by simp⟩
    simp only [SimV]
    exact .inl ⟨rfl, rfl, none, 0, rfl, by simp⟩
  · simp [Value.cells] at hcs
    obtain ⟨rfl, rfl, rfl⟩ := hcs
    simp only [if_true] at hz
    have hlz : len0 ≤ zs.length := by omega
    refine ⟨zs.take len0, ?_, by simp; omega, fun x hx => ?_⟩
    · simp only [SimV]
      by_cases h0 : len0 = 0
      · subst h0
        exact .inl ⟨rfl, rfl, _, cap0, rfl, by simp⟩
      · have hc0 := hcell 0 (by omega)
        have hspot : a.spot = none ∧ ∃ cur e f, W.heap[a.block]? = some (.cells cur e f) := by
          unfold World.cell? at hc0
          rw [show a.add 0 = a from rfl] at hc0
          split at hc0
          · rename_i c e' f hb
            split at hc0
            · cases hc0
            · rename_i hs
              exact ⟨by simpa using hs, c, e', f, hb⟩
          · cases hc0
        obtain ⟨hs, cur, e', f, hb⟩ := hspot
        obtain ⟨b, o, sp⟩ := a
        simp only at hs hb
        subst hs
        have hlen : (zs.take len0).length = len0 := by simp; omega
        refine .inr ⟨b, o, cap0, cur, e', f, by rw [hlen], hb, lt_of_get hb, by simp, by rw [hlen]; exact hl, by simp, ?_⟩
        refine SimL.of_get fun i x hi => ?_
        rw [List.getElem?_map, Option.map_eq_some_iff] at hi
        obtain ⟨n, hn, rfl⟩ := hi
        rw [List.getElem?_take] at hn
        split at hn
        · rename_i hi0
          have hci := hcell i (by omega)
          rw [addr_add, cell_of_row W b (o + i) cur e' f hb] at hci
          refine ⟨_, by rw [List.getElem?_drop, Array.getElem?_toList]; exact hci, ?_⟩
          simp only [SimV]
          congr 1
          rw [List.getD_eq_getElem?_getD, hn]
          rfl
        · cases hn
    · have := hwz x (List.mem_of_mem_take hx)
      simp [Lit.wf, IntKind.min, IntKind.max, IntKind.signed, IntKind.bits] at this
      exact ⟨by omega, by omega⟩
/-- An integer that came in. -/
theorem arg_int {W : World} {t : TypeId} {v : Value} {d : DataW H} {ps : List MemPlace} (ht : P.underlying t = some (.int .i64))
    (hval : Value.okWide P W .any 0 t v) (h : DataW.Trod enc P W 0 (fun _ => true) true t v d ps) : ∃ n : Int, SimV (.i n) (Outer W) v ∧ -9223372036854775808 ≤ n ∧ n ≤ 9223372036854775807 := by
  obtain ⟨n, rfl, _, _, hw⟩ := open_int ht hval h
  simp [Lit.wf, IntKind.min, IntKind.max, IntKind.signed, IntKind.bits] at hw
  exact ⟨n, by simp [SimV], by omega, by omega⟩
/-- A law says true. -/
theorem law_calls {f : FuncId} {asx : List AV} {W : World} {args : Array Value} (hs : Sp P f asx (.b true)) (he : SimL asx (Outer W) args.toList) (hlen : args.size = asx.length) (hg : GoodW W := by exact goodW_none rfl) :
    Calls P f args W fun e W' => e = .returned (.bool true) ∧ More W W' := by
  refine (hs W args hg ⟨he, by simpa using hlen⟩).mono fun e W' ⟨v, h1, h2, h3⟩ => ?_
  simp only [SimV] at h3
  subst h3
  exact ⟨h1, h2⟩
end Go.Am
namespace Go.Proofs.YtmmcldbldbpikaaDoor
open Go.ChangeShapes Go.WideShapes Go.ChangeAt Go.RowKit
theorem factMayEnter : Tryd.checked.prog.mayEnter = true := by kernel_rfl
end Go.Proofs.YtmmcldbldbpikaaDoor
namespace Go.Proofs.YtmmcldbldbpikaaDoor
open Go.ChangeShapes Go.WideShapes Go.ChangeAt Go.RowKit
theorem factLifts : Tryd.checked.prog.liftsFinal = false := by kernel_rfl
end Go.Proofs.YtmmcldbldbpikaaDoor
namespace Go.Proofs.YtmmcldbldbpikaaDoor
open Go.ChangeShapes Go.WideShapes Go.ChangeAt Go.RowKit
theorem factMake : Tryd.checked.prog.make = some (OpenClaim.make { program := "", sum := "", func := "", spec := "" }) := by kernel_rfl
end Go.Proofs.YtmmcldbldbpikaaDoor
namespace Go.Proofs.YtmmcldbldbpikaaDoor
open Go.ChangeShapes Go.WideShapes Go.ChangeAt Go.RowKit
theorem door_met (os : Os) (args : Array Value) : laidMetH Tryd.prog Rows.fnTablesCountedOfAllRow.laid ((World.laidAll Tryd.prog os Rows.fnTablesCountedOfAllRow.laid).forCall (fun _ _ => 0) ⟨#[], args, []⟩).memory := by
  rw [MakeChecks.laidMetH_plain _ _ _ (by kernel_rfl)]
  exact laidMet_laidAll _ (by kernel_rfl) (by kernel_rfl)
theorem door_shaped (os : Os) (args : Array Value) : World.Shaped Tryd.prog ((World.laidAll Tryd.prog os Rows.fnTablesCountedOfAllRow.laid).forCall (fun _ _ => 0) ⟨#[], args, []⟩) := World.shaped_of_ZipB (by kernel_rfl) (by kernel_rfl)
end Go.Proofs.YtmmcldbldbpikaaDoor
