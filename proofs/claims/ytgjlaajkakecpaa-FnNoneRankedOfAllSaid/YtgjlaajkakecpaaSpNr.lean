/- Contracts: what the law of ranks asks: lists in order, own coats, products; what ranks tell of order. -/
import Derived.Test.YtgjlaajkakecpaaMaNr
import Derived.Test.YtgjlaajkakecpaaNrJ
import Derived.Test.YtgjlaajkakecpaaNrL
namespace Go.Proofs.Ytgjlaajkakecpaa
open Go.Am
attribute [local irreducible] AW Outs Weak Lends Lend Sp aops atree aop1 Then Round InBlock Done
/-- The order of two lists: -1, 0, 1. -/
def lexC : List Int → List Int → Int
  | [], [] => 0
  | [], _ :: _ => -1
  | _ :: _, [] => 1
  | x :: a, y :: b => if x < y then -1 else if y < x then 1 else lexC a b
theorem lexC_step {a b : List Int} {i : Nat} (h1 : i < a.length) (h2 : i < b.length) : lexC (a.drop i) (b.drop i) = if a.getD i 0 < b.getD i 0 then -1 else if b.getD i 0 < a.getD i 0 then 1 else lexC (a.drop (i + 1)) (b.drop (i + 1)) := by
  rw [List.drop_eq_getElem_cons h1, List.drop_eq_getElem_cons h2]
  simp [lexC, h1, h2]
theorem lexC_right {a b : List Int} {i : Nat} (h1 : i < a.length) (h2 : b.length ≤ i) : lexC (a.drop i) (b.drop i) = 1 := by
  rw [List.drop_eq_getElem_cons h1, List.drop_of_length_le h2]
  rfl
theorem lexC_end {a b : List Int} {i : Nat} (h1 : a.length ≤ i) : lexC (a.drop i) (b.drop i) = if i < b.length then -1 else 0 := by
  rw [List.drop_of_length_le h1]
  by_cases h : i < b.length
  · rw [List.drop_eq_getElem_cons h, if_pos h]; rfl
  · rw [List.drop_of_length_le (by omega), if_neg h]; rfl
theorem lexC_irr : ∀ a : List Int, lexC a a = 0
  | [] => rfl
  | x :: a => by simp [lexC, lexC_irr a]
theorem lexC_same : ∀ (p : List Int) (a b : List Int), lexC (p ++ a) (p ++ b) = lexC a b
  | [], _, _ => rfl
  | x :: p, a, b => by simp [lexC, lexC_same p a b]
theorem lexC_at {a b : List Int} {j : Nat} (h1 : j < a.length) (h2 : j < b.length) (he : a.take j = b.take j) : (a.getD j 0 < b.getD j 0 → lexC a b = -1) ∧ (b.getD j 0 < a.getD j 0 → lexC a b = 1) := by
  have e : lexC a b = lexC (a.drop j) (b.drop j) := by
    conv => lhs; rw [← List.take_append_drop j a, ← List.take_append_drop j b, he]
    exact lexC_same _ _ _
  rw [e, lexC_step h1 h2]
  exact ⟨fun h => by rw [if_pos h], fun h => by rw [if_neg (by omega), if_pos h]⟩
theorem oLess_spec (a b : List Int) (ha : a.length ≤ 1048576) (_hb : b.length ≤ 1048576) : Sp Try.prog 16 [ints a, ints b] (.b (decide (lexC a b < 0))) := by
  have h0 : lexC (a.drop 0) (b.drop 0) = lexC a b := rfl
  generalize lexC a b = T at h0 ⊢
  refine spec_of Try.func16 rfl cc16 rfl ?_
  unfold ac16
  repeat (first | (refine step_ops ?_; (refine m_mov (by conv => lhs; whnf) ?_)) | refine end_ops ?_ | refine seq_ops ?_ | refine AW_seq ?_ | refine AW_block ?_)
  refine AW_loop (α := Nat) (fun k => k ≤ a.length ∧ (k ≤ b.length) ∧ lexC (a.drop k) (b.drop k) = T) (fun k => st [(0, ints a), (1, ints b), (5, .i (k : Nat))] []) (fun k => a.length - k) 0 ⟨Nat.zero_le _, Nat.zero_le _, h0⟩ (weak_st ?_ ?_ rfl rfl) ?_
  · (repeat' (first | exact trivial | refine And.intro ?_ ?_)) <;> (first | rfl | skip)
  · trivial
  rintro k ⟨hk, hkb, he⟩
  by_cases hc : k < a.length
  · by_cases hc2 : k < b.length
    · rw [lexC_step hc hc2] at he
      by_cases hx : a.getD k 0 = b.getD k 0
      · rw [if_neg (by omega), if_neg (by omega)] at he
        repeat (first | ((first | refine step_ops ?_ | refine step_tree ?_); ((try (refine g_yes rfl ?_ ?_; (· first | rfl | assumption | (refine decide_eq_true ?_; first | assumption | omega) | (refine nt ?_; first | assumption | omega) | (simp [*]; done) | (refine decide_eq_false ?_; first | assumption | omega) | (refine nf ?_; first | assumption | omega)))); (first | (refine m_mov (by conv => lhs; whnf) ?_) | (refine m_lss rfl rfl ?_) | (refine m_neq rfl rfl ?_) | (refine m_add rfl rfl ?_ ?_ ?_; (· omega); (· omega)) | (refine m_len_ro rfl ?_) | (refine m_idx1_ro rfl rfl ?_ ?_; (· omega)) | (refine m_ld_rpi rfl ?_ ?_; (· omega)) | (refine m_pick_t rfl ?_ (by conv => lhs; whnf) ?_; (· first | rfl | assumption | (refine decide_eq_true ?_; first | assumption | omega) | (refine nt ?_; first | assumption | omega) | (simp [*]; done)))))) | refine end_ops ?_ | refine seq_ops ?_ | refine AW_ops ?_ | refine end_tree ?_ | refine seq_tree ?_ | (refine cond_t rfl ?_ ?_; (· first | rfl | assumption | (refine decide_eq_true ?_; first | assumption | omega) | (refine nt ?_; first | assumption | omega) | (simp [*]; done))) | (refine cond_f rfl ?_ ?_; (· first | rfl | assumption | (refine decide_eq_false ?_; first | assumption | omega) | (refine nf ?_; first | assumption | omega) | (simp [*]; done))) | refine skip_then ?_ | refine AW_seq ?_ | refine norm_then ?_ | refine AW_block ?_ | refine norm_block ?_ | refine AW_skip ?_)
        refine next_round (k + 1) ⟨hc, hc2, he⟩ (weak_st ?_ ?_ rfl rfl) ?_
        · (repeat' (first | exact trivial | refine And.intro ?_ ?_)) <;> (first | rfl | skip)
        · trivial
        · omega
      · by_cases hlt : a.getD k 0 < b.getD k 0
        · rw [if_pos hlt] at he
          subst he
          repeat (first | ((first | refine step_ops ?_ | refine step_tree ?_); ((try (refine g_yes rfl ?_ ?_; (· first | rfl | assumption | (refine decide_eq_true ?_; first | assumption | omega) | (refine nt ?_; first | assumption | omega) | (simp [*]; done) | (refine decide_eq_false ?_; first | assumption | omega) | (refine nf ?_; first | assumption | omega)))); (first | (refine m_mov (by conv => lhs; whnf) ?_) | (refine m_lss rfl rfl ?_) | (refine m_neq rfl rfl ?_) | (refine m_len_ro rfl ?_) | (refine m_idx1_ro rfl rfl ?_ ?_; (· omega)) | (refine m_ld_rpi rfl ?_ ?_; (· omega)) | (refine m_pick_t rfl ?_ (by conv => lhs; whnf) ?_; (· first | rfl | assumption | (refine decide_eq_true ?_; first | assumption | omega) | (refine nt ?_; first | assumption | omega) | (simp [*]; done)))))) | refine end_ops ?_ | refine seq_ops ?_ | refine end_tree ?_ | refine seq_tree ?_ | (refine cond_t rfl ?_ ?_; (· first | rfl | assumption | (refine decide_eq_true ?_; first | assumption | omega) | (refine nt ?_; first | assumption | omega) | (simp [*]; done))) | refine skip_then ?_ | refine AW_seq ?_ | refine AW_ret ?_ | refine ret_done ?_ | refine ret_then ?_ | refine AW_block ?_ | refine ret_block ?_ | refine ret_round ?_)
          exact outs_b (decide_eq_decide.2 ⟨fun _ => by omega, fun _ => by omega⟩)
        · rw [if_neg hlt, if_pos (by omega)] at he
          subst he
          repeat (first | ((first | refine step_ops ?_ | refine step_tree ?_); ((try (refine g_yes rfl ?_ ?_; (· first | rfl | assumption | (refine decide_eq_true ?_; first | assumption | omega) | (refine nt ?_; first | assumption | omega) | (simp [*]; done) | (refine decide_eq_false ?_; first | assumption | omega) | (refine nf ?_; first | assumption | omega)))); (first | (refine m_mov (by conv => lhs; whnf) ?_) | (refine m_lss rfl rfl ?_) | (refine m_neq rfl rfl ?_) | (refine m_len_ro rfl ?_) | (refine m_idx1_ro rfl rfl ?_ ?_; (· omega)) | (refine m_ld_rpi rfl ?_ ?_; (· omega)) | (refine m_pick_t rfl ?_ (by conv => lhs; whnf) ?_; (· first | rfl | assumption | (refine decide_eq_true ?_; first | assumption | omega) | (refine nt ?_; first | assumption | omega) | (simp [*]; done)))))) | refine end_ops ?_ | refine seq_ops ?_ | refine end_tree ?_ | refine seq_tree ?_ | (refine cond_t rfl ?_ ?_; (· first | rfl | assumption | (refine decide_eq_true ?_; first | assumption | omega) | (refine nt ?_; first | assumption | omega) | (simp [*]; done))) | refine skip_then ?_ | refine AW_seq ?_ | refine AW_ret ?_ | refine ret_done ?_ | refine ret_then ?_ | refine AW_block ?_ | refine ret_block ?_ | refine ret_round ?_)
          exact outs_b (decide_eq_decide.2 ⟨fun _ => by omega, fun _ => by omega⟩)
    · rw [lexC_right hc (by omega)] at he
      subst he
      have : ¬ a.length < b.length := by omega
      repeat (first | (refine step_ops ?_; ((try (refine g_yes rfl ?_ ?_; (· first | rfl | assumption | (refine decide_eq_true ?_; first | assumption | omega) | (refine nt ?_; first | assumption | omega) | (simp [*]; done) | (refine decide_eq_false ?_; first | assumption | omega) | (refine nf ?_; first | assumption | omega)))); (first | (refine m_mov (by conv => lhs; whnf) ?_) | (refine m_lss rfl rfl ?_) | (refine m_len_ro rfl ?_) | (refine m_pick_t rfl ?_ (by conv => lhs; whnf) ?_; (· first | rfl | assumption | (refine decide_eq_true ?_; first | assumption | omega) | (refine nt ?_; first | assumption | omega) | (simp [*]; done)))))) | refine end_ops ?_ | refine seq_ops ?_ | (refine cond_f rfl ?_ ?_; (· first | rfl | assumption | (refine decide_eq_false ?_; first | assumption | omega) | (refine nf ?_; first | assumption | omega) | (simp [*]; done))) | refine AW_seq ?_ | refine AW_ret ?_ | refine ret_done ?_ | refine norm_then ?_ | refine exit_then ?_ | refine exit_round ?_ | refine AW_exit ?_ | refine exit_block ?_)
      exact outs_b (decide_eq_decide.2 ⟨fun _ => by omega, fun _ => by omega⟩)
  · rw [lexC_end (by omega)] at he
    by_cases hl : k < b.length
    · rw [if_pos hl] at he
      subst he
      have : a.length < b.length := by omega
      repeat (first | (refine step_ops ?_; (first | (first | (refine m_mov (by conv => lhs; whnf) ?_) | (refine m_lss rfl rfl ?_) | (refine m_len_ro rfl ?_) | (refine m_pick_f rfl ?_ (by conv => lhs; whnf) ?_; (· first | rfl | assumption | (refine decide_eq_false ?_; first | assumption | omega) | (refine nf ?_; first | assumption | omega) | (simp [*]; done)))) | (refine g_noT rfl ?_ ?_; (· first | rfl | assumption | (refine decide_eq_false ?_; first | assumption | omega) | (refine nf ?_; first | assumption | omega) | (simp [*]; done))))) | refine end_ops ?_ | refine seq_ops ?_ | (refine cond_f rfl ?_ ?_; (· first | rfl | assumption | (refine decide_eq_false ?_; first | assumption | omega) | (refine nf ?_; first | assumption | omega) | (simp [*]; done))) | refine AW_seq ?_ | refine AW_ret ?_ | refine ret_done ?_ | refine norm_then ?_ | refine exit_then ?_ | refine exit_round ?_ | refine AW_exit ?_ | refine exit_block ?_)
      exact outs_b (decide_eq_decide.2 ⟨fun _ => by omega, fun _ => by omega⟩)
    · rw [if_neg hl] at he
      subst he
      have : ¬ a.length < b.length := by omega
      repeat (first | (refine step_ops ?_; (first | (first | (refine m_mov (by conv => lhs; whnf) ?_) | (refine m_lss rfl rfl ?_) | (refine m_len_ro rfl ?_) | (refine m_pick_f rfl ?_ (by conv => lhs; whnf) ?_; (· first | rfl | assumption | (refine decide_eq_false ?_; first | assumption | omega) | (refine nf ?_; first | assumption | omega) | (simp [*]; done)))) | (refine g_noT rfl ?_ ?_; (· first | rfl | assumption | (refine decide_eq_false ?_; first | assumption | omega) | (refine nf ?_; first | assumption | omega) | (simp [*]; done))))) | refine end_ops ?_ | refine seq_ops ?_ | (refine cond_f rfl ?_ ?_; (· first | rfl | assumption | (refine decide_eq_false ?_; first | assumption | omega) | (refine nf ?_; first | assumption | omega) | (simp [*]; done))) | refine AW_seq ?_ | refine AW_ret ?_ | refine ret_done ?_ | refine norm_then ?_ | refine exit_then ?_ | refine exit_round ?_ | refine AW_exit ?_ | refine exit_block ?_)
      exact outs_b (decide_eq_decide.2 ⟨fun _ => by omega, fun _ => by omega⟩)
theorem oOwn_spec (L : List Int) (hL : L.length ≤ 1048576) : Sp Try.prog 13 [ints L] (.i ((ownList L L.length).length : Nat)) := by
  refine spec_of Try.func13 rfl cc13 rfl ?_
  unfold ac13
  repeat (first | (refine step_ops ?_; (first | (refine m_mov (by conv => lhs; whnf) ?_) | (refine m_len_ro rfl ?_))) | refine end_ops ?_ | refine seq_ops ?_ | refine AW_seq ?_ | refine AW_block ?_)
  refine AW_loop (α := Nat) (fun k => k ≤ L.length) (fun k => st [(3, .i ((ownList L k).length : Nat)), (6, ints L), (7, .i L.length), (8, .i (k : Nat))] []) (fun k => L.length - k) 0 (by omega) (weak_st ?_ ?_ rfl rfl) ?_
  · (repeat' (first | exact trivial | refine And.intro ?_ ?_)) <;> (first | rfl | skip)
  · trivial
  intro k hk
  have hle := ownList_le L k
  by_cases hc : k < L.length
  · by_cases ho : L.getD k 0 = k
    · have ho' : (k : Int) = L.getD k 0 := ho.symm
      have hy := ownList_yes ho
      repeat (first | (refine step_ops ?_; (first | (refine m_mov (by conv => lhs; whnf) ?_) | (refine m_lss rfl rfl ?_) | (refine m_eql rfl rfl ?_) | (refine m_add rfl rfl ?_ ?_ ?_; (· omega); (· omega)) | (refine m_idx1_ro rfl rfl ?_ ?_; (· omega)) | (refine m_ld_rpi rfl ?_ ?_; (· omega)))) | refine end_ops ?_ | refine seq_ops ?_ | refine AW_ops ?_ | (refine cond_t rfl ?_ ?_; (· first | rfl | assumption | (refine decide_eq_true ?_; first | assumption | omega) | (refine nt ?_; first | assumption | omega) | (simp [*]; done))) | refine skip_then ?_ | refine AW_seq ?_ | refine norm_then ?_ | refine AW_block ?_ | refine norm_block ?_)
      refine next_round (k + 1) (by omega) (weak_st ?_ ?_ rfl rfl) ?_
      · rw [hy, List.length_append]; (repeat' (first | exact trivial | refine And.intro ?_ ?_)) <;> (first | rfl | skip)
      · trivial
      · omega
    · have ho' : ¬ (k : Int) = L.getD k 0 := fun h => ho h.symm
      have hy := ownList_no ho
      repeat (first | (refine step_ops ?_; (first | (refine m_mov (by conv => lhs; whnf) ?_) | (refine m_lss rfl rfl ?_) | (refine m_eql rfl rfl ?_) | (refine m_add rfl rfl ?_ ?_ ?_; (· omega); (· omega)) | (refine m_idx1_ro rfl rfl ?_ ?_; (· omega)) | (refine m_ld_rpi rfl ?_ ?_; (· omega)))) | refine end_ops ?_ | refine seq_ops ?_ | refine AW_ops ?_ | (refine cond_t rfl ?_ ?_; (· first | rfl | assumption | (refine decide_eq_true ?_; first | assumption | omega) | (refine nt ?_; first | assumption | omega) | (simp [*]; done))) | (refine cond_f rfl ?_ ?_; (· first | rfl | assumption | (refine decide_eq_false ?_; first | assumption | omega) | (refine nf ?_; first | assumption | omega) | (simp [*]; done))) | refine skip_then ?_ | refine AW_seq ?_ | refine norm_then ?_ | refine AW_block ?_ | refine norm_block ?_ | refine AW_skip ?_)
      refine next_round (k + 1) (by omega) (weak_st ?_ ?_ rfl rfl) ?_
      · rw [hy]; (repeat' (first | exact trivial | refine And.intro ?_ ?_)) <;> (first | rfl | skip)
      · trivial
      · omega
  · obtain rfl : k = L.length := by omega
    repeat (first | (refine step_ops ?_; (first | (refine m_mov (by conv => lhs; whnf) ?_) | (refine m_lss rfl rfl ?_))) | refine end_ops ?_ | refine seq_ops ?_ | (refine cond_f rfl ?_ ?_; (· first | rfl | assumption | (refine decide_eq_false ?_; first | assumption | omega) | (refine nf ?_; first | assumption | omega) | (simp [*]; done))) | refine AW_seq ?_ | refine AW_ret ?_ | refine ret_done ?_ | refine norm_then ?_ | refine exit_then ?_ | refine exit_round ?_ | refine AW_exit ?_ | refine exit_block ?_)
    exact outs_i rfl
theorem oTimes_spec (n : Nat) (h : n ≤ 12) : Sp Try.prog 28 [.i n] (.i (fac n)) := by
  refine spec_of Try.func28 rfl cc28 rfl ?_
  unfold ac28
  repeat (first | (refine step_ops ?_; (refine m_mov (by conv => lhs; whnf) ?_)) | refine end_ops ?_ | refine seq_ops ?_ | refine AW_seq ?_ | refine AW_block ?_)
  refine AW_loop (α := Nat) (fun j => j + 1 ≤ n ∨ j = 0) (fun j => st [(0, .i n), (3, .i (fac (j + 1))), (4, .i ((j : Int) + 2))] []) (fun j => n - j) 0 (.inr rfl) (weak_st ?_ ?_ rfl rfl) ?_
  · (repeat' (first | exact trivial | refine And.intro ?_ ?_)) <;> (first | rfl | skip)
  · trivial
  intro j hj
  by_cases hc : (j : Int) + 2 ≤ n
  · have hb := fac_le (j + 2) (by omega)
    have e : fac (j + 2) = fac (j + 1) * ((j : Int) + 2) := rfl
    rw [e] at hb
    repeat (first | (refine step_ops ?_; (first | (refine m_mov (by conv => lhs; whnf) ?_) | (refine m_leq rfl rfl ?_) | (refine m_add rfl rfl ?_ ?_ ?_; (· omega); (· omega)) | (refine m_mul rfl rfl ?_ ?_ ?_; (· first | omega | (simp; done)); (· first | omega | (simp; done))))) | refine end_ops ?_ | refine seq_ops ?_ | refine AW_ops ?_ | (refine cond_t rfl ?_ ?_; (· first | rfl | assumption | (refine decide_eq_true ?_; first | assumption | omega) | (refine nt ?_; first | assumption | omega) | (simp [*]; done))) | refine skip_then ?_ | refine AW_seq ?_ | refine norm_then ?_ | refine AW_block ?_ | refine norm_block ?_)
    refine next_round (j + 1) (by omega) (weak_st ?_ ?_ rfl rfl) ?_
    · (repeat' (first | exact trivial | refine And.intro ?_ ?_)) <;> (first | rfl | skip)
    · trivial
    · omega
  · repeat (first | (refine step_ops ?_; (first | (refine m_mov (by conv => lhs; whnf) ?_) | (refine m_leq rfl rfl ?_))) | refine end_ops ?_ | refine seq_ops ?_ | (refine cond_f rfl ?_ ?_; (· first | rfl | assumption | (refine decide_eq_false ?_; first | assumption | omega) | (refine nf ?_; first | assumption | omega) | (simp [*]; done))) | refine AW_seq ?_ | refine AW_ret ?_ | refine ret_done ?_ | refine norm_then ?_ | refine exit_then ?_ | refine exit_round ?_ | refine AW_exit ?_ | refine exit_block ?_)
    refine outs_i ?_
    rcases hj with hj | rfl
    · have : j + 1 = n := by omega
      rw [this]
    · have : n = 0 ∨ n = 1 := by omega
      rcases this with rfl | rfl <;> rfl

theorem oSame_self (L : List Int) (hL : L.length ≤ 1048576) : Sp Try.prog 11 [ints L, ints L] (.b true) := by
  refine spec_of Try.func11 rfl cc11 rfl ?_
  unfold ac11
  repeat (first | (refine step_ops ?_; (first | (refine m_mov (by conv => lhs; whnf) ?_) | (refine m_neq rfl rfl ?_) | (refine m_len_ro rfl ?_))) | refine end_ops ?_ | refine seq_ops ?_ | (refine cond_f rfl ?_ ?_; (· first | rfl | assumption | (refine decide_eq_false ?_; first | assumption | omega) | (refine nf ?_; first | assumption | omega) | (simp [*]; done))) | refine skip_then ?_ | refine AW_seq ?_ | refine AW_block ?_)
  refine AW_loop (α := Nat) (fun k => k ≤ L.length) (fun k => st [(0, ints L), (1, ints L), (12, .i L.length), (13, .i k)] []) (fun k => L.length - k) 0 (by omega) (weak_st ?_ ?_ rfl rfl) ?_
  · (repeat' (first | exact trivial | refine And.intro ?_ ?_)) <;> (first | rfl | skip)
  · trivial
  intro k hk
  by_cases hc : k < L.length
  · repeat (first | ((first | refine step_ops ?_ | refine step_tree ?_); (first | (refine m_mov (by conv => lhs; whnf) ?_) | (refine m_lss rfl rfl ?_) | (refine m_neq rfl rfl ?_) | (refine m_add rfl rfl ?_ ?_ ?_; (· omega); (· omega)) | (refine m_idx1_ro rfl rfl ?_ ?_; (· omega)) | (refine m_ld_rpi rfl ?_ ?_; (· omega)))) | refine end_ops ?_ | refine seq_ops ?_ | refine AW_ops ?_ | refine end_tree ?_ | refine seq_tree ?_ | (refine cond_t rfl ?_ ?_; (· first | rfl | assumption | (refine decide_eq_true ?_; first | assumption | omega) | (refine nt ?_; first | assumption | omega) | (simp [*]; done))) | (refine cond_f rfl ?_ ?_; (· first | rfl | assumption | (refine decide_eq_false ?_; first | assumption | omega) | (refine nf ?_; first | assumption | omega) | (simp [*]; done))) | refine skip_then ?_ | refine AW_seq ?_ | refine norm_then ?_ | refine AW_block ?_ | refine norm_block ?_ | refine AW_skip ?_)
    refine next_round (k + 1) (by omega) (weak_st ?_ ?_ rfl rfl) ?_
    · (repeat' (first | exact trivial | refine And.intro ?_ ?_)) <;> (first | rfl | skip)
    · trivial
    · omega
  · repeat (first | (refine step_ops ?_; (first | (refine m_mov (by conv => lhs; whnf) ?_) | (refine m_lss rfl rfl ?_))) | refine end_ops ?_ | refine seq_ops ?_ | (refine cond_f rfl ?_ ?_; (· first | rfl | assumption | (refine decide_eq_false ?_; first | assumption | omega) | (refine nf ?_; first | assumption | omega) | (simp [*]; done))) | refine AW_seq ?_ | refine AW_ret ?_ | refine ret_done ?_ | refine norm_then ?_ | refine exit_then ?_ | refine exit_round ?_ | refine AW_exit ?_ | refine exit_block ?_)
    exact outs_b rfl

theorem ofRes_ok {n r : Int} (h : OfOk n r) : (ofRes n r).length = n.toNat ∧ RankOk (ofRes n r) ∧ befR (ofRes n r) = r := by
  rw [ofRes, if_pos h]
  exact rankG_ok (by have := h.1; omega) (by have := h.1; omega) h.2.1 (by have := h.2.2; omega)
/-- An exchange without own coats of a rank not below that of a list comes behind it, if it is another one. -/
theorem bef_behind {D L : List Int} (hD : RankOk D) (hL : IsEx L) (hl : D.length = L.length) (hne : D ≠ L) (h : befR L ≤ befR D) : lexC L D < 0 := by
  obtain ⟨j, h1, h2, h3⟩ := first_diff hl hne
  have hc := bef_lt hD.1 hD.2 hL hl (by omega) h2
  by_cases hlt : D.getD j 0 < L.getD j 0
  · have := hc.1 hlt; omega
  · rw [(lexC_at (by omega) h1 h2.symm).1 (by omega)]; decide
/-- One of a lower rank does not come behind it. -/
theorem bef_ahead {D L : List Int} (hD : RankOk D) (hL : IsEx L) (hl : D.length = L.length) (h : D = L ∨ befR D < befR L) : ¬ lexC L D < 0 := by
  by_cases hne : D = L
  · rw [hne, lexC_irr]; decide
  · obtain ⟨j, h1, h2, h3⟩ := first_diff hl hne
    have hc := bef_lt hD.1 hD.2 hL hl (by omega) h2
    by_cases hlt : D.getD j 0 < L.getD j 0
    · rw [(lexC_at (by omega) h1 h2.symm).2 hlt]; decide
    · have := (hc.2 (by omega)).1
      rcases h with h | h
      · exact absurd h hne
      · omega
theorem nr_next {L : List Int} (h : NextOk L) : (nextRes L).length = L.length ∧ RankOk (nextRes L) ∧ befR (nextRes L) = nextRank L ∧ lexC L (nextRes L) < 0 ∧ (0 < nextRank L → OfOk L.length (nextRank L - 1) ∧ ¬ lexC L (ofRes L.length (nextRank L - 1)) < 0) := by
  have e : nextRes L = ofRes L.length (nextRank L) := by rw [nextRes, if_pos h, ofRes, if_pos h.2, Int.toNat_natCast]
  obtain ⟨a1, a2, a3⟩ := ofRes_ok h.2
  rw [← e] at a1 a2 a3
  rw [Int.toNat_natCast] at a1
  refine ⟨a1, a2, a3, bef_behind a2 h.1 a1 (fun hh => ?_) ?_, fun hp => ?_⟩
  · have h1 : ¬ HasOwn L := by rw [← hh]; exact a2.2
    have h2 : nextRank L = befR L + 1 := if_neg h1
    rw [hh, h2] at a3
    omega
  · rw [a3]
    unfold nextRank
    split <;> omega
  · have ho : OfOk L.length (nextRank L - 1) := ⟨h.2.1, by have := h.2.2; omega, by have := h.2.2; omega⟩
    obtain ⟨b1, b2, b3⟩ := ofRes_ok ho
    rw [Int.toNat_natCast] at b1
    refine ⟨ho, bef_ahead b2 h.1 b1 ?_⟩
    by_cases hw : HasOwn L
    · right
      rw [b3, nextRank, if_pos hw]; omega
    · left
      refine bef_inj b2 ⟨h.1, hw⟩ b1 ?_
      rw [b3, nextRank, if_neg hw]; omega
theorem nr_rank {L : List Int} (h : RankOk L) : OfOk L.length (befR L) ∧ ofRes L.length (befR L) = L ∧ countNoneR L.length = noneN L.length ∧ befR L < noneN L.length ∧ (NextOk L ↔ befR L + 1 < noneN L.length) := by
  obtain ⟨h0, h1, h2⟩ := rank_back h
  have hl : (1 : Int) ≤ L.length ∧ (L.length : Int) ≤ 12 := ⟨by have := h.1.1; omega, by have := h.1.2.1; omega⟩
  have ho : OfOk L.length (befR L) := ⟨hl, h0, by rw [Int.toNat_natCast]; omega⟩
  refine ⟨ho, ?_, ?_, h1, ?_⟩
  · rw [ofRes, if_pos ho, Int.toNat_natCast, h2]
  · rw [countNoneR, if_pos hl, Int.toNat_natCast]
  · unfold NextOk
    rw [nextRank, if_neg h.2]
    constructor
    · intro hh
      have := hh.2.2.2
      rw [Int.toNat_natCast] at this
      omega
    · intro hh
      exact ⟨h.1, hl, by omega, by rw [Int.toNat_natCast]; omega⟩
theorem rank_own (L : List Int) : RankOk L ↔ IsEx L ∧ ((ownList L L.length).length : Int) = 0 := by
  unfold RankOk
  rw [← ownList_nil]
  constructor
  · intro h; exact ⟨h.1, by omega⟩
  · intro h; exact ⟨h.1, by omega⟩
/-- The sums over own coats of some guests. -/
def ownV2 (G k : Nat) : Int := chz G k k * noneN (G - k)
def ownS (G : Nat) : Nat → Int
  | 0 => 0
  | k + 1 => ownS G k + ownV2 G k
def ownW (G : Nat) : Nat → Int
  | 0 => 0
  | k + 1 => ownW G k + (k : Int) * ownV2 G k
theorem own_sums : ∀ G < 13, ∀ k < G + 2, (0 ≤ ownV2 G k ∧ ownV2 G k ≤ 479001600) ∧ (0 ≤ ownS G k ∧ ownS G k ≤ 10000000000) ∧ 0 ≤ (k : Int) * ownV2 G k ∧ (k : Int) * ownV2 G k ≤ 10000000000 ∧ 0 ≤ ownW G k ∧ ownW G k ≤ 100000000000 := by decide +kernel
theorem own_all : ∀ G < 13, 1 ≤ G → ownS G (G + 1) = fac G ∧ ownW G (G + 1) = fac G ∧ ownV2 G 0 = noneN G ∧ (0 ≤ noneN G ∧ noneN G ≤ 479001600) ∧
    noneN G * ((low (noneN G).toNat (fac G).toNat).2 : Nat) = ((low (noneN G).toNat (fac G).toNat).1 : Nat) * fac G ∧ (low (noneN G).toNat (fac G).toNat).1 ≤ 479001600 ∧ (low (noneN G).toNat (fac G).toNat).2 ≤ 479001600 := by decide +kernel
theorem countOwn_at {G k : Nat} (h1 : 1 ≤ G) (hG : G ≤ 12) (hk : k ≤ G) : OwnOk G k ∧ countOwnR G k = ownV2 G k := by
  have h : OwnOk G k := ⟨⟨by omega, by omega⟩, by omega, by omega⟩
  refine ⟨h, ?_⟩
  rw [countOwnR, if_pos h, Int.toNat_natCast, Int.toNat_natCast]
  rfl
end Go.Proofs.Ytgjlaajkakecpaa
