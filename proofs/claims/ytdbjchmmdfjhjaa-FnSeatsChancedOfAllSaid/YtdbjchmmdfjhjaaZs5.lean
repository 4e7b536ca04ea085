/- The abstract machine, contracts: part 5 of what this claim needs. -/
import Derived.Test.YtdbjchmmdfjhjaaZs4
import Derived.Test.YtdbjchmmdfjhjaaZt1
import Derived.Test.YtdbjchmmdfjhjaaZt2
import Derived.Test.YtdbjchmmdfjhjaaZt3
import Derived.Test.YtdbjchmmdfjhjaaZt4
import Derived.Test.YtdbjchmmdfjhjaaZt5
import Derived.Test.YtdbjchmmdfjhjaaZt6
namespace Go.Proofs.Ytdbjchmmdfjhjaa
open Go.Am
attribute [local irreducible] AW Outs Weak Lends Lend Sp aops atree aop1 Then Round InBlock Done
theorem oTimes_spec (n : Nat) (h : n ≤ 12) : Sp Try.prog 9 [.i n] (.i (fac n)) := by
  refine spec_of Try.func9 rfl cc9 rfl ?_
  unfold ac9
  repeat (first | (refine step_ops ?_; (refine m_mov (by conv => lhs; whnf) ?_)) | refine end_ops ?_ | refine seq_ops ?_ | refine AW_seq ?_ | refine AW_block ?_)
  refine AW_loop (α := Nat) (fun j => j + 1 ≤ n ∨ j = 0) (fun j => st [(0, .i n), (3, .i (fac (j + 1))), (4, .i ((j : Int) + 2))] []) (fun j => n - j) 0 (.inr rfl) (weak_st ?_ ?_ rfl rfl) ?_
  · (repeat' (first | exact trivial | refine And.intro ?_ ?_)) <;> (first | rfl | skip)
  · trivial
  intro j hj
  by_cases hc : (j : Int) + 2 ≤ n
  · have hb := fac_le (j + 2) (by omega)
    have e : fac (j + 2) = fac (j + 1) * ((j : Int) + 2) := rfl
    rw [e] at hb
    repeat (first | (refine step_ops ?_; (first | (refine m_mov (by conv => lhs; whnf) ?_) | (refine m_leq rfl rfl ?_) | (refine m_add rfl rfl ?_ ?_ ?_; (· omega); (· omega)) | (refine m_mul rfl rfl ?_ ?_ ?_; (· first | omega | (simp; done)); (· first | omega | (simp; done))))) | refine end_ops ?_ | refine seq_ops ?_ | refine AW_ops ?_ | (refine cond_t rfl ?_ ?_; (· first | rfl | assumption | (refine decide_eq_true ?_; first | assumption | omega) | (refine nt ?_; first | assumption | omega) | (simp [*]; done))) | refine skip_then ?_ | refine AW_seq ?_ | refine norm_then ?_ | refine AW_block ?_ | refine norm_block ?_)
    refine next_round (j + 1) (by omega) (weak_st ?_ ?_ rfl rfl) ?_
    · (repeat' (first | exact trivial | refine And.intro ?_ ?_)) <;> (first | rfl | skip)
    · trivial
    · omega
  · repeat (first | (refine step_ops ?_; (first | (refine m_mov (by conv => lhs; whnf) ?_) | (refine m_leq rfl rfl ?_))) | refine end_ops ?_ | refine seq_ops ?_ | (refine cond_f rfl ?_ ?_; (· first | rfl | assumption | (refine decide_eq_false ?_; first | assumption | omega) | (refine nf ?_; first | assumption | omega) | (simp [*]; done))) | refine AW_seq ?_ | refine AW_ret ?_ | refine ret_done ?_ | refine norm_then ?_ | refine exit_then ?_ | refine exit_round ?_ | refine AW_exit ?_ | refine exit_block ?_)
    refine outs_i ?_
    rcases hj with hj | rfl
    · have : j + 1 = n := by omega
      rw [this]
    · have : n = 0 ∨ n = 1 := by omega
      rcases this with rfl | rfl <;> rfl
theorem oSame_self (L : List Int) (hL : L.length ≤ 1048576) : Sp Try.prog 18 [ints L, ints L] (.b true) := by
  refine spec_of Try.func18 rfl cc18 rfl ?_
  unfold ac18
  repeat (first | (refine step_ops ?_; (first | (refine m_mov (by conv => lhs; whnf) ?_) | (refine m_neq rfl rfl ?_) | (refine m_len_ro rfl ?_))) | refine end_ops ?_ | refine seq_ops ?_ | (refine cond_f rfl ?_ ?_; (· first | rfl | assumption | (refine decide_eq_false ?_; first | assumption | omega) | (refine nf ?_; first | assumption | omega) | (simp [*]; done))) | refine skip_then ?_ | refine AW_seq ?_ | refine AW_block ?_)
  refine AW_loop (α := Nat) (fun k => k ≤ L.length) (fun k => st [(0, ints L), (1, ints L), (12, .i L.length), (13, .i k)] []) (fun k => L.length - k) 0 (by omega) (weak_st ?_ ?_ rfl rfl) ?_
  · (repeat' (first | exact trivial | refine And.intro ?_ ?_)) <;> (first | rfl | skip)
  · trivial
  intro k hk
  by_cases hc : k < L.length
  · repeat (first | ((first | refine step_ops ?_ | refine step_tree ?_); (first | (refine m_mov (by conv => lhs; whnf) ?_) | (refine m_lss rfl rfl ?_) | (refine m_neq rfl rfl ?_) | (refine m_add rfl rfl ?_ ?_ ?_; (· omega); (· omega)) | (refine m_idx1_ro rfl rfl ?_ ?_; (· omega)) | (refine m_ld_rpi rfl ?_ ?_; (· omega)))) | refine end_ops ?_ | refine seq_ops ?_ | refine AW_ops ?_ | refine end_tree ?_ | refine seq_tree ?_ | (refine cond_t rfl ?_ ?_; (· first | rfl | assumption | (refine decide_eq_true ?_; first | assumption | omega) | (refine nt ?_; first | assumption | omega) | (simp [*]; done))) | (refine cond_f rfl ?_ ?_; (· first | rfl | assumption | (refine decide_eq_false ?_; first | assumption | omega) | (refine nf ?_; first | assumption | omega) | (simp [*]; done))) | refine skip_then ?_ | refine AW_seq ?_ | refine norm_then ?_ | refine AW_block ?_ | refine norm_block ?_ | refine AW_skip ?_)
    refine next_round (k + 1) (by omega) (weak_st ?_ ?_ rfl rfl) ?_
    · (repeat' (first | exact trivial | refine And.intro ?_ ?_)) <;> (first | rfl | skip)
    · trivial
    · omega
  · repeat (first | (refine step_ops ?_; (first | (refine m_mov (by conv => lhs; whnf) ?_) | (refine m_lss rfl rfl ?_))) | refine end_ops ?_ | refine seq_ops ?_ | (refine cond_f rfl ?_ ?_; (· first | rfl | assumption | (refine decide_eq_false ?_; first | assumption | omega) | (refine nf ?_; first | assumption | omega) | (simp [*]; done))) | refine AW_seq ?_ | refine AW_ret ?_ | refine ret_done ?_ | refine norm_then ?_ | refine exit_then ?_ | refine exit_round ?_ | refine AW_exit ?_ | refine exit_block ?_)
    exact outs_b rfl
/-- How many of the first k have the own seat. -/
def ownN (L : List Int) : Nat → Nat
  | 0 => 0
  | k + 1 => ownN L k + if ((k : Nat) : Int) = L.getD k 0 then 1 else 0
theorem ownN_le (L : List Int) : ∀ k, ownN L k ≤ k
  | 0 => Nat.le_refl _
  | k + 1 => by have := ownN_le L k; simp only [ownN]; split <;> omega
theorem own_displ (L : List Int) : ∀ k, ownN L k + (disp L k).length = k
  | 0 => rfl
  | k + 1 => by
    have ih := own_displ L k
    have e : (disp L (k + 1)).length = (disp L k).length + if L.getD k 0 ≠ ((k : Nat) : Int) then 1 else 0 := by
      unfold disp
      rw [List.range_succ, List.filter_append, List.map_append, List.length_append]
      congr 1
      by_cases h : L.getD k 0 = ((k : Nat) : Int)
      · rw [if_neg (fun hn => hn h), List.filter_cons_of_neg (by simp only [decide_eq_true_eq]; exact fun hn => hn h)]; rfl
      · rw [if_pos h, List.filter_cons_of_pos (by simp only [decide_eq_true_eq]; exact h)]; rfl
    rw [e]
    simp only [ownN]
    by_cases h : L.getD k 0 = ((k : Nat) : Int)
    · rw [if_pos h.symm, if_neg (fun hn => hn h)]; omega
    · rw [if_neg (fun hn => h hn.symm), if_pos h]; omega
theorem oOwn_spec (L : List Int) (hL : L.length ≤ 1048576) : Sp Try.prog 20 [ints L] (.i ((ownN L L.length : Nat) : Int)) := by
  refine spec_of Try.func20 rfl cc20 rfl ?_
  unfold ac20
  repeat (first | (refine step_ops ?_; (first | (refine m_mov (by conv => lhs; whnf) ?_) | (refine m_len_ro rfl ?_))) | refine end_ops ?_ | refine seq_ops ?_ | refine AW_seq ?_ | refine AW_block ?_)
  refine AW_loop (α := Nat) (fun k => k ≤ L.length) (fun k => st [(3, .i ((ownN L k : Nat) : Int)), (6, ints L), (7, .i L.length), (8, .i k)] []) (fun k => L.length - k) 0 (by omega) (weak_st ?_ ?_ rfl rfl) ?_
  · (repeat' (first | exact trivial | refine And.intro ?_ ?_)) <;> (first | rfl | skip)
  · trivial
  intro k hk
  have hb := ownN_le L k
  by_cases hc : k < L.length
  · by_cases he : ((k : Nat) : Int) = L.getD k 0
    · have hs : ownN L (k + 1) = ownN L k + 1 := by simp only [ownN]; rw [if_pos he]
      repeat (first | (refine step_ops ?_; (first | (refine m_mov (by conv => lhs; whnf) ?_) | (refine m_lss rfl rfl ?_) | (refine m_eql rfl rfl ?_) | (refine m_add rfl rfl ?_ ?_ ?_; (· omega); (· omega)) | (refine m_idx1_ro rfl rfl ?_ ?_; (· omega)) | (refine m_ld_rpi rfl ?_ ?_; (· omega)))) | refine end_ops ?_ | refine seq_ops ?_ | refine AW_ops ?_ | (refine cond_t rfl ?_ ?_; (· first | rfl | assumption | (refine decide_eq_true ?_; first | assumption | omega) | (refine nt ?_; first | assumption | omega) | (simp [*]; done))) | refine skip_then ?_ | refine AW_seq ?_ | refine norm_then ?_ | refine AW_block ?_ | refine norm_block ?_)
      refine next_round (k + 1) (by omega) (weak_st ?_ ?_ rfl rfl) ?_
      · rw [hs]
        (repeat' (first | exact trivial | refine And.intro ?_ ?_)) <;> (first | rfl | skip)
      · trivial
      · omega
    · have hs : ownN L (k + 1) = ownN L k := by simp only [ownN]; rw [if_neg he]; rfl
      repeat (first | (refine step_ops ?_; (first | (refine m_mov (by conv => lhs; whnf) ?_) | (refine m_lss rfl rfl ?_) | (refine m_eql rfl rfl ?_) | (refine m_add rfl rfl ?_ ?_ ?_; (· omega); (· omega)) | (refine m_idx1_ro rfl rfl ?_ ?_; (· omega)) | (refine m_ld_rpi rfl ?_ ?_; (· omega)))) | refine end_ops ?_ | refine seq_ops ?_ | refine AW_ops ?_ | (refine cond_t rfl ?_ ?_; (· first | rfl | assumption | (refine decide_eq_true ?_; first | assumption | omega) | (refine nt ?_; first | assumption | omega) | (simp [*]; done))) | (refine cond_f rfl ?_ ?_; (· first | rfl | assumption | (refine decide_eq_false ?_; first | assumption | omega) | (refine nf ?_; first | assumption | omega) | (simp [*]; done))) | refine skip_then ?_ | refine AW_seq ?_ | refine norm_then ?_ | refine AW_block ?_ | refine norm_block ?_ | refine AW_skip ?_)
      refine next_round (k + 1) (by omega) (weak_st ?_ ?_ rfl rfl) ?_
      · rw [hs]
        (repeat' (first | exact trivial | refine And.intro ?_ ?_)) <;> (first | rfl | skip)
      · trivial
      · omega
  · obtain rfl : k = L.length := by omega
    repeat (first | (refine step_ops ?_; (first | (refine m_mov (by conv => lhs; whnf) ?_) | (refine m_lss rfl rfl ?_))) | refine end_ops ?_ | refine seq_ops ?_ | (refine cond_f rfl ?_ ?_; (· first | rfl | assumption | (refine decide_eq_false ?_; first | assumption | omega) | (refine nf ?_; first | assumption | omega) | (simp [*]; done))) | refine AW_seq ?_ | refine AW_ret ?_ | refine ret_done ?_ | refine norm_then ?_ | refine exit_then ?_ | refine exit_round ?_ | refine AW_exit ?_ | refine exit_block ?_)
    exact outs_i rfl
theorem disp_rises (L : List Int) (k : Nat) : ∀ i, i + 1 < (disp L k).length → (disp L k).getD i 0 < (disp L k).getD (i + 1) 0 := by
  have h : (disp L k).Pairwise (· < ·) := by
    unfold disp
    rw [List.pairwise_map]
    exact (List.pairwise_lt_range.filter _).imp fun h => by omega
  intro i hi
  have := List.pairwise_iff_getElem.1 h i (i + 1) (by omega) hi (by omega)
  have e1 : (disp L k).getD i 0 = (disp L k)[i] := by simp [show i < (disp L k).length by omega]
  have e2 : (disp L k).getD (i + 1) 0 = (disp L k)[i + 1] := by simp [hi]
  rw [e1, e2]
  exact this
theorem oRises_spec (L : List Int) (hL : L.length ≤ 1048576) (hr : ∀ i, i + 1 < L.length → L.getD i 0 < L.getD (i + 1) 0) : Sp Try.prog 21 [ints L] (.b true) := by
  refine spec_of Try.func21 rfl cc21 rfl ?_
  unfold ac21
  repeat (first | (refine step_ops ?_; (refine m_mov (by conv => lhs; whnf) ?_)) | refine end_ops ?_ | refine seq_ops ?_ | refine AW_seq ?_ | refine AW_block ?_)
  refine AW_loop (α := Nat) (fun k => k ≤ L.length) (fun k => st [(0, ints L), (3, .i ((k + 1 : Nat) : Int))] []) (fun k => L.length - k) 0 (by omega) (weak_st ?_ ?_ rfl rfl) ?_
  · (repeat' (first | exact trivial | refine And.intro ?_ ?_)) <;> (first | rfl | skip)
  · trivial
  intro k hk
  by_cases hc : k + 1 < L.length
  · have h1 := hr k hc
    have e : (((k + 1 : Nat) : Int) - 1) = ((k : Nat) : Int) := by omega
    have hlt : k < L.length := by omega
    repeat (first | ((first | refine step_ops ?_ | refine step_tree ?_); (first | (refine m_mov (by conv => lhs; whnf) ?_) | (refine m_lss rfl rfl ?_) | (refine m_geq rfl rfl ?_) | (refine m_add rfl rfl ?_ ?_ ?_; (· omega); (· omega)) | (refine m_sub rfl rfl ?_ ?_ ?_; (· omega); (· omega)) | (refine m_len_ro rfl ?_) | (refine m_idx1_ro rfl rfl ?_ ?_; (· omega)) | (apply m_idx1_roj; (· rfl); (· rfl); (· assumption); (· omega)) | (refine m_ld_rpi rfl ?_ ?_; (· omega)))) | refine end_ops ?_ | refine seq_ops ?_ | refine AW_ops ?_ | refine end_tree ?_ | refine seq_tree ?_ | (refine cond_t rfl ?_ ?_; (· first | rfl | assumption | (refine decide_eq_true ?_; first | assumption | omega) | (refine nt ?_; first | assumption | omega) | (simp [*]; done))) | (refine cond_f rfl ?_ ?_; (· first | rfl | assumption | (refine decide_eq_false ?_; first | assumption | omega) | (refine nf ?_; first | assumption | omega) | (simp [*]; done))) | refine skip_then ?_ | refine AW_seq ?_ | refine norm_then ?_ | refine AW_block ?_ | refine norm_block ?_ | refine AW_skip ?_)
    rw [e]
    skip
    refine next_round (k + 1) (by omega) (weak_st ?_ ?_ rfl rfl) ?_
    · (repeat' (first | exact trivial | refine And.intro ?_ ?_)) <;> (first | rfl | skip)
    · trivial
    · omega
  · repeat (first | (refine step_ops ?_; (first | (refine m_mov (by conv => lhs; whnf) ?_) | (refine m_lss rfl rfl ?_) | (refine m_len_ro rfl ?_))) | refine end_ops ?_ | refine seq_ops ?_ | (refine cond_f rfl ?_ ?_; (· first | rfl | assumption | (refine decide_eq_false ?_; first | assumption | omega) | (refine nf ?_; first | assumption | omega) | (simp [*]; done))) | refine AW_seq ?_ | refine AW_ret ?_ | refine ret_done ?_ | refine norm_then ?_ | refine exit_then ?_ | refine exit_round ?_ | refine AW_exit ?_ | refine exit_block ?_)
    exact outs_b rfl
def SgOwn (n m i : Nat) : Prop := (1 ≤ (chOwn n m i).1 ∧ (chOwn n m i).1 ≤ (chOwn n m i).2 ∧ (chOwn n m i).2 ≤ 60) ∧ (m = 0 → (chOwn n m i).1 = (chOwn n m i).2) ∧ (m ≤ i → (chOwn n m (n - 1)).1 * (chOwn n m i).2 ≤ (chOwn n m i).1 * (chOwn n m (n - 1)).2)
instance (n m i : Nat) : Decidable (SgOwn n m i) := inferInstanceAs (Decidable ((_ ∧ _ ∧ _) ∧ (_ → _) ∧ (_ → _)))
theorem sg_own : ∀ n < 31, ∀ m < n + 1, ∀ i < n, SgOwn n m i := by decide +kernel
theorem sg_mean : ∀ g < 13, 1 ≤ g → ∀ l < g + 1, (1 ≤ (meanOf g l g).1 ∧ (meanOf g l g).1 ≤ g * (meanOf g l g).2) ∧ 1 ≤ cntS l (g - l) ∧ cntS l (g - l) ≤ 1000000000 := by decide +kernel
end Go.Proofs.Ytdbjchmmdfjhjaa
namespace Go.Am
theorem g_un {P : Program} {own : Bool} {s : AS} {K : AS → Prop} {d : Option Nat} {op : AOp} {t : Nat} {w : Bool} (h : s.tm t = .v undef) (k : K (s.put d (.v undef))) : aop1 P own ⟨d, op, some (t, w)⟩ s K := .inr ⟨h, k⟩
end Go.Am
namespace Go.Proofs.Ytdbjchmmdfjhjaa
open Go.Am
attribute [local irreducible] AW Outs Weak Lends Lend Sp aops atree aop1 Then Round InBlock Done
attribute [local irreducible] SpM DoneM SpH DoneH
/-- The second part of a code, the first one, and what is done of two. -/
def sndC : ACode → ACode
  | .seq _ y => y
  | c => c
def fstC : ACode → ACode
  | .seq x _ => x
  | c => c
def cndC : ACode → ACode
  | .cond _ x _ => x
  | c => c
theorem xor_self (b : Bool) : (true ^^ (b == b)) = false := by cases b <;> rfl
def sgRest : ACode := (sndC (sndC (sndC (sndC (sndC (sndC (sndC (sndC ac3))))))))
def sgT1 : ACode := (sndC (sndC (sndC (sndC (sndC (sndC (sndC (sndC (sndC sgRest)))))))))
def sgT2 : ACode := sndC sgT1
def sgT3 : ACode := sndC sgT2
theorem sg3 (L : List Int) (hL : L.length ≤ 10000) : AW Try.prog (min Try.f3.ntmps pbase) sgT3 (st [(8, ints L), (60, newInts (dispR L)), (61, .b (decide (IsEx L)))] []) (Done [18].reverse (.b true)) := by
  by_cases h : IsEx L
  · have e : dispR L = disp L L.length := if_pos h
    have hd := own_displ L L.length
    have hr := oRises_spec (disp L L.length) (by omega) (disp_rises L L.length)
    have ho := oOwn_spec L (by omega)
    have hne : decide ((((disp L L.length).length : Nat) : Int) ≠ ((L.length : Nat) : Int) - ((ownN L L.length : Nat) : Int)) = false := decide_eq_false fun hn => hn (by omega)
    rw [e]
    generalize disp L L.length = M at *
    unfold sgT3 sgT2 sgT1 sgRest
    unfold ac3
    simp only [sndC]
    repeat (first | (refine step_ops ?_; (first | (refine m_mov (by conv => lhs; whnf) ?_) | (refine m_len_ro rfl ?_))) | refine end_ops ?_ | refine seq_ops ?_ | (refine cond_t rfl ?_ ?_; (· first | rfl | assumption | (refine decide_eq_true ?_; first | assumption | omega) | (refine nt ?_; first | assumption | omega) | (simp [*]; done))) | refine AW_seq ?_)
    refine step_ops ?_; (apply m_call (ho)); (· repeat (first | exact lends_nil | (refine lends_cons ?_ ?_; (· (refine lend_ints ?_; first | rfl | omega)))))
    repeat (refine step_ops ?_; ((try (refine g_yes rfl ?_ ?_; (· first | rfl | assumption | (refine decide_eq_true ?_; first | assumption | omega) | (refine nt ?_; first | assumption | omega) | (simp [*]; done) | (refine decide_eq_false ?_; first | assumption | omega) | (refine nf ?_; first | assumption | omega)))); (first | (refine m_mov (by conv => lhs; whnf) ?_) | (refine m_neq rfl rfl ?_) | (refine m_sub rfl rfl ?_ ?_ ?_; (· omega); (· omega)))))
    refine step_ops ?_; (refine g_yes rfl ?_ ?_; (· first | (first | rfl | assumption | (refine decide_eq_true ?_; first | assumption | omega) | (refine nt ?_; first | assumption | omega) | (simp [*]; done)) | (first | rfl | assumption | (refine decide_eq_false ?_; first | assumption | omega) | (refine nf ?_; first | assumption | omega) | (simp [*]; done))); (apply m_call (hr))); (· repeat (first | exact lends_nil | (refine lends_cons ?_ ?_; (· (refine lend_ints ?_; first | rfl | omega)))))
    repeat (first | (refine step_ops ?_; ((try (refine g_yes rfl ?_ ?_; (· first | rfl | assumption | (refine decide_eq_true ?_; first | assumption | omega) | (refine nt ?_; first | assumption | omega) | (simp [*]; done) | (refine decide_eq_false ?_; first | assumption | omega) | (refine nf ?_; first | assumption | omega)))); (first | (refine m_mov (by conv => lhs; whnf) ?_) | (refine m_not rfl ?_) | (refine m_pick_f rfl ?_ (by conv => lhs; whnf) ?_; (· first | rfl | assumption | (refine decide_eq_false ?_; first | assumption | omega) | (refine nf ?_; first | assumption | omega) | (simp [*]; done)))))) | refine end_ops ?_ | refine seq_ops ?_ | (refine cond_f rfl ?_ ?_; (· first | rfl | assumption | (refine decide_eq_false ?_; first | assumption | omega) | (refine nf ?_; first | assumption | omega) | (simp [*]; done))) | refine skip_then ?_ | refine AW_ret ?_ | refine ret_done ?_)
    exact outs_b rfl
  · unfold sgT3 sgT2 sgT1 sgRest
    unfold ac3
    simp only [sndC]
    repeat (first | (refine step_ops ?_; (refine m_mov (by conv => lhs; whnf) ?_)) | refine end_ops ?_ | refine seq_ops ?_ | (refine cond_f rfl ?_ ?_; (· first | rfl | assumption | (refine decide_eq_false ?_; first | assumption | omega) | (refine nf ?_; first | assumption | omega) | (simp [*]; done))) | refine skip_then ?_ | refine AW_seq ?_ | refine AW_ret ?_ | refine ret_done ?_)
    exact outs_b rfl
theorem sg2 (p q : Int) (L : List Int) (hL : L.length ≤ 10000) : AW Try.prog (min Try.f3.ntmps pbase) sgT2 (st [(6, .i p), (50, .i (cntR p q)), (51, .b (decide (SeOk 12 p q))), (54, .i (((meanR p q).1 : Nat) : Int)), (55, .i (((meanR p q).2 : Nat) : Int)), (56, .b (decide (SeOk 12 p q))), (8, ints L), (60, newInts (dispR L)), (61, .b (decide (IsEx L)))] []) (Done [18].reverse (.b true)) := by
  have h3 := sg3 L hL
  have hp : sgT2 = .seq (fstC sgT2) sgT3 := rfl
  rw [hp]
  clear hp
  generalize sgT3 = c3 at *
  by_cases h : SeOk 12 p q
  · obtain ⟨G, rfl⟩ := Int.eq_ofNat_of_zero_le (show 0 ≤ p by have := h.1; omega)
    obtain ⟨K, rfl⟩ := Int.eq_ofNat_of_zero_le (show 0 ≤ q by have := h.2; omega)
    have h1 := h.1
    have h2 := h.2
    have hm := sg_mean G (by omega) (by omega) K (by omega)
    have hb := meanOf_le G (by omega) K (by omega) G (by omega)
    have e1 : cntR ((G : Nat) : Int) ((K : Nat) : Int) = cntS K (G - K) := by
      unfold cntR
      rw [if_pos h, Int.toNat_natCast, Int.toNat_natCast]
    have e2 : meanR ((G : Nat) : Int) ((K : Nat) : Int) = meanOf G K G := by
      unfold meanR
      rw [if_pos h, Int.toNat_natCast, Int.toNat_natCast]
    rw [e1, e2, decide_eq_true h]
    generalize cntS K (G - K) = c at *
    generalize meanOf G K G = M at *
    have hx : ((M.1 : Nat) : Int) ≤ ((G : Nat) : Int) * ((M.2 : Nat) : Int) := by
      have := hm.1.2
      exact_mod_cast this
    have hy : ((G : Nat) : Int) * ((M.2 : Nat) : Int) ≤ 12 * 1000000000 := Int.mul_le_mul (by omega) (by omega) (by omega) (by omega)
    unfold sgT2 sgT1 sgRest
    unfold ac3
    simp only [sndC, fstC]
    repeat (first | ((first | (refine step_ops ?_; ((try (refine g_yes rfl ?_ ?_; (· first | rfl | assumption | (refine decide_eq_true ?_; first | assumption | omega) | (refine nt ?_; first | assumption | omega) | (simp [*]; done) | (refine decide_eq_false ?_; first | assumption | omega) | (refine nf ?_; first | assumption | omega)))); (first | (refine m_mov (by conv => lhs; whnf) ?_) | (refine m_lss rfl rfl ?_) | (refine m_gtr rfl rfl ?_) | (refine m_mul rfl rfl ?_ ?_ ?_; (· first | omega | (simp; done)); (· first | omega | (simp; done))) | (refine m_pick_t rfl ?_ (by conv => lhs; whnf) ?_; (· first | rfl | assumption | (refine decide_eq_true ?_; first | assumption | omega) | (refine nt ?_; first | assumption | omega) | (simp [*]; done))) | (refine m_pick_f rfl ?_ (by conv => lhs; whnf) ?_; (· first | rfl | assumption | (refine decide_eq_false ?_; first | assumption | omega) | (refine nf ?_; first | assumption | omega) | (simp [*]; done)))))) | refine end_ops ?_ | refine seq_ops ?_ | (refine cond_f rfl ?_ ?_; (· first | rfl | assumption | (refine decide_eq_false ?_; first | assumption | omega) | (refine nf ?_; first | assumption | omega) | (simp [*]; done))) | refine skip_then ?_ | refine AW_seq ?_)) | (refine step_ops ?_; refine g_un rfl ?_))
    refine AW_weak (weak_st ?_ ?_ rfl rfl) h3
    · (repeat' (first | exact trivial | refine And.intro ?_ ?_)) <;> (first | rfl | skip)
    · trivial
  · rw [decide_eq_false h]
    unfold sgT2 sgT1 sgRest
    unfold ac3
    simp only [sndC, fstC]
    repeat (first | ((first | (refine step_ops ?_; (first | ((try (refine g_yes rfl ?_ ?_; (· first | rfl | assumption | (refine decide_eq_true ?_; first | assumption | omega) | (refine nt ?_; first | assumption | omega) | (simp [*]; done) | (refine decide_eq_false ?_; first | assumption | omega) | (refine nf ?_; first | assumption | omega)))); (first | (refine m_mov (by conv => lhs; whnf) ?_) | (refine m_pick_f rfl ?_ (by conv => lhs; whnf) ?_; (· first | rfl | assumption | (refine decide_eq_false ?_; first | assumption | omega) | (refine nf ?_; first | assumption | omega) | (simp [*]; done))))) | (refine g_noT rfl ?_ ?_; (· first | rfl | assumption | (refine decide_eq_false ?_; first | assumption | omega) | (refine nf ?_; first | assumption | omega) | (simp [*]; done))))) | refine end_ops ?_ | refine seq_ops ?_ | (refine cond_f rfl ?_ ?_; (· first | rfl | assumption | (refine decide_eq_false ?_; first | assumption | omega) | (refine nf ?_; first | assumption | omega) | (simp [*]; done))) | refine skip_then ?_ | refine AW_seq ?_)) | (refine step_ops ?_; refine g_un rfl ?_))
    refine AW_weak (weak_st ?_ ?_ rfl rfl) h3
    · (repeat' (first | exact trivial | refine And.intro ?_ ?_)) <;> (first | rfl | skip)
    · trivial
theorem sg1 (n m i p q : Int) (L : List Int) (hL : L.length ≤ 10000) : AW Try.prog (min Try.f3.ntmps pbase) sgT1 (st [(3, .i n), (4, .i m), (5, .i i), (44, .i (((ownCh n m i).1 : Nat) : Int)), (45, .i (((ownCh n m i).2 : Nat) : Int)), (46, .b (decide (OwnOk n m i))), (6, .i p), (50, .i (cntR p q)), (51, .b (decide (SeOk 12 p q))), (54, .i (((meanR p q).1 : Nat) : Int)), (55, .i (((meanR p q).2 : Nat) : Int)), (56, .b (decide (SeOk 12 p q))), (8, ints L), (60, newInts (dispR L)), (61, .b (decide (IsEx L)))] []) (Done [18].reverse (.b true)) := by
  have h3 := sg2 p q L hL
  have hp : sgT1 = .seq (fstC sgT1) sgT2 := rfl
  rw [hp]
  clear hp
  generalize sgT2 = c3 at *
  by_cases h : OwnOk n m i
  · have g1 := h.1.1
    have g2 := h.1.2
    have g3 := h.2
    obtain ⟨G, rfl⟩ := Int.eq_ofNat_of_zero_le (show 0 ≤ n by omega)
    obtain ⟨K, rfl⟩ := Int.eq_ofNat_of_zero_le (show 0 ≤ m by omega)
    obtain ⟨I, rfl⟩ := Int.eq_ofNat_of_zero_le (show 0 ≤ i by omega)
    have hs := sg_own G (by omega) K (by omega) I (by omega)
    have hs2 := (sg_own G (by omega) K (by omega) (G - 1) (by omega)).1
    unfold SgOwn at hs
    have e1 : ownCh ((G : Nat) : Int) ((K : Nat) : Int) ((I : Nat) : Int) = chOwn G K I := by
      unfold ownCh
      rw [if_pos h, Int.toNat_natCast, Int.toNat_natCast, Int.toNat_natCast]
    have hl : OwnOk ((G : Nat) : Int) ((K : Nat) : Int) (((G : Nat) : Int) - 1) := ⟨h.1, by omega, by omega⟩
    have c12 := implChanceOwnSeat_spec ((G : Nat) : Int) ((K : Nat) : Int) (((G : Nat) : Int) - 1)
    unfold ownTup ownCh at c12
    rw [if_pos hl, decide_eq_true hl, Int.toNat_natCast, Int.toNat_natCast, show (((G : Nat) : Int) - 1).toNat = G - 1 by omega] at c12
    rw [e1, decide_eq_true h]
    generalize chOwn G K I = P at *
    generalize chOwn G K (G - 1) = P2 at *
    have b1 : 0 ≤ ((P2.1 : Nat) : Int) * ((P.2 : Nat) : Int) := Int.mul_nonneg (by omega) (by omega)
    have b2 : ((P2.1 : Nat) : Int) * ((P.2 : Nat) : Int) ≤ 60 * 60 := Int.mul_le_mul (by omega) (by omega) (by omega) (by omega)
    have b3 : 0 ≤ ((P.1 : Nat) : Int) * ((P2.2 : Nat) : Int) := Int.mul_nonneg (by omega) (by omega)
    have b4 : ((P.1 : Nat) : Int) * ((P2.2 : Nat) : Int) ≤ 60 * 60 := Int.mul_le_mul (by omega) (by omega) (by omega) (by omega)
    by_cases hz : K = 0
    · have hx : ((P2.1 : Nat) : Int) * ((P.2 : Nat) : Int) ≤ ((P.1 : Nat) : Int) * ((P2.2 : Nat) : Int) := by
        have := hs.2.2 (by omega)
        exact_mod_cast this
      have hsame := hs.2.1 hz
      unfold sgT1 sgRest
      unfold ac3
      simp only [sndC, fstC]
      repeat (first | (refine step_ops ?_; ((try (refine g_yes rfl ?_ ?_; (· first | rfl | assumption | (refine decide_eq_true ?_; first | assumption | omega) | (refine nt ?_; first | assumption | omega) | (simp [*]; done) | (refine decide_eq_false ?_; first | assumption | omega) | (refine nf ?_; first | assumption | omega)))); (first | (refine m_mov (by conv => lhs; whnf) ?_) | (refine m_lss rfl rfl ?_) | (refine m_gtr rfl rfl ?_) | (refine m_geq rfl rfl ?_) | (refine m_eql rfl rfl ?_) | (refine m_neq rfl rfl ?_) | (refine m_sub rfl rfl ?_ ?_ ?_; (· omega); (· omega)) | (refine m_pick_t rfl ?_ (by conv => lhs; whnf) ?_; (· first | rfl | assumption | (refine decide_eq_true ?_; first | assumption | omega) | (refine nt ?_; first | assumption | omega) | (simp [*]; done))) | (refine m_pick_f rfl ?_ (by conv => lhs; whnf) ?_; (· first | rfl | assumption | (refine decide_eq_false ?_; first | assumption | omega) | (refine nf ?_; first | assumption | omega) | (simp [*]; done)))))) | refine end_ops ?_ | refine seq_ops ?_ | (refine cond_t rfl ?_ ?_; (· first | rfl | assumption | (refine decide_eq_true ?_; first | assumption | omega) | (refine nt ?_; first | assumption | omega) | (simp [*]; done))) | (refine cond_f rfl ?_ ?_; (· first | rfl | assumption | (refine decide_eq_false ?_; first | assumption | omega) | (refine nf ?_; first | assumption | omega) | (simp [*]; done))) | refine skip_then ?_ | refine AW_seq ?_)
      refine step_ops ?_; (apply m_call (c12)); (· repeat (first | exact lends_nil | (refine lends_cons ?_ ?_; (· exact lend_v))))
      repeat (first | (refine step_ops ?_; ((try (refine g_yes rfl ?_ ?_; (· first | rfl | assumption | (refine decide_eq_true ?_; first | assumption | omega) | (refine nt ?_; first | assumption | omega) | (simp [*]; done) | (refine decide_eq_false ?_; first | assumption | omega) | (refine nf ?_; first | assumption | omega)))); (first | (refine m_mov (by conv => lhs; whnf) ?_) | (refine m_gtr rfl rfl ?_) | (refine m_mul rfl rfl ?_ ?_ ?_; (· first | omega | (simp; done)); (· first | omega | (simp; done))) | (refine m_not rfl ?_) | (refine m_pick_f rfl ?_ (by conv => lhs; whnf) ?_; (· first | rfl | assumption | (refine decide_eq_false ?_; first | assumption | omega) | (refine nf ?_; first | assumption | omega) | (simp [*]; done))) | (refine m_ext rfl rfl ?_)))) | refine end_ops ?_ | refine seq_ops ?_ | (refine cond_f rfl ?_ ?_; (· first | rfl | assumption | (refine decide_eq_false ?_; first | assumption | omega) | (refine nf ?_; first | assumption | omega) | (simp [*]; done))) | refine skip_then ?_)
      refine AW_weak (weak_st ?_ ?_ rfl rfl) h3
      · (repeat' (first | exact trivial | refine And.intro ?_ ?_)) <;> (first | rfl | skip)
      · trivial
    · by_cases hi : K ≤ I
      · have hx : ((P2.1 : Nat) : Int) * ((P.2 : Nat) : Int) ≤ ((P.1 : Nat) : Int) * ((P2.2 : Nat) : Int) := by
          have := hs.2.2 hi
          exact_mod_cast this
        unfold sgT1 sgRest
        unfold ac3
        simp only [sndC, fstC]
        repeat (first | (refine step_ops ?_; (first | ((try (refine g_yes rfl ?_ ?_; (· first | rfl | assumption | (refine decide_eq_true ?_; first | assumption | omega) | (refine nt ?_; first | assumption | omega) | (simp [*]; done) | (refine decide_eq_false ?_; first | assumption | omega) | (refine nf ?_; first | assumption | omega)))); (first | (refine m_mov (by conv => lhs; whnf) ?_) | (refine m_lss rfl rfl ?_) | (refine m_gtr rfl rfl ?_) | (refine m_geq rfl rfl ?_) | (refine m_eql rfl rfl ?_) | (refine m_sub rfl rfl ?_ ?_ ?_; (· omega); (· omega)) | (refine m_pick_f rfl ?_ (by conv => lhs; whnf) ?_; (· first | rfl | assumption | (refine decide_eq_false ?_; first | assumption | omega) | (refine nf ?_; first | assumption | omega) | (simp [*]; done))))) | (refine g_noT rfl ?_ ?_; (· first | rfl | assumption | (refine decide_eq_false ?_; first | assumption | omega) | (refine nf ?_; first | assumption | omega) | (simp [*]; done))))) | refine end_ops ?_ | refine seq_ops ?_ | (refine cond_t rfl ?_ ?_; (· first | rfl | assumption | (refine decide_eq_true ?_; first | assumption | omega) | (refine nt ?_; first | assumption | omega) | (simp [*]; done))) | (refine cond_f rfl ?_ ?_; (· first | rfl | assumption | (refine decide_eq_false ?_; first | assumption | omega) | (refine nf ?_; first | assumption | omega) | (simp [*]; done))) | refine skip_then ?_ | refine AW_seq ?_)
        refine step_ops ?_; (apply m_call (c12)); (· repeat (first | exact lends_nil | (refine lends_cons ?_ ?_; (· exact lend_v))))
        repeat (first | (refine step_ops ?_; ((try (refine g_yes rfl ?_ ?_; (· first | rfl | assumption | (refine decide_eq_true ?_; first | assumption | omega) | (refine nt ?_; first | assumption | omega) | (simp [*]; done) | (refine decide_eq_false ?_; first | assumption | omega) | (refine nf ?_; first | assumption | omega)))); (first | (refine m_mov (by conv => lhs; whnf) ?_) | (refine m_gtr rfl rfl ?_) | (refine m_mul rfl rfl ?_ ?_ ?_; (· first | omega | (simp; done)); (· first | omega | (simp; done))) | (refine m_not rfl ?_) | (refine m_pick_f rfl ?_ (by conv => lhs; whnf) ?_; (· first | rfl | assumption | (refine decide_eq_false ?_; first | assumption | omega) | (refine nf ?_; first | assumption | omega) | (simp [*]; done))) | (refine m_ext rfl rfl ?_)))) | refine end_ops ?_ | refine seq_ops ?_ | (refine cond_f rfl ?_ ?_; (· first | rfl | assumption | (refine decide_eq_false ?_; first | assumption | omega) | (refine nf ?_; first | assumption | omega) | (simp [*]; done))) | refine skip_then ?_)
        refine AW_weak (weak_st ?_ ?_ rfl rfl) h3
        · (repeat' (first | exact trivial | refine And.intro ?_ ?_)) <;> (first | rfl | skip)
        · trivial
      · unfold sgT1 sgRest
        unfold ac3
        simp only [sndC, fstC]
        repeat (first | (refine step_ops ?_; (first | ((try (refine g_yes rfl ?_ ?_; (· first | rfl | assumption | (refine decide_eq_true ?_; first | assumption | omega) | (refine nt ?_; first | assumption | omega) | (simp [*]; done) | (refine decide_eq_false ?_; first | assumption | omega) | (refine nf ?_; first | assumption | omega)))); (first | (refine m_mov (by conv => lhs; whnf) ?_) | (refine m_lss rfl rfl ?_) | (refine m_gtr rfl rfl ?_) | (refine m_geq rfl rfl ?_) | (refine m_eql rfl rfl ?_) | (refine m_pick_f rfl ?_ (by conv => lhs; whnf) ?_; (· first | rfl | assumption | (refine decide_eq_false ?_; first | assumption | omega) | (refine nf ?_; first | assumption | omega) | (simp [*]; done))))) | (refine g_noT rfl ?_ ?_; (· first | rfl | assumption | (refine decide_eq_false ?_; first | assumption | omega) | (refine nf ?_; first | assumption | omega) | (simp [*]; done))))) | refine end_ops ?_ | refine seq_ops ?_ | (refine cond_t rfl ?_ ?_; (· first | rfl | assumption | (refine decide_eq_true ?_; first | assumption | omega) | (refine nt ?_; first | assumption | omega) | (simp [*]; done))) | (refine cond_f rfl ?_ ?_; (· first | rfl | assumption | (refine decide_eq_false ?_; first | assumption | omega) | (refine nf ?_; first | assumption | omega) | (simp [*]; done))) | refine skip_then ?_ | refine AW_seq ?_)
        refine AW_weak (weak_st ?_ ?_ rfl rfl) h3
        · (repeat' (first | exact trivial | refine And.intro ?_ ?_)) <;> (first | rfl | skip)
        · trivial
  · rw [decide_eq_false h]
    unfold sgT1 sgRest
    unfold ac3
    simp only [sndC, fstC]
    repeat (first | (refine step_ops ?_; (refine m_mov (by conv => lhs; whnf) ?_)) | refine end_ops ?_ | refine seq_ops ?_ | (refine cond_f rfl ?_ ?_; (· first | rfl | assumption | (refine decide_eq_false ?_; first | assumption | omega) | (refine nf ?_; first | assumption | omega) | (simp [*]; done))) | refine skip_then ?_ | refine AW_seq ?_)
    refine AW_weak (weak_st ?_ ?_ rfl rfl) h3
    · (repeat' (first | exact trivial | refine And.intro ?_ ?_)) <;> (first | rfl | skip)
    · trivial
end Go.Proofs.Ytdbjchmmdfjhjaa
namespace Go.Proofs.Ytdbjchmmdfjhjaa
open Go.Am
attribute [local irreducible] AW Outs Weak Lends Lend Sp aops atree aop1 Then Round InBlock Done
attribute [local irreducible] SpM DoneM SpH DoneH
set_option maxRecDepth 16000 in
set_option maxHeartbeats 4000000 in
theorem sgSecond (n m i p q : Int) (L : List Int) (hL : L.length ≤ 10000) : AW Try.prog (min Try.f3.ntmps pbase) sgRest (st [(3, .i n), (4, .i m), (5, .i i), (6, .i p), (7, .i q), (8, ints L)] []) (Done [18].reverse (.b true)) := by
  have h3 := sg1 n m i p q L hL
  have hp : sgRest = .seq (fstC sgRest) (.seq (fstC (sndC sgRest)) (.seq (fstC (sndC (sndC sgRest))) (.seq (fstC (sndC (sndC (sndC sgRest)))) (.seq (fstC (sndC (sndC (sndC (sndC sgRest))))) (.seq (fstC (sndC (sndC (sndC (sndC (sndC sgRest)))))) (.seq (fstC (sndC (sndC (sndC (sndC (sndC (sndC sgRest))))))) (.seq (fstC (sndC (sndC (sndC (sndC (sndC (sndC (sndC sgRest)))))))) (.seq (fstC (sndC (sndC (sndC (sndC (sndC (sndC (sndC (sndC sgRest))))))))) sgT1)))))))) := rfl
  rw [hp]
  clear hp
  generalize sgT1 = c3 at *
  have a1 := implChanceOwnSeat_spec n m i
  have a2 := specChanceOwnSeat_spec n m i
  have a3 := implCountSeatings_spec p q
  have a4 := specCountSeatings_spec p q
  have a5 := implMeanOwnSeats_spec p q
  have a6 := specMeanOwnSeats_spec p q
  have a7 := implDisplacedIn_spec L (by omega)
  have a8 := specDisplacedIn_spec L (by omega)
  have a9 := oSame_self (dispR L) (by have := dispR_le L; omega)
  have a10 := implIsExchange_spec L (by omega)
  unfold ownTup at a1 a2
  unfold cntTup at a3 a4
  unfold meanTup at a5 a6
  generalize ownCh n m i = O at *
  generalize cntR p q = C at *
  generalize meanR p q = M at *
  generalize dispR L = E at *
  have x1 := xor_self (decide (OwnOk n m i))
  have x2 := xor_self (decide (SeOk 12 p q))
  have x3 := xor_self (decide (IsEx L))
  unfold sgRest
  unfold ac3
  simp only [sndC, fstC]
  repeat (first | (refine step_ops ?_; (refine m_mov (by conv => lhs; whnf) ?_)) | refine seq_ops ?_)
  refine step_ops ?_; (apply m_call (a1)); (· repeat (first | exact lends_nil | (refine lends_cons ?_ ?_; (· exact lend_v))))
  repeat (first | (refine step_ops ?_; (first | (refine m_mov (by conv => lhs; whnf) ?_) | (refine m_ext rfl rfl ?_))) | refine end_ops ?_ | refine seq_ops ?_)
  refine step_ops ?_; (apply m_call (a2)); (· repeat (first | exact lends_nil | (refine lends_cons ?_ ?_; (· exact lend_v))))
  repeat (first | (refine step_ops ?_; (first | (refine m_mov (by conv => lhs; whnf) ?_) | (refine m_ext rfl rfl ?_))) | refine end_ops ?_ | refine seq_ops ?_)
  refine step_ops ?_; (apply m_call (a3)); (· repeat (first | exact lends_nil | (refine lends_cons ?_ ?_; (· exact lend_v))))
  repeat (first | (refine step_ops ?_; (first | (refine m_mov (by conv => lhs; whnf) ?_) | (refine m_ext rfl rfl ?_))) | refine end_ops ?_ | refine seq_ops ?_)
  refine step_ops ?_; (apply m_call (a4)); (· repeat (first | exact lends_nil | (refine lends_cons ?_ ?_; (· exact lend_v))))
  repeat (first | (refine step_ops ?_; (first | (refine m_mov (by conv => lhs; whnf) ?_) | (refine m_ext rfl rfl ?_))) | refine end_ops ?_ | refine seq_ops ?_)
  refine step_ops ?_; (apply m_call (a5)); (· repeat (first | exact lends_nil | (refine lends_cons ?_ ?_; (· exact lend_v))))
  repeat (first | (refine step_ops ?_; (first | (refine m_mov (by conv => lhs; whnf) ?_) | (refine m_ext rfl rfl ?_))) | refine end_ops ?_ | refine seq_ops ?_)
  refine step_ops ?_; (apply m_call (a6)); (· repeat (first | exact lends_nil | (refine lends_cons ?_ ?_; (· exact lend_v))))
  repeat (first | (refine step_ops ?_; (first | (refine m_mov (by conv => lhs; whnf) ?_) | (refine m_ext rfl rfl ?_))) | refine end_ops ?_ | refine seq_ops ?_)
  refine step_ops ?_; (apply m_call (a7)); (· repeat (first | exact lends_nil | (refine lends_cons ?_ ?_; (· (refine lend_ints ?_; first | rfl | omega)))))
  repeat (first | (refine step_ops ?_; (first | (refine m_mov (by conv => lhs; whnf) ?_) | (refine m_ext rfl rfl ?_))) | refine end_ops ?_ | refine seq_ops ?_)
  refine step_ops ?_; (apply m_call (a8)); (· repeat (first | exact lends_nil | (refine lends_cons ?_ ?_; (· (refine lend_ints ?_; first | rfl | omega)))))
  repeat (first | (refine step_ops ?_; ((try (refine g_yes rfl ?_ ?_; (· first | rfl | assumption | (refine decide_eq_true ?_; first | assumption | omega) | (refine nt ?_; first | assumption | omega) | (simp [*]; done) | (refine decide_eq_false ?_; first | assumption | omega) | (refine nf ?_; first | assumption | omega)))); (first | (refine m_mov (by conv => lhs; whnf) ?_) | (refine m_neq rfl rfl ?_) | (refine m_beq rfl rfl ?_) | (refine m_pick_f rfl ?_ (by conv => lhs; whnf) ?_; (· first | rfl | assumption | (refine decide_eq_false ?_; first | assumption | omega) | (refine nf ?_; first | assumption | omega) | (simp [*]; done))) | (refine m_ext rfl rfl ?_)))) | refine end_ops ?_ | refine seq_ops ?_ | refine AW_seq ?_)
  refine step_ops ?_; (refine g_yes rfl ?_ ?_; (· first | (first | rfl | assumption | (refine decide_eq_true ?_; first | assumption | omega) | (refine nt ?_; first | assumption | omega) | (simp [*]; done)) | (first | rfl | assumption | (refine decide_eq_false ?_; first | assumption | omega) | (refine nf ?_; first | assumption | omega) | (simp [*]; done))); (apply m_call (a9))); (· repeat (first | exact lends_nil | (refine lends_cons ?_ ?_; (· (refine lend_ints ?_; first | rfl | omega)))))
  repeat (refine step_ops ?_; ((try (refine g_yes rfl ?_ ?_; (· first | rfl | assumption | (refine decide_eq_true ?_; first | assumption | omega) | (refine nt ?_; first | assumption | omega) | (simp [*]; done) | (refine decide_eq_false ?_; first | assumption | omega) | (refine nf ?_; first | assumption | omega)))); (first | (refine m_mov (by conv => lhs; whnf) ?_) | (refine m_not rfl ?_) | (refine m_pick_f rfl ?_ (by conv => lhs; whnf) ?_; (· first | rfl | assumption | (refine decide_eq_false ?_; first | assumption | omega) | (refine nf ?_; first | assumption | omega) | (simp [*]; done))))))
  refine step_ops ?_; (refine g_yes rfl ?_ ?_; (· first | (first | rfl | assumption | (refine decide_eq_true ?_; first | assumption | omega) | (refine nt ?_; first | assumption | omega) | (simp [*]; done)) | (first | rfl | assumption | (refine decide_eq_false ?_; first | assumption | omega) | (refine nf ?_; first | assumption | omega) | (simp [*]; done))); (apply m_call (a10))); (· repeat (first | exact lends_nil | (refine lends_cons ?_ ?_; (· (refine lend_ints ?_; first | rfl | omega)))))
  repeat (first | (refine step_ops ?_; ((try (refine g_yes rfl ?_ ?_; (· first | rfl | assumption | (refine decide_eq_true ?_; first | assumption | omega) | (refine nt ?_; first | assumption | omega) | (simp [*]; done) | (refine decide_eq_false ?_; first | assumption | omega) | (refine nf ?_; first | assumption | omega)))); (first | (refine m_beq rfl rfl ?_) | (refine m_pick_f rfl ?_ (by conv => lhs; whnf) ?_; (· first | rfl | assumption | (refine decide_eq_false ?_; first | assumption | omega) | (refine nf ?_; first | assumption | omega) | (simp [*]; done)))))) | refine end_ops ?_ | (refine cond_f rfl ?_ ?_; (· first | rfl | assumption | (refine decide_eq_false ?_; first | assumption | omega) | (refine nf ?_; first | assumption | omega) | (simp [*]; done))) | refine skip_then ?_)
  refine AW_weak (weak_st ?_ ?_ rfl rfl) h3
  · (repeat' (first | exact trivial | refine And.intro ?_ ?_)) <;> (first | rfl | skip)
  · trivial
end Go.Proofs.Ytdbjchmmdfjhjaa
namespace Go.Proofs.Ytdbjchmmdfjhjaa
open Go.Am
end Go.Proofs.Ytdbjchmmdfjhjaa
namespace Go.Proofs.Ytdbjchmmdfjhjaa
open Go.Am
end Go.Proofs.Ytdbjchmmdfjhjaa
namespace Go.Proofs.Ytdbjchmmdfjhjaa
open Go.Am
end Go.Proofs.Ytdbjchmmdfjhjaa
namespace Go.Proofs.Ytdbjchmmdfjhjaa
open Go.Am
end Go.Proofs.Ytdbjchmmdfjhjaa
namespace Go.Proofs.Ytdbjchmmdfjhjaa
open Go.Am
end Go.Proofs.Ytdbjchmmdfjhjaa
namespace Go.Proofs.Ytdbjchmmdfjhjaa
open Go.Am
theorem sg_facts : ∀ g < 8, 1 ≤ g → ∀ l < g + 1, sgTest g l = true := fun g hg h1 l hl => by
  by_cases h : g < 7
  · exact sg_a g h h1 l hl
  · obtain rfl : g = 7 := by omega
    by_cases h4 : l < 4
    · exact sg_b l h4
    · have h : l = 4 ∨ l = 5 ∨ l = 6 ∨ l = 7 := by omega
      rcases h with rfl | rfl | rfl | rfl
      · exact sg_4
      · exact sg_5
      · exact sg_6
      · exact sg_7
/-- What the law asks of all seatings of so many guests. -/
structure SgF (g l : Nat) (R : List (List Int)) : Prop where
  cnt : ((R.length : Nat) : Int) = cntS l (g - l)
  all : sumL (wS (fcN g) (l : Int)) R = fcN g
  mean : sumL (fun M => (g - sgD M) * wS (fcN g) (l : Int) M) R * (meanOf g l g).2 = (meanOf g l g).1 * fcN g
  row : ∀ M ∈ R, fcN g % prodS (l : Int) M M.length = 0 ∧ 1 ≤ prodS (l : Int) M M.length ∧ sgD M < g + 1 ∧ sgD M ≠ 1
theorem sgFacts {g l : Nat} (h8 : g < 8) (h1 : 1 ≤ g) (hl : l < g + 1) : SgF g l (allS (l : Int) g) := by
  have h := sg_facts g h8 h1 l hl
  have he := sgAll_eq (l : Int) g (fcN g) (allS (l : Int) g)
  unfold sgTest at h
  rw [sgGo_eq] at h
  change (match sgAll (l : Int) g (fcN g) (allS (l : Int) g) with
    | (a, b, c, d) => decide (((a : Nat) : Int) = cntS l (g - l)) && (decide (b = fcN g) && (decide (c * (meanOf g l g).2 = (meanOf g l g).1 * fcN g) && d))) = true at h
  generalize sgAll (l : Int) g (fcN g) (allS (l : Int) g) = x at h he
  obtain ⟨a, b, c, d⟩ := x
  simp only [Bool.and_eq_true, decide_eq_true_eq] at h he
  obtain ⟨e1, e2, e3, e4⟩ := he
  exact ⟨by rw [← e1]; exact h.1, by rw [← e2]; exact h.2.1, by rw [← e3]; exact h.2.2.1, e4 h.2.2.2⟩
/-- How many seatings have so many displaced, and what they are worth. -/
def sgN (l : Int) (R : List (List Int)) (k : Nat) : Nat := (R.filter (keepD ((k : Nat) : Int))).length
def sgW (g l : Nat) (R : List (List Int)) (k : Nat) : Nat := sumL (wS (fcN g) (l : Int)) (R.filter (keepD ((k : Nat) : Int)))
theorem sgN_sum {g l : Nat} {R : List (List Int)} (F : SgF g l R) : sumTo (sgN (l : Int) R) (g + 1) = R.length := by
  have h := sum_parts (fun _ => 1) (fun _ => 1) sgD (g + 1) R fun M hM => (F.row M hM).2.2.1
  rw [sumL_one] at h
  rw [← h]
  refine sumTo_congr fun k _ => ?_
  unfold sgN
  rw [keepD_eq, sumL_one, Nat.one_mul]
theorem sgW_sum {g l : Nat} {R : List (List Int)} (F : SgF g l R) : sumTo (sgW g l R) (g + 1) = fcN g := by
  have h := sum_parts (fun _ => 1) (wS (fcN g) (l : Int)) sgD (g + 1) R fun M hM => (F.row M hM).2.2.1
  simp only [Nat.one_mul] at h
  rw [show sumL (wS (fcN g) (l : Int)) R = fcN g from F.all] at h
  rw [← h]
  refine sumTo_congr fun k _ => ?_
  unfold sgW
  rw [keepD_eq]
theorem sgM_sum {g l : Nat} {R : List (List Int)} (F : SgF g l R) : sumTo (fun k => (g - k) * sgW g l R k) (g + 1) * (meanOf g l g).2 = (meanOf g l g).1 * fcN g := by
  have h := sum_parts (fun k => g - k) (wS (fcN g) (l : Int)) sgD (g + 1) R fun M hM => (F.row M hM).2.2.1
  rw [← F.mean, ← h]
  congr 1
  refine sumTo_congr fun k _ => ?_
  unfold sgW
  rw [keepD_eq]
theorem sg_val {g l : Nat} {R : List (List Int)} (F : SgF g l R) (k : Nat) : Val (fcN g) (sumC (l : Int) (R.filter (keepD ((k : Nat) : Int)))) (sgW g l R k) :=
  val_sum fun M hM => ⟨(F.row M (List.mem_filter.1 hM).1).1, (F.row M (List.mem_filter.1 hM).1).2.1⟩
theorem sg_none {g l : Nat} {R : List (List Int)} (F : SgF g l R) : sgN (l : Int) R 1 = 0 := by
  unfold sgN
  rw [keepD_eq]
  refine List.length_eq_zero_iff.2 (List.filter_eq_nil_iff.2 fun M hM h => ?_)
  exact (F.row M hM).2.2.2 (of_decide_eq_true h)
end Go.Proofs.Ytdbjchmmdfjhjaa
namespace Go.Proofs.Ytdbjchmmdfjhjaa
open Go.Am
attribute [local irreducible] AW Outs Weak Lends Lend Sp aops atree aop1 Then Round InBlock Done
theorem sumTo_mono {f g : Nat → Nat} (h : ∀ k, f k ≤ g k) : ∀ n, sumTo f n ≤ sumTo g n
  | 0 => Nat.le_refl _
  | n + 1 => by have := sumTo_mono h n; have := h n; simp only [sumTo]; omega
theorem sumTo_mul (c : Nat) (f : Nat → Nat) : ∀ n, sumTo (fun k => c * f k) n = c * sumTo f n
  | 0 => rfl
  | n + 1 => by simp only [sumTo, sumTo_mul c f n, Nat.mul_add]
structure SgE (G K : Nat) (n W : Nat → Nat) (f : Nat → Nat × Nat) (M : Nat × Nat) (w : Nat) : Prop where
  g1 : 1 ≤ G
  g7 : G ≤ 7
  k7 : K ≤ G
  pos : ∀ k, n k = 0 ↔ W k = 0
  one : n 1 = 0
  val : ∀ k, w * (f k).1 = W k * (f k).2
  bd : ∀ k, (f k).1 ≤ 1000000000 ∧ (f k).2 ≤ 1000000000 ∧ 1 ≤ (f k).2
  w1 : 1 ≤ w ∧ w ≤ 5040
  wf : fac G = ((w : Nat) : Int)
  sn : sumTo n (G + 1) ≤ 5040
  sW : sumTo W (G + 1) = w
  sM : sumTo (fun k => (G - k) * W k) (G + 1) * M.2 = M.1 * w
  mb : M.1 ≤ 1000000000 ∧ M.2 ≤ 1000000000
  c7 : ∀ k, k ≤ G → disTup ((G : Nat) : Int) ((K : Nat) : Int) ((k : Nat) : Int) = .tup [.i ((n k : Nat) : Int), .b true]
  c5 : ∀ k, k ≤ G → disFTup ((G : Nat) : Int) ((K : Nat) : Int) ((k : Nat) : Int) = .tup [.i (((f k).1 : Nat) : Int), .i (((f k).2 : Nat) : Int), .b true]
  cn : cntTup ((G : Nat) : Int) ((K : Nat) : Int) = .tup [.i ((sumTo n (G + 1) : Nat) : Int), .b true]
  mn : meanTup ((G : Nat) : Int) ((K : Nat) : Int) = .tup [.i ((M.1 : Nat) : Int), .i ((M.2 : Nat) : Int), .b true]
theorem sumL_pos {f : List Int → Nat} : ∀ {R : List (List Int)}, (∀ M ∈ R, 1 ≤ f M) → (R.length = 0 ↔ sumL f R = 0)
  | [], _ => by simp [sumL]
  | M :: R, h => by
    have := h M (List.mem_cons_self ..)
    simp only [sumL, List.length_cons]; omega
theorem fc_le : ∀ g < 8, 1 ≤ fcN g ∧ fcN g ≤ 5040 ∧ fac g = ((fcN g : Nat) : Int) := by decide +kernel
def sgS (G K : Nat) : List (List Int) := allS ((K : Nat) : Int) G
theorem sgE (G K : Nat) (h1 : 1 ≤ G) (h7 : G ≤ 7) (hK : K ≤ G) : SgE G K (sgN ((K : Nat) : Int) (sgS G K)) (sgW G K (sgS G K)) (fun k => sumC ((K : Nat) : Int) ((sgS G K).filter (keepD ((k : Nat) : Int)))) (meanOf G K G) (fcN G) := by
  have F : SgF G K (sgS G K) := sgFacts (by omega) h1 (by omega)
  have hf := fc_le G (by omega)
  have hlen : (sgS G K).length ≤ 5040 := allS_len _ _ (by omega)
  have hok : SeOk 7 ((G : Nat) : Int) ((K : Nat) : Int) := ⟨⟨by omega, by omega⟩, by omega, by omega⟩
  have hok12 : SeOk 12 ((G : Nat) : Int) ((K : Nat) : Int) := ⟨⟨by omega, by omega⟩, by omega, by omega⟩
  have hdis : ∀ k, k ≤ G → DisOk ((G : Nat) : Int) ((K : Nat) : Int) ((k : Nat) : Int) := fun k hk => ⟨hok, by omega, by omega⟩
  exact {
    g1 := h1
    g7 := h7
    k7 := hK
    pos := fun k => by
      refine sumL_pos fun M hM => ?_
      have hr := F.row M (List.mem_filter.1 hM).1
      unfold wS
      exact Nat.div_pos (Nat.le_of_dvd (by omega) (Nat.dvd_of_mod_eq_zero hr.1)) hr.2.1
    one := sg_none F
    val := fun k => (sg_val F k).1
    bd := fun k => by
      refine sumC_ok _ G h7 _ (fun M hM => (allS_mem (List.mem_filter.1 hM).1).2) ?_
      exact Nat.le_trans (List.length_filter_le ..) hlen
    w1 := ⟨hf.1, hf.2.1⟩
    wf := hf.2.2
    sn := by rw [sgN_sum F]; exact hlen
    sW := sgW_sum F
    sM := sgM_sum F
    mb := by
      have := meanOf_le G (by omega) K (by omega) G (by omega)
      exact ⟨this.1, this.2.1⟩
    c7 := fun k hk => by
      unfold disTup disN
      rw [if_pos (hdis k hk), decide_eq_true (hdis k hk), Int.toNat_natCast]
      rfl
    c5 := fun k hk => by
      unfold disFTup disF
      rw [if_pos (hdis k hk), decide_eq_true (hdis k hk), Int.toNat_natCast]
      rfl
    cn := by
      unfold cntTup cntR
      rw [if_pos hok12, decide_eq_true hok12, Int.toNat_natCast, Int.toNat_natCast, ← F.cnt, sgN_sum F]
    mn := by
      unfold meanTup meanR
      rw [if_pos hok12, decide_eq_true hok12, Int.toNat_natCast, Int.toNat_natCast] }
end Go.Proofs.Ytdbjchmmdfjhjaa
namespace Go.Proofs.Ytdbjchmmdfjhjaa
open Go.Am
attribute [local irreducible] AW Outs Weak Lends Lend Sp aops atree aop1 Then Round InBlock Done
attribute [local irreducible] SpM DoneM SpH DoneH
def sgBlock : ACode := fstC (sndC (sndC (sndC (sndC (sndC (sndC (sndC ac3)))))))
set_option maxRecDepth 16000 in
set_option maxHeartbeats 4000000 in
theorem sgAllK (n m i p q : Int) (L : List Int) (G K X : Nat) (n0 W : Nat → Nat) (f : Nat → Nat × Nat) (M : Nat × Nat) (w : Nat) (F : SgE G K n0 W f M w) (hX : X ≤ G) (Q : Exit → AS → Prop)
    (hQ : ∀ s', Weak s' (st [(3, .i n), (4, .i m), (5, .i i), (6, .i p), (7, .i q), (8, ints L)] []) → Q .normal s') :
    AW Try.prog (min Try.f3.ntmps pbase) (cndC (sndC sgBlock)) (st [(0, .i G), (1, .i K), (2, .i X), (3, .i n), (4, .i m), (5, .i i), (6, .i p), (7, .i q), (8, ints L), (19, .i (((f X).1 : Nat) : Int)), (20, .i (((f X).2 : Nat) : Int)), (25, .i ((n0 X : Nat) : Int))] []) Q := by
  have g1 := F.g1
  have g7 := F.g7
  have k7 := F.k7
  have w1 := F.w1
  have hb := F.bd X
  have hp := F.pos X
  have hv := F.val X
  have hWX : W X ≤ w := by
    have := sumTo_get (f := W) (show X < G + 1 by omega)
    rw [F.sW] at this
    exact this
  have hxor : (true ^^ (decide ((((f X).1 : Nat) : Int) > 0) == decide (((n0 X : Nat) : Int) > 0))) = false := by
    by_cases h : n0 X = 0
    · have h2 := hp.1 h
      rw [h2, Nat.zero_mul] at hv
      have h3 : (f X).1 = 0 := by
        rcases Nat.mul_eq_zero.1 hv with e | e
        · omega
        · exact e
      rw [h, h3]; rfl
    · have h2 : W X ≠ 0 := fun e => h (hp.2 e)
      have h3 : (f X).1 ≠ 0 := fun e => by
        rw [e, Nat.mul_zero] at hv
        rcases Nat.mul_eq_zero.1 hv.symm with e | e
        · exact h2 e
        · omega
      rw [decide_eq_true (by omega), decide_eq_true (by omega)]; rfl
  have hle : (f X).1 ≤ (f X).2 := by
    have h1 : w * (f X).1 ≤ w * (f X).2 := by rw [hv]; exact Nat.mul_le_mul_right _ hWX
    exact Nat.le_of_mul_le_mul_left h1 (by omega)
  have h9 : Sp Try.prog 9 [.i ((G : Nat) : Int)] (.i ((w : Nat) : Int)) := by
    have := oTimes_spec G (by omega)
    rw [F.wf] at this
    exact this
  have h10 := implCountSeatings_spec ((G : Nat) : Int) ((K : Nat) : Int)
  rw [F.cn] at h10
  have h11 := implMeanOwnSeats_spec ((G : Nat) : Int) ((K : Nat) : Int)
  rw [F.mn] at h11
  have hsn := F.sn
  have hmb := F.mb
  have hsW : ((sumTo W (G + 1) : Nat) : Int) = ((w : Nat) : Int) := by rw [F.sW]
  have hd2 : decide (((sumTo W (G + 1) : Nat) : Int) ≠ ((w : Nat) : Int)) = false := decide_eq_false fun h => h hsW
  have hsM : ((sumTo (fun k => (G - k) * W k) (G + 1) : Nat) : Int) * ((M.2 : Nat) : Int) = ((M.1 : Nat) : Int) * ((w : Nat) : Int) := by
    have := F.sM
    exact_mod_cast this
  have hd3 : decide (((sumTo (fun k => (G - k) * W k) (G + 1) : Nat) : Int) * ((M.2 : Nat) : Int) ≠ ((M.1 : Nat) : Int) * ((w : Nat) : Int)) = false := decide_eq_false fun h => h hsM
  have hm1 : 0 ≤ ((M.1 : Nat) : Int) * ((w : Nat) : Int) := Int.mul_nonneg (by omega) (by omega)
  have hm2 : ((M.1 : Nat) : Int) * ((w : Nat) : Int) ≤ 1000000000 * 5040 := Int.mul_le_mul (by omega) (by omega) (by omega) (by omega)
  have hxn : ¬ (X = 1 ∧ n0 X ≠ 0) := fun h => h.2 (by rw [h.1]; exact F.one)
  have hwb : ∀ k, k ≤ G + 1 → sumTo (fun k => (G - k) * W k) k ≤ 7 * w := fun k hk => by
    have h1 := sumTo_le (f := fun k => (G - k) * W k) hk
    have h2 := sumTo_mono (f := fun k => (G - k) * W k) (g := fun k => 7 * W k) (fun k => Nat.mul_le_mul_right _ (by omega)) (G + 1)
    rw [sumTo_mul, F.sW] at h2
    omega
  have hnb : ∀ k, k ≤ G + 1 → sumTo n0 k ≤ 5040 := fun k hk => Nat.le_trans (sumTo_le hk) hsn
  have hWb : ∀ k, k ≤ G + 1 → sumTo W k ≤ w := fun k hk => by
    have := sumTo_le (f := W) hk
    rw [F.sW] at this
    exact this
  unfold sgBlock
  unfold ac3
  simp only [sndC, fstC, cndC]
  by_cases hX1 : X = 1
  · have hn1 : n0 X = 0 := by rw [hX1]; exact F.one
    repeat (first | (refine step_ops ?_; ((try (refine g_yes rfl ?_ ?_; (· first | rfl | assumption | (refine decide_eq_true ?_; first | assumption | omega) | (refine nt ?_; first | assumption | omega) | (simp [*]; done) | (refine decide_eq_false ?_; first | assumption | omega) | (refine nf ?_; first | assumption | omega)))); (first | (refine m_mov (by conv => lhs; whnf) ?_) | (refine m_lss rfl rfl ?_) | (refine m_gtr rfl rfl ?_) | (refine m_eql rfl rfl ?_) | (refine m_neq rfl rfl ?_) | (refine m_beq rfl rfl ?_) | (refine m_pick_t rfl ?_ (by conv => lhs; whnf) ?_; (· first | rfl | assumption | (refine decide_eq_true ?_; first | assumption | omega) | (refine nt ?_; first | assumption | omega) | (simp [*]; done))) | (refine m_pick_f rfl ?_ (by conv => lhs; whnf) ?_; (· first | rfl | assumption | (refine decide_eq_false ?_; first | assumption | omega) | (refine nf ?_; first | assumption | omega) | (simp [*]; done)))))) | refine end_ops ?_ | refine seq_ops ?_ | (refine cond_f rfl ?_ ?_; (· first | rfl | assumption | (refine decide_eq_false ?_; first | assumption | omega) | (refine nf ?_; first | assumption | omega) | (simp [*]; done))) | refine skip_then ?_ | refine AW_seq ?_)
    refine step_ops ?_; (apply m_call (h9)); (· repeat (first | exact lends_nil | (refine lends_cons ?_ ?_; (· exact lend_v))))
    repeat (first | (refine step_ops ?_; (refine m_mov (by conv => lhs; whnf) ?_)) | refine end_ops ?_ | refine seq_ops ?_ | refine AW_seq ?_ | refine AW_block ?_)
    refine AW_loop (α := Nat) (fun k => k ≤ G + 1) (fun k => st [(0, .i G), (1, .i K), (3, .i n), (4, .i m), (5, .i i), (6, .i p), (7, .i q), (8, ints L), (29, .i ((sumTo n0 k : Nat) : Int)), (30, .i ((sumTo W k : Nat) : Int)), (31, .i ((w : Nat) : Int)), (32, .i ((sumTo (fun k => (G - k) * W k) k : Nat) : Int)), (33, .i ((k : Nat) : Int))] []) (fun k => G + 1 - k) 0 (Nat.zero_le _) (weak_st ?_ ?_ rfl rfl) ?_
    · (repeat' (first | exact trivial | refine And.intro ?_ ?_)) <;> (first | rfl | skip)
    · trivial
    intro k hk
    by_cases hc : k ≤ G
    · have c7 := implCountDisplaced_spec ((G : Nat) : Int) ((K : Nat) : Int) ((k : Nat) : Int)
      rw [F.c7 k hc] at c7
      have c5 := implChanceDisplaced_spec ((G : Nat) : Int) ((K : Nat) : Int) ((k : Nat) : Int)
      rw [F.c5 k hc] at c5
      have bk := F.bd k
      have hvi : ((w : Nat) : Int) * (((f k).1 : Nat) : Int) = ((W k : Nat) : Int) * (((f k).2 : Nat) : Int) := by
        have := F.val k
        exact_mod_cast this
      have hq1 : 0 ≤ ((w : Nat) : Int) * (((f k).1 : Nat) : Int) := Int.mul_nonneg (by omega) (by omega)
      have hq2 : ((w : Nat) : Int) * (((f k).1 : Nat) : Int) ≤ 5040 * 1000000000 := Int.mul_le_mul (by omega) (by omega) (by omega) (by omega)
      have hrem : decide (((w : Nat) : Int) * (((f k).1 : Nat) : Int) % (((f k).2 : Nat) : Int) ≠ 0) = false := decide_eq_false fun h => h (by rw [hvi]; exact Int.mul_emod_left _ _)
      have hquo : ((w : Nat) : Int) * (((f k).1 : Nat) : Int) / (((f k).2 : Nat) : Int) = ((W k : Nat) : Int) := by
        rw [hvi]
        exact Int.mul_ediv_cancel _ (by omega)
      have hWk : W k ≤ w := by
        have := sumTo_get (f := W) (show k < G + 1 by omega)
        rw [F.sW] at this
        exact this
      have hz : (((G : Nat) : Int) - ((k : Nat) : Int)) * (((w : Nat) : Int) * (((f k).1 : Nat) : Int) / (((f k).2 : Nat) : Int)) = (((G - k) * W k : Nat) : Int) := by
        rw [hquo, show ((G : Nat) : Int) - ((k : Nat) : Int) = ((G - k : Nat) : Int) by omega]
        rfl
      have hz2 : (G - k) * W k ≤ 7 * 5040 := Nat.mul_le_mul (by omega) (by omega)
      have n1 := hnb k (by omega)
      have n2 := hnb (k + 1) (by omega)
      have W1 := hWb k (by omega)
      have m1 := hwb k (by omega)
      have e29 : ((sumTo n0 k : Nat) : Int) + ((n0 k : Nat) : Int) = ((sumTo n0 (k + 1) : Nat) : Int) := rfl
      have e30 : ((sumTo W k : Nat) : Int) + ((w : Nat) : Int) * (((f k).1 : Nat) : Int) / (((f k).2 : Nat) : Int) = ((sumTo W (k + 1) : Nat) : Int) := by
        rw [hquo]
        rfl
      have e32 : ((sumTo (fun k => (G - k) * W k) k : Nat) : Int) + (((G : Nat) : Int) - ((k : Nat) : Int)) * (((w : Nat) : Int) * (((f k).1 : Nat) : Int) / (((f k).2 : Nat) : Int)) = ((sumTo (fun k => (G - k) * W k) (k + 1) : Nat) : Int) := by
        rw [hz]
        rfl
      repeat (first | (refine step_ops ?_; (first | (refine m_mov (by conv => lhs; whnf) ?_) | (refine m_leq rfl rfl ?_))) | refine end_ops ?_ | refine seq_ops ?_ | (refine cond_t rfl ?_ ?_; (· first | rfl | assumption | (refine decide_eq_true ?_; first | assumption | omega) | (refine nt ?_; first | assumption | omega) | (simp [*]; done))) | refine skip_then ?_ | refine AW_seq ?_ | refine AW_block ?_)
      refine step_ops ?_; (apply m_call (c7)); (· repeat (first | exact lends_nil | (refine lends_cons ?_ ?_; (· exact lend_v))))
      repeat (first | (refine step_ops ?_; (first | (refine m_mov (by conv => lhs; whnf) ?_) | (refine m_ext rfl rfl ?_))) | refine end_ops ?_ | refine seq_ops ?_)
      refine step_ops ?_; (apply m_call (c5)); (· repeat (first | exact lends_nil | (refine lends_cons ?_ ?_; (· exact lend_v))))
      repeat (first | (refine step_ops ?_; ((try (refine g_yes rfl ?_ ?_; (· first | rfl | assumption | (refine decide_eq_true ?_; first | assumption | omega) | (refine nt ?_; first | assumption | omega) | (simp [*]; done) | (refine decide_eq_false ?_; first | assumption | omega) | (refine nf ?_; first | assumption | omega)))); (first | (refine m_mov (by conv => lhs; whnf) ?_) | (refine m_neq rfl rfl ?_) | (refine m_add rfl rfl ?_ ?_ ?_; (· omega); (· omega)) | (refine m_sub rfl rfl ?_ ?_ ?_; (· omega); (· omega)) | (refine m_mul rfl rfl ?_ ?_ ?_; (· first | omega | (simp; done)); (· first | omega | (simp; done))) | (refine m_not rfl ?_) | (refine m_pick_f rfl ?_ (by conv => lhs; whnf) ?_; (· first | rfl | assumption | (refine decide_eq_false ?_; first | assumption | omega) | (refine nf ?_; first | assumption | omega) | (simp [*]; done))) | (refine m_ext rfl rfl ?_) | (refine m_quo rfl rfl ?_ ?_ ?_ ?_; (· omega); (· omega); (· omega)) | (refine m_rem rfl rfl ?_ ?_ ?_; (· omega); (· omega))))) | refine end_ops ?_ | refine seq_ops ?_ | refine AW_ops ?_ | (refine cond_f rfl ?_ ?_; (· first | rfl | assumption | (refine decide_eq_false ?_; first | assumption | omega) | (refine nf ?_; first | assumption | omega) | (simp [*]; done))) | refine skip_then ?_ | refine AW_seq ?_ | refine norm_then ?_ | refine norm_block ?_)
      refine next_round (k + 1) (by omega) (weak_st ?_ ?_ rfl rfl) ?_
      · (repeat' (first | exact trivial | refine And.intro ?_ ?_)) <;> (first | rfl | skip)
        · exact congrArg AV.i e30
        · exact congrArg AV.i e32
      · trivial
      · omega
    · obtain rfl : k = G + 1 := by omega
      repeat (first | (refine step_ops ?_; (first | (refine m_mov (by conv => lhs; whnf) ?_) | (refine m_leq rfl rfl ?_))) | refine end_ops ?_ | refine seq_ops ?_ | (refine cond_f rfl ?_ ?_; (· first | rfl | assumption | (refine decide_eq_false ?_; first | assumption | omega) | (refine nf ?_; first | assumption | omega) | (simp [*]; done))) | refine AW_seq ?_ | refine norm_then ?_ | refine exit_then ?_ | refine exit_round ?_ | refine AW_exit ?_ | refine exit_block ?_)
      refine step_ops ?_; (apply m_call (h10)); (· repeat (first | exact lends_nil | (refine lends_cons ?_ ?_; (· exact lend_v))))
      repeat (first | (refine step_ops ?_; (first | (refine m_mov (by conv => lhs; whnf) ?_) | (refine m_ext rfl rfl ?_))) | refine end_ops ?_ | refine seq_ops ?_)
      refine step_ops ?_; (apply m_call (h11)); (· repeat (first | exact lends_nil | (refine lends_cons ?_ ?_; (· exact lend_v))))
      repeat (first | (refine step_ops ?_; ((try (refine g_yes rfl ?_ ?_; (· first | rfl | assumption | (refine decide_eq_true ?_; first | assumption | omega) | (refine nt ?_; first | assumption | omega) | (simp [*]; done) | (refine decide_eq_false ?_; first | assumption | omega) | (refine nf ?_; first | assumption | omega)))); (first | (refine m_mov (by conv => lhs; whnf) ?_) | (refine m_neq rfl rfl ?_) | (refine m_mul rfl rfl ?_ ?_ ?_; (· first | omega | (simp; done)); (· first | omega | (simp; done))) | (refine m_not rfl ?_) | (refine m_pick_f rfl ?_ (by conv => lhs; whnf) ?_; (· first | rfl | assumption | (refine decide_eq_false ?_; first | assumption | omega) | (refine nf ?_; first | assumption | omega) | (simp [*]; done))) | (refine m_ext rfl rfl ?_)))) | refine end_ops ?_ | refine seq_ops ?_ | (refine cond_f rfl ?_ ?_; (· first | rfl | assumption | (refine decide_eq_false ?_; first | assumption | omega) | (refine nf ?_; first | assumption | omega) | (simp [*]; done))) | refine AW_skip ?_)
      refine hQ _ (weak_st ?_ ?_ rfl rfl)
      · (repeat' (first | exact trivial | refine And.intro ?_ ?_)) <;> (first | rfl | skip)
      · trivial
  · skip
    repeat (first | (refine step_ops ?_; (first | ((try (refine g_yes rfl ?_ ?_; (· first | rfl | assumption | (refine decide_eq_true ?_; first | assumption | omega) | (refine nt ?_; first | assumption | omega) | (simp [*]; done) | (refine decide_eq_false ?_; first | assumption | omega) | (refine nf ?_; first | assumption | omega)))); (first | (refine m_mov (by conv => lhs; whnf) ?_) | (refine m_lss rfl rfl ?_) | (refine m_gtr rfl rfl ?_) | (refine m_eql rfl rfl ?_) | (refine m_beq rfl rfl ?_) | (refine m_pick_f rfl ?_ (by conv => lhs; whnf) ?_; (· first | rfl | assumption | (refine decide_eq_false ?_; first | assumption | omega) | (refine nf ?_; first | assumption | omega) | (simp [*]; done))))) | (refine g_noT rfl ?_ ?_; (· first | rfl | assumption | (refine decide_eq_false ?_; first | assumption | omega) | (refine nf ?_; first | assumption | omega) | (simp [*]; done))))) | refine end_ops ?_ | refine seq_ops ?_ | (refine cond_f rfl ?_ ?_; (· first | rfl | assumption | (refine decide_eq_false ?_; first | assumption | omega) | (refine nf ?_; first | assumption | omega) | (simp [*]; done))) | refine skip_then ?_ | refine AW_seq ?_)
    refine step_ops ?_; (apply m_call (h9)); (· repeat (first | exact lends_nil | (refine lends_cons ?_ ?_; (· exact lend_v))))
    repeat (first | (refine step_ops ?_; (refine m_mov (by conv => lhs; whnf) ?_)) | refine end_ops ?_ | refine seq_ops ?_ | refine AW_seq ?_ | refine AW_block ?_)
    refine AW_loop (α := Nat) (fun k => k ≤ G + 1) (fun k => st [(0, .i G), (1, .i K), (3, .i n), (4, .i m), (5, .i i), (6, .i p), (7, .i q), (8, ints L), (29, .i ((sumTo n0 k : Nat) : Int)), (30, .i ((sumTo W k : Nat) : Int)), (31, .i ((w : Nat) : Int)), (32, .i ((sumTo (fun k => (G - k) * W k) k : Nat) : Int)), (33, .i ((k : Nat) : Int))] []) (fun k => G + 1 - k) 0 (Nat.zero_le _) (weak_st ?_ ?_ rfl rfl) ?_
    · (repeat' (first | exact trivial | refine And.intro ?_ ?_)) <;> (first | rfl | skip)
    · trivial
    intro k hk
    by_cases hc : k ≤ G
    · have c7 := implCountDisplaced_spec ((G : Nat) : Int) ((K : Nat) : Int) ((k : Nat) : Int)
      rw [F.c7 k hc] at c7
      have c5 := implChanceDisplaced_spec ((G : Nat) : Int) ((K : Nat) : Int) ((k : Nat) : Int)
      rw [F.c5 k hc] at c5
      have bk := F.bd k
      have hvi : ((w : Nat) : Int) * (((f k).1 : Nat) : Int) = ((W k : Nat) : Int) * (((f k).2 : Nat) : Int) := by
        have := F.val k
        exact_mod_cast this
      have hq1 : 0 ≤ ((w : Nat) : Int) * (((f k).1 : Nat) : Int) := Int.mul_nonneg (by omega) (by omega)
      have hq2 : ((w : Nat) : Int) * (((f k).1 : Nat) : Int) ≤ 5040 * 1000000000 := Int.mul_le_mul (by omega) (by omega) (by omega) (by omega)
      have hrem : decide (((w : Nat) : Int) * (((f k).1 : Nat) : Int) % (((f k).2 : Nat) : Int) ≠ 0) = false := decide_eq_false fun h => h (by rw [hvi]; exact Int.mul_emod_left _ _)
      have hquo : ((w : Nat) : Int) * (((f k).1 : Nat) : Int) / (((f k).2 : Nat) : Int) = ((W k : Nat) : Int) := by
        rw [hvi]
        exact Int.mul_ediv_cancel _ (by omega)
      have hWk : W k ≤ w := by
        have := sumTo_get (f := W) (show k < G + 1 by omega)
        rw [F.sW] at this
        exact this
      have hz : (((G : Nat) : Int) - ((k : Nat) : Int)) * (((w : Nat) : Int) * (((f k).1 : Nat) : Int) / (((f k).2 : Nat) : Int)) = (((G - k) * W k : Nat) : Int) := by
        rw [hquo, show ((G : Nat) : Int) - ((k : Nat) : Int) = ((G - k : Nat) : Int) by omega]
        rfl
      have hz2 : (G - k) * W k ≤ 7 * 5040 := Nat.mul_le_mul (by omega) (by omega)
      have n1 := hnb k (by omega)
      have n2 := hnb (k + 1) (by omega)
      have W1 := hWb k (by omega)
      have m1 := hwb k (by omega)
      have e29 : ((sumTo n0 k : Nat) : Int) + ((n0 k : Nat) : Int) = ((sumTo n0 (k + 1) : Nat) : Int) := rfl
      have e30 : ((sumTo W k : Nat) : Int) + ((w : Nat) : Int) * (((f k).1 : Nat) : Int) / (((f k).2 : Nat) : Int) = ((sumTo W (k + 1) : Nat) : Int) := by
        rw [hquo]
        rfl
      have e32 : ((sumTo (fun k => (G - k) * W k) k : Nat) : Int) + (((G : Nat) : Int) - ((k : Nat) : Int)) * (((w : Nat) : Int) * (((f k).1 : Nat) : Int) / (((f k).2 : Nat) : Int)) = ((sumTo (fun k => (G - k) * W k) (k + 1) : Nat) : Int) := by
        rw [hz]
        rfl
      repeat (first | (refine step_ops ?_; (first | (refine m_mov (by conv => lhs; whnf) ?_) | (refine m_leq rfl rfl ?_))) | refine end_ops ?_ | refine seq_ops ?_ | (refine cond_t rfl ?_ ?_; (· first | rfl | assumption | (refine decide_eq_true ?_; first | assumption | omega) | (refine nt ?_; first | assumption | omega) | (simp [*]; done))) | refine skip_then ?_ | refine AW_seq ?_ | refine AW_block ?_)
      refine step_ops ?_; (apply m_call (c7)); (· repeat (first | exact lends_nil | (refine lends_cons ?_ ?_; (· exact lend_v))))
      repeat (first | (refine step_ops ?_; (first | (refine m_mov (by conv => lhs; whnf) ?_) | (refine m_ext rfl rfl ?_))) | refine end_ops ?_ | refine seq_ops ?_)
      refine step_ops ?_; (apply m_call (c5)); (· repeat (first | exact lends_nil | (refine lends_cons ?_ ?_; (· exact lend_v))))
      repeat (first | (refine step_ops ?_; ((try (refine g_yes rfl ?_ ?_; (· first | rfl | assumption | (refine decide_eq_true ?_; first | assumption | omega) | (refine nt ?_; first | assumption | omega) | (simp [*]; done) | (refine decide_eq_false ?_; first | assumption | omega) | (refine nf ?_; first | assumption | omega)))); (first | (refine m_mov (by conv => lhs; whnf) ?_) | (refine m_neq rfl rfl ?_) | (refine m_add rfl rfl ?_ ?_ ?_; (· omega); (· omega)) | (refine m_sub rfl rfl ?_ ?_ ?_; (· omega); (· omega)) | (refine m_mul rfl rfl ?_ ?_ ?_; (· first | omega | (simp; done)); (· first | omega | (simp; done))) | (refine m_not rfl ?_) | (refine m_pick_f rfl ?_ (by conv => lhs; whnf) ?_; (· first | rfl | assumption | (refine decide_eq_false ?_; first | assumption | omega) | (refine nf ?_; first | assumption | omega) | (simp [*]; done))) | (refine m_ext rfl rfl ?_) | (refine m_quo rfl rfl ?_ ?_ ?_ ?_; (· omega); (· omega); (· omega)) | (refine m_rem rfl rfl ?_ ?_ ?_; (· omega); (· omega))))) | refine end_ops ?_ | refine seq_ops ?_ | refine AW_ops ?_ | (refine cond_f rfl ?_ ?_; (· first | rfl | assumption | (refine decide_eq_false ?_; first | assumption | omega) | (refine nf ?_; first | assumption | omega) | (simp [*]; done))) | refine skip_then ?_ | refine AW_seq ?_ | refine norm_then ?_ | refine norm_block ?_)
      refine next_round (k + 1) (by omega) (weak_st ?_ ?_ rfl rfl) ?_
      · (repeat' (first | exact trivial | refine And.intro ?_ ?_)) <;> (first | rfl | skip)
        · exact congrArg AV.i e30
        · exact congrArg AV.i e32
      · trivial
      · omega
    · obtain rfl : k = G + 1 := by omega
      repeat (first | (refine step_ops ?_; (first | (refine m_mov (by conv => lhs; whnf) ?_) | (refine m_leq rfl rfl ?_))) | refine end_ops ?_ | refine seq_ops ?_ | (refine cond_f rfl ?_ ?_; (· first | rfl | assumption | (refine decide_eq_false ?_; first | assumption | omega) | (refine nf ?_; first | assumption | omega) | (simp [*]; done))) | refine AW_seq ?_ | refine norm_then ?_ | refine exit_then ?_ | refine exit_round ?_ | refine AW_exit ?_ | refine exit_block ?_)
      refine step_ops ?_; (apply m_call (h10)); (· repeat (first | exact lends_nil | (refine lends_cons ?_ ?_; (· exact lend_v))))
      repeat (first | (refine step_ops ?_; (first | (refine m_mov (by conv => lhs; whnf) ?_) | (refine m_ext rfl rfl ?_))) | refine end_ops ?_ | refine seq_ops ?_)
      refine step_ops ?_; (apply m_call (h11)); (· repeat (first | exact lends_nil | (refine lends_cons ?_ ?_; (· exact lend_v))))
      repeat (first | (refine step_ops ?_; ((try (refine g_yes rfl ?_ ?_; (· first | rfl | assumption | (refine decide_eq_true ?_; first | assumption | omega) | (refine nt ?_; first | assumption | omega) | (simp [*]; done) | (refine decide_eq_false ?_; first | assumption | omega) | (refine nf ?_; first | assumption | omega)))); (first | (refine m_mov (by conv => lhs; whnf) ?_) | (refine m_neq rfl rfl ?_) | (refine m_mul rfl rfl ?_ ?_ ?_; (· first | omega | (simp; done)); (· first | omega | (simp; done))) | (refine m_not rfl ?_) | (refine m_pick_f rfl ?_ (by conv => lhs; whnf) ?_; (· first | rfl | assumption | (refine decide_eq_false ?_; first | assumption | omega) | (refine nf ?_; first | assumption | omega) | (simp [*]; done))) | (refine m_ext rfl rfl ?_)))) | refine end_ops ?_ | refine seq_ops ?_ | (refine cond_f rfl ?_ ?_; (· first | rfl | assumption | (refine decide_eq_false ?_; first | assumption | omega) | (refine nf ?_; first | assumption | omega) | (simp [*]; done))) | refine AW_skip ?_)
      refine hQ _ (weak_st ?_ ?_ rfl rfl)
      · (repeat' (first | exact trivial | refine And.intro ?_ ?_)) <;> (first | rfl | skip)
      · trivial
end Go.Proofs.Ytdbjchmmdfjhjaa
namespace Go.Am
open Go.ChangeShapes Go.WideShapes Go.ChangeAt Go.RowKit Go.ChangeMaps
variable {P : Program} {H : Type} {enc : TypeId × Value → H}
theorem and_mk {a b : Bool} (h : a = true) (k : b = true) : (a && b) = true := by rw [h, k]; rfl
theorem More.below {w w' : World} (h : More w w') : Below w.heap.size w w' := ⟨h.os, h.tape, h.output, h.size, h.block⟩
theorem trodAll_stays (hl : laidOutB P = true) {W W' : World} (hb : Below W.heap.size W W') (sp : Nat → Bool) : ∀ {ts : List TypeId} {vs : List Value} {ds : List (DataW H)} {ps : List MemPlace},
    (∀ t ∈ ts, P.readableRec t = true ∧ t < P.types.size) → DataW.TrodAll enc P W 0 (fun _ => true) true ts vs ds ps → (∀ p ∈ ps, p.block < W.heap.size) → (∀ p ∈ ps, sp p.block = true) →
    DataW.TrodAll enc P W' 0 sp true ts vs ds ps
  | [], vs, ds, ps, _, h, _, _ => by
    obtain ⟨rfl, rfl, rfl⟩ := trodAll_nil h
    exact trodAll_mk0
  | t :: ts, vs, ds, ps, hr, h, hlt, hsp => by
    obtain ⟨v, vs', d, ds', p, q, rfl, rfl, rfl, h1, h2⟩ := trodAll_cons h
    refine ⟨p, q, ?_, trodAll_stays hl hb sp (fun t ht => hr t (List.mem_cons_of_mem _ ht)) h2 (fun x hx => hlt x (List.mem_append_right _ hx)) (fun x hx => hsp x (List.mem_append_right _ hx)), rfl⟩
    obtain ⟨h3, h4⟩ := hr t (List.mem_cons_self ..)
    exact WideElems.Trod_stays hl h3 h4 h1 (fun x hx => hb.same (hlt x (List.mem_append_left _ hx))) (fun x hx => hsp x (List.mem_append_left _ hx))
/-- What the row's last words ask of a law that says true. -/
theorem law_post (hl : laidOutB P = true) {f : Func} {s : ChangeSpec} {fresh handsOn again : Bool} {W W' : World} {args : Array Value} {ds gs : List (DataW H)} {before : List MemPlace} {bt : TypeId}
    (hW : DataW.Whole enc P f.params.toList s.vars false W args.toList ds gs before) (hvars : s.vars = []) (hfn : s.fn H (ds ++ gs) = { results := [.lit (.bool true)], args := ds })
    (hres : f.resultTypes = #[bt]) (hbt : P.underlying bt = some .bool) (hread : ∀ t ∈ f.params.toList, P.readableRec t = true ∧ t < P.types.size) (hm : More W W') :
    s.post enc P f false fresh handsOn again W args (.bool true) W' := by
  have hb := hm.below
  have hlt : ∀ p ∈ before, p.block < W.heap.size := fun p hp => hW.lt p hp
  obtain ⟨p, q, hA, hV, hpq, hz, hn⟩ := hW
  rw [hvars] at hV
  obtain ⟨rfl, rfl⟩ := trodVars_none hV
  rw [List.append_nil] at hpq
  subst hpq
  have hargs : ∀ sp : Nat → Bool, (∀ x ∈ before, sp x.block = true) → DataW.TrodAll enc P W' 0 sp true f.params.toList args.toList ds before := fun sp hsp => trodAll_stays hl hb sp hread hA hlt hsp
  have hresT : ∀ (b : Nat) (sp : Nat → Bool) (hd : Bool), DataW.TrodAll enc P W' b sp hd f.resultTypes.toList ((Value.bool true).resultList f.resultTypes.size) [.lit (.bool true)] [] := by
    intro b sp hd
    rw [hres]
    exact trodAll_mk1 (shut_bool hbt true)
  have hvarsT : ∀ sp : Nat → Bool, DataW.TrodVars enc P W' sp s.vars (s.fn H (ds ++ [])).vars [] := by
    intro sp
    rw [hvars, hfn]
    rfl
  have hfull : DataW.Whole enc P f.params.toList s.vars false W args.toList ds [] before := ⟨before, [], hA, by rw [hvars]; rfl, by simp, hz, by simp⟩
  refine ⟨ds, [], before, [], before, [], hfull, by rw [hfn]; exact hresT _ _ _, by rw [hfn]; exact hargs _ (fun x hx => by simpa using hlt x hx), hvarsT _, World.keptBut_mono (fun x hx => ⟨hx, .inr (.inl hx)⟩) (hb.frame (· ∈ before)), fun _ => ?_⟩
  refine ⟨ok_one hres rfl (okWide_bool_mk hbt true), _, _, ([] ++ before) ++ [], ⟨[] ++ before, [], trodAll_append (hargs _ (fun _ _ => rfl)) (hresT _ _ _), hvarsT _, rfl, ?_, by simp⟩, ?_⟩
  · intro b off hp
    have hin : MemPlace.cell b off ∈ before := by simpa using hp
    rw [hb.frozen (hlt _ hin)]
    exact hz b off hin
  · intro x hx _
    simpa using hx
abbrev Outer (w : World) : Ctx := { heap := w.heap, ro := fun b => b < w.heap.size, base := w.heap.size, phi := fun _ => none, live := fun _ => false, loc := false }
/-- A slice of integers that came in. -/
theorem arg_ints {W : World} {t e : TypeId} {v : Value} {d : DataW H} {ps : List MemPlace} (ht : P.underlying t = some (.slice e)) (he : P.underlying e = some (.int .i64)) (hc : P.cellsOf e = 1)
    (hval : Value.okWide P W .any 0 t v) (h : DataW.Trod enc P W 0 (fun _ => true) true t v d ps) : ∃ L : List Int, SimV (ints L) (Outer W) v ∧ L.length ≤ maxLen ∧ ∀ x ∈ L, -9223372036854775808 ≤ x ∧ x ≤ 9223372036854775807 := by
  obtain ⟨a0, len0, cap0, rfl⟩ := okWide_slice ht hval
  obtain ⟨fuel, hf⟩ := h
  rcases open_ints ht he hc hf with ⟨hcs, _⟩ | ⟨a, len, cap, zs, hcs, _, hl, hm, hz, hx, hcell, hwz⟩
  · simp [Value.cells] at hcs
    obtain ⟨rfl, rfl, rfl⟩ := hcs
    refine ⟨[], ?_, by simp, by simp⟩
    simp only [SimV]
    exact .inl ⟨rfl, rfl, none, 0, rfl, by simp⟩
  · simp [Value.cells] at hcs
    obtain ⟨rfl, rfl, rfl⟩ := hcs
    simp only [if_true] at hz
    have hlz : len0 ≤ zs.length := by omega
    refine ⟨zs.take len0, ?_, by simp; omega, fun x hx => ?_⟩
    · simp only [SimV]
      by_cases h0 : len0 = 0
      · subst h0
        exact .inl ⟨rfl, rfl, _, cap0, rfl, by simp⟩
      · have hc0 := hcell 0 (by omega)
        have hspot : a.spot = none ∧ ∃ cur e f, W.heap[a.block]? = some (.cells cur e f) := by
          unfold World.cell? at hc0
          rw [show a.add 0 = a from rfl] at hc0
          split at hc0
          · rename_i c e' f hb
            split at hc0
            · cases hc0
            · rename_i hs
              exact ⟨by simpa using hs, c, e', f, hb⟩
          · cases hc0
        obtain ⟨hs, cur, e', f, hb⟩ := hspot
        obtain ⟨b, o, sp⟩ := a
        simp only at hs hb
        subst hs
        have hlen : (zs.take len0).length = len0 := by simp; omega
        refine .inr ⟨b, o, cap0, cur, e', f, by rw [hlen], hb, lt_of_get hb, by simp, by rw [hlen]; exact hl, by simp, ?_⟩
        refine SimL.of_get fun i x hi => ?_
        rw [List.getElem?_map, Option.map_eq_some_iff] at hi
        obtain ⟨n, hn, rfl⟩ := hi
        rw [List.getElem?_take] at hn
        split at hn
        · rename_i hi0
          have hci := hcell i (by omega)
          rw [addr_add, cell_of_row W b (o + i) cur e' f hb] at hci
          refine ⟨_, by rw [List.getElem?_drop, Array.getElem?_toList]; exact hci, ?_⟩
          simp only [SimV]
          congr 1
          rw [List.getD_eq_getElem?_getD, hn]
          rfl
        · cases hn
    · have := hwz x (List.mem_of_mem_take hx)
      simp [Lit.wf, IntKind.min, IntKind.max, IntKind.signed, IntKind.bits] at this
      exact ⟨by omega, by omega⟩
/-- An integer that came in. -/
theorem arg_int {W : World} {t : TypeId} {v : Value} {d : DataW H} {ps : List MemPlace} (ht : P.underlying t = some (.int .i64))
    (hval : Value.okWide P W .any 0 t v) (h : DataW.Trod enc P W 0 (fun _ => true) true t v d ps) : ∃ n : Int, SimV (.i n) (Outer W) v ∧ -9223372036854775808 ≤ n ∧ n ≤ 9223372036854775807 := by
  obtain ⟨n, rfl, _, _, hw⟩ := open_int ht hval h
  simp [Lit.wf, IntKind.min, IntKind.max, IntKind.signed, IntKind.bits] at hw
  exact ⟨n, by simp [SimV], by omega, by omega⟩
/-- A law says true. -/
theorem law_calls {f : FuncId} {asx : List AV} {W : World} {args : Array Value} (hs : Sp P f asx (.b true)) (he : SimL asx (Outer W) args.toList) (hlen : args.size = asx.length) (hg : GoodW W := by exact goodW_none rfl) :
    Calls P f args W fun e W' => e = .returned (.bool true) ∧ More W W' := by
  refine (hs W args hg ⟨he, by simpa using hlen⟩).mono fun e W' ⟨v, h1, h2, h3⟩ => ?_
  simp only [SimV] at h3
  subst h3
  exact ⟨h1, h2⟩
end Go.Am
namespace Go.Proofs.Ytdbjchmmdfjhjaa
open Go.ChangeShapes Go.WideShapes Go.ChangeAt Go.RowKit
theorem factMayEnter : Try.checked.prog.mayEnter = true := by kernel_rfl
end Go.Proofs.Ytdbjchmmdfjhjaa
namespace Go.Proofs.Ytdbjchmmdfjhjaa
open Go.ChangeShapes Go.WideShapes Go.ChangeAt Go.RowKit
theorem factLifts : Try.checked.prog.liftsFinal = false := by kernel_rfl
end Go.Proofs.Ytdbjchmmdfjhjaa
namespace Go.Proofs.Ytdbjchmmdfjhjaa
open Go.ChangeShapes Go.WideShapes Go.ChangeAt Go.RowKit
theorem factMake : Try.checked.prog.make = some (OpenClaim.make { program := "", sum := "", func := "", spec := "" }) := by kernel_rfl
end Go.Proofs.Ytdbjchmmdfjhjaa
