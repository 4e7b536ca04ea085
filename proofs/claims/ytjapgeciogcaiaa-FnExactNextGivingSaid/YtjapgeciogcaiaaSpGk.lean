/- Contracts: the specification's search for a giving, from its beginning; all of it. -/
import Derived.Test.YtjapgeciogcaiaaSpGj
namespace Go.Proofs.Ytjapgeciogcaiaa
open Go.Am
attribute [local irreducible] AW Outs Weak Lends Lend Sp aops atree aop1 Then Round InBlock Done
attribute [local irreducible] SpM DoneM SpH DoneH

abbrev hR : List (Nat × (Bool × List AV)) := [(pbase, (true, [.v (.slice none 0 0)]))]
abbrev oR (m : List Int) : List (Nat × (Bool × List AV)) := [(pbase, (false, [.sl nbase 1 0 1])), (nbase, (false, [.sl (nbase + 1) 1 0 m.length])), (nbase + 1, (true, m.map AV.i))]
def oZ : Option (List Int) → List (Nat × (Bool × List AV))
  | none => hR
  | some m => oR m
theorem oZ_static (T : Option (List Int)) : Static (Am.look hR) (.tup []) (Am.look (oZ T)) := by
  cases T with
  | none => exact static_R (by simp) (by simp [oZ, ownL, ownV, refsL, refsV]) (by simp [ownV, ownL, refsV, refsL])
  | some m => exact static_R (by simp) (by simp [oZ, ownL, ownV, refsL, refsV, ownL_ints, refsL_ints, Am.look, nbase, pbase]) (by simp [ownV, ownL, refsV, refsL])
def stR (F l bh : List Int) (x : Nat) : Option (List Int) → AS
  | none => st [(0, ints F), (1, ints l), (2, ints bh), (3, .i 1), (4, .pt pbase 0), (70, .i F.length), (71, .i x)] [(pbase, (true, [.v (.slice none 0 0)]))]
  | some m => st [(0, ints F), (1, ints l), (2, ints bh), (3, .i 1), (4, .pt pbase 0), (70, .i F.length), (71, .i x)] [(pbase, (false, [.sl 1000 1 0 1])), (1000, (false, [.sl 1001 1 0 m.length])), (1001, (true, m.map AV.i))]

theorem giLook_root (F : List Int) (h : IsFam F) (k : Nat) (bh : List Int) (hbh : bh = [] ∨ bh.length = F.length)
    (ihN : ∀ l, l.length + k = F.length → fstB (fitsG F) F.length k l bh = none → SpH Try.prog 28 (gArgs F l bh) (Am.look (hE l)) (.tup []) (Am.look (hE l)))
    (ihL : ∀ l m, k = 0 → l.length + k = F.length → fstB (fitsG F) F.length k l bh = some m → SpH Try.prog 28 (gArgs F l bh) (Am.look (hE l)) (.tup []) (Am.look (oL l)))
    (ihI : ∀ l m, k ≠ 0 → l.length + k = F.length → fstB (fitsG F) F.length k l bh = some m → SpH Try.prog 28 (gArgs F l bh) (Am.look (hE l)) (.tup []) (Am.look (oI l m)))
    (l : List Int) (hl : l.length + (k + 1) = F.length) (hl0 : l = []) (bv : AV) (hbv : bv = ints bh ∨ bv = .v (.slice none 0 0) ∧ bh = []) :
    SpH Try.prog 28 [ints F, .v (.slice none 0 0), bv, .i 1, .pt pbase 0] (Am.look hR) (.tup []) (Am.look (oZ (fstB (fitsG F) F.length (k + 1) l bh))) := by
  have h9 := h.2.1
  have hst := oZ_static (fstB (fitsG F) F.length (k + 1) l bh)
  have hall := partB_all (fitsG F) F.length k l bh
  have hpr : ∀ i, i < l.length → i < bh.length → l.take i = bh.take i → l.getD i 0 < bh.getD i 0 → fstB (fitsG F) F.length (k + 1) l bh = none := by
    intro i h1 h2 h3 h4
    unfold fstB
    rw [if_neg (by rintro rfl; simp at h2)]
    exact find_prune _ _ h1 h2 h3 h4
  generalize fstB (fitsG F) F.length (k + 1) l bh = T at *
  have hw : Weak (enterH [ints F, .v (.slice none 0 0), bv, .i 1, .pt pbase 0] (Am.look hR)) (st [(0, ints F), (1, ints l), (2, ints bh), (3, .i 1), (4, .pt pbase 0)] [(pbase, (true, [.v (.slice none 0 0)]))]) := by
    subst hl0
    rcases hbv with rfl | ⟨rfl, rfl⟩
    · refine Weak.trans (weak_nilro 1 1 rfl) (weak_st ?_ ?_ rfl rfl)
      · (repeat' (first | exact trivial | refine And.intro ?_ ?_)) <;> (first | rfl | skip)
      · (repeat' (first | exact trivial | refine And.intro ?_ ?_)) <;> (first | rfl | skip)
    · refine Weak.trans (weak_nilro 1 1 rfl) (Weak.trans (weak_nilro 2 1 rfl) (weak_st ?_ ?_ rfl rfl))
      · (repeat' (first | exact trivial | refine And.intro ?_ ?_)) <;> (first | rfl | skip)
      · (repeat' (first | exact trivial | refine And.intro ?_ ?_)) <;> (first | rfl | skip)
  clear hl0 hbv
  refine specH_of Try.func28 rfl cc28 rfl (by first | exact static_mat1 _ | exact static_mat2 _ _ | assumption) ?_
  unfold ac28
  refine AW_weak hw ?_
  repeat (first | (refine step_ops ?_; (first | (refine m_mov (by conv => lhs; whnf) ?_) | (refine m_eql rfl rfl ?_) | (refine m_len_ro rfl ?_) | (refine m_len_nil rfl ?_) | (apply m_ld_pt; (· rfl); (· rfl); (· rfl)) | (refine m_nchk rfl ?_))) | refine end_ops ?_ | refine seq_ops ?_ | (refine cond_f rfl ?_ ?_; (· first | rfl | assumption | (refine decide_eq_false ?_; first | assumption | omega) | (refine nf ?_; first | assumption | omega) | (simp [*]; done))) | refine skip_then ?_ | refine AW_seq ?_ | refine AW_block ?_)
  refine AW_cutloop (st [(0, ints F), (1, ints l), (2, ints bh), (3, .i 1), (4, .pt pbase 0)] [(pbase, (true, [.v (.slice none 0 0)]))]) ?_ ?_
  case refine_2 =>
    refine AW_loop (α := Nat) (fun i => i ≤ l.length ∧ l.take i = bh.take i ∧ i ≤ bh.length) (fun i => st [(0, ints F), (1, ints l), (2, ints bh), (3, .i 1), (4, .pt pbase 0), (10, .i i)] [(pbase, (true, [.v (.slice none 0 0)]))]) (fun i => l.length - i) 0 ⟨Nat.zero_le _, rfl, Nat.zero_le _⟩ (weak_st ?_ ?_ rfl rfl) ?_
    · (repeat' (first | exact trivial | refine And.intro ?_ ?_)) <;> (first | rfl | skip)
    · (repeat' (first | exact trivial | refine And.intro ?_ ?_)) <;> (first | rfl | skip)
    rintro i ⟨hi, he, hib⟩
    by_cases hc : i < l.length
    · by_cases hcb : i < bh.length
      · by_cases hx : l.getD i 0 = bh.getD i 0
        · repeat (first | ((first | refine step_ops ?_ | refine step_tree ?_); ((try (refine g_yes rfl ?_ ?_; (· first | rfl | assumption | (refine decide_eq_true ?_; first | assumption | omega) | (refine nt ?_; first | assumption | omega) | (simp [*]; done) | (refine decide_eq_false ?_; first | assumption | omega) | (refine nf ?_; first | assumption | omega)))); (first | (refine m_mov (by conv => lhs; whnf) ?_) | (refine m_lss rfl rfl ?_) | (refine m_neq rfl rfl ?_) | (refine m_add rfl rfl ?_ ?_ ?_; (· omega); (· omega)) | (refine m_len_ro rfl ?_) | (refine m_idx1_ro rfl rfl ?_ ?_; (· omega)) | (refine m_ld_rpi rfl ?_ ?_; (· omega)) | (refine m_pick_t rfl ?_ (by conv => lhs; whnf) ?_; (· first | rfl | assumption | (refine decide_eq_true ?_; first | assumption | omega) | (refine nt ?_; first | assumption | omega) | (simp [*]; done)))))) | refine end_ops ?_ | refine seq_ops ?_ | refine AW_ops ?_ | refine end_tree ?_ | refine seq_tree ?_ | (refine cond_t rfl ?_ ?_; (· first | rfl | assumption | (refine decide_eq_true ?_; first | assumption | omega) | (refine nt ?_; first | assumption | omega) | (simp [*]; done))) | (refine cond_f rfl ?_ ?_; (· first | rfl | assumption | (refine decide_eq_false ?_; first | assumption | omega) | (refine nf ?_; first | assumption | omega) | (simp [*]; done))) | refine skip_then ?_ | refine AW_seq ?_ | refine norm_then ?_ | refine AW_block ?_ | refine norm_block ?_ | refine AW_skip ?_)
          refine next_round (i + 1) ⟨hc, by rw [take_snoc l i 0 hc, take_snoc bh i 0 hcb, he, hx], hcb⟩ (weak_st ?_ ?_ rfl rfl) ?_
          · (repeat' (first | exact trivial | refine And.intro ?_ ?_)) <;> (first | rfl | skip)
          · (repeat' (first | exact trivial | refine And.intro ?_ ?_)) <;> (first | rfl | skip)
          · omega
        · by_cases hlt : l.getD i 0 < bh.getD i 0
          · have hT := hpr i hc hcb he hlt
            subst hT
            repeat (first | ((first | refine step_ops ?_ | refine step_tree ?_); ((try (refine g_yes rfl ?_ ?_; (· first | rfl | assumption | (refine decide_eq_true ?_; first | assumption | omega) | (refine nt ?_; first | assumption | omega) | (simp [*]; done) | (refine decide_eq_false ?_; first | assumption | omega) | (refine nf ?_; first | assumption | omega)))); (first | (refine m_mov (by conv => lhs; whnf) ?_) | (refine m_lss rfl rfl ?_) | (refine m_neq rfl rfl ?_) | (refine m_len_ro rfl ?_) | (refine m_idx1_ro rfl rfl ?_ ?_; (· omega)) | (refine m_ld_rpi rfl ?_ ?_; (· omega)) | (refine m_pick_t rfl ?_ (by conv => lhs; whnf) ?_; (· first | rfl | assumption | (refine decide_eq_true ?_; first | assumption | omega) | (refine nt ?_; first | assumption | omega) | (simp [*]; done)))))) | refine end_ops ?_ | refine seq_ops ?_ | refine end_tree ?_ | refine seq_tree ?_ | (refine cond_t rfl ?_ ?_; (· first | rfl | assumption | (refine decide_eq_true ?_; first | assumption | omega) | (refine nt ?_; first | assumption | omega) | (simp [*]; done))) | refine skip_then ?_ | refine AW_seq ?_ | refine AW_ret ?_ | refine ret_then ?_ | refine AW_block ?_ | refine ret_block ?_ | refine ret_round ?_)
            refine ret_R (ho := hR) id (by rfl) ?_ (by simp) (by simp) (by simp)
            (repeat' (first | exact trivial | refine And.intro ?_ ?_ | (refine ⟨_, rfl, .inl ?_⟩; first | rfl | exact congrArg (Prod.mk true) (renL_ints _ _).symm)))
          · repeat (first | ((first | refine step_ops ?_ | refine step_tree ?_); ((try (refine g_yes rfl ?_ ?_; (· first | rfl | assumption | (refine decide_eq_true ?_; first | assumption | omega) | (refine nt ?_; first | assumption | omega) | (simp [*]; done) | (refine decide_eq_false ?_; first | assumption | omega) | (refine nf ?_; first | assumption | omega)))); (first | (refine m_mov (by conv => lhs; whnf) ?_) | (refine m_lss rfl rfl ?_) | (refine m_neq rfl rfl ?_) | (refine m_len_ro rfl ?_) | (refine m_idx1_ro rfl rfl ?_ ?_; (· omega)) | (refine m_ld_rpi rfl ?_ ?_; (· omega)) | (refine m_pick_t rfl ?_ (by conv => lhs; whnf) ?_; (· first | rfl | assumption | (refine decide_eq_true ?_; first | assumption | omega) | (refine nt ?_; first | assumption | omega) | (simp [*]; done)))))) | refine end_ops ?_ | refine seq_ops ?_ | refine end_tree ?_ | refine seq_tree ?_ | (refine cond_t rfl ?_ ?_; (· first | rfl | assumption | (refine decide_eq_true ?_; first | assumption | omega) | (refine nt ?_; first | assumption | omega) | (simp [*]; done))) | (refine cond_f rfl ?_ ?_; (· first | rfl | assumption | (refine decide_eq_false ?_; first | assumption | omega) | (refine nf ?_; first | assumption | omega) | (simp [*]; done))) | refine skip_then ?_ | refine AW_seq ?_ | refine exit_then ?_ | refine AW_block ?_ | refine exit_round ?_ | refine AW_exit ?_ | refine exit_block ?_ | (refine exit_other ?_ ?_; (· decide)))
            refine weak_st ?_ ?_ rfl rfl
            · (repeat' (first | exact trivial | refine And.intro ?_ ?_)) <;> (first | rfl | skip)
            · (repeat' (first | exact trivial | refine And.intro ?_ ?_)) <;> (first | rfl | skip)
      · repeat (first | (refine step_ops ?_; ((try (refine g_yes rfl ?_ ?_; (· first | rfl | assumption | (refine decide_eq_true ?_; first | assumption | omega) | (refine nt ?_; first | assumption | omega) | (simp [*]; done) | (refine decide_eq_false ?_; first | assumption | omega) | (refine nf ?_; first | assumption | omega)))); (first | (refine m_mov (by conv => lhs; whnf) ?_) | (refine m_lss rfl rfl ?_) | (refine m_len_ro rfl ?_) | (refine m_pick_t rfl ?_ (by conv => lhs; whnf) ?_; (· first | rfl | assumption | (refine decide_eq_true ?_; first | assumption | omega) | (refine nt ?_; first | assumption | omega) | (simp [*]; done)))))) | refine end_ops ?_ | refine seq_ops ?_ | (refine cond_f rfl ?_ ?_; (· first | rfl | assumption | (refine decide_eq_false ?_; first | assumption | omega) | (refine nf ?_; first | assumption | omega) | (simp [*]; done))) | refine AW_seq ?_ | refine exit_then ?_ | refine exit_round ?_ | refine AW_exit ?_ | refine exit_block ?_)
        refine weak_st ?_ ?_ rfl rfl
        · (repeat' (first | exact trivial | refine And.intro ?_ ?_)) <;> (first | rfl | skip)
        · (repeat' (first | exact trivial | refine And.intro ?_ ?_)) <;> (first | rfl | skip)
    · repeat (first | (refine step_ops ?_; (first | (first | (refine m_mov (by conv => lhs; whnf) ?_) | (refine m_lss rfl rfl ?_) | (refine m_len_ro rfl ?_) | (refine m_pick_f rfl ?_ (by conv => lhs; whnf) ?_; (· first | rfl | assumption | (refine decide_eq_false ?_; first | assumption | omega) | (refine nf ?_; first | assumption | omega) | (simp [*]; done)))) | (refine g_noT rfl ?_ ?_; (· first | rfl | assumption | (refine decide_eq_false ?_; first | assumption | omega) | (refine nf ?_; first | assumption | omega) | (simp [*]; done))))) | refine end_ops ?_ | refine seq_ops ?_ | (refine cond_f rfl ?_ ?_; (· first | rfl | assumption | (refine decide_eq_false ?_; first | assumption | omega) | (refine nf ?_; first | assumption | omega) | (simp [*]; done))) | refine AW_seq ?_ | refine exit_then ?_ | refine exit_round ?_ | refine AW_exit ?_ | refine exit_block ?_)
      refine weak_st ?_ ?_ rfl rfl
      · (repeat' (first | exact trivial | refine And.intro ?_ ?_)) <;> (first | rfl | skip)
      · (repeat' (first | exact trivial | refine And.intro ?_ ?_)) <;> (first | rfl | skip)
  repeat (first | (refine step_ops ?_; (first | (refine m_mov (by conv => lhs; whnf) ?_) | (refine m_len_ro rfl ?_))) | refine end_ops ?_ | refine seq_ops ?_ | refine AW_block ?_)
  refine AW_loop (α := Nat) (fun x => x ≤ F.length) (fun x => stR F l bh x (partB (fitsG F) F.length k l bh x)) (fun x => F.length - x) 0 (Nat.zero_le _) ?_ ?_
  · rw [partB_zero]
    refine weak_st ?_ ?_ rfl rfl
    · (repeat' (first | exact trivial | refine And.intro ?_ ?_)) <;> (first | rfl | skip)
    · (repeat' (first | exact trivial | refine And.intro ?_ ?_)) <;> (first | rfl | skip)
  intro x hx
  have hps := partB_succ (fitsG F) F.length k l bh x
  by_cases hc : x < F.length
  · cases hp : partB (fitsG F) F.length k l bh x with
    | none =>
      rw [hp, Option.none_or] at hps
      simp only [stR]
      by_cases hfam : F.getD x 0 = F.getD l.length 0
      · have hfit : fitsG F l x = false := by unfold fitsG; rw [hfam]; simp
        rw [hfit, if_neg (by simp)] at hps
        repeat (first | ((first | refine step_ops ?_ | refine step_tree ?_); (first | (first | (refine m_mov (by conv => lhs; whnf) ?_) | (refine m_lss rfl rfl ?_) | (refine m_neq rfl rfl ?_) | (refine m_add rfl rfl ?_ ?_ ?_; (· omega); (· omega)) | (refine m_len_ro rfl ?_) | (refine m_idx1_ro rfl rfl ?_ ?_; (· omega)) | (refine m_ld_rpi rfl ?_ ?_; (· omega)) | (refine m_pick_f rfl ?_ (by conv => lhs; whnf) ?_; (· first | rfl | assumption | (refine decide_eq_false ?_; first | assumption | omega) | (refine nf ?_; first | assumption | omega) | (simp [*]; done)))) | (refine g_noT rfl ?_ ?_; (· first | rfl | assumption | (refine decide_eq_false ?_; first | assumption | omega) | (refine nf ?_; first | assumption | omega) | (simp [*]; done))))) | refine end_ops ?_ | refine seq_ops ?_ | refine AW_ops ?_ | refine end_tree ?_ | refine seq_tree ?_ | (refine cond_t rfl ?_ ?_; (· first | rfl | assumption | (refine decide_eq_true ?_; first | assumption | omega) | (refine nt ?_; first | assumption | omega) | (simp [*]; done))) | (refine cond_f rfl ?_ ?_; (· first | rfl | assumption | (refine decide_eq_false ?_; first | assumption | omega) | (refine nf ?_; first | assumption | omega) | (simp [*]; done))) | refine skip_then ?_ | refine AW_seq ?_ | refine norm_then ?_ | refine AW_block ?_ | refine norm_block ?_ | refine AW_skip ?_)
        refine next_round (x + 1) hc ?_ ?_
        rotate_left
        · omega
        rw [hps]
        refine weak_st ?_ ?_ rfl rfl
        · (repeat' (first | exact trivial | refine And.intro ?_ ?_)) <;> (first | rfl | skip)
        · (repeat' (first | exact trivial | refine And.intro ?_ ?_)) <;> (first | rfl | skip)
      by_cases hm : (x : Int) ∈ l
      · have hfit : fitsG F l x = false := by unfold fitsG; simp [hm]
        rw [hfit, if_neg (by simp)] at hps
        repeat (first | ((first | refine step_ops ?_ | refine step_tree ?_); ((try (refine g_yes rfl ?_ ?_; (· first | rfl | assumption | (refine decide_eq_true ?_; first | assumption | omega) | (refine nt ?_; first | assumption | omega) | (simp [*]; done) | (refine decide_eq_false ?_; first | assumption | omega) | (refine nf ?_; first | assumption | omega)))); (first | (refine m_mov (by conv => lhs; whnf) ?_) | (refine m_lss rfl rfl ?_) | (refine m_neq rfl rfl ?_) | (refine m_len_ro rfl ?_) | (refine m_idx1_ro rfl rfl ?_ ?_; (· omega)) | (refine m_ld_rpi rfl ?_ ?_; (· omega))))) | refine end_ops ?_ | refine seq_ops ?_ | refine seq_tree ?_ | (refine cond_t rfl ?_ ?_; (· first | rfl | assumption | (refine decide_eq_true ?_; first | assumption | omega) | (refine nt ?_; first | assumption | omega) | (simp [*]; done))) | refine skip_then ?_ | refine AW_seq ?_ | refine AW_block ?_)
        refine step_tree ?_; (refine g_yes rfl ?_ ?_; (· first | (first | rfl | assumption | (refine decide_eq_true ?_; first | assumption | omega) | (refine nt ?_; first | assumption | omega) | (simp [*]; done)) | (first | rfl | assumption | (refine decide_eq_false ?_; first | assumption | omega) | (refine nf ?_; first | assumption | omega) | (simp [*]; done))); (apply m_call (l1Has_spec l x (by omega)))); (· repeat (first | exact lends_nil | (refine lends_cons ?_ ?_; (· (first | exact lend_v | (refine lend_ints ?_; first | rfl | omega))))))
        repeat (first | ((first | refine step_ops ?_ | refine step_tree ?_); ((try (refine g_yes rfl ?_ ?_; (· first | rfl | assumption | (refine decide_eq_true ?_; first | assumption | omega) | (refine nt ?_; first | assumption | omega) | (simp [*]; done) | (refine decide_eq_false ?_; first | assumption | omega) | (refine nf ?_; first | assumption | omega)))); (first | (refine m_mov (by conv => lhs; whnf) ?_) | (refine m_add rfl rfl ?_ ?_ ?_; (· omega); (· omega)) | (refine m_not rfl ?_) | (refine m_pick_t rfl ?_ (by conv => lhs; whnf) ?_; (· first | rfl | assumption | (refine decide_eq_true ?_; first | assumption | omega) | (refine nt ?_; first | assumption | omega) | (simp [*]; done)))))) | refine end_ops ?_ | refine AW_ops ?_ | refine end_tree ?_ | (refine cond_f rfl ?_ ?_; (· first | rfl | assumption | (refine decide_eq_false ?_; first | assumption | omega) | (refine nf ?_; first | assumption | omega) | (simp [*]; done))) | refine norm_then ?_ | refine norm_block ?_ | refine AW_skip ?_)
        refine next_round (x + 1) hc ?_ ?_
        rotate_left
        · omega
        rw [hps]
        refine weak_st ?_ ?_ rfl rfl
        · (repeat' (first | exact trivial | refine And.intro ?_ ?_)) <;> (first | rfl | skip)
        · (repeat' (first | exact trivial | refine And.intro ?_ ?_)) <;> (first | rfl | skip)
      have hfit : fitsG F l x = true := by
        unfold fitsG
        rw [decide_eq_true (show F.getD l.length 0 ≠ F.getD x 0 from fun e => hfam e.symm), decide_eq_false hm]
        rfl
      rw [hfit, if_pos rfl] at hps
      repeat (first | ((first | refine step_ops ?_ | refine step_tree ?_); ((try (refine g_yes rfl ?_ ?_; (· first | rfl | assumption | (refine decide_eq_true ?_; first | assumption | omega) | (refine nt ?_; first | assumption | omega) | (simp [*]; done) | (refine decide_eq_false ?_; first | assumption | omega) | (refine nf ?_; first | assumption | omega)))); (first | (refine m_mov (by conv => lhs; whnf) ?_) | (refine m_lss rfl rfl ?_) | (refine m_neq rfl rfl ?_) | (refine m_len_ro rfl ?_) | (refine m_idx1_ro rfl rfl ?_ ?_; (· omega)) | (refine m_ld_rpi rfl ?_ ?_; (· omega))))) | refine end_ops ?_ | refine seq_ops ?_ | refine seq_tree ?_ | (refine cond_t rfl ?_ ?_; (· first | rfl | assumption | (refine decide_eq_true ?_; first | assumption | omega) | (refine nt ?_; first | assumption | omega) | (simp [*]; done))) | refine skip_then ?_ | refine AW_seq ?_ | refine AW_block ?_)
      refine step_tree ?_; (refine g_yes rfl ?_ ?_; (· first | (first | rfl | assumption | (refine decide_eq_true ?_; first | assumption | omega) | (refine nt ?_; first | assumption | omega) | (simp [*]; done)) | (first | rfl | assumption | (refine decide_eq_false ?_; first | assumption | omega) | (refine nf ?_; first | assumption | omega) | (simp [*]; done))); (apply m_call (l1Has_spec l x (by omega)))); (· repeat (first | exact lends_nil | (refine lends_cons ?_ ?_; (· (first | exact lend_v | (refine lend_ints ?_; first | rfl | omega))))))
      repeat (first | ((first | refine step_ops ?_ | refine step_tree ?_); ((try (refine g_yes rfl ?_ ?_; (· first | rfl | assumption | (refine decide_eq_true ?_; first | assumption | omega) | (refine nt ?_; first | assumption | omega) | (simp [*]; done) | (refine decide_eq_false ?_; first | assumption | omega) | (refine nf ?_; first | assumption | omega)))); (first | (refine m_mov (by conv => lhs; whnf) ?_) | (refine m_not rfl ?_) | (refine m_pick_t rfl ?_ (by conv => lhs; whnf) ?_; (· first | rfl | assumption | (refine decide_eq_true ?_; first | assumption | omega) | (refine nt ?_; first | assumption | omega) | (simp [*]; done)))))) | refine AW_ops ?_ | refine end_tree ?_ | (refine cond_t rfl ?_ ?_; (· first | rfl | assumption | (refine decide_eq_true ?_; first | assumption | omega) | (refine nt ?_; first | assumption | omega) | (simp [*]; done))))
      refine step_ops ?_; (apply m_callo (l1Own_spec l (by omega))); (· repeat (first | exact lends_nil | (refine lends_cons ?_ ?_; (· (refine lend_ints ?_; first | rfl | omega))))); (· first | exact allv_ints _ | rfl | (simp; done))
      repeat (refine step_ops ?_; (first | (refine m_mov (by conv => lhs; whnf) ?_) | (refine m_bsl1 rfl rfl ?_) | (refine m_app1i rfl (by decide) (by rfl) (by first | rfl | omega | (simp; done)) rfl rfl ?_ (by decide) ?_; (· first | omega | (simp; omega)))))
      cases hq : fstB (fitsG F) F.length k (l ++ [(x : Int)]) bh with
      | none =>
        refine step_ops ?_
        refine m_callR (fun r => if r = pbase + 1 then 95 else r) (ihN (l ++ [(x : Int)]) (by simp; omega) hq) (by rfl) ?_ ?_ ?_ ?_ ?_ ?_ ?_ ?_ ?_ ?_
        · exact gA_own _ _ _
        · exact gA_refsE _ _ _
        · ((repeat' (first | exact trivial | refine And.intro ?_ ?_)) <;> (first | rfl | exact congrArg (fun c => some (true, c)) (renL_ints _ _).symm | skip))
        · simp [pbase]
        · simp
        · simp
        · exact hE_own _
        · exact hE_ownO _
        · rfl
        repeat (first | (refine step_ops ?_; (first | (refine m_mov (by conv => lhs; whnf) ?_) | (refine m_add rfl rfl ?_ ?_ ?_; (· omega); (· omega)))) | refine end_ops ?_ | refine AW_ops ?_ | refine norm_then ?_ | refine norm_block ?_)
        refine next_round (x + 1) hc ?_ ?_
        rotate_left
        · omega
        rw [hps, hq]
        refine weak_st ?_ ?_ rfl rfl
        · (repeat' (first | exact trivial | refine And.intro ?_ ?_)) <;> (first | rfl | exact congrArg (fun c => some (true, c)) (renL_ints _ _) | skip)
        · (repeat' (first | exact trivial | refine And.intro ?_ ?_)) <;> (first | rfl | exact congrArg (fun c => some (true, c)) (renL_ints _ _) | skip)
      | some m =>
        by_cases hk0 : k = 0
        · refine step_ops ?_
          refine m_callR (fun r => if r = pbase + 1 then 95 else if r = nbase then 1000 else r) (ihL (l ++ [(x : Int)]) m hk0 (by simp; omega) hq) (by rfl) ?_ ?_ ?_ ?_ ?_ ?_ ?_ ?_ ?_ ?_
          · exact gA_own _ _ _
          · exact gA_refsE _ _ _
          · ((repeat' (first | exact trivial | refine And.intro ?_ ?_)) <;> (first | rfl | exact congrArg (fun c => some (true, c)) (renL_ints _ _).symm | skip))
          · simp [pbase, nbase]
          · simp
          · simp [pbase, nbase]
            rfl
          · exact hE_own _
          · exact oL_ownO _
          · rfl
          have hml : m = l ++ [(x : Int)] := by
            subst hk0
            exact fstB_leaf hq
          subst hml
          repeat (first | (refine step_ops ?_; (first | (refine m_mov (by conv => lhs; whnf) ?_) | (refine m_add rfl rfl ?_ ?_ ?_; (· omega); (· omega)))) | refine end_ops ?_ | refine AW_ops ?_ | refine norm_then ?_ | refine norm_block ?_)
          refine next_round (x + 1) hc ?_ ?_
          rotate_left
          · omega
          rw [hps, hq]
          refine weak_stR (fun r => if r = 1001 then 95 else r) ?_ ?_ (by simp [pbase]) (by simp [pbase]) rfl rfl
          · (repeat' (first | exact trivial | refine And.intro ?_ ?_)) <;> (first | rfl | exact congrArg (fun c => some (true, c)) (renL_ints _ _) | skip)
          · (repeat' (first | exact trivial | refine And.intro ?_ ?_)) <;> (first | rfl | exact congrArg (fun c => some (true, c)) (renL_ints _ _) | skip)
        · refine step_ops ?_
          refine m_callR (fun r => if r = pbase + 1 then 95 else if r = nbase then 1000 else if r = nbase + 1 then 1001 else r) (ihI (l ++ [(x : Int)]) m hk0 (by simp; omega) hq) (by rfl) ?_ ?_ ?_ ?_ ?_ ?_ ?_ ?_ ?_ ?_
          · exact gA_own _ _ _
          · exact gA_refsE _ _ _
          · ((repeat' (first | exact trivial | refine And.intro ?_ ?_)) <;> (first | rfl | exact congrArg (fun c => some (true, c)) (renL_ints _ _).symm | skip))
          · simp [pbase, nbase]
          · simp
          · simp [pbase, nbase]
            exact ⟨rfl, rfl⟩
          · exact hE_own _
          · exact oI_ownO _ _
          · rfl
          repeat (first | (refine step_ops ?_; (first | (refine m_mov (by conv => lhs; whnf) ?_) | (refine m_add rfl rfl ?_ ?_ ?_; (· omega); (· omega)))) | refine end_ops ?_ | refine AW_ops ?_ | refine norm_then ?_ | refine norm_block ?_)
          refine next_round (x + 1) hc ?_ ?_
          rotate_left
          · omega
          rw [hps, hq]
          refine weak_st ?_ ?_ rfl rfl
          · (repeat' (first | exact trivial | refine And.intro ?_ ?_)) <;> (first | rfl | exact congrArg (fun c => some (true, c)) (renL_ints _ _) | skip)
          · (repeat' (first | exact trivial | refine And.intro ?_ ?_)) <;> (first | rfl | exact congrArg (fun c => some (true, c)) (renL_ints _ _) | skip)
    | some m =>
      rw [hp, Option.some_or] at hps
      simp only [stR]
      by_cases hfam : F.getD x 0 = F.getD l.length 0
      · repeat (first | ((first | refine step_ops ?_ | refine step_tree ?_); (first | (first | (refine m_mov (by conv => lhs; whnf) ?_) | (refine m_lss rfl rfl ?_) | (refine m_neq rfl rfl ?_) | (refine m_add rfl rfl ?_ ?_ ?_; (· omega); (· omega)) | (refine m_len_ro rfl ?_) | (refine m_idx1_ro rfl rfl ?_ ?_; (· omega)) | (refine m_ld_rpi rfl ?_ ?_; (· omega)) | (refine m_pick_f rfl ?_ (by conv => lhs; whnf) ?_; (· first | rfl | assumption | (refine decide_eq_false ?_; first | assumption | omega) | (refine nf ?_; first | assumption | omega) | (simp [*]; done)))) | (refine g_noT rfl ?_ ?_; (· first | rfl | assumption | (refine decide_eq_false ?_; first | assumption | omega) | (refine nf ?_; first | assumption | omega) | (simp [*]; done))))) | refine end_ops ?_ | refine seq_ops ?_ | refine AW_ops ?_ | refine end_tree ?_ | refine seq_tree ?_ | (refine cond_t rfl ?_ ?_; (· first | rfl | assumption | (refine decide_eq_true ?_; first | assumption | omega) | (refine nt ?_; first | assumption | omega) | (simp [*]; done))) | (refine cond_f rfl ?_ ?_; (· first | rfl | assumption | (refine decide_eq_false ?_; first | assumption | omega) | (refine nf ?_; first | assumption | omega) | (simp [*]; done))) | refine skip_then ?_ | refine AW_seq ?_ | refine norm_then ?_ | refine AW_block ?_ | refine norm_block ?_ | refine AW_skip ?_)
        refine next_round (x + 1) hc ?_ ?_
        rotate_left
        · omega
        rw [hps]
        refine weak_st ?_ ?_ rfl rfl
        · (repeat' (first | exact trivial | refine And.intro ?_ ?_)) <;> (first | rfl | exact congrArg (fun c => some (true, c)) (renL_ints _ _) | skip)
        · (repeat' (first | exact trivial | refine And.intro ?_ ?_)) <;> (first | rfl | exact congrArg (fun c => some (true, c)) (renL_ints _ _) | skip)
      by_cases hm : (x : Int) ∈ l
      · repeat (first | ((first | refine step_ops ?_ | refine step_tree ?_); ((try (refine g_yes rfl ?_ ?_; (· first | rfl | assumption | (refine decide_eq_true ?_; first | assumption | omega) | (refine nt ?_; first | assumption | omega) | (simp [*]; done) | (refine decide_eq_false ?_; first | assumption | omega) | (refine nf ?_; first | assumption | omega)))); (first | (refine m_mov (by conv => lhs; whnf) ?_) | (refine m_lss rfl rfl ?_) | (refine m_neq rfl rfl ?_) | (refine m_len_ro rfl ?_) | (refine m_idx1_ro rfl rfl ?_ ?_; (· omega)) | (refine m_ld_rpi rfl ?_ ?_; (· omega))))) | refine end_ops ?_ | refine seq_ops ?_ | refine seq_tree ?_ | (refine cond_t rfl ?_ ?_; (· first | rfl | assumption | (refine decide_eq_true ?_; first | assumption | omega) | (refine nt ?_; first | assumption | omega) | (simp [*]; done))) | refine skip_then ?_ | refine AW_seq ?_ | refine AW_block ?_)
        refine step_tree ?_; (refine g_yes rfl ?_ ?_; (· first | (first | rfl | assumption | (refine decide_eq_true ?_; first | assumption | omega) | (refine nt ?_; first | assumption | omega) | (simp [*]; done)) | (first | rfl | assumption | (refine decide_eq_false ?_; first | assumption | omega) | (refine nf ?_; first | assumption | omega) | (simp [*]; done))); (apply m_call (l1Has_spec l x (by omega)))); (· repeat (first | exact lends_nil | (refine lends_cons ?_ ?_; (· (first | exact lend_v | (refine lend_ints ?_; first | rfl | omega))))))
        repeat (first | ((first | refine step_ops ?_ | refine step_tree ?_); ((try (refine g_yes rfl ?_ ?_; (· first | rfl | assumption | (refine decide_eq_true ?_; first | assumption | omega) | (refine nt ?_; first | assumption | omega) | (simp [*]; done) | (refine decide_eq_false ?_; first | assumption | omega) | (refine nf ?_; first | assumption | omega)))); (first | (refine m_mov (by conv => lhs; whnf) ?_) | (refine m_add rfl rfl ?_ ?_ ?_; (· omega); (· omega)) | (refine m_not rfl ?_) | (refine m_pick_t rfl ?_ (by conv => lhs; whnf) ?_; (· first | rfl | assumption | (refine decide_eq_true ?_; first | assumption | omega) | (refine nt ?_; first | assumption | omega) | (simp [*]; done)))))) | refine end_ops ?_ | refine AW_ops ?_ | refine end_tree ?_ | (refine cond_f rfl ?_ ?_; (· first | rfl | assumption | (refine decide_eq_false ?_; first | assumption | omega) | (refine nf ?_; first | assumption | omega) | (simp [*]; done))) | refine norm_then ?_ | refine norm_block ?_ | refine AW_skip ?_)
        refine next_round (x + 1) hc ?_ ?_
        rotate_left
        · omega
        rw [hps]
        refine weak_st ?_ ?_ rfl rfl
        · (repeat' (first | exact trivial | refine And.intro ?_ ?_)) <;> (first | rfl | exact congrArg (fun c => some (true, c)) (renL_ints _ _) | skip)
        · (repeat' (first | exact trivial | refine And.intro ?_ ?_)) <;> (first | rfl | exact congrArg (fun c => some (true, c)) (renL_ints _ _) | skip)
      repeat (first | ((first | refine step_ops ?_ | refine step_tree ?_); ((try (refine g_yes rfl ?_ ?_; (· first | rfl | assumption | (refine decide_eq_true ?_; first | assumption | omega) | (refine nt ?_; first | assumption | omega) | (simp [*]; done) | (refine decide_eq_false ?_; first | assumption | omega) | (refine nf ?_; first | assumption | omega)))); (first | (refine m_mov (by conv => lhs; whnf) ?_) | (refine m_lss rfl rfl ?_) | (refine m_neq rfl rfl ?_) | (refine m_len_ro rfl ?_) | (refine m_idx1_ro rfl rfl ?_ ?_; (· omega)) | (refine m_ld_rpi rfl ?_ ?_; (· omega))))) | refine end_ops ?_ | refine seq_ops ?_ | refine seq_tree ?_ | (refine cond_t rfl ?_ ?_; (· first | rfl | assumption | (refine decide_eq_true ?_; first | assumption | omega) | (refine nt ?_; first | assumption | omega) | (simp [*]; done))) | refine skip_then ?_ | refine AW_seq ?_ | refine AW_block ?_)
      refine step_tree ?_; (refine g_yes rfl ?_ ?_; (· first | (first | rfl | assumption | (refine decide_eq_true ?_; first | assumption | omega) | (refine nt ?_; first | assumption | omega) | (simp [*]; done)) | (first | rfl | assumption | (refine decide_eq_false ?_; first | assumption | omega) | (refine nf ?_; first | assumption | omega) | (simp [*]; done))); (apply m_call (l1Has_spec l x (by omega)))); (· repeat (first | exact lends_nil | (refine lends_cons ?_ ?_; (· (first | exact lend_v | (refine lend_ints ?_; first | rfl | omega))))))
      repeat (first | ((first | refine step_ops ?_ | refine step_tree ?_); ((try (refine g_yes rfl ?_ ?_; (· first | rfl | assumption | (refine decide_eq_true ?_; first | assumption | omega) | (refine nt ?_; first | assumption | omega) | (simp [*]; done) | (refine decide_eq_false ?_; first | assumption | omega) | (refine nf ?_; first | assumption | omega)))); (first | (refine m_mov (by conv => lhs; whnf) ?_) | (refine m_not rfl ?_) | (refine m_pick_t rfl ?_ (by conv => lhs; whnf) ?_; (· first | rfl | assumption | (refine decide_eq_true ?_; first | assumption | omega) | (refine nt ?_; first | assumption | omega) | (simp [*]; done)))))) | refine AW_ops ?_ | refine end_tree ?_ | (refine cond_t rfl ?_ ?_; (· first | rfl | assumption | (refine decide_eq_true ?_; first | assumption | omega) | (refine nt ?_; first | assumption | omega) | (simp [*]; done))))
      refine step_ops ?_; (apply m_callo (l1Own_spec l (by omega))); (· repeat (first | exact lends_nil | (refine lends_cons ?_ ?_; (· (refine lend_ints ?_; first | rfl | omega))))); (· first | exact allv_ints _ | rfl | (simp; done))
      repeat (refine step_ops ?_; (first | (refine m_mov (by conv => lhs; whnf) ?_) | (refine m_bsl1 rfl rfl ?_) | (refine m_app1i rfl (by decide) (by rfl) (by first | rfl | omega | (simp; done)) rfl rfl ?_ (by decide) ?_; (· first | omega | (simp; omega)))))
      refine step_ops ?_
      refine m_callR (fun r => if r = pbase + 1 then 95 else if r = pbase + 2 then 1000 else if r = pbase + 3 then 1001 else r) (giLook_full F (l ++ [(x : Int)]) bh m) (by rfl) ?_ ?_ ?_ ?_ ?_ ?_ ?_ ?_ ?_ ?_
      · exact gA_own _ _ _
      · exact gA_refsF _ _ _ _
      · ((repeat' (first | exact trivial | refine And.intro ?_ ?_)) <;> (first | rfl | exact congrArg (fun c => some (true, c)) (renL_ints _ _).symm | skip))
      · simp [pbase]
      · simp
      · simp
      · exact hF_own _ _
      · exact hF_ownO _ _
      · rfl
      repeat (first | (refine step_ops ?_; (first | (refine m_mov (by conv => lhs; whnf) ?_) | (refine m_add rfl rfl ?_ ?_ ?_; (· omega); (· omega)))) | refine end_ops ?_ | refine AW_ops ?_ | refine norm_then ?_ | refine norm_block ?_)
      refine next_round (x + 1) hc ?_ ?_
      rotate_left
      · omega
      rw [hps]
      refine weak_st ?_ ?_ rfl rfl
      · (repeat' (first | exact trivial | refine And.intro ?_ ?_)) <;> (first | rfl | exact congrArg (fun c => some (true, c)) (renL_ints _ _) | skip)
      · (repeat' (first | exact trivial | refine And.intro ?_ ?_)) <;> (first | rfl | exact congrArg (fun c => some (true, c)) (renL_ints _ _) | skip)
  · obtain rfl : x = F.length := by omega
    rw [hall]
    cases T with
    | none =>
      simp only [stR]
      repeat (first | (refine step_ops ?_; (refine m_lss rfl rfl ?_)) | refine end_ops ?_ | refine seq_ops ?_ | (refine cond_f rfl ?_ ?_; (· first | rfl | assumption | (refine decide_eq_false ?_; first | assumption | omega) | (refine nf ?_; first | assumption | omega) | (simp [*]; done))) | refine AW_seq ?_ | refine exit_then ?_ | refine exit_round ?_ | refine AW_exit ?_ | refine exit_block ?_)
      refine norm_R (ho := hR) id (by rfl) ?_ (by simp) (by simp) (by simp)
      (repeat' (first | exact trivial | refine And.intro ?_ ?_ | (refine ⟨_, rfl, .inl ?_⟩; first | rfl | exact congrArg (Prod.mk true) (renL_ints _ _).symm)))
    | some m =>
      simp only [stR]
      repeat (first | (refine step_ops ?_; (refine m_lss rfl rfl ?_)) | refine end_ops ?_ | refine seq_ops ?_ | (refine cond_f rfl ?_ ?_; (· first | rfl | assumption | (refine decide_eq_false ?_; first | assumption | omega) | (refine nf ?_; first | assumption | omega) | (simp [*]; done))) | refine AW_seq ?_ | refine exit_then ?_ | refine exit_round ?_ | refine AW_exit ?_ | refine exit_block ?_)
      refine norm_R (ho := oR m) (fun r => if r = nbase then 1000 else if r = nbase + 1 then 1001 else r) (by rfl) ?_ (by simp [nbase, pbase]) (by simp [nbase, pbase]) (by simp [nbase, pbase])
      (repeat' (first | exact trivial | refine And.intro ?_ ?_ | (refine ⟨_, rfl, .inl ?_⟩; first | rfl | exact congrArg (Prod.mk true) (renL_ints _ _).symm)))

theorem lefB_fst (F l bh : List Int) : fstB (fitsG F) F.length 0 l bh = if lefB l bh then some l else none := by
  unfold fstB lefB
  by_cases h : bh = []
  · simp [h, goOn]
  · simp only [if_neg h, goOn, decide_eq_false h, Bool.false_or, List.find?_cons, List.find?_nil]
    cases comesB bh l <;> rfl

theorem giLook_all (F : List Int) (h : IsFam F) (bh : List Int) (hbh : bh = [] ∨ bh.length = F.length) (k : Nat) :
    (∀ l, l.length + k = F.length → fstB (fitsG F) F.length k l bh = none → SpH Try.prog 28 (gArgs F l bh) (Am.look (hE l)) (.tup []) (Am.look (hE l))) ∧
    (∀ l m, k = 0 → l.length + k = F.length → fstB (fitsG F) F.length k l bh = some m → SpH Try.prog 28 (gArgs F l bh) (Am.look (hE l)) (.tup []) (Am.look (oL l))) ∧
    (∀ l m, k ≠ 0 → l.length + k = F.length → fstB (fitsG F) F.length k l bh = some m → SpH Try.prog 28 (gArgs F l bh) (Am.look (hE l)) (.tup []) (Am.look (oI l m))) := by
  induction k with
  | zero =>
    refine ⟨fun l hl hn => ?_, fun l m _ hl hn => ?_, fun l m h0 => absurd rfl h0⟩
    · rw [lefB_fst] at hn
      refine giLook_leafN F l bh h.2.1 (by omega) hbh ?_
      cases hb : lefB l bh with
      | false => rfl
      | true => rw [hb, if_pos rfl] at hn; cases hn
    · rw [lefB_fst] at hn
      refine giLook_leafY F l bh h.2.1 (by omega) hbh ?_
      cases hb : lefB l bh with
      | true => rfl
      | false => rw [hb, if_neg (by simp)] at hn; cases hn
  | succ k ih =>
    have hin := giLook_in F h k bh hbh ih.1 ih.2.1 ih.2.2
    refine ⟨fun l hl hn => ?_, fun l m h0 => absurd h0 (by omega), fun l m _ hl hn => ?_⟩
    · have := hin l hl
      rw [hn] at this
      exact this
    · have := hin l hl
      rw [hn] at this
      exact this

theorem giLook_spec (F : List Int) (h : IsFam F) (bh : List Int) (hbh : bh = [] ∨ bh.length = F.length) (bv : AV) (hbv : bv = ints bh ∨ bv = .v (.slice none 0 0) ∧ bh = []) :
    SpH Try.prog 28 [ints F, .v (.slice none 0 0), bv, .i 1, .pt pbase 0] (Am.look hR) (.tup []) (Am.look (oZ (fstB (fitsG F) F.length F.length [] bh))) := by
  obtain ⟨k, hk⟩ : ∃ k, F.length = k + 1 := ⟨F.length - 1, by have := h.1; omega⟩
  have ih := giLook_all F h bh hbh k
  have := giLook_root F h k bh hbh ih.1 ih.2.1 ih.2.2 [] (by simp; omega) rfl bv hbv
  rw [← hk] at this
  exact this
end Go.Proofs.Ytjapgeciogcaiaa
