/- Contracts: the families with a remembering map of one's own; a member. -/
import Derived.Test.YtaflppdffkcfeaaSpGs
import Derived.Test.YtaflppdffkcfeaaSpOwn
namespace Go.Proofs.Ytaflppdffkcfeaa
open Go.Am
attribute [local irreducible] AW Outs Weak Lends Lend Sp aops atree aop1 Then Round InBlock Done
attribute [local irreducible] SpH SpX DoneH DoneX DoneHG

/-- The program's families with the remembering map. -/
def kqV (F : List Int) (q : Nat) : List AV := kinV F ++ [.mp q]
theorem kqV_len {F : List Int} {q : Nat} (h : F.length ≤ 9) : (kqV F q).length = 11 := by simp [kqV, kinV_len h]
theorem kqV_kin {F : List Int} {q : Nat} (h : F.length ≤ 9) : ((kqV F q).drop 0).take 10 = kinV F := by
  rw [List.drop_zero, kqV, List.take_left' (kinV_len h)]
theorem kqV_11 {F : List Int} {q : Nat} (h : F.length ≤ 9) : ((kqV F q).drop 0).take 11 = kqV F q := by
  rw [List.drop_zero, List.take_of_length_le (by rw [kqV_len h]; exact Nat.le_refl _)]
theorem kqV_ok {F : List Int} {q : Nat} : (kqV F q).all (cellOk false) = true := by
  rw [kqV, List.all_append, kinV_ok]; rfl
theorem kqV_kill {F : List Int} {r q : Nat} (h : q ≠ r) : killL r (kqV F q) = kqV F q := by
  unfold kqV
  rw [killL_app, kinV_kill]
  simp [killL, killV, h]
theorem setOk_snoc {n x : Nat} {B : List Int} (h : SetOk n B) (hx : x < n) (hm : (x : Int) ∉ B) : SetOk n (B ++ [(x : Int)]) := by
  refine ⟨List.nodup_append.2 ⟨h.1, by simp, fun a ha b hb => ?_⟩, fun y hy => ?_⟩
  · rw [List.mem_singleton] at hb
    subst hb
    exact fun e => hm (e ▸ ha)
  · rw [List.mem_append, List.mem_singleton] at hy
    rcases hy with hy | rfl
    · exact h.2 y hy
    · omega

theorem l1Has_spec (L : List Int) (n : Int) (hL : L.length ≤ 1048576) : Sp Try.prog 22 [ints L, .i n] (.b (decide (n ∈ L))) := by
  refine spec_of Try.func22 rfl cc22 rfl ?_
  unfold ac22
  repeat (first | (refine step_ops ?_; (first | (refine m_mov (by conv => lhs; whnf) ?_) | (refine m_lss rfl rfl ?_) | (refine m_eql rfl rfl ?_) | (refine m_eqk rfl rfl ?_) | (refine m_eqs rfl rfl ?_) | (refine m_add rfl rfl ?_ ?_ ?_; (· omega); (· omega)) | (refine m_adds rfl rfl ?_ ?_; (· first | omega | (simp; omega))) | (refine m_len_ro rfl ?_) | (refine m_len_sl rfl ?_) | (refine m_len_nil rfl ?_) | (refine m_idx1_ro rfl rfl ?_ ?_; (· omega)) | (refine m_idx1_sl rfl rfl ?_ ?_; (· omega)) | (apply m_idx1_slj; (· rfl); (· rfl); (· assumption); (· omega)) | (apply m_idx1_roj; (· rfl); (· rfl); (· assumption); (· omega)) | (refine m_idx_ro rfl rfl ?_ ?_ ?_; (· omega); (· omega)) | (refine m_idx_sl rfl rfl ?_ ?_ ?_; (· omega); (· omega)) | (refine m_ld_rpi rfl ?_ ?_; (· omega)) | (refine m_ld_pti rfl (by rfl) ?_ ?_; (· first | omega | (simp; omega))) | (apply m_ld_ptb; (· rfl); (· rfl); (· assumption)) | (apply m_ld_rp; (· rfl); (· rfl)) | (apply m_ld_pt; (· rfl); (· rfl); (· rfl)))) | refine end_ops ?_ | refine seq_ops ?_ | refine AW_ops ?_ | (refine cond_t rfl ?_ ?_; (· first | rfl | assumption | (refine decide_eq_true ?_; first | assumption | omega) | (refine nt ?_; first | assumption | omega) | (simp [*]; done))) | (refine cond_f rfl ?_ ?_; (· first | rfl | assumption | (refine decide_eq_false ?_; first | assumption | omega) | (refine nf ?_; first | assumption | omega) | (simp [*]; done))) | refine skip_then ?_ | refine AW_seq ?_ | refine AW_ret ?_ | refine ret_done ?_ | refine norm_then ?_ | refine ret_then ?_ | refine exit_then ?_ | refine AW_block ?_ | refine norm_block ?_ | refine ret_block ?_ | refine ret_round ?_ | refine exit_round ?_ | refine AW_exit ?_ | refine exit_block ?_ | (refine exit_other ?_ ?_; (· decide)) | refine AW_skip ?_)
  refine AW_loop (α := Nat) (fun k => k ≤ L.length ∧ n ∉ L.take k) (fun k => st [(7, ints L), (1, .i n), (8, .i L.length), (9, .i k)] []) (fun k => L.length - k) 0 (by simp) (weak_st ?_ ?_ rfl rfl) ?_
  · (repeat' (first | exact trivial | refine And.intro ?_ ?_)) <;> (first | rfl | skip)
  · trivial
  rintro k ⟨hk, he⟩
  by_cases h : k < L.length
  · by_cases hx : L.getD k 0 = n
    · repeat (first | (refine step_ops ?_; (first | (refine m_mov (by conv => lhs; whnf) ?_) | (refine m_lss rfl rfl ?_) | (refine m_eql rfl rfl ?_) | (refine m_eqk rfl rfl ?_) | (refine m_eqs rfl rfl ?_) | (refine m_add rfl rfl ?_ ?_ ?_; (· omega); (· omega)) | (refine m_adds rfl rfl ?_ ?_; (· first | omega | (simp; omega))) | (refine m_len_ro rfl ?_) | (refine m_len_sl rfl ?_) | (refine m_len_nil rfl ?_) | (refine m_idx1_ro rfl rfl ?_ ?_; (· omega)) | (refine m_idx1_sl rfl rfl ?_ ?_; (· omega)) | (apply m_idx1_slj; (· rfl); (· rfl); (· assumption); (· omega)) | (apply m_idx1_roj; (· rfl); (· rfl); (· assumption); (· omega)) | (refine m_idx_ro rfl rfl ?_ ?_ ?_; (· omega); (· omega)) | (refine m_idx_sl rfl rfl ?_ ?_ ?_; (· omega); (· omega)) | (refine m_ld_rpi rfl ?_ ?_; (· omega)) | (refine m_ld_pti rfl (by rfl) ?_ ?_; (· first | omega | (simp; omega))) | (apply m_ld_ptb; (· rfl); (· rfl); (· assumption)) | (apply m_ld_rp; (· rfl); (· rfl)) | (apply m_ld_pt; (· rfl); (· rfl); (· rfl)))) | refine end_ops ?_ | refine seq_ops ?_ | refine AW_ops ?_ | (refine cond_t rfl ?_ ?_; (· first | rfl | assumption | (refine decide_eq_true ?_; first | assumption | omega) | (refine nt ?_; first | assumption | omega) | (simp [*]; done))) | (refine cond_f rfl ?_ ?_; (· first | rfl | assumption | (refine decide_eq_false ?_; first | assumption | omega) | (refine nf ?_; first | assumption | omega) | (simp [*]; done))) | refine skip_then ?_ | refine AW_seq ?_ | refine AW_ret ?_ | refine ret_done ?_ | refine norm_then ?_ | refine ret_then ?_ | refine exit_then ?_ | refine AW_block ?_ | refine norm_block ?_ | refine ret_block ?_ | refine ret_round ?_ | refine exit_round ?_ | refine AW_exit ?_ | refine exit_block ?_ | (refine exit_other ?_ ?_; (· decide)) | refine AW_skip ?_)
      refine outs_b ?_
      symm
      exact decide_eq_true (hx ▸ getD_mem h)
    · repeat (first | (refine step_ops ?_; (first | (refine m_mov (by conv => lhs; whnf) ?_) | (refine m_lss rfl rfl ?_) | (refine m_eql rfl rfl ?_) | (refine m_eqk rfl rfl ?_) | (refine m_eqs rfl rfl ?_) | (refine m_add rfl rfl ?_ ?_ ?_; (· omega); (· omega)) | (refine m_adds rfl rfl ?_ ?_; (· first | omega | (simp; omega))) | (refine m_len_ro rfl ?_) | (refine m_len_sl rfl ?_) | (refine m_len_nil rfl ?_) | (refine m_idx1_ro rfl rfl ?_ ?_; (· omega)) | (refine m_idx1_sl rfl rfl ?_ ?_; (· omega)) | (apply m_idx1_slj; (· rfl); (· rfl); (· assumption); (· omega)) | (apply m_idx1_roj; (· rfl); (· rfl); (· assumption); (· omega)) | (refine m_idx_ro rfl rfl ?_ ?_ ?_; (· omega); (· omega)) | (refine m_idx_sl rfl rfl ?_ ?_ ?_; (· omega); (· omega)) | (refine m_ld_rpi rfl ?_ ?_; (· omega)) | (refine m_ld_pti rfl (by rfl) ?_ ?_; (· first | omega | (simp; omega))) | (apply m_ld_ptb; (· rfl); (· rfl); (· assumption)) | (apply m_ld_rp; (· rfl); (· rfl)) | (apply m_ld_pt; (· rfl); (· rfl); (· rfl)))) | refine end_ops ?_ | refine seq_ops ?_ | refine AW_ops ?_ | (refine cond_t rfl ?_ ?_; (· first | rfl | assumption | (refine decide_eq_true ?_; first | assumption | omega) | (refine nt ?_; first | assumption | omega) | (simp [*]; done))) | (refine cond_f rfl ?_ ?_; (· first | rfl | assumption | (refine decide_eq_false ?_; first | assumption | omega) | (refine nf ?_; first | assumption | omega) | (simp [*]; done))) | refine skip_then ?_ | refine AW_seq ?_ | refine AW_ret ?_ | refine ret_done ?_ | refine norm_then ?_ | refine ret_then ?_ | refine exit_then ?_ | refine AW_block ?_ | refine norm_block ?_ | refine ret_block ?_ | refine ret_round ?_ | refine exit_round ?_ | refine AW_exit ?_ | refine exit_block ?_ | (refine exit_other ?_ ?_; (· decide)) | refine AW_skip ?_)
      refine next_round (k + 1) ⟨by omega, ?_⟩ (weak_st ?_ ?_ rfl rfl) ?_
      · rw [take_snoc L k 0 h, List.mem_append, List.mem_singleton]
        rintro (h1 | h1)
        · exact he h1
        · exact hx h1.symm
      · (repeat' (first | exact trivial | refine And.intro ?_ ?_)) <;> (first | rfl | skip)
      · trivial
      · omega
  · repeat (first | (refine step_ops ?_; (first | (refine m_mov (by conv => lhs; whnf) ?_) | (refine m_lss rfl rfl ?_) | (refine m_eql rfl rfl ?_) | (refine m_eqk rfl rfl ?_) | (refine m_eqs rfl rfl ?_) | (refine m_add rfl rfl ?_ ?_ ?_; (· omega); (· omega)) | (refine m_adds rfl rfl ?_ ?_; (· first | omega | (simp; omega))) | (refine m_len_ro rfl ?_) | (refine m_len_sl rfl ?_) | (refine m_len_nil rfl ?_) | (refine m_idx1_ro rfl rfl ?_ ?_; (· omega)) | (refine m_idx1_sl rfl rfl ?_ ?_; (· omega)) | (apply m_idx1_slj; (· rfl); (· rfl); (· assumption); (· omega)) | (apply m_idx1_roj; (· rfl); (· rfl); (· assumption); (· omega)) | (refine m_idx_ro rfl rfl ?_ ?_ ?_; (· omega); (· omega)) | (refine m_idx_sl rfl rfl ?_ ?_ ?_; (· omega); (· omega)) | (refine m_ld_rpi rfl ?_ ?_; (· omega)) | (refine m_ld_pti rfl (by rfl) ?_ ?_; (· first | omega | (simp; omega))) | (apply m_ld_ptb; (· rfl); (· rfl); (· assumption)) | (apply m_ld_rp; (· rfl); (· rfl)) | (apply m_ld_pt; (· rfl); (· rfl); (· rfl)))) | refine end_ops ?_ | refine seq_ops ?_ | refine AW_ops ?_ | (refine cond_t rfl ?_ ?_; (· first | rfl | assumption | (refine decide_eq_true ?_; first | assumption | omega) | (refine nt ?_; first | assumption | omega) | (simp [*]; done))) | (refine cond_f rfl ?_ ?_; (· first | rfl | assumption | (refine decide_eq_false ?_; first | assumption | omega) | (refine nf ?_; first | assumption | omega) | (simp [*]; done))) | refine skip_then ?_ | refine AW_seq ?_ | refine AW_ret ?_ | refine ret_done ?_ | refine norm_then ?_ | refine ret_then ?_ | refine exit_then ?_ | refine AW_block ?_ | refine norm_block ?_ | refine ret_block ?_ | refine ret_round ?_ | refine exit_round ?_ | refine AW_exit ?_ | refine exit_block ?_ | (refine exit_other ?_ ?_; (· decide)) | refine AW_skip ?_)
    refine outs_b ?_
    symm
    rw [List.take_of_length_le (by omega)] at he
    exact decide_eq_false he

end Go.Proofs.Ytaflppdffkcfeaa
