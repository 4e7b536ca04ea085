/- The abstract machine, contracts: part 4 of what this claim needs. -/
import Derived.Test.YtjgcmbihbeokeaaDoorZq3
namespace Go.Proofs.YtjgcmbihbeokeaaDoor
open Go.Am
attribute [local irreducible] AW Outs Weak Lends Lend Sp aops atree aop1 Then Round InBlock Done
/-- Where a coat is, or -1. -/
def whoIs (L : List Int) (c : Int) : Int := if c ∈ L then (L.idxOf c : Int) else -1
theorem whoIs_at {L : List Int} {c : Int} {k : Nat} (h : k < L.length) (he : c ∉ L.take k) (hx : L.getD k 0 = c) : whoIs L c = k := by
  have hm : c ∈ L := hx ▸ getD_mem h
  have h1 : L.idxOf c = k := by
    conv => lhs; rw [← List.take_append_drop k L]
    rw [List.idxOf_append, if_neg he, List.drop_eq_getElem_cons h]
    have : L[k] = c := by simpa [h] using hx
    rw [this, List.idxOf_cons_self, List.length_take]
    omega
  rw [whoIs, if_pos hm, h1]
theorem slicesIndex_spec (L : List Int) (c : Int) (hL : L.length ≤ 1048576) : Sp Tryd.prog 67 [ints L, .i c] (.i (whoIs L c)) := by
  refine spec_of Tryd.func67 rfl cc67 rfl ?_
  unfold ac67
  repeat (first | (refine step_ops ?_; (first | (refine m_mov (by conv => lhs; whnf) ?_) | (refine m_lss rfl rfl ?_) | (refine m_eql rfl rfl ?_) | (refine m_eqk rfl rfl ?_) | (refine m_eqs rfl rfl ?_) | (refine m_add rfl rfl ?_ ?_ ?_; (· omega); (· omega)) | (refine m_adds rfl rfl ?_ ?_; (· first | omega | (simp; omega))) | (refine m_len_ro rfl ?_) | (refine m_len_sl rfl ?_) | (refine m_len_nil rfl ?_) | (refine m_idx1_ro rfl rfl ?_ ?_; (· omega)) | (refine m_idx1_sl rfl rfl ?_ ?_; (· omega)) | (apply m_idx1_slj; (· rfl); (· rfl); (· assumption); (· omega)) | (apply m_idx1_roj; (· rfl); (· rfl); (· assumption); (· omega)) | (refine m_idx_ro rfl rfl ?_ ?_ ?_; (· omega); (· omega)) | (refine m_idx_sl rfl rfl ?_ ?_ ?_; (· omega); (· omega)) | (refine m_ld_rpi rfl ?_ ?_; (· omega)) | (refine m_ld_pti rfl (by rfl) ?_ ?_; (· first | omega | (simp; omega))) | (apply m_ld_ptb; (· rfl); (· rfl); (· assumption)) | (apply m_ld_rp; (· rfl); (· rfl)) | (apply m_ld_pt; (· rfl); (· rfl); (· rfl)))) | refine end_ops ?_ | refine seq_ops ?_ | refine AW_ops ?_ | (refine cond_t rfl ?_ ?_; (· first | rfl | assumption | (refine decide_eq_true ?_; first | assumption | omega) | (refine nt ?_; first | assumption | omega) | (simp [*]; done))) | (refine cond_f rfl ?_ ?_; (· first | rfl | assumption | (refine decide_eq_false ?_; first | assumption | omega) | (refine nf ?_; first | assumption | omega) | (simp [*]; done))) | refine skip_then ?_ | refine AW_seq ?_ | refine AW_ret ?_ | refine ret_done ?_ | refine norm_then ?_ | refine ret_then ?_ | refine exit_then ?_ | refine AW_block ?_ | refine norm_block ?_ | refine ret_block ?_ | refine ret_round ?_ | refine exit_round ?_ | refine AW_exit ?_ | refine exit_block ?_ | (refine exit_other ?_ ?_; (· decide)) | refine AW_skip ?_)
  refine AW_loop (α := Nat) (fun k => k ≤ L.length ∧ c ∉ L.take k) (fun k => st [(0, ints L), (1, .i c), (7, .i L.length), (8, .i k)] []) (fun k => L.length - k) 0 (by simp) (weak_st ?_ ?_ rfl rfl) ?_
  · (repeat' (first | exact trivial | refine And.intro ?_ ?_)) <;> (first | rfl | skip)
  · trivial
  rintro k ⟨hk, he⟩
  by_cases h : k < L.length
  · by_cases hx : c = L.getD k 0
    · repeat (first | (refine step_ops ?_; (first | (refine m_mov (by conv => lhs; whnf) ?_) | (refine m_lss rfl rfl ?_) | (refine m_eql rfl rfl ?_) | (refine m_eqk rfl rfl ?_) | (refine m_eqs rfl rfl ?_) | (refine m_add rfl rfl ?_ ?_ ?_; (· omega); (· omega)) | (refine m_adds rfl rfl ?_ ?_; (· first | omega | (simp; omega))) | (refine m_len_ro rfl ?_) | (refine m_len_sl rfl ?_) | (refine m_len_nil rfl ?_) | (refine m_idx1_ro rfl rfl ?_ ?_; (· omega)) | (refine m_idx1_sl rfl rfl ?_ ?_; (· omega)) | (apply m_idx1_slj; (· rfl); (· rfl); (· assumption); (· omega)) | (apply m_idx1_roj; (· rfl); (· rfl); (· assumption); (· omega)) | (refine m_idx_ro rfl rfl ?_ ?_ ?_; (· omega); (· omega)) | (refine m_idx_sl rfl rfl ?_ ?_ ?_; (· omega); (· omega)) | (refine m_ld_rpi rfl ?_ ?_; (· omega)) | (refine m_ld_pti rfl (by rfl) ?_ ?_; (· first | omega | (simp; omega))) | (apply m_ld_ptb; (· rfl); (· rfl); (· assumption)) | (apply m_ld_rp; (· rfl); (· rfl)) | (apply m_ld_pt; (· rfl); (· rfl); (· rfl)))) | refine end_ops ?_ | refine seq_ops ?_ | refine AW_ops ?_ | (refine cond_t rfl ?_ ?_; (· first | rfl | assumption | (refine decide_eq_true ?_; first | assumption | omega) | (refine nt ?_; first | assumption | omega) | (simp [*]; done))) | (refine cond_f rfl ?_ ?_; (· first | rfl | assumption | (refine decide_eq_false ?_; first | assumption | omega) | (refine nf ?_; first | assumption | omega) | (simp [*]; done))) | refine skip_then ?_ | refine AW_seq ?_ | refine AW_ret ?_ | refine ret_done ?_ | refine norm_then ?_ | refine ret_then ?_ | refine exit_then ?_ | refine AW_block ?_ | refine norm_block ?_ | refine ret_block ?_ | refine ret_round ?_ | refine exit_round ?_ | refine AW_exit ?_ | refine exit_block ?_ | (refine exit_other ?_ ?_; (· decide)) | refine AW_skip ?_)
      exact outs_i (whoIs_at h he hx.symm).symm
    · repeat (first | (refine step_ops ?_; (first | (refine m_mov (by conv => lhs; whnf) ?_) | (refine m_lss rfl rfl ?_) | (refine m_eql rfl rfl ?_) | (refine m_eqk rfl rfl ?_) | (refine m_eqs rfl rfl ?_) | (refine m_add rfl rfl ?_ ?_ ?_; (· omega); (· omega)) | (refine m_adds rfl rfl ?_ ?_; (· first | omega | (simp; omega))) | (refine m_len_ro rfl ?_) | (refine m_len_sl rfl ?_) | (refine m_len_nil rfl ?_) | (refine m_idx1_ro rfl rfl ?_ ?_; (· omega)) | (refine m_idx1_sl rfl rfl ?_ ?_; (· omega)) | (apply m_idx1_slj; (· rfl); (· rfl); (· assumption); (· omega)) | (apply m_idx1_roj; (· rfl); (· rfl); (· assumption); (· omega)) | (refine m_idx_ro rfl rfl ?_ ?_ ?_; (· omega); (· omega)) | (refine m_idx_sl rfl rfl ?_ ?_ ?_; (· omega); (· omega)) | (refine m_ld_rpi rfl ?_ ?_; (· omega)) | (refine m_ld_pti rfl (by rfl) ?_ ?_; (· first | omega | (simp; omega))) | (apply m_ld_ptb; (· rfl); (· rfl); (· assumption)) | (apply m_ld_rp; (· rfl); (· rfl)) | (apply m_ld_pt; (· rfl); (· rfl); (· rfl)))) | refine end_ops ?_ | refine seq_ops ?_ | refine AW_ops ?_ | (refine cond_t rfl ?_ ?_; (· first | rfl | assumption | (refine decide_eq_true ?_; first | assumption | omega) | (refine nt ?_; first | assumption | omega) | (simp [*]; done))) | (refine cond_f rfl ?_ ?_; (· first | rfl | assumption | (refine decide_eq_false ?_; first | assumption | omega) | (refine nf ?_; first | assumption | omega) | (simp [*]; done))) | refine skip_then ?_ | refine AW_seq ?_ | refine AW_ret ?_ | refine ret_done ?_ | refine norm_then ?_ | refine ret_then ?_ | refine exit_then ?_ | refine AW_block ?_ | refine norm_block ?_ | refine ret_block ?_ | refine ret_round ?_ | refine exit_round ?_ | refine AW_exit ?_ | refine exit_block ?_ | (refine exit_other ?_ ?_; (· decide)) | refine AW_skip ?_)
      refine next_round (k + 1) ⟨by omega, ?_⟩ (weak_st ?_ ?_ rfl rfl) ?_
      · rw [take_snoc L k 0 h, List.mem_append, List.mem_singleton]
        rintro (h1 | h1)
        · exact he h1
        · exact hx h1
      · (repeat' (first | exact trivial | refine And.intro ?_ ?_)) <;> (first | rfl | skip)
      · trivial
      · omega
  · repeat (first | (refine step_ops ?_; (first | (refine m_mov (by conv => lhs; whnf) ?_) | (refine m_lss rfl rfl ?_) | (refine m_eql rfl rfl ?_) | (refine m_eqk rfl rfl ?_) | (refine m_eqs rfl rfl ?_) | (refine m_add rfl rfl ?_ ?_ ?_; (· omega); (· omega)) | (refine m_adds rfl rfl ?_ ?_; (· first | omega | (simp; omega))) | (refine m_len_ro rfl ?_) | (refine m_len_sl rfl ?_) | (refine m_len_nil rfl ?_) | (refine m_idx1_ro rfl rfl ?_ ?_; (· omega)) | (refine m_idx1_sl rfl rfl ?_ ?_; (· omega)) | (apply m_idx1_slj; (· rfl); (· rfl); (· assumption); (· omega)) | (apply m_idx1_roj; (· rfl); (· rfl); (· assumption); (· omega)) | (refine m_idx_ro rfl rfl ?_ ?_ ?_; (· omega); (· omega)) | (refine m_idx_sl rfl rfl ?_ ?_ ?_; (· omega); (· omega)) | (refine m_ld_rpi rfl ?_ ?_; (· omega)) | (refine m_ld_pti rfl (by rfl) ?_ ?_; (· first | omega | (simp; omega))) | (apply m_ld_ptb; (· rfl); (· rfl); (· assumption)) | (apply m_ld_rp; (· rfl); (· rfl)) | (apply m_ld_pt; (· rfl); (· rfl); (· rfl)))) | refine end_ops ?_ | refine seq_ops ?_ | refine AW_ops ?_ | (refine cond_t rfl ?_ ?_; (· first | rfl | assumption | (refine decide_eq_true ?_; first | assumption | omega) | (refine nt ?_; first | assumption | omega) | (simp [*]; done))) | (refine cond_f rfl ?_ ?_; (· first | rfl | assumption | (refine decide_eq_false ?_; first | assumption | omega) | (refine nf ?_; first | assumption | omega) | (simp [*]; done))) | refine skip_then ?_ | refine AW_seq ?_ | refine AW_ret ?_ | refine ret_done ?_ | refine norm_then ?_ | refine ret_then ?_ | refine exit_then ?_ | refine AW_block ?_ | refine norm_block ?_ | refine ret_block ?_ | refine ret_round ?_ | refine exit_round ?_ | refine AW_exit ?_ | refine exit_block ?_ | (refine exit_other ?_ ?_; (· decide)) | refine AW_skip ?_)
    refine outs_i ?_
    rw [List.take_of_length_le (by omega)] at he
    rw [whoIs, if_neg he]
end Go.Proofs.YtjgcmbihbeokeaaDoor
namespace Go.Am
/-- Does the guest behind those of a list choose a seat? -/
def chsE (l : Int) (M : List Int) : Bool := decide ((M.length : Int) < l) || decide ((M.length : Int) ∈ M)
/-- Can the first k guests of a seating come so? -/
def comeK (l : Int) (L : List Int) (k : Nat) : Prop := ∀ j < k, chsE l (L.take j) = true ∨ L.getD j 0 = (j : Int)
instance (l : Int) (L : List Int) (k : Nat) : Decidable (comeK l L k) := inferInstanceAs (Decidable (∀ j < k, _))
/-- The displaced ones of the first k guests. -/
def disp (L : List Int) (k : Nat) : List Int := ((List.range k).filter fun (i : Nat) => decide (L.getD i 0 ≠ i)).map fun (i : Nat) => (i : Int)
theorem disp_yes {L : List Int} {k : Nat} (h : L.getD k 0 ≠ k) : disp L (k + 1) = disp L k ++ [(k : Int)] := by
  unfold disp; rw [List.range_succ, List.filter_append, List.map_append, List.filter_cons_of_pos (p := fun (i : Nat) => decide (L.getD i 0 ≠ (i : Int))) (a := k) (decide_eq_true h)]; rfl
theorem disp_no {L : List Int} {k : Nat} (h : L.getD k 0 = k) : disp L (k + 1) = disp L k := by
  unfold disp; rw [List.range_succ, List.filter_append, List.map_append, List.filter_cons_of_neg (p := fun (i : Nat) => decide (L.getD i 0 ≠ (i : Int))) (a := k) (fun e => (of_decide_eq_true e) h)]; simp
theorem disp_le (L : List Int) (k : Nat) : (disp L k).length ≤ k := by
  unfold disp; rw [List.length_map]; exact Nat.le_trans (List.length_filter_le ..) (by simp)
end Go.Am
namespace Go.Proofs.YtjgcmbihbeokeaaDoor
open Go.Am
attribute [local irreducible] AW Outs Weak Lends Lend Sp aops atree aop1 Then Round InBlock Done
theorem displacedIn_spec (L : List Int) (hL : L.length ≤ 1048576) : Sp Tryd.prog 100 [ints L] (newInts (disp L L.length)) := by
  refine spec_of Tryd.func100 rfl cc100 rfl ?_
  unfold ac100
  repeat (first | (refine step_ops ?_; (first | (refine m_mov (by conv => lhs; whnf) ?_) | (refine m_lss rfl rfl ?_) | (refine m_neq rfl rfl ?_) | (refine m_neqk rfl rfl ?_) | (refine m_neqs_self rfl rfl ?_) | (refine m_neqs rfl rfl ?_) | (refine m_add rfl rfl ?_ ?_ ?_; (· omega); (· omega)) | (refine m_adds rfl rfl ?_ ?_; (· first | omega | (simp; omega))) | (refine m_len_ro rfl ?_) | (refine m_len_sl rfl ?_) | (refine m_len_nil rfl ?_) | (refine m_idx1_ro rfl rfl ?_ ?_; (· omega)) | (refine m_idx1_sl rfl rfl ?_ ?_; (· omega)) | (apply m_idx1_slj; (· rfl); (· rfl); (· assumption); (· omega)) | (apply m_idx1_roj; (· rfl); (· rfl); (· assumption); (· omega)) | (refine m_idx_ro rfl rfl ?_ ?_ ?_; (· omega); (· omega)) | (refine m_idx_sl rfl rfl ?_ ?_ ?_; (· omega); (· omega)) | (refine m_ld_rpi rfl ?_ ?_; (· omega)) | (refine m_ld_pti rfl (by rfl) ?_ ?_; (· first | omega | (simp; omega))) | (apply m_ld_ptb; (· rfl); (· rfl); (· assumption)) | (apply m_ld_rp; (· rfl); (· rfl)) | (apply m_ld_pt; (· rfl); (· rfl); (· rfl)) | (refine m_nils ?_) | (refine m_bsl1 rfl rfl ?_) | (refine m_app1i rfl (by decide) (by rfl) (by first | rfl | omega | (simp; done)) rfl rfl ?_ (by decide) ?_; (· first | omega | (simp; omega))) | (refine m_app1 rfl (by decide) rfl (by first | (simp; done) | (simp [*]; done) | (simp; omega)) rfl rfl rfl ?_ (by decide) ?_; (· first | omega | (simp; omega))) | (refine m_appro rfl (by decide) rfl (by first | rfl | (simp; done) | (simp [*]; done) | (simp; omega)) rfl (oks_ints _) ?_ (by decide) ?_; (· first | omega | (simp; omega))))) | refine end_ops ?_ | refine seq_ops ?_ | refine AW_ops ?_ | (refine cond_t rfl ?_ ?_; (· first | rfl | assumption | (refine decide_eq_true ?_; first | assumption | omega) | (refine nt ?_; first | assumption | omega) | (simp [*]; done))) | (refine cond_f rfl ?_ ?_; (· first | rfl | assumption | (refine decide_eq_false ?_; first | assumption | omega) | (refine nf ?_; first | assumption | omega) | (simp [*]; done))) | refine skip_then ?_ | refine AW_seq ?_ | refine AW_ret ?_ | refine ret_done ?_ | refine norm_then ?_ | refine ret_then ?_ | refine exit_then ?_ | refine AW_block ?_ | refine norm_block ?_ | refine ret_block ?_ | refine ret_round ?_ | refine exit_round ?_ | refine AW_exit ?_ | refine exit_block ?_ | (refine exit_other ?_ ?_; (· decide)) | refine AW_skip ?_)
  refine AW_loop (α := Nat × Nat) (fun a => a.1 ≤ L.length ∧ (a.2 = 3 ∨ a.2 = 19)) (fun a => st [(6, ints L), (7, .i L.length), (8, .i a.1), (3, .sl a.2 1 0 (disp L a.1).length)] [(a.2, (true, (disp L a.1).map AV.i))]) (fun a => L.length - a.1) (0, 3) (by simp) (weak_st ?_ ?_ rfl rfl) ?_
  · (repeat' (first | exact trivial | refine And.intro ?_ ?_)) <;> (first | rfl | skip)
  · exact ⟨rfl, trivial⟩
  rintro ⟨k, r⟩ ⟨hk, hr⟩
  have hn := disp_le L k
  simp only at hk hr
  rcases hr with rfl | rfl
  all_goals
    dsimp only
    by_cases h : k < L.length
    · by_cases hx : L.getD k 0 = k
      · repeat (first | (refine step_ops ?_; (first | (refine m_mov (by conv => lhs; whnf) ?_) | (refine m_lss rfl rfl ?_) | (refine m_neq rfl rfl ?_) | (refine m_neqk rfl rfl ?_) | (refine m_neqs_self rfl rfl ?_) | (refine m_neqs rfl rfl ?_) | (refine m_add rfl rfl ?_ ?_ ?_; (· omega); (· omega)) | (refine m_adds rfl rfl ?_ ?_; (· first | omega | (simp; omega))) | (refine m_len_ro rfl ?_) | (refine m_len_sl rfl ?_) | (refine m_len_nil rfl ?_) | (refine m_idx1_ro rfl rfl ?_ ?_; (· omega)) | (refine m_idx1_sl rfl rfl ?_ ?_; (· omega)) | (apply m_idx1_slj; (· rfl); (· rfl); (· assumption); (· omega)) | (apply m_idx1_roj; (· rfl); (· rfl); (· assumption); (· omega)) | (refine m_idx_ro rfl rfl ?_ ?_ ?_; (· omega); (· omega)) | (refine m_idx_sl rfl rfl ?_ ?_ ?_; (· omega); (· omega)) | (refine m_ld_rpi rfl ?_ ?_; (· omega)) | (refine m_ld_pti rfl (by rfl) ?_ ?_; (· first | omega | (simp; omega))) | (apply m_ld_ptb; (· rfl); (· rfl); (· assumption)) | (apply m_ld_rp; (· rfl); (· rfl)) | (apply m_ld_pt; (· rfl); (· rfl); (· rfl)) | (refine m_nils ?_) | (refine m_bsl1 rfl rfl ?_) | (refine m_app1i rfl (by decide) (by rfl) (by first | rfl | omega | (simp; done)) rfl rfl ?_ (by decide) ?_; (· first | omega | (simp; omega))) | (refine m_app1 rfl (by decide) rfl (by first | (simp; done) | (simp [*]; done) | (simp; omega)) rfl rfl rfl ?_ (by decide) ?_; (· first | omega | (simp; omega))) | (refine m_appro rfl (by decide) rfl (by first | rfl | (simp; done) | (simp [*]; done) | (simp; omega)) rfl (oks_ints _) ?_ (by decide) ?_; (· first | omega | (simp; omega))))) | refine end_ops ?_ | refine seq_ops ?_ | refine AW_ops ?_ | (refine cond_t rfl ?_ ?_; (· first | rfl | assumption | (refine decide_eq_true ?_; first | assumption | omega) | (refine nt ?_; first | assumption | omega) | (simp [*]; done))) | (refine cond_f rfl ?_ ?_; (· first | rfl | assumption | (refine decide_eq_false ?_; first | assumption | omega) | (refine nf ?_; first | assumption | omega) | (simp [*]; done))) | refine skip_then ?_ | refine AW_seq ?_ | refine AW_ret ?_ | refine ret_done ?_ | refine norm_then ?_ | refine ret_then ?_ | refine exit_then ?_ | refine AW_block ?_ | refine norm_block ?_ | refine ret_block ?_ | refine ret_round ?_ | refine exit_round ?_ | refine AW_exit ?_ | refine exit_block ?_ | (refine exit_other ?_ ?_; (· decide)) | refine AW_skip ?_)
        first
        | (refine next_round (k + 1, 3) ⟨by omega, .inl rfl⟩ (weak_st ?_ ?_ rfl rfl) ?_
           · exact ⟨rfl, rfl, rfl, by show _ = AV.sl 3 1 0 (disp L (k + 1)).length; rw [disp_no hx]; rfl, trivial⟩
           · exact ⟨by show _ = some (true, (disp L (k + 1)).map AV.i); rw [disp_no hx]; rfl, trivial⟩
           · omega)
        | (refine next_round (k + 1, 19) ⟨by omega, .inr rfl⟩ (weak_st ?_ ?_ rfl rfl) ?_
           · exact ⟨rfl, rfl, rfl, by show _ = AV.sl 19 1 0 (disp L (k + 1)).length; rw [disp_no hx]; rfl, trivial⟩
           · exact ⟨by show _ = some (true, (disp L (k + 1)).map AV.i); rw [disp_no hx]; rfl, trivial⟩
           · omega)
      · repeat (first | (refine step_ops ?_; (first | (refine m_mov (by conv => lhs; whnf) ?_) | (refine m_lss rfl rfl ?_) | (refine m_neq rfl rfl ?_) | (refine m_neqk rfl rfl ?_) | (refine m_neqs_self rfl rfl ?_) | (refine m_neqs rfl rfl ?_) | (refine m_add rfl rfl ?_ ?_ ?_; (· omega); (· omega)) | (refine m_adds rfl rfl ?_ ?_; (· first | omega | (simp; omega))) | (refine m_len_ro rfl ?_) | (refine m_len_sl rfl ?_) | (refine m_len_nil rfl ?_) | (refine m_idx1_ro rfl rfl ?_ ?_; (· omega)) | (refine m_idx1_sl rfl rfl ?_ ?_; (· omega)) | (apply m_idx1_slj; (· rfl); (· rfl); (· assumption); (· omega)) | (apply m_idx1_roj; (· rfl); (· rfl); (· assumption); (· omega)) | (refine m_idx_ro rfl rfl ?_ ?_ ?_; (· omega); (· omega)) | (refine m_idx_sl rfl rfl ?_ ?_ ?_; (· omega); (· omega)) | (refine m_ld_rpi rfl ?_ ?_; (· omega)) | (refine m_ld_pti rfl (by rfl) ?_ ?_; (· first | omega | (simp; omega))) | (apply m_ld_ptb; (· rfl); (· rfl); (· assumption)) | (apply m_ld_rp; (· rfl); (· rfl)) | (apply m_ld_pt; (· rfl); (· rfl); (· rfl)) | (refine m_nils ?_) | (refine m_bsl1 rfl rfl ?_) | (refine m_app1i rfl (by decide) (by rfl) (by first | rfl | omega | (simp; done)) rfl rfl ?_ (by decide) ?_; (· first | omega | (simp; omega))) | (refine m_app1 rfl (by decide) rfl (by first | (simp; done) | (simp [*]; done) | (simp; omega)) rfl rfl rfl ?_ (by decide) ?_; (· first | omega | (simp; omega))) | (refine m_appro rfl (by decide) rfl (by first | rfl | (simp; done) | (simp [*]; done) | (simp; omega)) rfl (oks_ints _) ?_ (by decide) ?_; (· first | omega | (simp; omega))))) | refine end_ops ?_ | refine seq_ops ?_ | refine AW_ops ?_ | (refine cond_t rfl ?_ ?_; (· first | rfl | assumption | (refine decide_eq_true ?_; first | assumption | omega) | (refine nt ?_; first | assumption | omega) | (simp [*]; done))) | (refine cond_f rfl ?_ ?_; (· first | rfl | assumption | (refine decide_eq_false ?_; first | assumption | omega) | (refine nf ?_; first | assumption | omega) | (simp [*]; done))) | refine skip_then ?_ | refine AW_seq ?_ | refine AW_ret ?_ | refine ret_done ?_ | refine norm_then ?_ | refine ret_then ?_ | refine exit_then ?_ | refine AW_block ?_ | refine norm_block ?_ | refine ret_block ?_ | refine ret_round ?_ | refine exit_round ?_ | refine AW_exit ?_ | refine exit_block ?_ | (refine exit_other ?_ ?_; (· decide)) | refine AW_skip ?_)
        refine next_round (k + 1, 19) ⟨by omega, .inr rfl⟩ (weak_st ?_ ?_ rfl rfl) ?_
        · refine ⟨rfl, rfl, rfl, ?_, trivial⟩
          show AV.sl 19 1 0 (disp L k ++ [(k : Int)]).length = AV.sl 19 1 0 (disp L (k + 1)).length
          rw [disp_yes hx]
        · refine ⟨?_, trivial⟩
          show some (true, (disp L k ++ [(k : Int)]).map AV.i) = some (true, (disp L (k + 1)).map AV.i)
          rw [disp_yes hx]
        · omega
    · repeat (first | (refine step_ops ?_; (first | (refine m_mov (by conv => lhs; whnf) ?_) | (refine m_lss rfl rfl ?_) | (refine m_neq rfl rfl ?_) | (refine m_neqk rfl rfl ?_) | (refine m_neqs_self rfl rfl ?_) | (refine m_neqs rfl rfl ?_) | (refine m_add rfl rfl ?_ ?_ ?_; (· omega); (· omega)) | (refine m_adds rfl rfl ?_ ?_; (· first | omega | (simp; omega))) | (refine m_len_ro rfl ?_) | (refine m_len_sl rfl ?_) | (refine m_len_nil rfl ?_) | (refine m_idx1_ro rfl rfl ?_ ?_; (· omega)) | (refine m_idx1_sl rfl rfl ?_ ?_; (· omega)) | (apply m_idx1_slj; (· rfl); (· rfl); (· assumption); (· omega)) | (apply m_idx1_roj; (· rfl); (· rfl); (· assumption); (· omega)) | (refine m_idx_ro rfl rfl ?_ ?_ ?_; (· omega); (· omega)) | (refine m_idx_sl rfl rfl ?_ ?_ ?_; (· omega); (· omega)) | (refine m_ld_rpi rfl ?_ ?_; (· omega)) | (refine m_ld_pti rfl (by rfl) ?_ ?_; (· first | omega | (simp; omega))) | (apply m_ld_ptb; (· rfl); (· rfl); (· assumption)) | (apply m_ld_rp; (· rfl); (· rfl)) | (apply m_ld_pt; (· rfl); (· rfl); (· rfl)) | (refine m_nils ?_) | (refine m_bsl1 rfl rfl ?_) | (refine m_app1i rfl (by decide) (by rfl) (by first | rfl | omega | (simp; done)) rfl rfl ?_ (by decide) ?_; (· first | omega | (simp; omega))) | (refine m_app1 rfl (by decide) rfl (by first | (simp; done) | (simp [*]; done) | (simp; omega)) rfl rfl rfl ?_ (by decide) ?_; (· first | omega | (simp; omega))) | (refine m_appro rfl (by decide) rfl (by first | rfl | (simp; done) | (simp [*]; done) | (simp; omega)) rfl (oks_ints _) ?_ (by decide) ?_; (· first | omega | (simp; omega))))) | refine end_ops ?_ | refine seq_ops ?_ | refine AW_ops ?_ | (refine cond_t rfl ?_ ?_; (· first | rfl | assumption | (refine decide_eq_true ?_; first | assumption | omega) | (refine nt ?_; first | assumption | omega) | (simp [*]; done))) | (refine cond_f rfl ?_ ?_; (· first | rfl | assumption | (refine decide_eq_false ?_; first | assumption | omega) | (refine nf ?_; first | assumption | omega) | (simp [*]; done))) | refine skip_then ?_ | refine AW_seq ?_ | refine AW_ret ?_ | refine ret_done ?_ | refine norm_then ?_ | refine ret_then ?_ | refine exit_then ?_ | refine AW_block ?_ | refine norm_block ?_ | refine ret_block ?_ | refine ret_round ?_ | refine exit_round ?_ | refine AW_exit ?_ | refine exit_block ?_ | (refine exit_other ?_ ?_; (· decide)) | refine AW_skip ?_)
      obtain rfl : k = L.length := by omega
      exact outs_ints rfl rfl rfl
end Go.Proofs.YtjgcmbihbeokeaaDoor
namespace Go.Am
variable {P : Program} {N : Nat} {s : AS} {Q : Exit → AS → Prop} {w0 : World} {mu : Nat → Option Nat}
/-- A panic that nobody has recovered. -/
abbrev pan (v : Value) : Exit := .panic [{ v, recovered := false }]
/-- THE CONTRACT OF A FUNCTION THAT PANICS: with a value of which 'ok' tells; nothing that was there has changed. -/
def SpP (P : Program) (f : FuncId) (asx : List AV) (ok : Value → Prop) : Prop :=
  ∀ w vs, GoodW w → Entry w asx vs.toList → Calls P f vs w fun e w' => ∃ v, e = .panicked [{ v, recovered := false }] ∧ ok v ∧ More w w'
/-- The operation is a call that panics. -/
def APan (P : Program) (o : AOper) (s : AS) (ok : Value → Prop) : Prop :=
  o.g = none ∧ ((∃ f args asx, o.op = .call f args ∧ SpP P f asx ok ∧ Lends s.hp (args.map s.ev) asx) ∨
    ∃ x args f l k asx, o.op = .callv x args ∧ s.ev x = .fn f l k ∧ Callable P f ∧ SpP P f asx ok ∧ Lends s.hp (l.take k ++ args.map s.ev ++ l.drop k) asx)
theorem copCall_call {c : Call} {f : FuncId} {args : List Opd} (h : copCall P c = some (.call f args)) :
    c.callee = .value (.func f) ∧ args = c.args.toList.map opd ∧ ∃ fn, P.funcs[f]? = some fn ∧ (fn.name == "runtime.NumGoroutine") = false ∧ fn.body.isNone = false := by
  obtain ⟨callee, xs, tys⟩ := c
  unfold copCall at h
  simp only at h
  repeat' (first | (cases h; done) | split at h | (refine Exists.elim h (fun _ h2 => And.elim (fun _ h => ?_) h2)) | (simp only [Option.bind_eq_some_iff, Option.map_eq_some_iff] at h))
  rename_i fn hn hfn
  cases h
  rw [Bool.not_eq_true, Bool.or_eq_false_iff] at hfn
  exact ⟨rfl, rfl, fn, hn, hfn.1, hfn.2⟩
theorem copCall_callv {c : Call} {x : Opd} {args : List Opd} (h : copCall P c = some (.callv x args)) :
    ∃ cx, c.callee = .value cx ∧ x = opd cx ∧ args = c.args.toList.map opd := by
  obtain ⟨callee, xs, tys⟩ := c
  unfold copCall at h
  simp only at h
  repeat' (first | (cases h; done) | split at h | (refine Exists.elim h (fun _ h2 => And.elim (fun _ h => ?_) h2)) | (simp only [Option.bind_eq_some_iff, Option.map_eq_some_iff] at h))
  all_goals (cases h; exact ⟨_, rfl, rfl, rfl⟩)
/-- Is the operation a call? -/
def AOp.isC : AOp → Bool
  | .call _ _ => true
  | .callv _ _ => true
  | _ => false
theorem copOp0_call {o : Oper} {op : AOp} (h : copOp0 P o = some op) (hop : op.isC = true) : ∃ c, o.op = .call c ∧ copCall P c = some op := by
  unfold copOp0 at h
  split at h
  all_goals first
    | exact ⟨_, ‹_›, h⟩
    | (exfalso
       repeat' (first | (cases h; done) | (cases h; cases hop; done) | split at h | (refine Exists.elim h (fun _ h2 => And.elim (fun _ h => ?_) h2)) | (simp only [Option.bind_eq_some_iff, Option.map_eq_some_iff] at h) | (subst h; cases hop; done)))
theorem op1_panic {ops : Array Oper} {i : Nat} {o : Oper} {ao : AOper} {ok : Value → Prop} {a : Act} {w : World} {R : Act → World → Prop} {Qx : Exit → Act → World → Prop} (hi : ops[i]? = some o) (hc : cop P N ops o = some ao) (hS : Simw w0 mu N s a w)
    (hp : APan P ao s ok) (hQ : ∀ v w', ok v → Simw w0 mu N s a w' → Qx (pan v) a w') : wpOp P ops Qx i R a w := by
  obtain ⟨hf, phi, ro, h⟩ := hS
  unfold cop at hc
  rw [Option.bind_eq_some_iff] at hc
  obtain ⟨op, hop, hc⟩ := hc
  split at hc
  rotate_left
  · cases hc
  obtain ⟨hg, hp⟩ := hp
  have hgd : o.guard = none ∧ ao = ⟨o.dst, op, none⟩ := by
    cases hgu : o.guard with
    | none => rw [hgu] at hc; cases hc; exact ⟨rfl, rfl⟩
    | some jw =>
      obtain ⟨j, wt⟩ := jw
      rw [hgu] at hc
      simp only at hc
      rw [Option.bind_eq_some_iff] at hc
      obtain ⟨t, _, hc⟩ := hc
      split at hc
      · cases hc; cases hg
      · cases hc
  obtain ⟨hgd, rfl⟩ := hgd
  simp only at hp
  have hisC : op.isC = true := by
    rcases hp with ⟨f, args, asx, h1, _⟩ | ⟨x, args, f, l, k, asx, h1, _⟩ <;> rw [h1] <;> rfl
  have h0 : copOp0 P o = some op := by
    unfold copOp at hop
    simp only [Option.some.injEq] at hop
    cases h0 : copOp0 P o with
    | some op' => rw [h0] at hop; simp only [Option.getD_some] at hop; rw [hop]
    | none => rw [h0] at hop; simp only [Option.getD_none] at hop; subst hop; cases hisC
  obtain ⟨c, ho, hcc⟩ := copOp0_call h0 hisC
  have key : o.wp P a w R Qx := by
    have fin : ∀ (f : FuncId) (vs : Array Value) (xs asx : List AV), (execOp a.eval o).run P w = .ok (.enter f vs) w → SimL xs (ctx w0 w ro phi s) vs.toList → vs.size = xs.length → SpP P f asx ok → Lends s.hp xs asx → o.wp P a w R Qx := by
      intro f vs xs asx hrun hsims hlen hspec hlend
      unfold Oper.wp
      rw [hrun]
      rw [Oper.upon_enter]
      have hent : Entry w asx vs.toList := hlend w0 mu N a.tmps w phi ro _ h.bare hsims (by simpa using hlen)
      refine (hspec w _ h.goodW hent).mono fun e w' hpost => ?_
      obtain ⟨v, rfl, hv, hm⟩ := hpost
      exact hQ v w' hv ⟨hf, phi, ro, h.more_same hm⟩
    obtain ⟨callee, args0, tys⟩ := c
    rcases hp with ⟨f, args, asx, h1, hspec, hlend⟩ | ⟨x, args, f, l, k, asx, h1, hev, hcb, hspec, hlend⟩
    · rw [h1] at hcc
      obtain ⟨k1, k2, fn, hfn, hname, hbody⟩ := copCall_call hcc
      simp only at k1 k2
      subst k1
      have hrun : (execOp a.eval o).run P w = .ok (.enter f (args0.map a.eval)) w := by
        have h1 : ¬ fn.name = "runtime.NumGoroutine" := by simpa using hname
        have h2 : ¬ fn.body = none := by intro e; rw [e] at hbody; cases hbody
        simp [execOp, ho, resolve, Act.eval, Deferred.ofValue, invoke, callFunc, hfn, h1, h2]
      refine fin f _ _ asx hrun ?_ ?_ hspec hlend
      · rw [k2, List.map_map, Array.toList_map]
        exact evs_sim h args0.toList
      · rw [k2]; simp
    · rw [h1] at hcc
      obtain ⟨cx, k1, k3, k2⟩ := copCall_callv hcc
      simp only at k1 k2
      subst k1
      obtain ⟨fn, hfn, hname, hbody⟩ := hcb
      have hcx : SimV (.fn f l k) (ctx w0 w ro phi s) (a.eval cx) := by
        have := h.ev cx
        rw [← k3, hev] at this
        exact this
      simp only [SimV] at hcx
      obtain ⟨pa, q, hcx, hpk, hq, hl⟩ := hcx
      have hrun : (execOp a.eval o).run P w = .ok (.enter f (pa ++ args0.map a.eval ++ q)) w := by
        have h1 : ¬ fn.name = "runtime.NumGoroutine" := by simpa using hname
        have h2 : ¬ fn.body = none := by intro e; rw [e] at hbody; cases hbody
        simp [execOp, ho, resolve, hcx, Deferred.ofValue, invoke, callFunc, hfn, h1, h2]
      have e2 : (pa.toList ++ q.toList).drop k = q.toList := by
        have hk : k = pa.toList.length := by simp [hpk]
        rw [hk, List.drop_left]
      have g1 := hl.take k
      have g2 := hl.drop k
      rw [e2] at g2
      have g1' : SimL (l.take k) (ctx w0 w ro phi s) pa.toList := by
        refine SimL.of_get fun i x hi => ?_
        obtain ⟨y, h1, h2⟩ := g1.get hi
        have hik : i < k := by
          rw [List.getElem?_take] at hi
          by_cases h : i < k
          · exact h
          · simp [h] at hi
        rw [List.getElem?_append_left (by simp; omega)] at h1
        exact ⟨y, h1, h2⟩
      have g3 : SimL ((args0.toList.map opd).map s.ev) (ctx w0 w ro phi s) (args0.map a.eval).toList := by
        rw [List.map_map, Array.toList_map]
        exact evs_sim h args0.toList
      rw [← k2] at g3
      refine fin f _ _ asx hrun ?_ ?_ hspec hlend
      · have : (pa ++ args0.map a.eval ++ q).toList = pa.toList ++ (args0.map a.eval).toList ++ q.toList := by simp
        rw [this]
        refine SimL.append (SimL.append g1' ?_ g3) ?_ g2
        all_goals simp [k2]
        all_goals omega
      · simp [k2]; omega
  unfold wpOp
  rw [hi]
  simp only [Region.wanted, hgd, if_true]
  exact .inl key
theorem aops_panic {ops : Array Oper} {Qx : Exit → Act → World → Prop} {ok : Value → Prop} (hQ : ∀ s' a w v, Simw w0 mu N s' a w → Q (pan v) s' → Qx (pan v) a w) : ∀ {is : List Nat} {l : List AOper}, Comp P N ops is l → ∀ (k : Nat) {s : AS} {a : Act} {w : World}, Simw w0 mu N s a w →
    aops P true (l.take k) s (fun s' => ∃ o, l[k]? = some o ∧ APan P o s' ok ∧ ∀ v, ok v → Q (pan v) s') → wpOps P ops Qx is a w := by
  intro is l hcomp
  induction hcomp with
  | nil =>
    intro k s a w hS h
    simp [aops] at h
  | cons hi hc _ ih =>
    intro k s a w hS h
    rw [wpOps_cons]
    cases k with
    | zero =>
      obtain ⟨o, h1, h2, h3⟩ := h
      simp only [List.getElem?_cons_zero, Option.some.injEq] at h1
      subst h1
      exact op1_panic hi hc hS h2 fun v w' hv hS' => hQ _ _ _ _ hS' (h3 v hv)
    | succ k =>
      rw [List.take_succ_cons] at h
      obtain ⟨s1, hwk, hR⟩ := h
      refine op1_ok hi hc (hwk _ _ _ _ _ hS) (fun a w hA => ?_) hR
      obtain ⟨s', h1, h2⟩ := hA
      exact ih k h2 (by simpa using h1)
/-- THE RULE OF A REGION WHOSE OPERATION k PANICS. -/
theorem AW_panic {l : List AOper} (k : Nat) {ok : Value → Prop} (h : aops P true (l.take k) s fun s' => ∃ o, l[k]? = some o ∧ APan P o s' ok ∧ ∀ v, ok v → Q (pan v) s') : AW P N (.ops l) s Q := by
  intro code hc w0 mu a w hS
  cases code <;> simp only [ccode] at hc
  case region id ops draw =>
    rw [Option.bind_eq_some_iff] at hc
    obtain ⟨l', hl, hc⟩ := hc
    split at hc
    · split at hc
      · generalize plan ops _ ops.size (Array.replicate ops.size false) = o at hc; cases o <;> cases hc
      · cases hc
    · rename_i hd
      cases hc
      have hd' : draw = false := by simpa using hd
      subst hd'
      refine wp_region ?_
      have hcomp := comp_of_mapM ops ops.toList 0 l (fun j => by simp) hl
      rw [Array.length_toList, ← List.range_eq_range'] at hcomp
      exact aops_panic (Q := Q) (fun s' a w v h1 h2 => ⟨s', h2, h1⟩) hcomp k hS h
  case seq => rw [Option.bind_eq_some_iff] at hc; obtain ⟨_, _, hc⟩ := hc; rw [Option.map_eq_some_iff] at hc; obtain ⟨_, _, hc⟩ := hc; cases hc
  case cond => rw [Option.bind_eq_some_iff] at hc; obtain ⟨_, _, hc⟩ := hc; rw [Option.map_eq_some_iff] at hc; obtain ⟨_, _, hc⟩ := hc; cases hc
  case block => rw [Option.map_eq_some_iff] at hc; obtain ⟨_, _, hc⟩ := hc; cases hc
  case scope => rw [Option.map_eq_some_iff] at hc; obtain ⟨_, _, hc⟩ := hc; cases hc
  case loop => rw [Option.map_eq_some_iff] at hc; obtain ⟨_, _, hc⟩ := hc; cases hc
  all_goals cases hc
/-- What a function owes that panics. -/
def DoneP (ok : Value → Prop) : Exit → AS → Prop := fun e _ => ∃ v, e = pan v ∧ ok v
/-- The rule on code asx it stands. -/
def CW (P : Program) (N : Nat) (code : Code) (s : AS) (Q : Exit → AS → Prop) : Prop :=
  ∀ w0 mu a w, Simw w0 mu N s a w → code.wp P (fun e a' w' => After w0 mu N (Q e) a' w') a w
theorem AW.toC {code : Code} {c : ACode} (h : AW P N c s Q) (hc : ccode P N code = some c) : CW P N code s Q := h code hc
theorem CW_seq {x y : Code} (h : CW P N x s (Then (fun s' => CW P N y s' Q) Q)) : CW P N (.seq x y) s Q := by
  intro w0 mu a w hS
  refine wp_seq (wp_mono (h w0 mu a w hS) fun e a' w' hA => ?_)
  obtain ⟨s', h1, h2⟩ := hA
  cases e with
  | normal => exact h1 w0 mu a' w' h2
  | _ => exact ⟨s', h1, h2⟩
theorem CW_cond {c : Operand} {x y : Code} {b : Bool} (hb : s.ev (opd c) = .v (.bool b)) (hx : b = true → CW P N x s Q) (hy : b = false → CW P N y s Q) : CW P N (.cond c x y) s Q := by
  intro w0 mu a w hS
  obtain ⟨hf, phi, ro, h⟩ := hS
  have hev := h.ev c
  rw [hb] at hev
  simp only [SimV] at hev
  cases b
  · exact wp_cond_false hev (hy rfl w0 mu a w ⟨hf, phi, ro, h⟩)
  · exact wp_cond_true hev (hx rfl w0 mu a w ⟨hf, phi, ro, h⟩)
theorem specPC_of {f : FuncId} {fn : Func} {code : Code} {asx : List AV} {ok : Value → Prop} (hf : P.funcs[f]? = some fn) (hb : fn.body = some code)
    (h : CW P (min fn.ntmps pbase) code (enter0 asx) (DoneP ok)) : SpP P f asx ok := by
  intro w vs hg hent
  refine calls_of_wp hf hb (wp_mono (h w (fun _ => none) _ w ⟨rfl, _, _, enter0_sim hg hent⟩) fun e a' w' hA => ?_)
  obtain ⟨s', ⟨v, rfl, hv⟩, hf', phi, ro, hS⟩ := hA
  exact ⟨hf', v, rfl, hv, hS.os, hS.tape, hS.output, hS.size, fun b hb => hS.kept b hb (fun r => by simp)⟩
theorem specP_of {f : FuncId} {fn : Func} {code : Code} {ac : ACode} {asx : List AV} {ok : Value → Prop} (hf : P.funcs[f]? = some fn) (hb : fn.body = some code) (hc : ccode P (min fn.ntmps pbase) code = some ac)
    (h : AW P (min fn.ntmps pbase) ac (enter0 asx) (DoneP ok)) : SpP P f asx ok := specPC_of hf hb (h.toC hc)
theorem agg_vals {vs : List Value} {C : Ctx} {y : Value} (h : SimV (.agg (vs.map AV.v)) C y) : y = .agg vs.toArray := by
  simp only [SimV] at h
  obtain ⟨a, rfl, _, h2⟩ := h
  have key : ∀ (l : List Value) (m : List Value), l.length = m.length → SimL (l.map AV.v) C m → m = l := by
    intro l
    induction l with
    | nil => intro m hl _; exact List.eq_nil_of_length_eq_zero hl.symm
    | cons x l ih =>
      intro m hl hs
      cases m with
      | nil => simp at hl
      | cons y m =>
        simp only [List.map_cons, SimL, SimV] at hs
        rw [hs.1, ih m (by simpa using hl) hs.2]
  have : a.toList = vs := key vs a.toList (by simp_all) h2
  rw [← this]
/-- The rule of a region that makes an interface value and panics with it. -/
theorem CW_throw {id : Nat} {o0 o1 o2 : Oper} {ao : AOper} {T : TypeId} {x t : Nat} {vs : List Value} (h0 : cop P N #[o0, o1, o2] o0 = some ao) (h1 : o1.op = .makeInterface T (.tmp x)) (h1d : o1.dst = some t) (h1g : o1.guard = none) (h2 : o2.op = .panic (.tmp t)) (h2g : o2.guard = none) (ht : t < N)
    (hT : ∃ fs, P.underlying T = some (.struct fs)) (hrun : aops P true [ao] s fun s' => s'.tm x = .agg (vs.map AV.v)) (hQ : ∀ s' : AS, Q (pan (.iface T (.agg vs.toArray))) s') : CW P N (.region id #[o0, o1, o2] false) s Q := by
  intro w0 mu a w hS
  obtain ⟨fs, hT⟩ := hT
  refine wp_region ?_
  show wpOps P _ _ [0, 1, 2] a w
  rw [wpOps_cons]
  obtain ⟨s0, hwk, hR⟩ := hrun
  refine op1_ok (ops := #[o0, o1, o2]) (i := 0) (K := fun s' => s'.tm x = .agg (vs.map AV.v)) rfl h0 (hwk _ _ _ _ _ hS) (fun a w hA => ?_) hR
  obtain ⟨s', hx, hf, phi, ro, hS⟩ := hA
  have hxv := hS.ev (.tmp x)
  rw [show s'.ev (opd (.tmp x)) = s'.tm x from rfl, hx] at hxv
  have hv := agg_vals hxv
  rw [wpOps_cons]
  unfold wpOp
  simp only [show (#[o0, o1, o2] : Array Oper)[1]? = some o1 from rfl, Region.wanted, h1g, if_true]
  refine .inl ?_
  unfold Oper.wp
  have r1 : (execOp a.eval o1).run P w = .ok (.value (.iface T (a.eval (.tmp x)))) w := by
    unfold execOp
    rw [h1]
    simp [Instr.makeInterface, go_sem, run_underlying hT]
  rw [r1, Oper.upon_value, h1d, hv]
  rw [wpOps_cons]
  unfold wpOp
  simp only [show (#[o0, o1, o2] : Array Oper)[2]? = some o2 from rfl, Region.wanted, h2g, if_true]
  refine .inl ?_
  unfold Oper.wp
  have hlt : t < a.tmps.size := Nat.lt_of_lt_of_le ht hS.slots
  have e1 : (a.put (some t) (.iface T (.agg vs.toArray))).eval (.tmp t) = .iface T (.agg vs.toArray) := by
    simp [Act.eval, Act.put, hlt]
  have r2 : (execOp (a.put (some t) (.iface T (.agg vs.toArray))).eval o2).run P w = .halt (.panic (.iface T (.agg vs.toArray))) w := by
    unfold execOp
    rw [h2]
    simp only [e1]
    rfl
  rw [r2, Oper.upon_panic]
  exact ⟨s'.put (some t) .any, hQ _, hf, phi, ro, hS.put (fun k hk => by cases hk; exact ht) (by simp [SimV])⟩
end Go.Am
namespace Go.Proofs.YtjgcmbihbeokeaaDoor
open Go.Am
attribute [local irreducible] AW Outs Weak Lends Lend Sp aops atree aop1 Then Round InBlock Done
attribute [local irreducible] SpM DoneM SpH DoneH SpP
/-- What clues of a kind tell. -/
def tolB (L : List Int) (k : Int) (g : Nat) : Int :=
  if k = 0 ∨ k = 1 then L.getD g 0
  else if k = 2 then (ownList L L.length).length
  else if k = 3 then (chs L).length
  else if k = 4 then (if L.getD g 0 > g then 1 else 0)
  else timesF L
theorem disp_own (L : List Int) : ∀ k, (disp L k).length + (ownList L k).length = k
  | 0 => rfl
  | k + 1 => by
    have ih := disp_own L k
    by_cases h : L.getD k 0 = k
    · rw [disp_no h, ownList_yes h, List.length_append, List.length_singleton]; omega
    · rw [disp_yes h, ownList_no h, List.length_append, List.length_singleton]; omega
theorem toldBy_spec (L : List Int) (k : Int) (g : Nat) (h : IsEx L) (hg : (k = 0 ∨ k = 1 ∨ k = 4) → g < L.length) : Sp Tryd.prog 86 [ints L, .i k, .i g] (.i (tolB L k g)) := by
  have hL : L.length ≤ 1048576 := by have := h.2.1; omega
  have hdi := displacedIn_spec L hL
  have hci := chainsIn_spec L h
  have hec := eachChainI_spec L h
  unfold tolB
  refine spec_of Tryd.func86 rfl cc86 rfl ?_
  unfold ac86
  by_cases h0 : k = 0
  · have hn := hg (.inl h0)
    rw [if_pos (.inl h0)]
    repeat (first | (refine step_ops ?_; (first | (refine m_mov (by conv => lhs; whnf) ?_) | (refine m_eql rfl rfl ?_) | (refine m_idx1_ro rfl rfl ?_ ?_; (· omega)) | (refine m_ld_rpi rfl ?_ ?_; (· omega)))) | refine end_ops ?_ | refine seq_ops ?_ | (refine cond_t rfl ?_ ?_; (· first | rfl | assumption | (refine decide_eq_true ?_; first | assumption | omega) | (refine nt ?_; first | assumption | omega) | (simp [*]; done))) | refine skip_then ?_ | refine AW_seq ?_ | refine AW_ret ?_ | refine ret_done ?_ | refine AW_block ?_ | refine ret_block ?_)
    exact outs_i rfl
  by_cases h1 : k = 1
  · have hn := hg (.inr (.inl h1))
    rw [if_pos (.inr h1)]
    repeat (first | (refine step_ops ?_; (first | (refine m_mov (by conv => lhs; whnf) ?_) | (refine m_eql rfl rfl ?_) | (refine m_idx1_ro rfl rfl ?_ ?_; (· omega)) | (refine m_ld_rpi rfl ?_ ?_; (· omega)))) | refine end_ops ?_ | refine seq_ops ?_ | refine AW_ops ?_ | (refine cond_t rfl ?_ ?_; (· first | rfl | assumption | (refine decide_eq_true ?_; first | assumption | omega) | (refine nt ?_; first | assumption | omega) | (simp [*]; done))) | (refine cond_f rfl ?_ ?_; (· first | rfl | assumption | (refine decide_eq_false ?_; first | assumption | omega) | (refine nf ?_; first | assumption | omega) | (simp [*]; done))) | refine AW_seq ?_ | refine AW_ret ?_ | refine ret_done ?_ | refine norm_then ?_ | refine AW_block ?_ | refine ret_block ?_)
    exact outs_i rfl
  rw [if_neg (by omega)]
  by_cases h2 : k = 2
  · rw [if_pos h2]
    have hd := disp_own L L.length
    generalize disp L L.length = D at *
    generalize ownList L L.length = O at *
    repeat (first | (refine step_ops ?_; (first | (refine m_mov (by conv => lhs; whnf) ?_) | (refine m_eql rfl rfl ?_) | (refine m_len_ro rfl ?_))) | refine end_ops ?_ | refine seq_ops ?_ | refine AW_ops ?_ | (refine cond_t rfl ?_ ?_; (· first | rfl | assumption | (refine decide_eq_true ?_; first | assumption | omega) | (refine nt ?_; first | assumption | omega) | (simp [*]; done))) | (refine cond_f rfl ?_ ?_; (· first | rfl | assumption | (refine decide_eq_false ?_; first | assumption | omega) | (refine nf ?_; first | assumption | omega) | (simp [*]; done))) | refine AW_seq ?_ | refine norm_then ?_ | refine AW_block ?_)
    (refine step_ops ?_); (apply m_call (hdi)); (· repeat (first | exact lends_nil | (refine lends_cons ?_ ?_; (· (refine lend_ints ?_; first | rfl | omega)))))
    repeat (first | (refine step_ops ?_; (first | (refine m_mov (by conv => lhs; whnf) ?_) | (refine m_sub rfl rfl ?_ ?_ ?_; (· omega); (· omega)) | (refine m_len_ro rfl ?_))) | refine end_ops ?_ | refine AW_ret ?_ | refine ret_done ?_ | refine ret_block ?_)
    refine outs_i ?_
    omega
  by_cases h3 : k = 3
  · rw [if_neg h2, if_pos h3]
    repeat (first | (refine step_ops ?_; (first | (refine m_mov (by conv => lhs; whnf) ?_) | (refine m_eql rfl rfl ?_))) | refine end_ops ?_ | refine seq_ops ?_ | refine AW_ops ?_ | (refine cond_t rfl ?_ ?_; (· first | rfl | assumption | (refine decide_eq_true ?_; first | assumption | omega) | (refine nt ?_; first | assumption | omega) | (simp [*]; done))) | (refine cond_f rfl ?_ ?_; (· first | rfl | assumption | (refine decide_eq_false ?_; first | assumption | omega) | (refine nf ?_; first | assumption | omega) | (simp [*]; done))) | refine AW_seq ?_ | refine norm_then ?_ | refine AW_block ?_)
    refine step_ops ?_
    refine m_call hci (lends_cons (lend_ints ?_) lends_nil) ?_
    · rfl
    repeat (first | (refine step_ops ?_; (first | (refine m_mov (by conv => lhs; whnf) ?_) | (refine m_len_ro rfl ?_))) | refine end_ops ?_ | refine AW_ret ?_ | refine ret_done ?_ | refine ret_block ?_)
    refine outs_i ?_
    unfold chs
    rw [chs_sts, List.length_map]
  by_cases h4 : k = 4
  · have hn := hg (.inr (.inr h4))
    rw [if_neg h2, if_neg h3, if_pos h4]
    by_cases hgt : L.getD g 0 > g
    · rw [if_pos hgt]
      repeat (first | (refine step_ops ?_; (first | (refine m_mov (by conv => lhs; whnf) ?_) | (refine m_gtr rfl rfl ?_) | (refine m_eql rfl rfl ?_) | (refine m_idx1_ro rfl rfl ?_ ?_; (· omega)) | (refine m_ld_rpi rfl ?_ ?_; (· omega)))) | refine end_ops ?_ | refine seq_ops ?_ | refine AW_ops ?_ | (refine cond_t rfl ?_ ?_; (· first | rfl | assumption | (refine decide_eq_true ?_; first | assumption | omega) | (refine nt ?_; first | assumption | omega) | (simp [*]; done))) | (refine cond_f rfl ?_ ?_; (· first | rfl | assumption | (refine decide_eq_false ?_; first | assumption | omega) | (refine nf ?_; first | assumption | omega) | (simp [*]; done))) | refine AW_seq ?_ | refine AW_ret ?_ | refine ret_done ?_ | refine norm_then ?_ | refine ret_then ?_ | refine AW_block ?_ | refine ret_block ?_)
      exact outs_i rfl
    · rw [if_neg hgt]
      repeat (first | (refine step_ops ?_; (first | (refine m_mov (by conv => lhs; whnf) ?_) | (refine m_gtr rfl rfl ?_) | (refine m_eql rfl rfl ?_) | (refine m_idx1_ro rfl rfl ?_ ?_; (· omega)) | (refine m_ld_rpi rfl ?_ ?_; (· omega)))) | refine end_ops ?_ | refine seq_ops ?_ | refine AW_ops ?_ | (refine cond_t rfl ?_ ?_; (· first | rfl | assumption | (refine decide_eq_true ?_; first | assumption | omega) | (refine nt ?_; first | assumption | omega) | (simp [*]; done))) | (refine cond_f rfl ?_ ?_; (· first | rfl | assumption | (refine decide_eq_false ?_; first | assumption | omega) | (refine nf ?_; first | assumption | omega) | (simp [*]; done))) | refine skip_then ?_ | refine AW_seq ?_ | refine AW_ret ?_ | refine ret_done ?_ | refine norm_then ?_ | refine AW_block ?_ | refine ret_block ?_)
      exact outs_i rfl
  rw [if_neg h2, if_neg h3, if_neg h4]
  have hpo := pers_ok h
  have hc := lcT_pers (pers L) _ (Nat.le_refl _)
  rw [List.take_length] at hc
  have ht := timesOf_spec ((pers L).map fun (p : Nat) => (p : Int)) (by rw [List.length_map]; exact hpo.1) (by
    intro x hx
    obtain ⟨p, hp, rfl⟩ := List.mem_map.1 hx
    have := hpo.2 p hp
    omega)
  rw [List.length_map, hc] at ht
  generalize ((pers L).map fun (p : Nat) => (p : Int)) = B at *
  repeat (first | (refine step_ops ?_; (first | (refine m_mov (by conv => lhs; whnf) ?_) | (refine m_eql rfl rfl ?_))) | refine end_ops ?_ | refine seq_ops ?_ | refine AW_ops ?_ | (refine cond_f rfl ?_ ?_; (· first | rfl | assumption | (refine decide_eq_false ?_; first | assumption | omega) | (refine nf ?_; first | assumption | omega) | (simp [*]; done))) | refine AW_seq ?_ | refine norm_then ?_ | refine AW_block ?_)
  (refine step_ops ?_); (apply m_call (hec)); (· repeat (first | exact lends_nil | (refine lends_cons ?_ ?_; (· (first | exact lend_v | (refine lend_ints ?_; first | rfl | omega))))))
  skip
  (refine step_ops ?_); (apply m_call (ht)); (· repeat (first | exact lends_nil | (refine lends_cons ?_ ?_; (· (refine lend_ints ?_; first | rfl | omega)))))
  repeat (first | (refine step_ops ?_; (refine m_mov (by conv => lhs; whnf) ?_)) | refine end_ops ?_ | refine AW_ret ?_ | refine ret_done ?_ | refine ret_block ?_)
  exact outs_i rfl
theorem isClu_nat {g k a b : Int} (h : IsClu g (k, a, b)) : 0 ≤ a := by
  unfold IsClu at h
  dsimp only at h
  split at h
  · exact h.1.1
  · split at h
    · exact h.1.1
    · split at h
      · omega
      · split at h
        · exact h.1.1
        · omega
theorem isClu_at {g k a b : Int} (h : IsClu g (k, a, b)) (hk : k = 0 ∨ k = 1 ∨ k = 4) : a < g := by
  rcases hk with hk | hk | hk
  · have := (isClu_01 (.inl hk)).1 h; omega
  · have := (isClu_01 (.inr hk)).1 h; omega
  · subst hk; have := isClu_4.1 h; omega
theorem fitC_tol {L : List Int} {k b : Int} {n : Nat} (h : IsClu L.length (k, n, b)) : fitC L (k, n, b) = if k = 0 ∨ k = 4 then decide (b = tolB L k n) else if k = 1 then decide (b ≠ tolB L k n) else decide ((n : Int) = tolB L k n) := by
  unfold fitC tolB
  dsimp only
  rw [Int.toNat_natCast]
  by_cases h0 : k = 0
  · simp [h0, eq_comm]
  by_cases h1 : k = 1
  · simp [h1, eq_comm]
  by_cases h2 : k = 2
  · simp [h2, eq_comm]
  by_cases h3 : k = 3
  · simp [h3, eq_comm]
  by_cases h4 : k = 4
  · subst h4
    have := isClu_4.1 h
    by_cases hg : L.getD n 0 > n
    · have : b = 0 ∨ b = 1 := by omega
      rcases this with rfl | rfl <;> simp_all
    · have : b = 0 ∨ b = 1 := by omega
      rcases this with rfl | rfl <;> simp_all
  simp [h0, h1, h2, h3, h4, eq_comm]
theorem fits_spec (L : List Int) (k a b : Int) (h : IsEx L) (hc : IsClu L.length (k, a, b)) : Sp Tryd.prog 68 [.agg [.i k, .i a, .i b], ints L] (.b (fitC L (k, a, b))) := by
  obtain ⟨n, rfl⟩ := Int.eq_ofNat_of_zero_le (isClu_nat hc)
  have hct := canTell_spec L.length k n b
  rw [decide_eq_true hc] at hct
  have hto := toldBy_spec L k n h fun hk => by have := isClu_at hc hk; omega
  rw [fitC_tol hc]
  generalize tolB L k n = T at *
  clear hc
  refine spec_of Tryd.func68 rfl cc68 rfl ?_
  unfold ac68
  refine seq_ops ?_
  refine step_ops ?_
  refine m_box (l := [.i k, .i n, .i b]) rfl rfl ?_
  by_cases h0 : k = 0
  · rw [if_pos (.inl h0)]
    repeat (first | (refine step_ops ?_; (first | (refine m_mov (by conv => lhs; whnf) ?_) | (refine m_len_ro rfl ?_) | (refine m_ldall rfl rfl ?_ ?_; (· first | rfl | (simp; done) | (simp [*]; done))))) | refine end_ops ?_ | refine seq_ops ?_ | refine AW_seq ?_)
    (refine step_ops ?_); (apply m_call (hct)); (· repeat (first | exact lends_nil | (refine lends_cons ?_ ?_; (· (first | exact lend_v | (refine lend_agg ?_; first | rfl | assumption | (simp [plainV]; done)))))))
    repeat (first | (refine step_ops ?_; (first | (refine m_mov (by conv => lhs; whnf) ?_) | (refine m_not rfl ?_) | (apply m_ld_pt; (· rfl); (· rfl); (· rfl)) | (refine m_fa rfl ?_))) | refine end_ops ?_ | refine seq_ops ?_ | (refine cond_f rfl ?_ ?_; (· first | rfl | assumption | (refine decide_eq_false ?_; first | assumption | omega) | (refine nf ?_; first | assumption | omega) | (simp [*]; done))) | refine skip_then ?_)
    (refine step_ops ?_); (apply m_call (hto)); (· repeat (first | exact lends_nil | (refine lends_cons ?_ ?_; (· (first | exact lend_v | (refine lend_ints ?_; first | rfl | omega))))))
    repeat (first | (refine step_ops ?_; (first | (refine m_mov (by conv => lhs; whnf) ?_) | (refine m_eql rfl rfl ?_) | (apply m_ld_pt; (· rfl); (· rfl); (· rfl)) | (refine m_fa rfl ?_))) | refine end_ops ?_ | refine seq_ops ?_ | (refine cond_t rfl ?_ ?_; (· first | rfl | assumption | (refine decide_eq_true ?_; first | assumption | omega) | (refine nt ?_; first | assumption | omega) | (simp [*]; done))) | refine skip_then ?_ | refine AW_seq ?_ | refine AW_ret ?_ | refine ret_done ?_ | refine AW_block ?_ | refine ret_block ?_)
    exact outs_b rfl
  by_cases h4 : k = 4
  · rw [if_pos (.inr h4)]
    repeat (first | (refine step_ops ?_; (first | (refine m_mov (by conv => lhs; whnf) ?_) | (refine m_len_ro rfl ?_) | (refine m_ldall rfl rfl ?_ ?_; (· first | rfl | (simp; done) | (simp [*]; done))))) | refine end_ops ?_ | refine seq_ops ?_ | refine AW_seq ?_)
    (refine step_ops ?_); (apply m_call (hct)); (· repeat (first | exact lends_nil | (refine lends_cons ?_ ?_; (· (first | exact lend_v | (refine lend_agg ?_; first | rfl | assumption | (simp [plainV]; done)))))))
    repeat (first | (refine step_ops ?_; (first | (refine m_mov (by conv => lhs; whnf) ?_) | (refine m_not rfl ?_) | (apply m_ld_pt; (· rfl); (· rfl); (· rfl)) | (refine m_fa rfl ?_))) | refine end_ops ?_ | refine seq_ops ?_ | (refine cond_f rfl ?_ ?_; (· first | rfl | assumption | (refine decide_eq_false ?_; first | assumption | omega) | (refine nf ?_; first | assumption | omega) | (simp [*]; done))) | refine skip_then ?_)
    (refine step_ops ?_); (apply m_call (hto)); (· repeat (first | exact lends_nil | (refine lends_cons ?_ ?_; (· (first | exact lend_v | (refine lend_ints ?_; first | rfl | omega))))))
    repeat (first | (refine step_ops ?_; (first | (refine m_mov (by conv => lhs; whnf) ?_) | (refine m_eql rfl rfl ?_) | (apply m_ld_pt; (· rfl); (· rfl); (· rfl)) | (refine m_fa rfl ?_))) | refine end_ops ?_ | refine seq_ops ?_ | refine AW_ops ?_ | (refine cond_t rfl ?_ ?_; (· first | rfl | assumption | (refine decide_eq_true ?_; first | assumption | omega) | (refine nt ?_; first | assumption | omega) | (simp [*]; done))) | (refine cond_f rfl ?_ ?_; (· first | rfl | assumption | (refine decide_eq_false ?_; first | assumption | omega) | (refine nf ?_; first | assumption | omega) | (simp [*]; done))) | refine AW_seq ?_ | refine AW_ret ?_ | refine ret_done ?_ | refine norm_then ?_ | refine AW_block ?_ | refine ret_block ?_)
    exact outs_b rfl
  by_cases h1 : k = 1
  · rw [if_neg (by omega), if_pos h1]
    repeat (first | (refine step_ops ?_; (first | (refine m_mov (by conv => lhs; whnf) ?_) | (refine m_len_ro rfl ?_) | (refine m_ldall rfl rfl ?_ ?_; (· first | rfl | (simp; done) | (simp [*]; done))))) | refine end_ops ?_ | refine seq_ops ?_ | refine AW_seq ?_)
    (refine step_ops ?_); (apply m_call (hct)); (· repeat (first | exact lends_nil | (refine lends_cons ?_ ?_; (· (first | exact lend_v | (refine lend_agg ?_; first | rfl | assumption | (simp [plainV]; done)))))))
    repeat (first | (refine step_ops ?_; (first | (refine m_mov (by conv => lhs; whnf) ?_) | (refine m_not rfl ?_) | (apply m_ld_pt; (· rfl); (· rfl); (· rfl)) | (refine m_fa rfl ?_))) | refine end_ops ?_ | refine seq_ops ?_ | (refine cond_f rfl ?_ ?_; (· first | rfl | assumption | (refine decide_eq_false ?_; first | assumption | omega) | (refine nf ?_; first | assumption | omega) | (simp [*]; done))) | refine skip_then ?_)
    (refine step_ops ?_); (apply m_call (hto)); (· repeat (first | exact lends_nil | (refine lends_cons ?_ ?_; (· (first | exact lend_v | (refine lend_ints ?_; first | rfl | omega))))))
    repeat (first | (refine step_ops ?_; (first | (refine m_mov (by conv => lhs; whnf) ?_) | (refine m_eql rfl rfl ?_) | (refine m_neq rfl rfl ?_) | (apply m_ld_pt; (· rfl); (· rfl); (· rfl)) | (refine m_fa rfl ?_))) | refine end_ops ?_ | refine seq_ops ?_ | refine AW_ops ?_ | (refine cond_t rfl ?_ ?_; (· first | rfl | assumption | (refine decide_eq_true ?_; first | assumption | omega) | (refine nt ?_; first | assumption | omega) | (simp [*]; done))) | (refine cond_f rfl ?_ ?_; (· first | rfl | assumption | (refine decide_eq_false ?_; first | assumption | omega) | (refine nf ?_; first | assumption | omega) | (simp [*]; done))) | refine AW_seq ?_ | refine AW_ret ?_ | refine ret_done ?_ | refine norm_then ?_ | refine AW_block ?_ | refine ret_block ?_)
    exact outs_b rfl
  rw [if_neg (by omega), if_neg h1]
  repeat (first | (refine step_ops ?_; (first | (refine m_mov (by conv => lhs; whnf) ?_) | (refine m_len_ro rfl ?_) | (refine m_ldall rfl rfl ?_ ?_; (· first | rfl | (simp; done) | (simp [*]; done))))) | refine end_ops ?_ | refine seq_ops ?_ | refine AW_seq ?_)
  (refine step_ops ?_); (apply m_call (hct)); (· repeat (first | exact lends_nil | (refine lends_cons ?_ ?_; (· (first | exact lend_v | (refine lend_agg ?_; first | rfl | assumption | (simp [plainV]; done)))))))
  repeat (first | (refine step_ops ?_; (first | (refine m_mov (by conv => lhs; whnf) ?_) | (refine m_not rfl ?_) | (apply m_ld_pt; (· rfl); (· rfl); (· rfl)) | (refine m_fa rfl ?_))) | refine end_ops ?_ | refine seq_ops ?_ | (refine cond_f rfl ?_ ?_; (· first | rfl | assumption | (refine decide_eq_false ?_; first | assumption | omega) | (refine nf ?_; first | assumption | omega) | (simp [*]; done))) | refine skip_then ?_)
  (refine step_ops ?_); (apply m_call (hto)); (· repeat (first | exact lends_nil | (refine lends_cons ?_ ?_; (· (first | exact lend_v | (refine lend_ints ?_; first | rfl | omega))))))
  repeat (first | (refine step_ops ?_; (first | (refine m_mov (by conv => lhs; whnf) ?_) | (refine m_eql rfl rfl ?_) | (apply m_ld_pt; (· rfl); (· rfl); (· rfl)) | (refine m_fa rfl ?_))) | refine end_ops ?_ | refine seq_ops ?_ | refine AW_ops ?_ | (refine cond_f rfl ?_ ?_; (· first | rfl | assumption | (refine decide_eq_false ?_; first | assumption | omega) | (refine nf ?_; first | assumption | omega) | (simp [*]; done))) | refine AW_seq ?_ | refine AW_ret ?_ | refine ret_done ?_ | refine norm_then ?_ | refine AW_block ?_ | refine ret_block ?_)
  exact outs_b rfl
end Go.Proofs.YtjgcmbihbeokeaaDoor
namespace Go.Proofs.YtjgcmbihbeokeaaDoor
open Go.Am
def isStruct : Option TypeDesc → Bool
  | some (.struct _) => true
  | _ => false
theorem under_noClue : ∃ fs, Tryd.prog.underlying 80 = some (.struct fs) := by
  have h : isStruct (Tryd.prog.underlying 80) = true := by kernel_rfl
  cases e : Tryd.prog.underlying 80 with
  | none => rw [e] at h; cases h
  | some t =>
    rw [e] at h
    cases t <;> first | exact ⟨_, rfl⟩ | cases h
theorem ta_yes (u : TypeId) (v : Value) (w : World) : Sem.run Tryd.prog (Instr.typeAssert (.iface 80 v) u 80 true) w = .ok (.tuple #[v, .bool true]) w := by
  obtain ⟨fs, h⟩ := under_noClue
  unfold Instr.typeAssert
  simp [go_sem, h]
theorem ta_no (u : TypeId) (w : World) : Sem.run Tryd.prog (Instr.typeAssert .nilIface u 80 true) w = .ok (.tuple #[.agg #[.int .i64 0, .int .i64 0, .int .i64 0], .bool false]) w := by
  obtain ⟨fs, h⟩ := under_noClue
  unfold Instr.typeAssert
  simp [go_sem, h]
theorem cell_at {w : World} {b : Nat} {cur : Array Value} {e : TypeId} (h : w.heap[b]? = some (.cells cur e (0, 0))) (h0 : 0 < cur.size) : w.cell? ⟨b, 0, none⟩ = some cur[0] ∧ w.frozen? ⟨b, 0, none⟩ = false := by
  constructor
  · simp [World.cell?, h, h0]
  · simp [World.frozen?, h]
theorem set_same {w : World} {b : Nat} {cur : Array Value} {e : TypeId} {fz : Nat × Nat} (h : w.heap[b]? = some (.cells cur e fz)) (v : Value) : (w.setCell ⟨b, 0, none⟩ v).heap[b]? = some (.cells (cur.setIfInBounds 0 v) e fz) := by
  simp [World.setCell, Array.getElem?_modify, h]
theorem set_other {w : World} {b b' : Nat} (h : b' ≠ b) (v : Value) : (w.setCell ⟨b, 0, none⟩ v).heap[b']? = w.heap[b']? := by
  simp [World.setCell, Array.getElem?_modify, Ne.symm h]
theorem set_size {w : World} {b : Nat} (v : Value) : (w.setCell ⟨b, 0, none⟩ v).heap.size = w.heap.size := by simp [World.setCell]
/-- What the door's closure leaves where it has caught a clue that is none. -/
structure Caught (w w' : World) (bp bq : Nat) : Prop where
  os : w'.os = w.os
  tape : w'.tape = w.tape
  output : w'.output = w.output
  size : w.heap.size ≤ w'.heap.size
  block : ∀ b, b < w.heap.size → b ≠ bp → b ≠ bq → w'.heap[b]? = w.heap[b]?
  cellp : w'.cell? ⟨bp, 0, none⟩ = some (.slice none 0 0)
  cellq : w'.cell? ⟨bq, 0, none⟩ = some (.bool false)
set_option maxRecDepth 8000 in
theorem door_catches (bp bq : Nat) (k a b : Int) (w : World) (cp cq : Array Value) (ep eq : TypeId) (hp : w.heap[bp]? = some (.cells cp ep (0, 0))) (hq : w.heap[bq]? = some (.cells cq eq (0, 0))) (hcp : 0 < cp.size) (hcq : 0 < cq.size) (hne : bp ≠ bq) :
    CallsD Tryd.prog 52 #[.pointer (some ⟨bp, 0, none⟩), .pointer (some ⟨bq, 0, none⟩)] (.panicking [{ v := .iface 80 (.agg #[.int .i64 k, .int .i64 a, .int .i64 b]), recovered := false }]) w fun e u' w' =>
      e = .returned (.tuple #[]) ∧ u' = .panicking [{ v := .iface 80 (.agg #[.int .i64 k, .int .i64 a, .int .i64 b]), recovered := true }] ∧ Caught w w' bp bq := by
  have key : ∀ o : Obj, (w.alloc o).cell? ⟨bp, 0, none⟩ = some cp[0] ∧ (w.alloc o).frozen? ⟨bp, 0, none⟩ = false ∧ ((w.alloc o).setCell ⟨bp, 0, none⟩ (.slice none 0 0)).cell? ⟨bq, 0, none⟩ = some cq[0] ∧ ((w.alloc o).setCell ⟨bp, 0, none⟩ (.slice none 0 0)).frozen? ⟨bq, 0, none⟩ = false ∧
      Caught w (((w.alloc o).setCell ⟨bp, 0, none⟩ (.slice none 0 0)).setCell ⟨bq, 0, none⟩ (.bool false)) bp bq := by
    intro o
    have hm := More.alloc w o
    have h1 : (w.alloc o).heap[bp]? = some (.cells cp ep (0, 0)) := (hm.block bp (lt_of_get hp)).trans hp
    have h2 : (w.alloc o).heap[bq]? = some (.cells cq eq (0, 0)) := (hm.block bq (lt_of_get hq)).trans hq
    have h3 := set_same h1 (.slice none 0 0)
    have h4 := (set_other (w := w.alloc o) (Ne.symm hne) (.slice none 0 0)).trans h2
    have h5 := set_same h4 (.bool false)
    have h6 := (set_other (w := (w.alloc o).setCell ⟨bp, 0, none⟩ (.slice none 0 0)) hne (.bool false)).trans h3
    refine ⟨(cell_at h1 hcp).1, (cell_at h1 hcp).2, (cell_at h4 hcq).1, (cell_at h4 hcq).2, rfl, rfl, rfl, ?_, fun b hb n1 n2 => ?_, ?_, ?_⟩
    · rw [set_size, set_size]; exact hm.size
    · rw [set_other n2, set_other n1]; exact hm.block b hb
    · simp [World.cell?, h6, hcp]
    · simp [World.cell?, h5, hcq]
  refine callsD_of_wpS Tryd.func52 rfl fun c₀ cs hu => ?_
  apply wpS_seq
  apply wpS_region
  simp [wpOpsS, go_sem, recoverD, hu, Tryd.ntmps52, Exit.thenS, ta_yes]
  apply wpS_seq
  apply wpS_region
  simp [wpOpsS, go_sem, Exit.thenS]
  refine wpS_cond (t := true) (by simp [Act.eval, Array.replicate]) ?_
  simp only [if_true]
  apply wpS_region
  have k1 := fun o => (key o).1
  have k2 := fun o => (key o).2.1
  have k3 := fun o => (key o).2.2.1
  have k4 := fun o => (key o).2.2.2.1
  have k5 := fun o => (key o).2.2.2.2
  simp [wpOpsS, go_sem, bodyPostS, results, Tryd.results52, k1, k2, k3, k4, k5]
set_option maxRecDepth 8000 in
theorem door_idle (p q : Addr) (w : World) :
    CallsD Tryd.prog 52 #[.pointer (some p), .pointer (some q)] .returning w fun e u' w' => e = .returned (.tuple #[]) ∧ u' = .returning ∧ More w w' := by
  refine callsD_of_wpS Tryd.func52 rfl fun c₀ cs hu => ?_
  apply wpS_seq
  apply wpS_region
  simp [wpOpsS, go_sem, recoverD, hu, Tryd.ntmps52, Exit.thenS, ta_no]
  apply wpS_seq
  apply wpS_region
  simp [wpOpsS, go_sem, Exit.thenS]
  refine wpS_cond (t := false) (by simp [Act.eval, Array.replicate]) ?_
  simp only [Bool.false_eq_true, if_false]
  refine wpS_of_wp (wp_skip ?_)
  cases c₀
  simp only at hu
  subst hu
  simp [bodyPostS, results, Tryd.results52]
  exact More.alloc w _
end Go.Proofs.YtjgcmbihbeokeaaDoor
namespace Go.Am
def sqa : ACode → ACode
  | .seq a _ => a
  | c => c
def sqb : ACode → ACode
  | .seq _ b => b
  | c => c
end Go.Am
namespace Go.Proofs.YtjgcmbihbeokeaaDoor
open Go.Am
attribute [local irreducible] AW Outs Weak Lends Lend Sp aops atree aop1 Then Round InBlock Done
attribute [local irreducible] SpM DoneM SpH DoneH SpP
/-- What is raised for a clue. -/
def IsNo (c : Clu) (v : Value) : Prop := v = .iface 80 (.agg #[.int .i64 c.1, .int .i64 c.2.1, .int .i64 c.2.2])
set_option maxRecDepth 8000 in
theorem fits_code : ∃ A B rest o0 o1 o2 ao id, Tryd.f68.body = some (.seq A (.seq (.seq B (.cond (.tmp 10) (.region id #[o0, o1, o2] false) .skip)) rest)) ∧
    ccode Tryd.prog (min Tryd.f68.ntmps pbase) A = some (sqa ac68) ∧ ccode Tryd.prog (min Tryd.f68.ntmps pbase) B = some (sqa (sqa (sqb ac68))) ∧
    cop Tryd.prog (min Tryd.f68.ntmps pbase) #[o0, o1, o2] o0 = some ao ∧ ao = ⟨some 11, .ld (some 3) (.t 2), none⟩ ∧ o1.op = .makeInterface 80 (.tmp 11) ∧ o1.dst = some 12 ∧ o1.guard = none ∧ o2.op = .panic (.tmp 12) ∧ o2.guard = none :=
  ⟨_, _, _, _, _, _, ⟨some 11, .ld (some 3) (.t 2), none⟩, _, rfl, by kernel_rfl, by kernel_rfl, by kernel_rfl, rfl, rfl, rfl, rfl, rfl, rfl⟩
theorem fits_throws (L : List Int) (k a b : Int) (hc : ¬ IsClu L.length (k, a, b)) : SpP Tryd.prog 68 [.agg [.i k, .i a, .i b], ints L] (IsNo (k, a, b)) := by
  have hct := canTell_spec L.length k a b
  rw [decide_eq_false hc] at hct
  obtain ⟨A, B, rest, o0, o1, o2, ao, id, hb, hA, hB, h0, rfl, h1, h1d, h1g, h2, h2g⟩ := fits_code
  refine specPC_of Tryd.func68 hb ?_
  refine CW_seq (AW.toC ?_ hA)
  simp only [sqa, ac68]
  refine AW_ops ?_
  refine step_ops ?_
  refine m_box (l := [.i k, .i a, .i b]) rfl rfl ?_
  repeat (first | (refine step_ops ?_; (refine m_mov (by conv => lhs; whnf) ?_)) | refine end_ops ?_ | refine norm_then ?_)
  refine CW_seq (CW_seq (AW.toC ?_ hB))
  simp only [sqa, sqb, ac68]
  repeat (first | (refine step_ops ?_; (first | (refine m_mov (by conv => lhs; whnf) ?_) | (refine m_len_ro rfl ?_) | (refine m_ldall rfl rfl ?_ ?_; (· first | rfl | (simp; done) | (simp [*]; done))))) | refine AW_ops ?_)
  refine step_ops ?_; (apply m_call (hct)); (· repeat (first | exact lends_nil | (refine lends_cons ?_ ?_; (· (first | exact lend_v | (refine lend_agg ?_; first | rfl | assumption | (simp [plainV]; done)))))))
  repeat (first | (refine step_ops ?_; (refine m_not rfl ?_)) | refine end_ops ?_ | refine norm_then ?_)
  refine CW_cond (b := true) rfl (fun _ => ?_) (fun e => by cases e)
  refine CW_throw (vs := [.int .i64 k, .int .i64 a, .int .i64 b]) h0 h1 h1d h1g h2 h2g (by decide) under_noClue ?_ ?_
  · refine step_ops ?_
    refine m_ldk rfl (by rfl) (by simp) ?_
    refine end_ops ?_
    rfl
  · intro s'
    unfold Then
    exact ⟨_, rfl, rfl⟩
/-- A clue out of a list of them. -/
theorem getD_clu {C : List Clu} {k : Nat} (h : k < C.length) : C.getD k (0, 0, 0) ∈ C := by
  rw [List.getD_eq_getElem?_getD, List.getElem?_eq_getElem h]
  exact List.getElem_mem h
theorem snoc_clu {C : List Clu} {k : Nat} (h : k < C.length) : C.take (k + 1) = C.take k ++ [C.getD k (0, 0, 0)] := by
  rw [List.take_add_one, List.getElem?_eq_getElem h, List.getD_eq_getElem?_getD, List.getElem?_eq_getElem h]
  rfl
/-- Do the first k fit? -/
def fitK (C : List Clu) (L : List Int) (k : Nat) : Bool := (C.take k).all (fitC L)
theorem fitK_succ {C : List Clu} {L : List Int} {k : Nat} (h : k < C.length) : fitK C L (k + 1) = (fitC L (C.getD k (0, 0, 0)) && fitK C L k) := by
  unfold fitK
  rw [snoc_clu h, List.all_append, Bool.and_comm]
  simp
theorem fitsAll_spec (n : Nat) (C : List Clu) (L : List Int) (hC : C.length ≤ 6) (h : IsEx L) (hn : L.length = n) (hcl : ∀ c ∈ C, IsClu n c) : Sp Tryd.prog 56 [.ro false 3 (cls C) C.length, ints L] (.b (C.all (fitC L))) := by
  have hL : L.length ≤ 1048576 := by have := h.2.1; omega
  have e0 : C.all (fitC L) = fitK C L C.length := by unfold fitK; rw [List.take_length]
  rw [e0]
  refine spec_of Tryd.func56 rfl cc56 rfl ?_
  unfold ac56
  repeat (first | (refine step_ops ?_; (first | (refine m_mov (by conv => lhs; whnf) ?_) | (refine m_len_ro rfl ?_))) | refine end_ops ?_ | refine seq_ops ?_ | refine AW_seq ?_ | refine AW_block ?_)
  refine AW_loop (α := Nat) (fun k => k ≤ C.length) (fun k => st [(1, ints L), (5, .b (fitK C L k)), (8, .ro false 3 (cls C) C.length), (9, .i C.length), (10, .i k)] []) (fun k => C.length - k) 0 (Nat.zero_le _) (weak_st ?_ ?_ rfl rfl) ?_
  · (repeat' (first | exact trivial | refine And.intro ?_ ?_)) <;> (first | rfl | skip)
  · (repeat' (first | exact trivial | refine And.intro ?_ ?_)) <;> (first | rfl | skip)
  intro k hk
  by_cases hlt : k < C.length
  · have hs := fitK_succ (L := L) hlt
    have hmem := getD_clu hlt
    rcases hce : C.getD k (0, 0, 0) with ⟨c1, c2, c3⟩
    rw [hce] at hs hmem
    have hfi := fits_spec L c1 c2 c3 h (by rw [hn]; exact hcl _ hmem)
    generalize fitC L (c1, c2, c3) = F at *
    repeat (first | (refine step_ops ?_; (first | (refine m_lss rfl rfl ?_) | (refine m_idx_ro rfl rfl ?_ ?_ ?_; (· omega); (· omega)))) | refine end_ops ?_ | refine seq_ops ?_ | (refine cond_t rfl ?_ ?_; (· first | rfl | assumption | (refine decide_eq_true ?_; first | assumption | omega) | (refine nt ?_; first | assumption | omega) | (simp [*]; done))) | refine skip_then ?_ | refine AW_seq ?_ | refine AW_block ?_)
    refine step_ops ?_
    refine m_ldClu hlt hce rfl ?_
    repeat (first | (refine step_ops ?_; (first | (refine m_mov (by conv => lhs; whnf) ?_) | (refine m_alloc ?_) | (refine m_ldall rfl rfl ?_ ?_; (· first | rfl | (simp; done) | (simp [*]; done))) | (refine m_stall rfl rfl rfl ?_ ?_ ?_ ?_; (· first | rfl | (simp [*]; done)); (· first | rfl | (simp [*]; done)); (· first | rfl | (simp [cellOk, Value.oneCell']; done))))) | refine end_ops ?_ | refine AW_ops ?_)
    (refine step_ops ?_); (apply m_call (hfi)); (· repeat (first | exact lends_nil | (refine lends_cons ?_ ?_; (· (first | (refine lend_ints ?_; first | rfl | omega) | (refine lend_agg ?_; first | rfl | assumption | (simp [plainV]; done)))))))
    cases F
    all_goals
      repeat (first | (refine step_ops ?_; (first | ((try (refine g_yes rfl ?_ ?_; (· first | rfl | assumption | (refine decide_eq_true ?_; first | assumption | omega) | (refine nt ?_; first | assumption | omega) | (simp [*]; done) | (refine decide_eq_false ?_; first | assumption | omega) | (refine nf ?_; first | assumption | omega)))); (first | (refine m_mov (by conv => lhs; whnf) ?_) | (refine m_add rfl rfl ?_ ?_ ?_; (· omega); (· omega)) | (refine m_pick_t rfl ?_ (by conv => lhs; whnf) ?_; (· first | rfl | assumption | (refine decide_eq_true ?_; first | assumption | omega) | (refine nt ?_; first | assumption | omega) | (simp [*]; done))) | (refine m_pick_f rfl ?_ (by conv => lhs; whnf) ?_; (· first | rfl | assumption | (refine decide_eq_false ?_; first | assumption | omega) | (refine nf ?_; first | assumption | omega) | (simp [*]; done))))) | (refine g_noT rfl ?_ ?_; (· first | rfl | assumption | (refine decide_eq_false ?_; first | assumption | omega) | (refine nf ?_; first | assumption | omega) | (simp [*]; done))))) | refine end_ops ?_ | refine AW_ops ?_ | refine norm_then ?_ | refine norm_block ?_)
      refine next_round (k + 1) (by omega) (weak_st ?_ ?_ rfl rfl) ?_
      · rw [hs]
        (repeat' (first | exact trivial | refine And.intro ?_ ?_)) <;> (first | rfl | skip)
      · (repeat' (first | exact trivial | refine And.intro ?_ ?_)) <;> (first | rfl | skip)
      · omega
  · obtain rfl : k = C.length := by omega
    repeat (first | (refine step_ops ?_; (first | (refine m_mov (by conv => lhs; whnf) ?_) | (refine m_lss rfl rfl ?_))) | refine end_ops ?_ | refine seq_ops ?_ | (refine cond_f rfl ?_ ?_; (· first | rfl | assumption | (refine decide_eq_false ?_; first | assumption | omega) | (refine nf ?_; first | assumption | omega) | (simp [*]; done))) | refine AW_seq ?_ | refine AW_ret ?_ | refine ret_done ?_ | refine norm_then ?_ | refine exit_then ?_ | refine exit_round ?_ | refine AW_exit ?_ | refine exit_block ?_)
    exact outs_b rfl
/-- What is raised is a clue. -/
def NoV (v : Value) : Prop := ∃ c : Clu, IsNo c v
theorem sp_no {f : FuncId} {xs : List AV} {c : Clu} (h : SpP Tryd.prog f xs (IsNo c)) : SpP Tryd.prog f xs NoV := by
  unfold SpP at *
  exact fun w vs h1 h2 => (h w vs h1 h2).mono fun e w' ⟨v, k1, k2, k3⟩ => ⟨v, k1, ⟨c, k2⟩, k3⟩
theorem fitsAll_throws (n : Nat) (C : List Clu) (L : List Int) (hC : C.length ≤ 6) (h : IsEx L) (hn : L.length = n) (hbad : ∃ c ∈ C, ¬ IsClu n c) : SpP Tryd.prog 56 [.ro false 3 (cls C) C.length, ints L] NoV := by
  have hL : L.length ≤ 1048576 := by have := h.2.1; omega
  refine specP_of Tryd.func56 rfl cc56 ?_
  unfold ac56
  repeat (first | (refine step_ops ?_; (first | (refine m_mov (by conv => lhs; whnf) ?_) | (refine m_len_ro rfl ?_))) | refine end_ops ?_ | refine seq_ops ?_ | refine AW_seq ?_ | refine AW_block ?_)
  refine AW_loop (α := Nat) (fun k => k ≤ C.length ∧ ∀ c ∈ C.take k, IsClu n c) (fun k => st [(1, ints L), (5, .b (fitK C L k)), (8, .ro false 3 (cls C) C.length), (9, .i C.length), (10, .i k)] []) (fun k => C.length - k) 0 ⟨Nat.zero_le _, by simp⟩ (weak_st ?_ ?_ rfl rfl) ?_
  · (repeat' (first | exact trivial | refine And.intro ?_ ?_)) <;> (first | rfl | skip)
  · (repeat' (first | exact trivial | refine And.intro ?_ ?_)) <;> (first | rfl | skip)
  rintro k ⟨hk, hI⟩
  by_cases hlt : k < C.length
  · have hs := fitK_succ (L := L) hlt
    have hmem := getD_clu hlt
    have hsn := snoc_clu hlt
    rcases hce : C.getD k (0, 0, 0) with ⟨c1, c2, c3⟩
    rw [hce] at hs hmem hsn
    by_cases hgood : IsClu n (c1, c2, c3)
    · have hfi := fits_spec L c1 c2 c3 h (by rw [hn]; exact hgood)
      generalize fitC L (c1, c2, c3) = F at *
      repeat (first | (refine step_ops ?_; (first | (refine m_lss rfl rfl ?_) | (refine m_idx_ro rfl rfl ?_ ?_ ?_; (· omega); (· omega)))) | refine end_ops ?_ | refine seq_ops ?_ | (refine cond_t rfl ?_ ?_; (· first | rfl | assumption | (refine decide_eq_true ?_; first | assumption | omega) | (refine nt ?_; first | assumption | omega) | (simp [*]; done))) | refine skip_then ?_ | refine AW_seq ?_ | refine AW_block ?_)
      refine step_ops ?_
      refine m_ldClu hlt hce rfl ?_
      repeat (first | (refine step_ops ?_; (first | (refine m_mov (by conv => lhs; whnf) ?_) | (refine m_alloc ?_) | (refine m_ldall rfl rfl ?_ ?_; (· first | rfl | (simp; done) | (simp [*]; done))) | (refine m_stall rfl rfl rfl ?_ ?_ ?_ ?_; (· first | rfl | (simp [*]; done)); (· first | rfl | (simp [*]; done)); (· first | rfl | (simp [cellOk, Value.oneCell']; done))))) | refine end_ops ?_ | refine AW_ops ?_)
      (refine step_ops ?_); (apply m_call (hfi)); (· repeat (first | exact lends_nil | (refine lends_cons ?_ ?_; (· (first | (refine lend_ints ?_; first | rfl | omega) | (refine lend_agg ?_; first | rfl | assumption | (simp [plainV]; done)))))))
      cases F
      all_goals
        repeat (first | (refine step_ops ?_; (first | ((try (refine g_yes rfl ?_ ?_; (· first | rfl | assumption | (refine decide_eq_true ?_; first | assumption | omega) | (refine nt ?_; first | assumption | omega) | (simp [*]; done) | (refine decide_eq_false ?_; first | assumption | omega) | (refine nf ?_; first | assumption | omega)))); (first | (refine m_mov (by conv => lhs; whnf) ?_) | (refine m_add rfl rfl ?_ ?_ ?_; (· omega); (· omega)) | (refine m_pick_t rfl ?_ (by conv => lhs; whnf) ?_; (· first | rfl | assumption | (refine decide_eq_true ?_; first | assumption | omega) | (refine nt ?_; first | assumption | omega) | (simp [*]; done))) | (refine m_pick_f rfl ?_ (by conv => lhs; whnf) ?_; (· first | rfl | assumption | (refine decide_eq_false ?_; first | assumption | omega) | (refine nf ?_; first | assumption | omega) | (simp [*]; done))))) | (refine g_noT rfl ?_ ?_; (· first | rfl | assumption | (refine decide_eq_false ?_; first | assumption | omega) | (refine nf ?_; first | assumption | omega) | (simp [*]; done))))) | refine end_ops ?_ | refine AW_ops ?_ | refine norm_then ?_ | refine norm_block ?_)
        refine next_round (k + 1) ⟨by omega, ?_⟩ (weak_st ?_ ?_ rfl rfl) ?_
        · rw [hsn]
          intro c hc
          rw [List.mem_append, List.mem_singleton] at hc
          rcases hc with hc | rfl
          · exact hI c hc
          · exact hgood
        · rw [hs]
          (repeat' (first | exact trivial | refine And.intro ?_ ?_)) <;> (first | rfl | skip)
        · (repeat' (first | exact trivial | refine And.intro ?_ ?_)) <;> (first | rfl | skip)
        · omega
    · have hth := sp_no (fits_throws L c1 c2 c3 (by rw [hn]; exact hgood))
      repeat (first | (refine step_ops ?_; (first | (refine m_lss rfl rfl ?_) | (refine m_idx_ro rfl rfl ?_ ?_ ?_; (· omega); (· omega)))) | refine end_ops ?_ | refine seq_ops ?_ | (refine cond_t rfl ?_ ?_; (· first | rfl | assumption | (refine decide_eq_true ?_; first | assumption | omega) | (refine nt ?_; first | assumption | omega) | (simp [*]; done))) | refine skip_then ?_ | refine AW_seq ?_ | refine AW_block ?_)
      refine step_ops ?_
      refine m_ldClu hlt hce rfl ?_
      ((refine step_ops ?_; (refine m_alloc ?_)))
      ((refine step_ops ?_; (refine m_stall rfl rfl rfl ?_ ?_ ?_ ?_; (· first | rfl | (simp [*]; done)); (· first | rfl | (simp [*]; done)); (· first | rfl | (simp [cellOk, Value.oneCell']; done)))))
      refine end_ops ?_
      refine AW_panic 2 (ok := NoV) ?_
      simp only [List.take_succ_cons, List.take_zero]
      repeat (first | (refine step_ops ?_; (first | (refine m_mov (by conv => lhs; whnf) ?_) | (refine m_ldall rfl rfl ?_ ?_; (· first | rfl | (simp; done) | (simp [*]; done))))) | refine end_ops ?_)
      refine ⟨_, rfl, ⟨rfl, .inl ⟨_, _, _, rfl, hth, ?_⟩⟩, fun v hv => ?_⟩
      · refine lends_cons (lend_agg ?_) (lends_cons (lend_ints ?_) lends_nil)
        · rfl
        · rfl
      · simp only [Then, InBlock, Round]
        exact ⟨v, rfl, hv⟩
  · obtain rfl : k = C.length := by omega
    rw [List.take_length] at hI
    obtain ⟨c, hc, hno⟩ := hbad
    exact absurd (hI c hc) hno
end Go.Proofs.YtjgcmbihbeokeaaDoor
namespace Go.Am
theorem lend_nil {hp : Hp} : Lend hp (.v (.slice none 0 0)) (ints []) := by
  intro w0 mu N tm w phi ro v hS hv
  simp only [SimV] at hv ⊢
  exact .inl ⟨rfl, rfl, none, 0, hv, by simp⟩
/-- New memory that a callee made is handed on. -/
theorem outs_ro {s : AS} {z n : Nat} {cs : List AV} (hall : cs.all plainV = true) : Outs s (.ro true z cs n) (.ro true z cs n) := by
  intro w0 N tm w phi ro y hS h
  simp only [SimV] at h ⊢
  rcases h with h | ⟨b, o, cap, cur, e, fz, h1, h2, h3, h4, h5, h6, h7⟩
  · exact .inl h
  · obtain ⟨k1, k2⟩ := h6 trivial
    exact .inr ⟨b, o, cap, cur, e, fz, h1, h2, ⟨k1, lt_of_get h2⟩, h4, h5, fun _ => ⟨k1, k2⟩, simL_allv hall h7⟩
end Go.Am
namespace Go.Proofs.YtjgcmbihbeokeaaDoor
open Go.Am
attribute [local irreducible] AW Outs Weak Lends Lend Sp aops atree aop1 Then Round InBlock Done
theorem slicesContains_spec (L : List Int) (c : Int) (hL : L.length ≤ 1048576) : Sp Tryd.prog 54 [ints L, .i c] (.b (decide (c ∈ L))) := by
  refine spec_of Tryd.func54 rfl cc54 rfl ?_
  unfold ac54
  repeat (first | (refine step_ops ?_; (refine m_mov (by conv => lhs; whnf) ?_)) | refine end_ops ?_ | refine seq_ops ?_)
  (refine step_ops ?_); (apply m_call (slicesIndex_spec _ _ hL)); (· repeat (first | exact lends_nil | (refine lends_cons ?_ ?_; (· (first | exact lend_v | (refine lend_ints ?_; first | rfl | omega))))))
  repeat (first | (refine step_ops ?_; (first | (refine m_mov (by conv => lhs; whnf) ?_) | (refine m_geq rfl rfl ?_))) | refine end_ops ?_ | refine AW_ret ?_ | refine ret_done ?_)
  refine outs_b ?_
  refine decide_eq_decide.2 ?_
  unfold whoIs
  by_cases h : c ∈ L
  · simp [h]
  · simp [h]
theorem slicesClone_nil_spec : Sp Tryd.prog 105 [ints []] (newInts []) := by
  refine spec_of Tryd.func105 rfl cc105 rfl ?_
  unfold ac105
  repeat (first | (refine step_ops ?_; (first | (refine m_mov (by conv => lhs; whnf) ?_) | (refine m_nils ?_))) | refine end_ops ?_ | refine seq_ops ?_ | refine AW_seq ?_)
  refine step_ops ?_
  refine m_isnil_ro0 rfl fun b => ?_
  cases b
  · repeat (first | (refine step_ops ?_; (first | (refine m_mov (by conv => lhs; whnf) ?_) | (refine m_bsl0 ?_))) | refine end_ops ?_ | refine seq_ops ?_ | (refine cond_f rfl ?_ ?_; (· first | rfl | assumption | (refine decide_eq_false ?_; first | assumption | omega) | (refine nf ?_; first | assumption | omega) | (simp [*]; done))) | refine skip_then ?_)
    refine step_ops ?_
    refine m_appro (ys := []) (cs := []) (m := 0) (n := 0) rfl (by decide) rfl rfl rfl rfl (by decide) (by decide) ?_
    repeat (first | (refine step_ops ?_; (refine m_mov (by conv => lhs; whnf) ?_)) | refine end_ops ?_ | refine AW_ret ?_ | refine ret_done ?_)
    exact outs_ints (cs := []) rfl rfl rfl
  · repeat (first | (refine step_ops ?_; (refine m_nils ?_)) | refine end_ops ?_ | refine seq_ops ?_ | (refine cond_t rfl ?_ ?_; (· first | rfl | assumption | (refine decide_eq_true ?_; first | assumption | omega) | (refine nt ?_; first | assumption | omega) | (simp [*]; done))) | refine AW_ret ?_ | refine ret_done ?_ | refine ret_then ?_)
    exact outs_ints (cs := []) rfl rfl rfl
theorem slicesClone0_spec (L : List Int) (hL : L.length ≤ 1048576) : Sp Tryd.prog 105 [ints L] (newInts L) := by
  by_cases h1 : 1 ≤ L.length
  · exact slicesClone_spec L hL h1
  · obtain rfl : L = [] := by
      cases L with
      | nil => rfl
      | cons a l => simp at h1
    exact slicesClone_nil_spec
/-- What a search finds. -/
def srchR (o : Option (List Int)) : AV := .tup [newInts (o.getD []), .b o.isSome]
theorem fittingFrom_spec {f : FuncId} {fl : List AV} {kk : Nat} {n : Nat} {fits : List Int → Nat → Bool} (A : AsksK Tryd.prog f fl kk n fits) (l : List Int) (g : Nat) (hn : n ≤ 1000) (hl : l.length < n) (hb : ∀ x ∈ l, 0 ≤ x ∧ x < n) (hg : g ≤ n) :
    Sp Tryd.prog 87 [.i n, ints l, .i g, .fn f fl kk] (srchR (goAt fits n l g).head?) := by
  unfold srchR
  refine spec_of Tryd.func87 rfl cc87 rfl ?_
  unfold ac87
  repeat (first | (refine step_ops ?_; (first | (refine m_mov (by conv => lhs; whnf) ?_) | (refine m_nils ?_))) | refine end_ops ?_ | refine seq_ops ?_)
  refine AW_scope (α := Unit) 0 (fun _ => False) (fun _ => st [] []) (fun _ => 0) rfl ?_ (fun _ hf => hf.elim)
  repeat (first | (refine step_ops ?_; (refine m_mov (by conv => lhs; whnf) ?_)) | refine seq_ops ?_)
  (refine step_ops ?_); (apply m_callo (slicesClone0_spec l (by omega))); (· repeat (first | exact lends_nil | (refine lends_cons ?_ ?_; (· (refine lend_ints ?_; first | rfl | omega))))); (· first | exact allv_ints _ | rfl | (simp; done))
  repeat (first | (refine step_ops ?_; (refine m_mov (by conv => lhs; whnf) ?_)) | refine end_ops ?_ | refine seq_ops ?_ | refine AW_seq ?_)
  refine AW_label ?_
  refine norm_then ?_
  repeat (first | refine AW_seq ?_ | refine AW_block ?_)
  refine AW_loop (α := List Int × Nat) (fun a => a.1.length ≤ n ∧ (∀ x ∈ a.1, 0 ≤ x ∧ x < n) ∧ a.2 ≤ n ∧ (goAt fits n a.1 a.2).head? = (goAt fits n l g).head?)
    (fun a => st [(0, .i n), (3, .fn f fl kk), (10, .sl 10 1 0 a.1.length), (11, .i a.2)] [(10, (true, a.1.map AV.i))]) (fun a => goMeas n a.1 a.2) (l, g) ⟨by show l.length ≤ n; omega, hb, hg, rfl⟩
    (Weak.trans (weak_move (r := 14) (q := 10) rfl (by decide) (by decide)) (weak_st ?_ ?_ ?_ rfl)) ?_
  · (repeat' (first | exact trivial | refine And.intro ?_ ?_)) <;> (first | rfl | skip)
    all_goals (simp (disch := decide) [tm_put_ne', tm_put_none, tm_mem, tm_kill, tm_mv, tm_st, tm_en0, tm_en1, tm_en2, tm_en3, tm_en4, Am.look, kill_fn A.nokill, mv_fn A.nokill])
  · exact ⟨rfl, trivial⟩
  · simp [refsT, refsV, A.norefs, Am.look]
  rintro ⟨M, y⟩ ⟨hM, hMb, hy, hres⟩
  dsimp only at hM hMb hy hres ⊢
  by_cases hfull : M.length = n
  · have hr1 : (goAt fits n l g).head? = some M := by rw [← hres]; exact goAt_full _ _ hfull
    repeat (first | (refine step_ops ?_; (first | (refine m_mov (by conv => lhs; whnf) ?_) | (refine m_eql rfl rfl ?_) | (refine m_len_sl rfl ?_))) | refine end_ops ?_ | refine seq_ops ?_ | (refine cond_t rfl ?_ ?_; (· first | rfl | assumption | (refine decide_eq_true ?_; first | assumption | omega) | (refine nt ?_; first | assumption | omega) | (simp [*]; done))) | refine AW_ret ?_ | refine ret_done ?_ | refine norm_then ?_ | refine AW_block ?_ | refine exit_round ?_ | refine AW_exit ?_ | refine exit_block ?_ | (refine exit_other ?_ ?_; (· decide)))
    rw [hr1]
    exact outs_tup2 (outs_ints rfl rfl rfl) (outs_b rfl)
  · have hMl : M.length < n := by omega
    by_cases hy2 : y < n
    · by_cases hf : fits M y = true
      · repeat (first | (refine step_ops ?_; ((try (refine g_yes rfl ?_ ?_; (· first | rfl | assumption | (refine decide_eq_true ?_; first | assumption | omega) | (refine nt ?_; first | assumption | omega) | (simp [*]; done) | (refine decide_eq_false ?_; first | assumption | omega) | (refine nf ?_; first | assumption | omega)))); (first | (refine m_mov (by conv => lhs; whnf) ?_) | (refine m_lss rfl rfl ?_) | (refine m_eql rfl rfl ?_) | (refine m_len_sl rfl ?_)))) | refine end_ops ?_ | refine seq_ops ?_ | (refine cond_f rfl ?_ ?_; (· first | rfl | assumption | (refine decide_eq_false ?_; first | assumption | omega) | (refine nf ?_; first | assumption | omega) | (simp [*]; done))) | refine AW_block ?_)
        refine step_ops ?_
        refine g_yes rfl ?_ ?_
        · first | rfl | assumption | (refine decide_eq_true ?_; first | assumption | omega) | (refine nt ?_; first | assumption | omega) | (simp [*]; done)
        refine m_callf rfl A.call (A.spec M y (by omega) hMb hy2) ?_ ?_
        · exact asksK_lend A.bears rfl rfl (lends_cons (lend_sli (by rfl) rfl) (lends_cons lend_v lends_nil))
        repeat (first | (refine step_ops ?_; (first | (refine m_mov (by conv => lhs; whnf) ?_) | (refine m_pick_t rfl ?_ (by conv => lhs; whnf) ?_; (· first | rfl | assumption | (refine decide_eq_true ?_; first | assumption | omega) | (refine nt ?_; first | assumption | omega) | (simp [*]; done))) | (refine m_bsl1 rfl rfl ?_) | (refine m_app1i rfl (by decide) (by rfl) (by first | rfl | omega | (simp; done)) rfl rfl ?_ (by decide) ?_; (· first | omega | (simp; omega))))) | refine end_ops ?_ | refine seq_ops ?_ | refine AW_ops ?_ | (refine cond_t rfl ?_ ?_; (· first | rfl | assumption | (refine decide_eq_true ?_; first | assumption | omega) | (refine nt ?_; first | assumption | omega) | (simp [*]; done))) | refine norm_block ?_)
        refine next_round (M ++ [(y : Int)], 0) ⟨by simp; omega, fun x hx => ?_, Nat.zero_le _, by rw [← hres]; exact congrArg _ (goAt_take _ _ hMl hy2 hf)⟩ (Weak.trans (weak_move (r := 45) (q := 10) rfl (by decide) (by decide)) (weak_st ?_ ?_ ?_ rfl)) ?_
        · rcases List.mem_append.1 hx with hx | hx
          · exact hMb x hx
          · rw [List.mem_singleton.1 hx]; omega
        · (repeat' (first | exact trivial | refine And.intro ?_ ?_)) <;> (first | rfl | skip)
          all_goals (simp (disch := decide) [tm_put_ne', tm_put_none, tm_mem, tm_kill, tm_mv, tm_st, tm_en0, tm_en1, tm_en2, tm_en3, tm_en4, Am.look, kill_fn A.nokill, mv_fn A.nokill])
        · exact ⟨rfl, trivial⟩
        · simp [refsT, refsV, A.norefs, Am.look]
        · exact goMeas_take hMl hy2
      · have hf : fits M y = false := by simpa using hf
        repeat (first | (refine step_ops ?_; ((try (refine g_yes rfl ?_ ?_; (· first | rfl | assumption | (refine decide_eq_true ?_; first | assumption | omega) | (refine nt ?_; first | assumption | omega) | (simp [*]; done) | (refine decide_eq_false ?_; first | assumption | omega) | (refine nf ?_; first | assumption | omega)))); (first | (refine m_mov (by conv => lhs; whnf) ?_) | (refine m_lss rfl rfl ?_) | (refine m_eql rfl rfl ?_) | (refine m_len_sl rfl ?_)))) | refine end_ops ?_ | refine seq_ops ?_ | (refine cond_f rfl ?_ ?_; (· first | rfl | assumption | (refine decide_eq_false ?_; first | assumption | omega) | (refine nf ?_; first | assumption | omega) | (simp [*]; done))) | refine AW_block ?_)
        refine step_ops ?_
        refine g_yes rfl ?_ ?_
        · first | rfl | assumption | (refine decide_eq_true ?_; first | assumption | omega) | (refine nt ?_; first | assumption | omega) | (simp [*]; done)
        refine m_callf rfl A.call (A.spec M y (by omega) hMb hy2) ?_ ?_
        · exact asksK_lend A.bears rfl rfl (lends_cons (lend_sli (by rfl) rfl) (lends_cons lend_v lends_nil))
        repeat (first | (refine step_ops ?_; (first | (refine m_mov (by conv => lhs; whnf) ?_) | (refine m_lss rfl rfl ?_) | (refine m_add rfl rfl ?_ ?_ ?_; (· omega); (· omega)) | (refine m_pick_t rfl ?_ (by conv => lhs; whnf) ?_; (· first | rfl | assumption | (refine decide_eq_true ?_; first | assumption | omega) | (refine nt ?_; first | assumption | omega) | (simp [*]; done))))) | refine end_ops ?_ | refine seq_ops ?_ | refine AW_ops ?_ | (refine cond_t rfl ?_ ?_; (· first | rfl | assumption | (refine decide_eq_true ?_; first | assumption | omega) | (refine nt ?_; first | assumption | omega) | (simp [*]; done))) | (refine cond_f rfl ?_ ?_; (· first | rfl | assumption | (refine decide_eq_false ?_; first | assumption | omega) | (refine nf ?_; first | assumption | omega) | (simp [*]; done))) | refine norm_block ?_)
        refine next_round (M, y + 1) ⟨hM, hMb, hy2, by rw [← hres]; exact congrArg _ (goAt_skip _ _ hMl hy2 hf)⟩ (weak_st ?_ ?_ ?_ rfl) ?_
        · (repeat' (first | exact trivial | refine And.intro ?_ ?_)) <;> (first | rfl | skip)
          all_goals (simp (disch := decide) [tm_put_ne', tm_put_none, tm_mem, tm_kill, tm_mv, tm_st, tm_en0, tm_en1, tm_en2, tm_en3, tm_en4, Am.look, kill_fn A.nokill, mv_fn A.nokill])
        · exact ⟨rfl, trivial⟩
        · simp [refsT, refsV, A.norefs, Am.look]
        · exact goMeas_skip hMl hy2
    · by_cases hM0 : M.length = 0
      · have hr1 : (goAt fits n l g).head? = none := by
          rw [← hres, List.length_eq_zero_iff.1 hM0, goAt_none _ _ (by omega) (by omega)]; rfl
        repeat (first | (refine step_ops ?_; (first | (first | (refine m_mov (by conv => lhs; whnf) ?_) | (refine m_lss rfl rfl ?_) | (refine m_eql rfl rfl ?_) | (refine m_len_sl rfl ?_) | (refine m_pick_f rfl ?_ (by conv => lhs; whnf) ?_; (· first | rfl | assumption | (refine decide_eq_false ?_; first | assumption | omega) | (refine nf ?_; first | assumption | omega) | (simp [*]; done))) | (refine m_nils ?_)) | (refine g_noT rfl ?_ ?_; (· first | rfl | assumption | (refine decide_eq_false ?_; first | assumption | omega) | (refine nf ?_; first | assumption | omega) | (simp [*]; done))))) | refine end_ops ?_ | refine seq_ops ?_ | (refine cond_t rfl ?_ ?_; (· first | rfl | assumption | (refine decide_eq_true ?_; first | assumption | omega) | (refine nt ?_; first | assumption | omega) | (simp [*]; done))) | (refine cond_f rfl ?_ ?_; (· first | rfl | assumption | (refine decide_eq_false ?_; first | assumption | omega) | (refine nf ?_; first | assumption | omega) | (simp [*]; done))) | refine AW_ret ?_ | refine ret_done ?_ | refine ret_then ?_ | refine AW_block ?_ | refine ret_block ?_ | refine ret_round ?_)
        rw [hr1]
        exact outs_tup2 (outs_ints rfl rfl rfl) (outs_b rfl)
      · obtain ⟨q, hq⟩ : ∃ q, M.length = q + 1 := ⟨M.length - 1, by omega⟩
        have hx := hMb _ (getD_mem (show q < M.length by omega))
        obtain ⟨k, hk⟩ := Int.eq_ofNat_of_zero_le hx.1
        have hlen : (M.take q).length = q := List.length_take_of_le (by omega)
        have hsp : M = M.take q ++ [(k : Int)] := by
          have h1 := take_snoc M q 0 (by omega)
          rw [List.take_of_length_le (by omega), hk] at h1
          exact h1
        have hgo : goAt fits n M y = goAt fits n (M.take q) (k + 1) := by
          conv => lhs; rw [hsp]
          rw [goAt_back _ _ (by omega) (by omega), Int.toNat_natCast]
        have hms : goMeas n (M.take q) (k + 1) < goMeas n M y := by
          have := goMeas_back (n := n) (l := M.take q) (x := (k : Int)) (g := y) (by omega)
          rw [← hsp, Int.toNat_natCast] at this
          exact this
        clear hsp
        repeat (first | (refine step_ops ?_; (first | (first | (refine m_mov (by conv => lhs; whnf) ?_) | (refine m_lss rfl rfl ?_) | (refine m_eql rfl rfl ?_) | (refine m_sub rfl rfl ?_ ?_ ?_; (· omega); (· omega)) | (refine m_len_sl rfl ?_) | (refine m_idx_sl rfl rfl ?_ ?_ ?_; (· omega); (· omega)) | (refine m_ld_pti rfl (by rfl) ?_ ?_; (· first | omega | (simp; omega))) | (refine m_pick_f rfl ?_ (by conv => lhs; whnf) ?_; (· first | rfl | assumption | (refine decide_eq_false ?_; first | assumption | omega) | (refine nf ?_; first | assumption | omega) | (simp [*]; done)))) | (refine g_noT rfl ?_ ?_; (· first | rfl | assumption | (refine decide_eq_false ?_; first | assumption | omega) | (refine nf ?_; first | assumption | omega) | (simp [*]; done))))) | refine end_ops ?_ | refine seq_ops ?_ | (refine cond_f rfl ?_ ?_; (· first | rfl | assumption | (refine decide_eq_false ?_; first | assumption | omega) | (refine nf ?_; first | assumption | omega) | (simp [*]; done))) | refine AW_block ?_)
        rw [show (M.length : Int) - 1 = (q : Int) by omega]
        skip
        rw [show M.getD (0 + (q : Int).toNat * 1) 0 = (k : Int) by rw [Int.toNat_natCast, Nat.zero_add, Nat.mul_one]; exact hk]
        repeat (first | (refine step_ops ?_; (first | (refine m_mov (by conv => lhs; whnf) ?_) | (refine m_add rfl rfl ?_ ?_ ?_; (· omega); (· omega)))) | refine end_ops ?_ | refine AW_ops ?_)
        refine step_ops ?_
        refine m_cut_sl (l := 0) (h := q) rfl rfl ⟨_, rfl⟩ (Nat.zero_le _) (by omega) ?_
        repeat (first | (refine step_ops ?_; (refine m_mov (by conv => lhs; whnf) ?_)) | refine end_ops ?_ | refine norm_block ?_)
        refine next_round (M.take q, k + 1) ⟨by show (M.take q).length ≤ _; omega, fun x hx => hMb x (List.mem_of_mem_take hx), by show k + 1 ≤ n; omega, by rw [← hres]; exact congrArg _ hgo.symm⟩ (Weak.trans (weak_shrink 10 q rfl (allv_ints _)) (weak_st ?_ ?_ ?_ rfl)) hms
        · rw [hlen]
          (repeat' (first | exact trivial | refine And.intro ?_ ?_)) <;> (first | rfl | skip)
          all_goals (simp (disch := decide) [tm_put_ne', tm_put_none, tm_mem, tm_kill, tm_mv, tm_st, tm_en0, tm_en1, tm_en2, tm_en3, tm_en4, Am.look, kill_fn A.nokill, mv_fn A.nokill])
        · rw [List.map_take]
          exact ⟨rfl, trivial⟩
        · simp [refsT, refsV, A.norefs, Am.look]
theorem firstFitting_spec {f : FuncId} {fl : List AV} {kk : Nat} {n : Nat} {fits : List Int → Nat → Bool} (A : AsksK Tryd.prog f fl kk n fits) (hn : n ≤ 1000) (h1 : 1 ≤ n) :
    Sp Tryd.prog 69 [.i n, .fn f fl kk] (srchR (goOn fits n n []).head?) := by
  have hs := fittingFrom_spec A [] 0 hn h1 (fun x hx => by simp at hx) (Nat.zero_le _)
  rw [goAt_start _ _ h1] at hs
  unfold srchR at hs ⊢
  generalize hsr : (goOn fits n n []).head? = sr at hs ⊢
  refine spec_of Tryd.func69 rfl cc69 rfl ?_
  unfold ac69
  repeat (first | (refine step_ops ?_; (first | (refine m_mov (by conv => lhs; whnf) ?_) | (refine m_nils ?_))) | refine end_ops ?_ | refine seq_ops ?_)
  refine step_ops ?_
  refine m_callt hs ?_ (allv_ints _) rfl ?_
  · refine lends_cons lend_v (lends_cons lend_nil (lends_cons lend_v (lends_cons ?_ lends_nil)))
    rw [show AS.ev _ (.t 7) = AV.fn f fl kk by (show killV 4 (AV.fn f fl kk) = _; exact kill_fn A.nokill)]
    exact lend_bears A.bears
  repeat (first | (refine step_ops ?_; (first | (refine m_mov (by conv => lhs; whnf) ?_) | (refine m_ext rfl rfl ?_))) | refine end_ops ?_ | refine AW_ret ?_ | refine ret_done ?_)
  exact outs_tup2 (outs_ints rfl rfl rfl) (outs_b rfl)
theorem nextFitting_spec {f : FuncId} {fl : List AV} {kk : Nat} {n : Nat} {fits : List Int → Nat → Bool} (A : AsksK Tryd.prog f fl kk n fits) (hn : n ≤ 1000) (h1 : 1 ≤ n) (L : List Int) (hL : L.length = n) (hb : ∀ x ∈ L, 0 ≤ x ∧ x < n) :
    Sp Tryd.prog 70 [ints L, .fn f fl kk] (srchR ((goOn fits n n []).find? (fun m => comesB L m))) := by
  have hbb : ∀ i < n, ∃ g : Nat, L.getD i 0 = g ∧ g < n := fun i hi => by
    have hr := hb _ (getD_mem (show i < L.length by omega))
    obtain ⟨q, hq⟩ := Int.eq_ofNat_of_zero_le hr.1
    exact ⟨q, hq, by omega⟩
  unfold srchR
  refine spec_of Tryd.func70 rfl cc70 rfl ?_
  unfold ac70
  repeat (first | (refine step_ops ?_; (first | (refine m_mov (by conv => lhs; whnf) ?_) | (refine m_nils ?_))) | refine end_ops ?_ | refine seq_ops ?_ | refine AW_seq ?_ | refine AW_block ?_)
  refine AW_loop (α := Nat) (fun k => k < n ∧ ∀ i < k, fits (L.take i) (L.getD i 0).toNat = true) (fun k => st [(0, ints L), (1, .fn f fl kk), (6, .i k)] []) (fun k => n - k) 0 ⟨by omega, fun i hi => by omega⟩ (weak_st ?_ ?_ ?_ rfl) ?_
  · (repeat' (first | exact trivial | refine And.intro ?_ ?_)) <;> (first | rfl | skip)
    all_goals (simp (disch := decide) [tm_put_ne', tm_put_none, tm_mem, tm_kill, tm_mv, tm_st, tm_en0, tm_en1, tm_en2, tm_en3, tm_en4, Am.look, kill_fn A.nokill, mv_fn A.nokill])
  · exact trivial
  · simp [refsT, refsV, A.norefs, Am.look]
  rintro k ⟨hk, ha⟩
  obtain ⟨j, hj, hjn⟩ := hbb k hk
  have hlt : (L.take k).length = k := List.length_take_of_le (by omega)
  have hend : fits (L.take k) (L.getD k 0).toNat = false ∨ k + 1 = n → Sp Tryd.prog 87 [.i n, ints (L.take k), .i (j + 1), .fn f fl kk] (srchR ((goOn fits n n []).find? (fun m => comesB L m))) := by
    intro he
    rw [find_behind fits n hL hbb hk ha he, hj, Int.toNat_natCast]
    exact fittingFrom_spec A (L.take k) (j + 1) hn (by omega) (fun x hx => hb x (List.mem_of_mem_take hx)) (by omega)
  unfold srchR at hend
  generalize hsr : (goOn fits n n []).find? (fun m => comesB L m) = sr at hend ⊢
  by_cases hc : (k : Int) < L.length - 1
  · have hsp := A.spec (L.take k) j (by omega) (fun x hx => hb x (List.mem_of_mem_take hx)) hjn
    by_cases hf : fits (L.take k) j = true
    · repeat (first | (refine step_tree ?_; ((try (refine g_yes rfl ?_ ?_; (· first | rfl | assumption | (refine decide_eq_true ?_; first | assumption | omega) | (refine nt ?_; first | assumption | omega) | (simp [*]; done) | (refine decide_eq_false ?_; first | assumption | omega) | (refine nf ?_; first | assumption | omega)))); (first | (refine m_mov (by conv => lhs; whnf) ?_) | (refine m_lss rfl rfl ?_) | (refine m_sub rfl rfl ?_ ?_ ?_; (· omega); (· omega)) | (refine m_len_ro rfl ?_) | (refine m_idx1_ro rfl rfl ?_ ?_; (· omega)) | (refine m_ld_rpi rfl ?_ ?_; (· omega)) | (refine m_cut_hi rfl rfl ?_ ?_ ?_; (· first | rfl | omega | simp); (· first | omega | (simp; omega)))))) | refine seq_tree ?_ | refine AW_seq ?_)
      rw [hj]
      skip
      refine step_tree ?_
      refine g_yes rfl ?_ ?_
      · first | rfl | assumption | (refine decide_eq_true ?_; first | assumption | omega) | (refine nt ?_; first | assumption | omega) | (simp [*]; done)
      refine m_callf rfl A.call hsp ?_ ?_
      · exact asksK_lend A.bears rfl rfl (lends_cons (lend_ints rfl) (lends_cons lend_v lends_nil))
      repeat (first | ((first | refine step_ops ?_ | refine step_tree ?_); (first | (refine m_mov (by conv => lhs; whnf) ?_) | (refine m_add rfl rfl ?_ ?_ ?_; (· omega); (· omega)) | (refine m_pick_t rfl ?_ (by conv => lhs; whnf) ?_; (· first | rfl | assumption | (refine decide_eq_true ?_; first | assumption | omega) | (refine nt ?_; first | assumption | omega) | (simp [*]; done))))) | refine end_ops ?_ | refine AW_ops ?_ | refine end_tree ?_ | (refine cond_t rfl ?_ ?_; (· first | rfl | assumption | (refine decide_eq_true ?_; first | assumption | omega) | (refine nt ?_; first | assumption | omega) | (simp [*]; done))) | refine skip_then ?_ | refine AW_block ?_ | refine norm_block ?_)
      refine next_round (k + 1) ⟨by omega, fun i hi => ?_⟩ (weak_st ?_ ?_ ?_ rfl) ?_
      · by_cases hik : i = k
        · subst hik; rw [hj, Int.toNat_natCast]; exact hf
        · exact ha i (by omega)
      · (repeat' (first | exact trivial | refine And.intro ?_ ?_)) <;> (first | rfl | skip)
        all_goals (simp (disch := decide) [tm_put_ne', tm_put_none, tm_mem, tm_kill, tm_mv, tm_st, tm_en0, tm_en1, tm_en2, tm_en3, tm_en4, Am.look, kill_fn A.nokill, mv_fn A.nokill])
      · exact trivial
      · simp [refsT, refsV, A.norefs, Am.look]
      · omega
    · have hf : fits (L.take k) j = false := by simpa using hf
      have hs := hend (.inl (by rw [hj, Int.toNat_natCast]; exact hf))
      repeat (first | (refine step_tree ?_; ((try (refine g_yes rfl ?_ ?_; (· first | rfl | assumption | (refine decide_eq_true ?_; first | assumption | omega) | (refine nt ?_; first | assumption | omega) | (simp [*]; done) | (refine decide_eq_false ?_; first | assumption | omega) | (refine nf ?_; first | assumption | omega)))); (first | (refine m_mov (by conv => lhs; whnf) ?_) | (refine m_lss rfl rfl ?_) | (refine m_sub rfl rfl ?_ ?_ ?_; (· omega); (· omega)) | (refine m_len_ro rfl ?_) | (refine m_idx1_ro rfl rfl ?_ ?_; (· omega)) | (refine m_ld_rpi rfl ?_ ?_; (· omega)) | (refine m_cut_hi rfl rfl ?_ ?_ ?_; (· first | rfl | omega | simp); (· first | omega | (simp; omega)))))) | refine seq_tree ?_ | refine AW_seq ?_)
      rw [hj]
      skip
      refine step_tree ?_
      refine g_yes rfl ?_ ?_
      · first | rfl | assumption | (refine decide_eq_true ?_; first | assumption | omega) | (refine nt ?_; first | assumption | omega) | (simp [*]; done)
      refine m_callf rfl A.call hsp ?_ ?_
      · exact asksK_lend A.bears rfl rfl (lends_cons (lend_ints rfl) (lends_cons lend_v lends_nil))
      repeat (first | (refine step_tree ?_; (first | (refine m_mov (by conv => lhs; whnf) ?_) | (refine m_add rfl rfl ?_ ?_ ?_; (· omega); (· omega)) | (refine m_len_ro rfl ?_) | (refine m_idx1_ro rfl rfl ?_ ?_; (· omega)) | (refine m_ld_rpi rfl ?_ ?_; (· omega)) | (refine m_pick_t rfl ?_ (by conv => lhs; whnf) ?_; (· first | rfl | assumption | (refine decide_eq_true ?_; first | assumption | omega) | (refine nt ?_; first | assumption | omega) | (simp [*]; done))) | (refine m_cut_hi rfl rfl ?_ ?_ ?_; (· first | rfl | omega | simp); (· first | omega | (simp; omega))))) | refine end_tree ?_ | refine seq_tree ?_ | (refine cond_f rfl ?_ ?_; (· first | rfl | assumption | (refine decide_eq_false ?_; first | assumption | omega) | (refine nf ?_; first | assumption | omega) | (simp [*]; done))) | refine norm_then ?_ | refine exit_then ?_ | refine exit_round ?_ | refine AW_exit ?_ | refine exit_block ?_)
      rw [hj]
      skip
      refine step_tree ?_
      refine m_call hs ?_ ?_
      · rw [← hL]
        exact lends_cons lend_v (lends_cons (lend_ints rfl) (lends_cons lend_v (lends_cons (lend_bears A.bears) lends_nil)))
      repeat (first | (refine step_tree ?_; (first | (refine m_mov (by conv => lhs; whnf) ?_) | (refine m_ext rfl rfl ?_))) | refine end_tree ?_ | refine AW_ret ?_ | refine ret_done ?_)
      exact outs_tup2 (outs_ro (allv_ints _)) (outs_b rfl)
  · have hs := hend (.inr (by omega))
    repeat (first | (refine step_tree ?_; (first | (first | (refine m_mov (by conv => lhs; whnf) ?_) | (refine m_lss rfl rfl ?_) | (refine m_add rfl rfl ?_ ?_ ?_; (· omega); (· omega)) | (refine m_sub rfl rfl ?_ ?_ ?_; (· omega); (· omega)) | (refine m_len_ro rfl ?_) | (refine m_idx1_ro rfl rfl ?_ ?_; (· omega)) | (refine m_ld_rpi rfl ?_ ?_; (· omega)) | (refine m_pick_f rfl ?_ (by conv => lhs; whnf) ?_; (· first | rfl | assumption | (refine decide_eq_false ?_; first | assumption | omega) | (refine nf ?_; first | assumption | omega) | (simp [*]; done))) | (refine m_cut_hi rfl rfl ?_ ?_ ?_; (· first | rfl | omega | simp); (· first | omega | (simp; omega)))) | (refine g_noT rfl ?_ ?_; (· first | rfl | assumption | (refine decide_eq_false ?_; first | assumption | omega) | (refine nf ?_; first | assumption | omega) | (simp [*]; done))))) | refine end_tree ?_ | refine seq_tree ?_ | (refine cond_f rfl ?_ ?_; (· first | rfl | assumption | (refine decide_eq_false ?_; first | assumption | omega) | (refine nf ?_; first | assumption | omega) | (simp [*]; done))) | refine AW_seq ?_ | refine norm_then ?_ | refine exit_then ?_ | refine exit_round ?_ | refine AW_exit ?_ | refine exit_block ?_)
    rw [hj]
    skip
    refine step_tree ?_
    refine m_call hs ?_ ?_
    · rw [← hL]
      exact lends_cons lend_v (lends_cons (lend_ints rfl) (lends_cons lend_v (lends_cons (lend_bears A.bears) lends_nil)))
    repeat (first | (refine step_tree ?_; (first | (refine m_mov (by conv => lhs; whnf) ?_) | (refine m_ext rfl rfl ?_))) | refine end_tree ?_ | refine AW_ret ?_ | refine ret_done ?_)
    exact outs_tup2 (outs_ro (allv_ints _)) (outs_b rfl)
end Go.Proofs.YtjgcmbihbeokeaaDoor
namespace Go.Am
theorem comesB_asymm : ∀ a b : List Int, comesB a b = true → comesB b a = false
  | [], _, h => by simp [comesB] at h
  | _ :: _, [], h => by simp [comesB] at h
  | a :: l, b :: m, h => by
    simp only [comesB] at h ⊢
    by_cases e : a = b
    · subst e
      simp only [if_true] at h ⊢
      exact comesB_asymm l m h
    · rw [if_neg e] at h
      rw [if_neg fun hh => e hh.symm]
      have := of_decide_eq_true h
      exact decide_eq_false (by omega)
theorem goOn_sorted (fits : List Int → Nat → Bool) (n : Nat) : ∀ (k : Nat) (l : List Int), (goOn fits n k l).Pairwise fun a b => comesB a b = true
  | 0, l => by simp [goOn]
  | k + 1, l => by
    rw [goOn, List.pairwise_flatMap]
    refine ⟨fun x _ => goOn_sorted fits n k _, ?_⟩
    refine List.Pairwise.filter _ (List.Pairwise.imp ?_ List.pairwise_lt_range)
    intro a b hab x hx y hy
    obtain ⟨r, rfl, _⟩ := goOn_shape fits n _ _ _ hx
    obtain ⟨t, rfl, _⟩ := goOn_shape fits n _ _ _ hy
    rw [List.append_assoc, List.append_assoc, comesB_append]
    have h1 : ¬ (a : Int) = (b : Int) := by omega
    simp only [List.singleton_append, comesB, if_neg h1]
    exact decide_eq_true (by omega)
/-- In a sorted list the first behind the one at j is the next one. -/
theorem find_sorted {A : List (List Int)} (h : A.Pairwise fun a b => comesB a b = true) {j : Nat} (hj : j < A.length) : A.find? (fun m => comesB (A.getD j []) m) = A[j + 1]? := by
  have hs : A = A.take (j + 1) ++ A.drop (j + 1) := (List.take_append_drop _ _).symm
  have hg : A.getD j [] = A[j] := by simp [hj]
  have hpw := List.pairwise_iff_getElem.1 h
  have h1 : (A.take (j + 1)).find? (fun m => comesB (A.getD j []) m) = none := by
    rw [List.find?_eq_none]
    intro m hm
    obtain ⟨i, hi, rfl⟩ := List.mem_iff_getElem.1 hm
    rw [List.length_take] at hi
    rw [List.getElem_take, hg]
    by_cases e : i = j
    · subst e; rw [comesB_self]; simp
    · rw [comesB_asymm _ _ (hpw i j (by omega) hj (by omega))]; simp
  have h2 : (A.drop (j + 1)).find? (fun m => comesB (A.getD j []) m) = A[j + 1]? := by
    by_cases e : j + 1 < A.length
    · rw [List.drop_eq_getElem_cons e, List.find?_cons_of_pos (by rw [hg]; exact hpw j (j + 1) hj e (by omega))]
      simp [e]
    · rw [List.drop_eq_nil_of_le (by omega), List.getElem?_eq_none (by omega)]; rfl
  generalize A.getD j [] = B at h1 h2 ⊢
  have h3 : (A.take (j + 1) ++ A.drop (j + 1)).find? (fun m => comesB B m) = A[j + 1]? := by rw [List.find?_append, h1, Option.none_or, h2]
  rw [← hs] at h3
  exact h3
end Go.Am
namespace Go.Am
mutual
theorem renV_none (f : Nat → Nat) : ∀ x : AV, refsV (fun _ => false) x = true → renV f x = x
  | .any, _ => rfl
  | .v _, _ => rfl
  | .ro _ _ _ _, _ => rfl
  | .rp _, _ => rfl
  | .sl _ _ _ _, h => by simp [refsV] at h
  | .pt _ _, h => by simp [refsV] at h
  | .mp _, h => by simp [refsV] at h
  | .itr _, h => by simp [refsV] at h
  | .ob _, _ => rfl
  | .fn _ l _, h => by simp only [refsV] at h; simp only [renV, renL_none f l h]
  | .rmp _ _ _, _ => rfl
  | .fu _ _ _, _ => rfl
  | .agg l, h => by simp only [refsV] at h; simp only [renV, renL_none f l h]
  | .tup l, h => by simp only [refsV] at h; simp only [renV, renL_none f l h]
theorem renL_none (f : Nat → Nat) : ∀ l : List AV, refsL (fun _ => false) l = true → renL f l = l
  | [], _ => rfl
  | a :: l, h => by
    simp only [refsL, Bool.and_eq_true] at h
    simp only [renL, renV_none f a h.1, renL_none f l h.2]
end
theorem ren_fn {f : Nat → Nat} {g : FuncId} {fl : List AV} {k : Nat} (h : ∀ keep, refsL keep fl = true) : renV f (.fn g fl k) = .fn g fl k := by simp only [renV, renL_none f fl (h _)]
theorem tm_stM {l : List (Nat × AV)} {h : List (Nat × (Bool × List AV))} {r0 b t : Nat} {rows : List (List Int)} : (stM l h r0 b rows).tm t = (look l t).getD .any := rfl
theorem tm_eh2 {a b c : AV} {l : List AV} {hp : Hp} : (enterH (a :: b :: c :: l) hp).tm 2 = c := rfl
theorem srchA (A : List (List Int)) (j : Nat) : (AV.tup [newInts ((A[j]?).getD []), .b (A[j]?).isSome]) = .tup [newInts (A.getD j []), .b (decide (j < A.length))] := by
  have e : (A[j]?).isSome = decide (j < A.length) := by
    by_cases h : j < A.length
    · simp [h]
    · simp [h]
  rw [e, List.getD_eq_getElem?_getD]
end Go.Am
namespace Go.Am
/-- May a function value be asked of each of some lists? -/
structure KeepsX (P : Program) (f : FuncId) (fl : List AV) (k : Nat) (A : List (List Int)) (keep : List Int → Bool) : Prop where
  call : Callable P f
  bears : Bears fl
  norefs : ∀ keep, refsL keep fl = true
  nokill : ∀ r, killL r fl = fl
  spec : ∀ M ∈ A, Sp P f (fl.take k ++ [ints M] ++ fl.drop k) (.b (keep M))
theorem tm_eh1 {a b : AV} {l : List AV} {hp : Hp} : (enterH (a :: b :: l) hp).tm 1 = b := rfl
theorem tm_eh0 {a : AV} {l : List AV} {hp : Hp} : (enterH (a :: l) hp).tm 0 = a := rfl
end Go.Am
namespace Go.Proofs.YtjgcmbihbeokeaaDoor
open Go.Am
attribute [local irreducible] AW Outs Weak Lends Lend Sp aops atree aop1 Then Round InBlock Done
attribute [local irreducible] SpH DoneH
theorem fittingWhere_spec {f g : FuncId} {fl gl : List AV} {kk gk n : Nat} {fits : List Int → Nat → Bool} {keep : List Int → Bool} (hAs : AsksK Tryd.prog f fl kk n fits) (A : List (List Int)) (hA : goOn fits n n [] = A) (F : KeepsX Tryd.prog g gl gk A keep) (hn : n ≤ 12) (h1 : 1 ≤ n) (hal : A.length ≤ 5040) (hmem : ∀ x ∈ A, x.length = n ∧ ∀ y ∈ x, 0 ≤ y ∧ y < n) :
    SpH Tryd.prog 57 [.i n, .fn f fl kk, .fn g gl gk] (fun _ => none) (.sl nbase 1 0 (A.filter keep).length) (matO (A.filter keep)) := by
  have hpb : pbase = 4000000 := rfl
  have hf := firstFitting_spec hAs (by omega) h1
  have hsort : A.Pairwise fun a b => comesB a b = true := hA ▸ goOn_sorted _ _ _ _
  have hnx : ∀ j, j < A.length → Sp Tryd.prog 70 [ints (A.getD j []), .fn f fl kk] (.tup [newInts (A.getD (j + 1) []), .b (decide (j + 1 < A.length))]) := by
    intro j hj
    have hm := hmem _ (show A.getD j [] ∈ A by simp [hj])
    have := nextFitting_spec hAs (by omega) h1 _ hm.1 hm.2
    rw [hA, find_sorted hsort hj] at this
    unfold srchR at this
    rw [srchA] at this
    exact this
  rw [hA, List.head?_eq_getElem?] at hf
  unfold srchR at hf
  rw [srchA] at hf
  have hstat : Static (fun _ => none) (.sl nbase 1 0 (A.filter keep).length) (matO (A.filter keep)) := static_mat1 _
  clear hsort hA
  refine specH_of Tryd.func57 rfl cc57 rfl (by first | exact static_mat1 _ | exact static_mat2 _ _ | assumption) ?_
  unfold ac57
  repeat (first | (refine step_ops ?_; (first | (refine m_mov (by conv => lhs; whnf) ?_) | (refine m_nils ?_))) | refine end_ops ?_ | refine seq_ops ?_ | refine AW_seq ?_)
  refine step_ops ?_
  refine m_callt hf ?_ (allv_ints _) rfl ?_
  · refine lends_cons lend_v (lends_cons (lend_fn ?_) lends_nil)
    rw [hAs.nokill, hAs.nokill]
    exact lends_self hAs.bears _
  repeat (first | (refine step_ops ?_; (first | (refine m_mov (by conv => lhs; whnf) ?_) | (refine m_ext rfl rfl ?_))) | refine end_ops ?_ | refine AW_block ?_)
  refine AW_loop (α := Nat) (fun j => j ≤ A.length) (fun j => stM [(0, .i n), (1, .fn f fl kk), (2, .fn g gl gk), (7, .sl 7 1 0 ((A.take j).filter keep).length), (8, .sl 13 1 0 (A.getD j []).length), (9, .b (decide (j < A.length)))] [(13, (true, (A.getD j []).map AV.i))] 7 1000 ((A.take j).filter keep)) (fun j => A.length - j) 0 (by omega)
    (weak_keep id ?_ ?_ rfl rfl rfl (.inl (by simp [pbase])) ?_ rfl rfl (.inr ⟨rfl, rfl⟩) (fun j hj => by simp at hj)) ?_
  · (repeat' (first | exact trivial | refine And.intro ?_ ?_)) <;> (first | rfl | skip)
    all_goals simp (disch := decide) [tm_put_ne', tm_put_none, tm_mem, tm_kill, tm_stM, tm_eh0, tm_eh1, tm_eh2, Am.look, kill_fn F.nokill, ren_fn F.norefs, kill_fn hAs.nokill, ren_fn hAs.norefs]
  · (repeat' (first | exact trivial | refine And.intro ?_ ?_)) <;> (first | rfl | skip)
  · simp [refsT, refsV, refsL, F.norefs, hAs.norefs, Am.look]
  intro j hj
  have hrl := rowsC_len 1000 ((A.take j).filter keep)
  have hle : ((A.take j).filter keep).length ≤ j := Nat.le_trans (List.length_filter_le ..) (List.length_take_le _ _)
  by_cases hc : j < A.length
  · have hin : A.getD j [] ∈ A := by simp [hc]
    have hm := hmem _ hin
    have hnj := hnx j hc
    have hks := F.spec (A.getD j []) hin
    have hml : (A.getD j []).length ≤ 1048576 := by omega
    by_cases hk : keep (A.getD j []) = true
    · have es : (A.take (j + 1)).filter keep = (A.take j).filter keep ++ [A.getD j []] := by
        rw [take_snoc A j [] hc, List.filter_append, List.filter_cons_of_pos hk]; rfl
      rw [hk] at hks
      repeat (first | (refine step_ops ?_; (refine m_mov (by conv => lhs; whnf) ?_)) | refine end_ops ?_ | refine seq_ops ?_ | (refine cond_t rfl ?_ ?_; (· first | rfl | assumption | (refine decide_eq_true ?_; first | assumption | omega) | (refine nt ?_; first | assumption | omega) | (simp [*]; done))) | refine skip_then ?_ | refine AW_seq ?_ | refine AW_block ?_)
      refine step_ops ?_
      refine m_callf rfl F.call hks ?_ ?_
      · exact asksK_lend F.bears rfl rfl (lends_cons (lend_sli (by rfl) rfl) lends_nil)
      repeat (first | (refine step_ops ?_; (refine m_mov (by conv => lhs; whnf) ?_)) | refine end_ops ?_ | refine AW_ops ?_ | (refine cond_t rfl ?_ ?_; (· first | rfl | assumption | (refine decide_eq_true ?_; first | assumption | omega) | (refine nt ?_; first | assumption | omega) | (simp [*]; done))))
      refine step_ops ?_
      refine m_bsl1d rfl rfl ?_
      refine step_ops ?_
      refine m_app1d rfl (by decide) rfl ?_ rfl rfl rfl ?_ (by decide) ?_
      · simp [rowsC_kill, rowsC_len]
      · omega
      repeat (first | (refine step_ops ?_; (refine m_mov (by conv => lhs; whnf) ?_)) | refine end_ops ?_ | refine AW_ops ?_ | refine norm_then ?_ | refine norm_block ?_)
      refine step_ops ?_
      refine m_callt hnj ?_ (allv_ints _) rfl ?_
      · refine lends_cons (lend_sli (by rfl) rfl) (lends_cons (lend_fn ?_) lends_nil)
        simp only [hAs.nokill]
        exact lends_self hAs.bears _
      repeat (first | (refine step_ops ?_; (first | (refine m_mov (by conv => lhs; whnf) ?_) | (refine m_ext rfl rfl ?_))) | refine end_ops ?_)
      refine next_round (j + 1) (by omega) ?_ ?_
      · rw [es, List.length_append]
        refine weak_push (row := A.getD j []) (fun r => if r = 7 then 29 else if r = 13 then 20 else r) 13 ?_ ?_ rfl rfl rfl (by omega) ?_ rfl (by decide) rfl rfl ?_ ?_ ?_
        · (repeat' (first | exact trivial | refine And.intro ?_ ?_)) <;> (first | rfl | skip)
          all_goals simp (disch := decide) [tm_put_ne', tm_put_none, tm_mem, tm_kill, tm_stM, tm_eh0, tm_eh1, tm_eh2, Am.look, kill_fn F.nokill, ren_fn F.norefs, kill_fn hAs.nokill, ren_fn hAs.norefs]
        · (repeat' (first | exact trivial | refine And.intro ?_ ?_)) <;> (first | rfl | skip)
        · simp [refsT, refsV, refsL, F.norefs, hAs.norefs, Am.look]
        · simp [rowsC_kill, killL_append, killL]
          rfl
        · rfl
        · (intro j hj; simp (disch := first | omega | assumption) only [hp_put, hp_mem_ne, hp_kill_ne]; first | exact stM_row rfl hj | (rw [stM_row rfl hj]; rfl))
      · omega
    · have hkf : keep (A.getD j []) = false := by simpa using hk
      have es : (A.take (j + 1)).filter keep = (A.take j).filter keep := by
        rw [take_snoc A j [] hc, List.filter_append, List.filter_cons_of_neg hk]; simp
      rw [hkf] at hks
      repeat (first | (refine step_ops ?_; (refine m_mov (by conv => lhs; whnf) ?_)) | refine end_ops ?_ | refine seq_ops ?_ | (refine cond_t rfl ?_ ?_; (· first | rfl | assumption | (refine decide_eq_true ?_; first | assumption | omega) | (refine nt ?_; first | assumption | omega) | (simp [*]; done))) | refine skip_then ?_ | refine AW_seq ?_ | refine AW_block ?_)
      refine step_ops ?_
      refine m_callf rfl F.call hks ?_ ?_
      · exact asksK_lend F.bears rfl rfl (lends_cons (lend_sli (by rfl) rfl) lends_nil)
      repeat (first | (refine step_ops ?_; (refine m_mov (by conv => lhs; whnf) ?_)) | refine end_ops ?_ | refine AW_ops ?_ | (refine cond_f rfl ?_ ?_; (· first | rfl | assumption | (refine decide_eq_false ?_; first | assumption | omega) | (refine nf ?_; first | assumption | omega) | (simp [*]; done))) | refine norm_then ?_ | refine norm_block ?_ | refine AW_skip ?_)
      refine step_ops ?_
      refine m_callt hnj ?_ (allv_ints _) rfl ?_
      · refine lends_cons (lend_sli (by rfl) rfl) (lends_cons ?_ lends_nil)
        exact lend_bears hAs.bears
      repeat (first | (refine step_ops ?_; (first | (refine m_mov (by conv => lhs; whnf) ?_) | (refine m_ext rfl rfl ?_))) | refine end_ops ?_)
      refine next_round (j + 1) (by omega) ?_ ?_
      · rw [es]
        refine weak_keep (fun r => if r = 13 then 20 else r) ?_ ?_ rfl rfl rfl (.inl (by omega)) ?_ rfl rfl ?_ ?_
        · (repeat' (first | exact trivial | refine And.intro ?_ ?_)) <;> (first | rfl | skip)
          all_goals simp (disch := decide) [tm_put_ne', tm_put_none, tm_mem, tm_kill, tm_stM, tm_eh0, tm_eh1, tm_eh2, Am.look, kill_fn F.nokill, ren_fn F.norefs, kill_fn hAs.nokill, ren_fn hAs.norefs]
        · (repeat' (first | exact trivial | refine And.intro ?_ ?_)) <;> (first | rfl | skip)
        · simp [refsT, refsV, refsL, F.norefs, hAs.norefs, Am.look]
        · refine .inl ⟨rfl, ?_⟩
          simp [rowsC_kill]
        · (intro j hj; simp (disch := first | omega | assumption) only [hp_put, hp_mem_ne, hp_kill_ne]; first | exact stM_row rfl hj | (rw [stM_row rfl hj]; rfl))
      · omega
  · obtain rfl : j = A.length := by omega
    rw [List.take_length]
    rw [List.take_length] at hle hrl
    repeat (first | (refine step_ops ?_; (refine m_mov (by conv => lhs; whnf) ?_)) | refine end_ops ?_ | refine seq_ops ?_ | (refine cond_f rfl ?_ ?_; (· first | rfl | assumption | (refine decide_eq_false ?_; first | assumption | omega) | (refine nf ?_; first | assumption | omega) | (simp [*]; done))) | refine AW_seq ?_ | refine AW_ret ?_ | refine norm_then ?_ | refine exit_then ?_ | refine exit_round ?_ | refine AW_exit ?_ | refine exit_block ?_)
    refine ret_mat (r0 := 7) (b := 1000) (by omega) (by omega) (by omega) rfl rfl ?_
    (intro j hj; simp (disch := first | omega | assumption) only [hp_put, hp_mem_ne, hp_kill_ne]; first | exact stM_row rfl hj | (rw [stM_row rfl hj]; rfl))
end Go.Proofs.YtjgcmbihbeokeaaDoor
namespace Go.Am
theorem tm_e02 {a b c : AV} {l : List AV} : (enter0 (a :: b :: c :: l)).tm 2 = c := rfl
end Go.Am
namespace Go.Proofs.YtjgcmbihbeokeaaDoor
open Go.Am
attribute [local irreducible] AW Outs Weak Lends Lend Sp aops atree aop1 Then Round InBlock Done
attribute [local irreducible] SpH DoneH SpP
theorem fittingWhere_throws {f g : FuncId} {fl gl : List AV} {kk gk n : Nat} {fits : List Int → Nat → Bool} {ok : Value → Prop} (hAs : AsksK Tryd.prog f fl kk n fits) (A : List (List Int)) (hA : goOn fits n n [] = A) (h0 : 0 < A.length) (hn : n ≤ 12) (h1 : 1 ≤ n) (hlen : (A.getD 0 []).length ≤ 12)
    (hcall : Callable Tryd.prog g) (hbears : Bears gl) (hnokill : ∀ r, killL r gl = gl) (hnorefs : ∀ keep, refsL keep gl = true) (hth : SpP Tryd.prog g (gl.take gk ++ [ints (A.getD 0 [])] ++ gl.drop gk) ok) :
    SpP Tryd.prog 57 [.i n, .fn f fl kk, .fn g gl gk] ok := by
  have hf := firstFitting_spec hAs (by omega) h1
  rw [hA, List.head?_eq_getElem?] at hf
  unfold srchR at hf
  rw [srchA, decide_eq_true h0] at hf
  clear hA
  refine specP_of Tryd.func57 rfl cc57 ?_
  unfold ac57
  repeat (first | (refine step_ops ?_; (first | (refine m_mov (by conv => lhs; whnf) ?_) | (refine m_nils ?_))) | refine end_ops ?_ | refine seq_ops ?_ | refine AW_seq ?_)
  refine step_ops ?_
  refine m_callt hf ?_ (allv_ints _) rfl ?_
  · refine lends_cons lend_v (lends_cons (lend_fn ?_) lends_nil)
    rw [hAs.nokill, hAs.nokill]
    exact lends_self hAs.bears _
  repeat (first | (refine step_ops ?_; (first | (refine m_mov (by conv => lhs; whnf) ?_) | (refine m_ext rfl rfl ?_))) | refine end_ops ?_ | refine AW_block ?_)
  refine AW_loop (α := Unit) (fun _ => True) (fun _ => st [(2, .fn g gl gk), (8, .sl 13 1 0 (A.getD 0 []).length), (9, .b true)] [(13, (true, (A.getD 0 []).map AV.i))]) (fun _ => 0) () trivial (weak_st ?_ ?_ ?_ rfl) ?_
  · (repeat' (first | exact trivial | refine And.intro ?_ ?_)) <;> (first | rfl | skip)
    all_goals simp (disch := decide) [tm_put_ne', tm_put_none, tm_mem, tm_kill, tm_stM, tm_eh2, tm_e02, Am.look, kill_fn hnokill]
  · (repeat' (first | exact trivial | refine And.intro ?_ ?_)) <;> (first | rfl | skip)
  · simp [refsT, refsV, refsL, hnorefs, Am.look]
  intro _ _
  generalize hB : ACode.block 1 _ = B
  repeat (first | (refine step_ops ?_; (refine m_mov (by conv => lhs; whnf) ?_)) | refine end_ops ?_ | refine seq_ops ?_ | (refine cond_t rfl ?_ ?_; (· first | rfl | assumption | (refine decide_eq_true ?_; first | assumption | omega) | (refine nt ?_; first | assumption | omega) | (simp [*]; done))) | refine skip_then ?_ | refine AW_seq ?_)
  subst hB
  refine AW_block (AW_seq (AW_panic 2 (ok := ok) ?_))
  simp only [List.take_succ_cons, List.take_zero]
  repeat (first | (refine step_ops ?_; (refine m_mov (by conv => lhs; whnf) ?_)) | refine end_ops ?_)
  refine ⟨_, rfl, ⟨rfl, .inr ⟨_, _, g, gl, gk, _, rfl, rfl, hcall, hth, ?_⟩⟩, fun v hv => ?_⟩
  · refine asksK_lend hbears rfl rfl (lends_cons (lend_sli (by rfl) rfl) lends_nil)
  · simp only [Then, InBlock, Round]
    exact ⟨v, rfl, hv⟩
end Go.Proofs.YtjgcmbihbeokeaaDoor
namespace Go.Am
variable {P : Program} {N : Nat} {s : AS} {Q : Exit → AS → Prop} {w0 : World} {mu : Nat → Option Nat}
abbrev addD (D : List Deferred) (a : Act) : Act := { a with defers := a.defers ++ D }
theorem put_addD (D : List Deferred) (a : Act) (d : Option Nat) (v : Value) : (addD D a).put d v = addD D (a.put d v) := by cases d <;> rfl
theorem eval_addD (D : List Deferred) (a : Act) : (addD D a).eval = a.eval := by
  funext x
  cases x <;> rfl
theorem wpOps_D {ops : Array Oper} {Q0 Q1 : Exit → Act → World → Prop} (D : List Deferred) (hQ : ∀ e a w, Q0 e a w → Q1 e (addD D a) w) : ∀ (is : List Nat) (a : Act) (w : World), wpOps P ops Q0 is a w → wpOps P ops Q1 is (addD D a) w
  | [], a, w, h => hQ _ _ _ h
  | i :: is, a, w, h => by
    rw [wpOps_cons] at h ⊢
    unfold wpOp at h ⊢
    cases ho : ops[i]? with
    | none =>
      rw [ho] at h
      exact wpOps_D D hQ is a w h
    | some o =>
      rw [ho] at h
      simp only at h ⊢
      split at h
      · rename_i hw
        rw [if_pos hw]
        rcases h with h | ⟨h1, a', w', h2⟩
        · refine .inl ?_
          unfold Oper.wp at h ⊢
          rw [eval_addD]
          generalize (execOp a.eval o).run P w = r at h ⊢
          unfold Oper.upon at h ⊢
          split
          · rw [put_addD]; exact wpOps_D D hQ is _ _ h
          · rw [put_addD]; exact wpOps_D D hQ is _ _ h
          · rename_i d w'
            have e : ({ addD D a with defers := d :: (addD D a).defers } : Act) = addD D { a with defers := d :: a.defers } := rfl
            rw [e, put_addD]; exact wpOps_D D hQ is _ _ h
          · refine Calls.mono h fun e w'' hp => ?_
            cases e with
            | returned v => simp only at hp ⊢; rw [put_addD]; exact wpOps_D D hQ is _ _ hp
            | panicked c => exact hQ _ _ _ hp
            | outgrown =>
              obtain ⟨a', w', h2⟩ := hp
              exact ⟨_, _, hQ _ _ _ h2⟩
          · refine Rows.mono h fun v w'' hp => ?_
            rw [put_addD]; exact wpOps_D D hQ is _ _ hp
          · exact hQ _ _ _ h
          · split at h
            all_goals first | exact h.elim | (rename_i x4 x3 x2 x1 x0; first | exact (x4 _ rfl).elim | exact (x4 _ _ rfl).elim | exact (x4 _ _ _ rfl).elim | exact (x3 _ rfl).elim | exact (x3 _ _ rfl).elim | exact (x3 _ _ _ rfl).elim | exact (x2 _ rfl).elim | exact (x2 _ _ rfl).elim | exact (x2 _ _ _ rfl).elim | exact (x1 _ rfl).elim | exact (x1 _ _ rfl).elim | exact (x1 _ _ _ rfl).elim | exact (x0 _ rfl).elim | exact (x0 _ _ rfl).elim | exact (x0 _ _ _ rfl).elim) | (rename_i x4 x3 x2 x1 x0 _; first | exact (x4 _ rfl).elim | exact (x4 _ _ rfl).elim | exact (x4 _ _ _ rfl).elim | exact (x3 _ rfl).elim | exact (x3 _ _ rfl).elim | exact (x3 _ _ _ rfl).elim | exact (x2 _ rfl).elim | exact (x2 _ _ rfl).elim | exact (x2 _ _ _ rfl).elim | exact (x1 _ rfl).elim | exact (x1 _ _ rfl).elim | exact (x1 _ _ _ rfl).elim | exact (x0 _ rfl).elim | exact (x0 _ _ rfl).elim | exact (x0 _ _ _ rfl).elim)
        · refine .inr ⟨?_, _, _, hQ _ _ _ h2⟩
          unfold Oper.asks at h1 ⊢
          rw [eval_addD]
          exact h1
      · rename_i hw
        rw [if_neg hw, put_addD]
        exact wpOps_D D hQ is _ _ h
/-- The rule on code behind a deferred call. -/
def CWD (P : Program) (N : Nat) (D : List Deferred) (code : Code) (s : AS) (Q : Exit → AS → Prop) : Prop :=
  ∀ w0 mu a w, Simw w0 mu N s a w → code.wp P (fun e a' w' => ∃ a0, a' = addD D a0 ∧ After w0 mu N (Q e) a0 w') (addD D a) w
theorem CWD_seq {x y : Code} {D : List Deferred} (h : CWD P N D x s (Then (fun s' => CWD P N D y s' Q) Q)) : CWD P N D (.seq x y) s Q := by
  intro w0 mu a w hS
  refine wp_seq (wp_mono (h w0 mu a w hS) fun e a' w' hA => ?_)
  obtain ⟨a0, rfl, s', h1, h2⟩ := hA
  cases e with
  | normal => exact h1 w0 mu a0 w' h2
  | _ => exact ⟨a0, rfl, s', h1, h2⟩
theorem CWD_ret {D : List Deferred} (h : Q .ret s) : CWD P N D .ret s Q := fun _ _ a _ hS => wp_ret ⟨a, rfl, s, h, hS⟩
theorem region_inv {id : Nat} {ops : Array Oper} {l : List AOper} (hc : ccode P N (.region id ops false) = some (.ops l)) : ops.toList.mapM (cop P N ops) = some l := by
  simp only [ccode] at hc
  rw [Option.bind_eq_some_iff] at hc
  obtain ⟨l', hl, hc⟩ := hc
  simp only [Bool.false_eq_true, if_false, Option.some.injEq, ACode.ops.injEq] at hc
  rw [hl, hc]
theorem CWD_ops {id : Nat} {ops : Array Oper} {l : List AOper} {D : List Deferred} (hc : ccode P N (.region id ops false) = some (.ops l)) (h : aops P true l s (Q .normal)) : CWD P N D (.region id ops false) s Q := by
  intro w0 mu a w hS
  refine wp_region ?_
  have hcomp := comp_of_mapM ops ops.toList 0 l (fun j => by simp) (region_inv hc)
  rw [Array.length_toList, ← List.range_eq_range'] at hcomp
  exact wpOps_D D (Q0 := fun e a w => e = .normal ∧ After w0 mu N (Q .normal) a w) (fun e a w h => ⟨a, rfl, by rw [h.1]; exact h.2⟩) _ a w (aops_sound (fun a w h => ⟨rfl, h⟩) hcomp hS h)
theorem CWD_panic {id : Nat} {ops : Array Oper} {l : List AOper} {D : List Deferred} (k : Nat) {ok : Value → Prop} (hc : ccode P N (.region id ops false) = some (.ops l))
    (h : aops P true (l.take k) s fun s' => ∃ o, l[k]? = some o ∧ APan P o s' ok ∧ ∀ v, ok v → Q (pan v) s') : CWD P N D (.region id ops false) s Q := by
  intro w0 mu a w hS
  refine wp_region ?_
  have hcomp := comp_of_mapM ops ops.toList 0 l (fun j => by simp) (region_inv hc)
  rw [Array.length_toList, ← List.range_eq_range'] at hcomp
  exact wpOps_D D (Q0 := fun e a w => After w0 mu N (Q e) a w) (fun e a w h => ⟨a, rfl, h⟩) _ a w (aops_panic (Q := Q) (fun s' a w v h1 h2 => ⟨s', h2, h1⟩) hcomp k hS h)
/-- A closure that captured two variables is made, and its call is deferred. -/
def doorD (f : FuncId) (p q : Value) : Deferred := { target := .fn (.func f) #[p, q], args := #[] }
theorem wp_defer {id : Nat} {o0 o1 : Oper} {f t x y : Nat} {a : Act} {w : World} {Q1 : Exit → Act → World → Prop} (h0 : o0.op = .makeFunc (.func f) #[] #[.tmp x, .tmp y]) (h0g : o0.guard = none) (h0d : o0.dst = some t) (h1 : o1.op = .defer { callee := .value (.tmp t), args := #[], argTypes := #[] }) (h1g : o1.guard = none) (h1d : o1.dst = none)
    (hS : Simw w0 mu N s a w) (hxt : x ≠ t) (hyt : y ≠ t) (htN : t < N) (ht1 : s.tm t = .any)
    (hK : ∀ a' : Act, Simw w0 mu N s a' w → a'.tmps.getD x undef = a.tmps.getD x undef → a'.tmps.getD y undef = a.tmps.getD y undef → Q1 .normal (addD [doorD f (a.tmps.getD x undef) (a.tmps.getD y undef)] a') w) :
    (Code.region id #[o0, o1] false).wp P Q1 a w := by
  obtain ⟨hf, phi, ro, hS⟩ := hS
  refine wp_region ?_
  show wpOps P _ _ [0, 1] a w
  rw [wpOps_cons]
  unfold wpOp
  simp only [show (#[o0, o1] : Array Oper)[0]? = some o0 from rfl, Region.wanted, h0g, if_true]
  refine .inl ?_
  unfold Oper.wp
  have r0 : (execOp a.eval o0).run P w = .ok (.value (.func (.func f) #[] #[a.tmps.getD x undef, a.tmps.getD y undef])) w := by
    simp [execOp, h0, Instr.makeFunc, Act.eval]
  rw [r0, Oper.upon_value, h0d]
  rw [wpOps_cons]
  unfold wpOp
  simp only [show (#[o0, o1] : Array Oper)[1]? = some o1 from rfl, Region.wanted, h1g, if_true]
  refine .inl ?_
  unfold Oper.wp
  have hlt : t < a.tmps.size := Nat.lt_of_lt_of_le htN hS.slots
  have e1 : (a.put (some t) (.func (.func f) #[] #[a.tmps.getD x undef, a.tmps.getD y undef])).eval (.tmp t) = .func (.func f) #[] #[a.tmps.getD x undef, a.tmps.getD y undef] := by
    simp [Act.eval, Act.put, hlt]
  have r1 : (execOp (a.put (some t) (.func (.func f) #[] #[a.tmps.getD x undef, a.tmps.getD y undef])).eval o1).run P w = .ok (.defer (doorD f (a.tmps.getD x undef) (a.tmps.getD y undef))) w := by
    simp only [execOp, h1, resolve, e1]
    simp [Deferred.ofValue, doorD]
  rw [r1, Oper.upon_defer, h1d]
  simp only [wpOps]
  have e2 : s.put (some t) .any = s := by
    obtain ⟨tm, hp⟩ := s
    simp only [AS.put, AS.mk.injEq, and_true] at ht1 ⊢
    funext k
    by_cases hk : k = t
    · rw [if_pos hk, hk, ht1]
    · rw [if_neg hk]
  have hS2 := hS.put (d := some t) (fun k hk => by cases hk; exact htN) (x := .any) (v := .func (.func f) #[] #[a.tmps.getD x undef, a.tmps.getD y undef]) (by simp [SimV])
  rw [e2] at hS2
  have e3 : ∀ z, z ≠ t → (a.put (some t) (.func (.func f) #[] #[a.tmps.getD x undef, a.tmps.getD y undef])).tmps.getD z undef = a.tmps.getD z undef := by
    intro z hz
    simp [Act.put, Array.getElem?_setIfInBounds_ne (Ne.symm hz)]
  have hfin := hK (a.put (some t) (.func (.func f) #[] #[a.tmps.getD x undef, a.tmps.getD y undef])) ⟨by rw [put_defers]; exact hf, phi, ro, hS2⟩ (e3 x hxt) (e3 y hyt)
  have e4 : addD [doorD f (a.tmps.getD x undef) (a.tmps.getD y undef)] (a.put (some t) (.func (.func f) #[] #[a.tmps.getD x undef, a.tmps.getD y undef])) =
      ({ a.put (some t) (.func (.func f) #[] #[a.tmps.getD x undef, a.tmps.getD y undef]) with defers := doorD f (a.tmps.getD x undef) (a.tmps.getD y undef) :: (a.put (some t) (.func (.func f) #[] #[a.tmps.getD x undef, a.tmps.getD y undef])).defers } : Act) := by
    simp [addD, put_defers, hf]
  rw [e4] at hfin
  exact hfin
/-- Two variables of the call's own, from now on held to be a caller's: their blocks are told. -/
def muD (b c : Nat) : Nat → Option Nat := fun r => if r = pbase then some b else if r = pbase + 1 then some c else none
def hpD (x y : AV) : List (Nat × (Bool × List AV)) := [(pbase, (false, [x])), (pbase + 1, (true, [y]))]
theorem door_enter {a : Act} {w : World} {r1 r2 r3 x y z : Nat} {cs : List AV} {u v : Value} (hmu : ∀ r, mu r = none) (hS : Simw w0 mu N s a w) (h1 : s.tm x = .pt r1 0) (h2 : s.tm y = .pt r2 0) (h3 : s.tm z = .pt r3 0) (g1 : s.hp r1 = some (true, cs)) (g2 : s.hp r2 = some (false, [.v u])) (g3 : s.hp r3 = some (true, [.v v])) (hr : readL cs = true) (hxy : x ≠ y) (hxz : x ≠ z) (hyz : y ≠ z) (hne : r2 ≠ r3) (hn2 : r2 ≠ r1) (hn3 : r3 ≠ r1) :
    ∃ b c, a.tmps.getD y undef = .pointer (some ⟨b, 0, none⟩) ∧ a.tmps.getD z undef = .pointer (some ⟨c, 0, none⟩) ∧ b ≠ c ∧ w0.heap.size ≤ b ∧ w0.heap.size ≤ c ∧ More w0 w ∧
      Simw w (muD b c) N (st [(x, .rp cs), (y, .pt pbase 0), (z, .pt (pbase + 1) 0)] (hpD (.v u) (.v v))) a w := by
  obtain ⟨hf, phi, ro, h⟩ := hS
  have v1 := h.tms x
  have v2 := h.tms y
  have v3 := h.tms z
  rw [h1] at v1
  rw [h2] at v2
  rw [h3] at v3
  simp only [SimV] at v1 v2 v3
  obtain ⟨_, _, b1, p1, e1, cur1, t1, c1⟩ := v1
  obtain ⟨_, _, b2, p2, e2, cur2, t2, c2⟩ := v2
  obtain ⟨_, _, b3, p3, e3, cur3, t3, c3⟩ := v3
  obtain ⟨cur1, t1, c1, k1, n1, m1⟩ := h.cell g1 p1 c1
  obtain ⟨cur2, t2, c2, k2, n2, m2⟩ := h.cell g2 p2 c2
  obtain ⟨cur3, t3, c3, k3, n3, m3⟩ := h.cell g3 p3 c3
  have hmine : ∀ {r b : Nat}, (r < pbase ∧ Mine w0 mu b ∨ pbase ≤ r ∧ mu r = some b) → w0.heap.size ≤ b := by
    rintro r b (⟨_, h1 | ⟨r', _, h1⟩⟩ | ⟨_, h1⟩)
    · exact h1
    · rw [hmu] at h1; cases h1
    · rw [hmu] at h1; cases h1
  have hb12 : b1 ≠ b2 := fun e => hn2 (h.inj r2 r1 b2 (by rw [g2]; rfl) (by rw [g1]; rfl) p2 (e ▸ p1))
  have hb13 : b1 ≠ b3 := fun e => hn3 (h.inj r3 r1 b3 (by rw [g3]; rfl) (by rw [g1]; rfl) p3 (e ▸ p1))
  have hb23 : b2 ≠ b3 := fun e => hne (h.inj r2 r3 b2 (by rw [g2]; rfl) (by rw [g3]; rfl) p2 (e ▸ p3))
  refine ⟨b2, b3, e2, e3, hb23, hmine m2, hmine m3, ⟨h.os, h.tape, h.output, h.size, fun b hb => h.kept b hb fun r hr => by rw [hmu] at hr; cases hr⟩, hf, muD b2 b3, fun q => q < w.heap.size ∧ q ≠ b2 ∧ q ≠ b3, ?_⟩
  have hm0 : muD b2 b3 pbase = some b2 := by simp [muD]
  have hm1 : muD b2 b3 (pbase + 1) = some b3 := by simp [muD]
  have hmm : ∀ r b, muD b2 b3 r = some b → (r = pbase ∧ b = b2) ∨ (r = pbase + 1 ∧ b = b3) := by
    intro r b hr
    unfold muD at hr
    split at hr
    · cases hr; exact .inl ⟨‹_›, rfl⟩
    · split at hr
      · cases hr; exact .inr ⟨‹_›, rfl⟩
      · cases hr
  have hl0 : (st [(x, .rp cs), (y, .pt pbase 0), (z, .pt (pbase + 1) 0)] (hpD (.v u) (.v v))).hp pbase = some (false, [.v u]) := by simp [st, hpD, look]
  have hl1 : (st [(x, .rp cs), (y, .pt pbase 0), (z, .pt (pbase + 1) 0)] (hpD (.v u) (.v v))).hp (pbase + 1) = some (true, [.v v]) := by simp [st, hpD, look]
  have hll : ∀ r c, (st [(x, .rp cs), (y, .pt pbase 0), (z, .pt (pbase + 1) 0)] (hpD (.v u) (.v v))).hp r = some c → (r = pbase ∧ c = (false, [.v u])) ∨ (r = pbase + 1 ∧ c = (true, [.v v])) := by
    intro r c hr
    simp only [st, hpD, look] at hr
    split at hr
    · cases hr; exact .inl ⟨by simp_all, rfl⟩
    · split at hr
      · cases hr; exact .inr ⟨by simp_all, rfl⟩
      · cases hr
  have hex : ∀ {fl : Bool} {x : Value} {cur : Array Value} {C D : Ctx}, SimR (fl, [.v x]) C cur.toList → SimR (fl, [.v x]) D cur.toList := by
    intro fl x cur C D hs
    unfold SimR at hs ⊢
    cases hl : cur.toList with
    | nil => rw [hl] at hs; simp [SimL] at hs
    | cons q qs => rw [hl] at hs; simpa [SimL, SimV] using hs
  refine ⟨rfl, rfl, rfl, Nat.le_refl _, fun _ _ _ => rfl, fun b cur e f hb => ⟨cur, hb, rfl⟩, h.npb, ⟨h.goodW, fun r b hr => ?_⟩, fun b hb => hb.1, fun r r' b q1 q2 q3 q4 => ?_, fun r c hr => ?_, fun t => ?_, h.slots⟩
  · rcases hmm r b hr with ⟨_, rfl⟩ | ⟨_, rfl⟩
    · exact h.regGood g2 p2
    · exact h.regGood g3 p3
  · rcases hmm r b q3 with ⟨rfl, rfl⟩ | ⟨rfl, rfl⟩ <;> rcases hmm r' _ q4 with ⟨rfl, e⟩ | ⟨rfl, e⟩
    · rfl
    · exact absurd e hb23
    · exact absurd e.symm hb23
    · rfl
  · rcases hll r c hr with ⟨rfl, rfl⟩ | ⟨rfl, rfl⟩
    · exact .inr (.inl ⟨b2, cur2, t2, hm0, c2, fun e => e.2.1 rfl, .inr ⟨Nat.le_refl _, hm0⟩, hex k2⟩)
    · exact .inr (.inl ⟨b3, cur3, t3, hm1, c3, fun e => e.2.2 rfl, .inr ⟨Nat.le_succ _, hm1⟩, hex k3⟩)
  · by_cases htx : t = x
    · subst htx
      have : (st [(t, .rp cs), (y, .pt pbase 0), (z, .pt (pbase + 1) 0)] (hpD (.v u) (.v v))).tm t = .rp cs := by simp [st, look]
      rw [this]
      simp only [SimV]
      refine ⟨b1, 0, cur1, t1, (0, 0), e1, c1, ⟨lt_of_get c1, hb12, hb13⟩, ?_⟩
      rw [List.drop_zero]
      simp only [SimR, if_true] at k1
      exact SimL.read cs (ctx w0 w ro phi s).out _ _ hr rfl (fun b hb => ⟨h.rob b hb, fun e => n2 (e ▸ hb), fun e => n3 (e ▸ hb)⟩) k1
    by_cases hty : t = y
    · subst hty
      have : (st [(x, .rp cs), (t, .pt pbase 0), (z, .pt (pbase + 1) 0)] (hpD (.v u) (.v v))).tm t = .pt pbase 0 := by simp [st, look, htx]
      rw [this]
      simp only [SimV]
      exact ⟨rfl, by simp only [ctx]; rw [hl0]; rfl, b2, hm0, e2, cur2, t2, c2⟩
    by_cases htz : t = z
    · subst htz
      have : (st [(x, .rp cs), (y, .pt pbase 0), (t, .pt (pbase + 1) 0)] (hpD (.v u) (.v v))).tm t = .pt (pbase + 1) 0 := by simp [st, look, htx, hty]
      rw [this]
      simp only [SimV]
      exact ⟨rfl, by simp only [ctx]; rw [hl1]; rfl, b3, hm1, e3, cur3, t3, c3⟩
    have : (st [(x, .rp cs), (y, .pt pbase 0), (z, .pt (pbase + 1) 0)] (hpD (.v u) (.v v))).tm t = .any := by simp [st, look, htx, hty, htz]
    rw [this]
    simp [SimV]
/-- A result that lies in a single cell. -/
theorem rv1_run {w w' : World} {tm : Array Value} {phi : Nat → Option Nat} {ro : Nat → Prop} (hS : Sim w mu N s tm w' phi ro) {a r : Nat} {t : TypeId} {fl : Bool} {cs : List AV} {x : AV} (ht : shapeT P t = some none) (h1 : s.tm a = .pt r 0) (h2 : s.hp r = some (fl, cs)) (h3 : cs[0]? = some x) :
    ∃ y, (resOne tm (.cell a t)).run P w' = .ok y w' ∧ SimV x (ctx w w' ro phi s) y := by
  have hS' : Sim w mu N s ({ tmps := tm, defers := [] } : Act).tmps w' phi ro := hS
  obtain ⟨d, hd, hd1, hd2⟩ := shapeT_none ht
  have hv := hS.tms a
  rw [h1] at hv
  simp only [SimV] at hv
  obtain ⟨_, _, b, hb, hy, cur0, e0, hcell0⟩ := hv
  obtain ⟨cur, e, hcell, hsim, _⟩ := hS'.cell h2 hb hcell0
  obtain ⟨y, hy1, hy2⟩ := hsim.get h3
  refine ⟨y, ?_, hy2⟩
  have hrun := run_load_one (P := P) hd hd1 hd2 hcell (off := 0) (by simpa using hy1)
  have hld : (loadVar t ⟨b, 0, none⟩).run P w' = .ok y w' := by
    simpa [Instr.loadAt, Instr.sureAddr] using hrun
  simp [resOne, hy, asAddr, hld]
theorem run_two {fn : Func} {tm : Array Value} {w : World} {r1 r2 : ResultVar} {y1 y2 : Value} (hr : fn.results = #[r1, r2]) (h1 : (resOne tm r1).run P w = .ok y1 w) (h2 : (resOne tm r2).run P w = .ok y2 w) : (results fn tm).run P w = .ok (.tuple #[y1, y2]) w := by
  have hr0 : results fn tm = (do let vs ← fn.results.mapM (resOne tm); pure (if h : vs.size = 1 then vs[0] else .tuple vs)) := rfl
  have hl : (fn.results.toList.mapM (m := Sem) (resOne tm)).run P w = .ok [y1, y2] w := by
    rw [hr]
    simp only [List.mapM_cons, List.mapM_nil, Sem.run_bind, h1, h2, Result.andThen_ok, Sem.run_pure]
  have hm : (fn.results.mapM (m := Sem) (resOne tm)).run P w = .ok #[y1, y2] w := by
    rw [Array.mapM_eq_mapM_toList, Sem.run_map, hl]
    rfl
  rw [hr0, Sem.run_bind, hm]
  simp
/-- What is handed out where a call ends. -/
theorem finD {w w' : World} {tm : Array Value} {phi : Nat → Option Nat} {ro : Nat → Prop} {hout : Hp} {res : AV} (w1 : World) (hS : Sim w mu N s tm w' phi ro) (hst : Static (fun _ => none) res hout) (hmu : ∀ r b, mu r = some b → r < gvb) (g : Nat → Nat)
    (hhas : ∀ r c, hout r = some c → ∃ c0, s.hp (g r) = some c0 ∧ (c0 = renR g c ∨ (c.2 = [] ∧ c0.2 = []))) (hfresh : ∀ r, (hout r).isSome = true → g r < pbase) (hgi : ∀ r r', (hout r).isSome = true → (hout r').isSome = true → g r = g r' → r = r') :
    Inj hout (fun r => phi (g r)) ∧ (∀ r b, (hout r).isSome = true → phi (g r) = some b → w.heap.size ≤ b) ∧ Regs (ctxX w1 w' (fun r => phi (g r)) hout) hout ∧
      ∀ v, SimV (renV g res) (ctx w w' ro phi s) v → SimV res (ctxX w1 w' (fun r => phi (g r)) hout) v := by
  have hlv : ∀ r, (hout r).isSome = true → (s.hp (g r)).isSome = true := by
    intro r hr
    obtain ⟨c, hc⟩ := Option.isSome_iff_exists.1 hr
    obtain ⟨c0, h1, _⟩ := hhas r c hc
    rw [h1]; rfl
  have hmine : ∀ {b : Nat}, Mine w mu b → w.heap.size ≤ b := by
    rintro b (h1 | ⟨r, h1, h2⟩)
    · exact h1
    · have := hmu r b h2; omega
  refine ⟨fun r r' b h1 h2 h3 h4 => hgi r r' h1 h2 (hS.inj _ _ b (hlv r h1) (hlv r' h2) h3 h4), fun r b h1 h3 => ?_, fun r c hc => ?_, fun v hv => ?_⟩
  · obtain ⟨c, hc⟩ := Option.isSome_iff_exists.1 h1
    have hlt := hfresh r h1
    obtain ⟨c0, hh0, _⟩ := hhas r c hc
    rcases hS.liv _ _ hh0 with ⟨k1, _⟩ | ⟨b', _, _, k1, _, _, k4, _⟩ | ⟨b', _, _, k1, _, _, _, k4⟩
    · rw [k1] at h3; cases h3
    · rw [k1] at h3; cases h3
      rcases k4 with k4 | k4
      · exact hmine k4.2
      · omega
    · rw [k1] at h3; cases h3
      rcases k4 with k4 | k4
      · exact hmine k4.2
      · omega
  · obtain ⟨ho, hrf⟩ := hst.own r c hc
    obtain ⟨c0, hh0, hc0⟩ := hhas r c hc
    rcases hS.liv _ _ hh0 with ⟨k1, k2, _⟩ | ⟨b, cur, e', k1, k2, _, _, k5⟩ | ⟨b, o, h0, k1, k2, k3, _⟩
    · refine .inl ⟨k1, ?_⟩
      rcases hc0 with rfl | hc0
      · obtain ⟨fl, cs⟩ := c
        simp only [renR, renL_map] at k2
        exact List.map_eq_nil_iff.1 k2
      · exact hc0.1
    · rcases hc0 with rfl | hc0
      case inr => exact .inr (.inl ⟨b, cur, e', k1, k2, by unfold SimR; rw [hc0.1]; simp [SimL]⟩)
      refine .inr (.inl ?_)
      exact ⟨b, cur, e', k1, k2, simR_in (q := false) (C := ctxX w1 w' (fun r => phi (g r)) hout) (D := ctx w w' ro phi s) rfl (fun e => by cases e) (fun _ => rfl) (fun _ r _ => rfl) ho hrf k5⟩
    · rcases hc0 with rfl | hc0
      · exact .inr (.inr ⟨b, o, renR_ob h0, k1, k2, k3⟩)
      · rw [h0] at hc0; simp at hc0
  · exact simV_in false g (ctxX w1 w' (fun r => phi (g r)) hout) (ctx w w' ro phi s) rfl (fun e => by cases e) (fun _ => rfl) (fun _ r _ => rfl) res _ hst.res.1 hst.res.2 hv
end Go.Am
namespace Go.Am
theorem readL_plain : ∀ {l : List AV}, l.all plainV = true → readL l = true
  | [], _ => rfl
  | x :: l, h => by
    rw [List.all_cons, Bool.and_eq_true] at h
    have hl := readL_plain h.2
    cases x <;> first | (simp [plainV] at h; done) | (simp only [readL, readV, hl, Bool.and_self])
end Go.Am
namespace Go.Proofs.YtjgcmbihbeokeaaDoor
open Go.Am
attribute [local irreducible] AW Outs Weak Lends Lend Sp aops atree aop1 Then Round InBlock Done
attribute [local irreducible] SpM DoneM SpH DoneH SpP
theorem solve2_spec (M : List Int) (y : Nat) (hM : M.length ≤ 1048576) : Sp Tryd.prog 53 [ints M, .i y] (.b (newN M y)) := by
  unfold newN
  refine spec_of Tryd.func53 rfl cc53 rfl ?_
  unfold ac53
  repeat (first | (refine step_ops ?_; (first | (refine m_mov (by conv => lhs; whnf) ?_) | (refine m_not rfl ?_))) | refine end_ops ?_ | refine seq_ops ?_ | refine AW_ops ?_ | refine AW_seq ?_ | refine AW_ret ?_ | refine ret_done ?_ | refine norm_then ?_ | refine ret_then ?_ | refine exit_then ?_)
  (refine step_ops ?_); (apply m_call (slicesContains_spec M y hM)); (· repeat (first | exact lends_nil | (refine lends_cons ?_ ?_; (· (first | exact lend_v | (refine lend_roM rfl; done) | (refine lend_mat rfl ?_; intro j hj; simp (disch := first | omega | assumption) only [hp_put, hp_mem_ne, hp_kill_ne]; first | exact stM_row rfl hj | (rw [stM_row rfl hj]; rfl)) | (refine lend_ints ?_; first | rfl | omega) | (refine lend_sli (by rfl) ?_; first | rfl | omega | (simp; done)) | (refine lend_pln rfl; done) | (refine lend_plns rfl rfl; done) | (refine lend_txr rfl; done) | (refine lend_txs rfl rfl; done) | exact lend_any | (refine lend_agg ?_; first | rfl | assumption | (simp [plainV]; done)))))))
  repeat (first | (refine step_ops ?_; (first | (refine m_mov (by conv => lhs; whnf) ?_) | (refine m_not rfl ?_))) | refine end_ops ?_ | refine seq_ops ?_ | refine AW_ops ?_ | refine AW_seq ?_ | refine AW_ret ?_ | refine ret_done ?_ | refine norm_then ?_ | refine ret_then ?_ | refine exit_then ?_)
  exact outs_b rfl
theorem leftAsks (n : Nat) (hn : n ≤ 12) : AsksK Tryd.prog 53 [] 0 n newN where
  call := ⟨_, Tryd.func53, by rfl, by rfl⟩
  bears := fun hp x hx => by cases hx
  norefs := fun _ => rfl
  nokill := fun _ => rfl
  spec := fun M y h1 _ _ => solve2_spec M y (by omega)
/-- What the closure that asks all clues bears. -/
abbrev pzR (n : Nat) (C : List Clu) : List AV := [.rp [.i n, .ro false 3 (cls C) C.length]]
theorem solve3_spec (n : Nat) (C : List Clu) (M : List Int) (hC : C.length ≤ 6) (h : IsEx M) (hn : M.length = n) (hcl : ∀ c ∈ C, IsClu n c) : Sp Tryd.prog 55 ([ints M] ++ pzR n C) (.b (allFit C M)) := by
  have hL : M.length ≤ 1048576 := by have := h.2.1; omega
  have hf := fitsAll_spec n C M hC h hn hcl
  unfold allFit
  show Sp _ _ [ints M, .rp [.i n, .ro false 3 (cls C) C.length]] _
  refine spec_of Tryd.func55 rfl cc55 rfl ?_
  unfold ac55
  repeat (first | (refine step_ops ?_; (first | (refine m_mov (by conv => lhs; whnf) ?_) | (refine m_ld_rpi rfl ?_ ?_; (· omega)) | (refine m_ld_pti rfl (by rfl) ?_ ?_; (· first | omega | (simp; omega))) | (apply m_ld_ptb; (· rfl); (· rfl); (· assumption)) | (apply m_ld_rp; (· rfl); (· rfl)) | (apply m_ld_pt; (· rfl); (· rfl); (· rfl)) | (refine m_fa rfl ?_) | (refine m_fa_rp rfl ?_))) | refine end_ops ?_ | refine seq_ops ?_ | refine AW_ops ?_ | refine AW_seq ?_ | refine AW_ret ?_ | refine ret_done ?_ | refine norm_then ?_ | refine ret_then ?_ | refine exit_then ?_)
  refine step_ops ?_
  refine m_call hf (lends_cons lend_cls (lends_cons (lend_ints ?_) lends_nil)) ?_
  · rfl
  repeat (first | (refine step_ops ?_; (first | (refine m_mov (by conv => lhs; whnf) ?_) | (refine m_ld_rpi rfl ?_ ?_; (· omega)) | (refine m_ld_pti rfl (by rfl) ?_ ?_; (· first | omega | (simp; omega))) | (apply m_ld_ptb; (· rfl); (· rfl); (· assumption)) | (apply m_ld_rp; (· rfl); (· rfl)) | (apply m_ld_pt; (· rfl); (· rfl); (· rfl)) | (refine m_fa rfl ?_) | (refine m_fa_rp rfl ?_))) | refine end_ops ?_ | refine seq_ops ?_ | refine AW_ops ?_ | refine AW_seq ?_ | refine AW_ret ?_ | refine ret_done ?_ | refine norm_then ?_ | refine ret_then ?_ | refine exit_then ?_)
  exact outs_b rfl
theorem solve3_throws (n : Nat) (C : List Clu) (M : List Int) (hC : C.length ≤ 6) (h : IsEx M) (hn : M.length = n) (hbad : ∃ c ∈ C, ¬ IsClu n c) : SpP Tryd.prog 55 ([ints M] ++ pzR n C) NoV := by
  have hth := fitsAll_throws n C M hC h hn hbad
  show SpP _ _ [ints M, .rp [.i n, .ro false 3 (cls C) C.length]] _
  refine specP_of Tryd.func55 rfl cc55 ?_
  unfold ac55
  refine seq_ops ?_
  ((first | (refine step_ops ?_; (first | (refine m_mov (by conv => lhs; whnf) ?_) | (refine m_ld_rpi rfl ?_ ?_; (· omega)) | (refine m_ld_pti rfl (by rfl) ?_ ?_; (· first | omega | (simp; omega))) | (apply m_ld_ptb; (· rfl); (· rfl); (· assumption)) | (apply m_ld_rp; (· rfl); (· rfl)) | (apply m_ld_pt; (· rfl); (· rfl); (· rfl)) | (refine m_fa rfl ?_) | (refine m_fa_rp rfl ?_))) | refine end_ops ?_ | refine seq_ops ?_ | refine AW_ops ?_ | refine AW_seq ?_ | refine AW_ret ?_ | refine ret_done ?_ | refine norm_then ?_ | refine ret_then ?_ | refine exit_then ?_))
  refine end_ops ?_
  refine AW_seq (AW_panic 3 (ok := NoV) ?_)
  simp only [List.take_succ_cons, List.take_zero]
  repeat (first | (refine step_ops ?_; (first | (refine m_mov (by conv => lhs; whnf) ?_) | (refine m_ld_rpi rfl ?_ ?_; (· omega)) | (refine m_ld_pti rfl (by rfl) ?_ ?_; (· first | omega | (simp; omega))) | (apply m_ld_ptb; (· rfl); (· rfl); (· assumption)) | (apply m_ld_rp; (· rfl); (· rfl)) | (apply m_ld_pt; (· rfl); (· rfl); (· rfl)) | (refine m_fa rfl ?_) | (refine m_fa_rp rfl ?_))) | refine end_ops ?_ | refine seq_ops ?_ | refine AW_ops ?_ | refine AW_seq ?_ | refine AW_ret ?_ | refine ret_done ?_ | refine norm_then ?_ | refine ret_then ?_ | refine exit_then ?_)
  refine ⟨_, rfl, ⟨rfl, .inl ⟨_, _, _, rfl, hth, ?_⟩⟩, fun v hv => ?_⟩
  · refine lends_cons lend_cls (lends_cons (lend_ints ?_) lends_nil)
    rfl
  · simp only [Then]
    exact ⟨v, rfl, hv⟩
theorem allN_mem {n : Nat} (h1 : 1 ≤ n) (h5 : n ≤ 5) {x : List Int} (hx : x ∈ goOn newN n n []) : IsEx x ∧ x.length = n ∧ ∀ y ∈ x, 0 ≤ y ∧ y < (n : Int) := by
  obtain ⟨k1, k2, k3⟩ := goOn_pm newN_new n [] List.nodup_nil (by simp) x hx
  simp only [List.length_nil, Nat.zero_add] at k3
  exact ⟨ex_of h1 h5 k3 k1 k2, k3, k2⟩
theorem allN_len {n : Nat} (h5 : n ≤ 5) : (goOn newN n n []).length ≤ 120 := by
  have h1 := goOn_fac (n := n) newN_new n [] (by simp) List.nodup_nil (by simp)
  have h3 : ∀ k < 6, facR k ≤ 120 := by decide
  have := h3 n (by omega)
  omega
theorem allN_pos : ∀ n < 6, 0 < (goOn newN n n []).length := by decide +kernel
theorem allKeeps (n : Nat) (C : List Clu) (h1 : 1 ≤ n) (h5 : n ≤ 5) (hC : C.length ≤ 6) (hcl : ∀ c ∈ C, IsClu n c) : KeepsX Tryd.prog 55 (pzR n C) 0 (goOn newN n n []) (allFit C) where
  call := ⟨_, Tryd.func55, by rfl, by rfl⟩
  bears := bears_read (by
    show readL [.rp [.i n, .ro false 3 (cls C) C.length]] = true
    simp [readL, readV, readL_plain (cls_plain C)])
  norefs := fun _ => rfl
  nokill := fun _ => rfl
  spec := fun M hM => by
    obtain ⟨k1, k2, _⟩ := allN_mem h1 h5 hM
    exact solve3_spec n C M hC k1 k2 hcl
/-- All solutions, asx the code finds them. -/
theorem findAll_spec (n : Nat) (C : List Clu) (h1 : 1 ≤ n) (h5 : n ≤ 5) (hC : C.length ≤ 6) (hcl : ∀ c ∈ C, IsClu n c) :
    SpH Tryd.prog 57 [.i n, .fn 53 [] 0, .fn 55 (pzR n C) 0] (fun _ => none) (.sl nbase 1 0 (sol n C).length) (matO (sol n C)) := by
  have hl := allN_len h5
  exact fittingWhere_spec (leftAsks n (by omega)) _ rfl (allKeeps n C h1 h5 hC hcl) (by omega) h1 (by omega) fun x hx => (allN_mem h1 h5 hx).2
theorem findAll_throws (n : Nat) (C : List Clu) (h1 : 1 ≤ n) (h5 : n ≤ 5) (hC : C.length ≤ 6) (hbad : ∃ c ∈ C, ¬ IsClu n c) :
    SpP Tryd.prog 57 [.i n, .fn 53 [] 0, .fn 55 (pzR n C) 0] NoV := by
  have h0 := allN_pos n (by omega)
  have hm : (goOn newN n n []).getD 0 [] ∈ goOn newN n n [] := by
    rw [List.getD_eq_getElem?_getD, List.getElem?_eq_getElem h0]
    exact List.getElem_mem h0
  obtain ⟨k1, k2, _⟩ := allN_mem h1 h5 hm
  exact fittingWhere_throws (leftAsks n (by omega)) _ rfl h0 (by omega) h1 (by omega) ⟨_, Tryd.func55, by rfl, by rfl⟩ (bears_read (by
    show readL [.rp [.i n, .ro false 3 (cls C) C.length]] = true
    simp [readL, readV, readL_plain (cls_plain C)])) (fun _ => rfl) (fun _ => rfl) (solve3_throws n C _ hC k1 k2 hbad)
end Go.Proofs.YtjgcmbihbeokeaaDoor
namespace Go.Proofs.YtjgcmbihbeokeaaDoor
open Go.Am
attribute [local irreducible] AW Outs Weak Lends Lend Sp aops atree aop1 Then Round InBlock Done
attribute [local irreducible] SpM DoneM DoneH SpP
abbrev Sv0 (n : Int) (C : List Clu) : AS := st [(1, .pt 1 0), (2, .pt 2 0), (3, .pt 3 0)] [(1, (true, [.i n, .ro false 3 (cls C) C.length])), (2, (false, [.v (.slice none 0 0)])), (3, (true, [.v (.bool false)]))]
abbrev Sv1 (n : Int) (C : List Clu) : AS := st [(1, .rp [.i n, .ro false 3 (cls C) C.length]), (2, .pt pbase 0), (3, .pt (pbase + 1) 0)] (hpD (.v (.slice none 0 0)) (.v (.bool false)))
set_option maxRecDepth 8000 in
theorem solve_code : ∃ A B o0 o1 i3 i4 p4 i5 p5 i6 p6, Tryd.f37.body = some (.seq A (.seq B (.seq (.region i3 #[o0, o1] false) (.seq (.region i4 p4 false) (.seq (.region i5 p5 false) (.seq (.region i6 p6 false) .ret)))))) ∧
    ccode Tryd.prog (min Tryd.f37.ntmps pbase) A = some (sqa ac37) ∧ ccode Tryd.prog (min Tryd.f37.ntmps pbase) B = some (sqa (sqb ac37)) ∧
    (o0.op = .makeFunc (.func 52) #[] #[.tmp 2, .tmp 3] ∧ o0.guard = none ∧ o0.dst = some 20 ∧ o1.op = .defer { callee := .value (.tmp 20), args := #[], argTypes := #[] } ∧ o1.guard = none ∧ o1.dst = none) ∧
    ccode Tryd.prog (min Tryd.f37.ntmps pbase) (.region i4 p4 false) = some (sqa (sqb (sqb (sqb ac37)))) ∧
    ccode Tryd.prog (min Tryd.f37.ntmps pbase) (.region i5 p5 false) = some (sqa (sqb (sqb (sqb (sqb ac37))))) ∧
    ccode Tryd.prog (min Tryd.f37.ntmps pbase) (.region i6 p6 false) = some (sqa (sqb (sqb (sqb (sqb (sqb ac37)))))) :=
  ⟨_, _, _, _, _, _, _, _, _, _, _, rfl, by kernel_rfl, by kernel_rfl, ⟨rfl, rfl, rfl, rfl, rfl, rfl⟩, by kernel_rfl, by kernel_rfl, by kernel_rfl⟩
/-- The first part: variables are made. -/
theorem solve_A (g : Int) (C : List Clu) : AW Tryd.prog (min Tryd.f37.ntmps pbase) (sqa ac37) (enterH [pzl g C] (fun _ => none)) (fun e s' => e = .normal ∧ Weak s' (Sv0 g C)) := by
  simp only [sqa, ac37]
  refine AW_ops ?_
  refine step_ops ?_
  refine m_box (l := [.i g, .ro false 3 (cls C) C.length]) rfl rfl ?_
  refine step_ops ?_
  refine m_allocd ?_
  refine step_ops ?_
  refine m_alloc ?_
  refine end_ops ⟨rfl, ?_⟩
  refine weak_st ?_ ?_ rfl rfl
  · (repeat' (first | exact trivial | refine And.intro ?_ ?_)) <;> (first | rfl | skip)
  · (repeat' (first | exact trivial | refine And.intro ?_ ?_)) <;> (first | rfl | skip)
theorem solve_B (n : Nat) (C : List Clu) (h1 : 1 ≤ n) (h5 : n ≤ 5) (hC : C.length ≤ 6) : AW Tryd.prog (min Tryd.f37.ntmps pbase) (sqa (sqb ac37)) (Sv0 n C) (fun e s' => e = .normal ∧ Weak s' (Sv0 n C)) := by
  simp only [sqa, sqb, ac37]
  repeat (first | (refine step_ops ?_; ((try (refine g_yes rfl ?_ ?_; (· first | rfl | assumption | (refine decide_eq_true ?_; first | assumption | omega) | (refine nt ?_; first | assumption | omega) | (simp [*]; done) | (refine decide_eq_false ?_; first | assumption | omega) | (refine nf ?_; first | assumption | omega)))); (first | (refine m_mov (by conv => lhs; whnf) ?_) | (refine m_lss rfl rfl ?_) | (refine m_gtr rfl rfl ?_) | (refine m_len_ro rfl ?_) | (apply m_ld_pt; (· rfl); (· rfl); (· rfl)) | (refine m_pick_f rfl ?_ (by conv => lhs; whnf) ?_; (· first | rfl | assumption | (refine decide_eq_false ?_; first | assumption | omega) | (refine nf ?_; first | assumption | omega) | (simp [*]; done))) | (refine m_fa rfl ?_)))) | refine end_ops ?_ | refine seq_ops ?_ | (refine cond_f rfl ?_ ?_; (· first | rfl | assumption | (refine decide_eq_false ?_; first | assumption | omega) | (refine nf ?_; first | assumption | omega) | (simp [*]; done))) | refine AW_skip ?_)
  refine ⟨rfl, ?_⟩
  refine weak_st ?_ ?_ rfl rfl
  · (repeat' (first | exact trivial | refine And.intro ?_ ?_)) <;> (first | rfl | skip)
  · (repeat' (first | exact trivial | refine And.intro ?_ ?_)) <;> (first | rfl | skip)
/-- What stands where the door is left with all solutions. -/
def EndY (R : List (List Int)) : Exit → AS → Prop := fun e s => e = .ret ∧ s.tm 2 = .pt pbase 0 ∧ s.tm 3 = .pt (pbase + 1) 0 ∧ s.hp pbase = some (false, [.sl 900 1 0 R.length]) ∧ s.hp (pbase + 1) = some (true, [.b true]) ∧ s.hp 900 = some (false, rowsC 1000 R) ∧ ∀ j, j < R.length → s.hp (1000 + j) = some (true, (R.getD j []).map AV.i)
def EndN : Exit → AS → Prop := fun e s => (∃ v, e = pan v ∧ NoV v) ∧ s.tm 2 = .pt pbase 0 ∧ s.tm 3 = .pt (pbase + 1) 0 ∧ s.hp pbase = some (false, [.v (.slice none 0 0)]) ∧ s.hp (pbase + 1) = some (true, [.b false])
theorem solve_yes (n : Nat) (C : List Clu) (h1 : 1 ≤ n) (h5 : n ≤ 5) (hC : C.length ≤ 6) (hcl : ∀ c ∈ C, IsClu n c) {D : List Deferred} {i4 i5 i6 : Nat} {p4 p5 p6 : Array Oper}
    (c4 : ccode Tryd.prog (min Tryd.f37.ntmps pbase) (.region i4 p4 false) = some (sqa (sqb (sqb (sqb ac37))))) (c5 : ccode Tryd.prog (min Tryd.f37.ntmps pbase) (.region i5 p5 false) = some (sqa (sqb (sqb (sqb (sqb ac37))))))
    (c6 : ccode Tryd.prog (min Tryd.f37.ntmps pbase) (.region i6 p6 false) = some (sqa (sqb (sqb (sqb (sqb (sqb ac37))))))) :
    CWD Tryd.prog (min Tryd.f37.ntmps pbase) D (.seq (.region i4 p4 false) (.seq (.region i5 p5 false) (.seq (.region i6 p6 false) .ret))) (Sv1 n C) (EndY (sol n C)) := by
  have hpb : pbase = 4000000 := rfl
  have hfa := findAll_spec n C h1 h5 hC hcl
  have hRl := sol_len (n := n) (C := C) h5
  simp only [sqa, sqb, ac37] at c4 c5 c6
  generalize sol n C = R at *
  have hrl := rowsC_len 1000 R
  refine CWD_seq (CWD_ops c4 ?_)
  repeat (first | (refine step_ops ?_; (refine m_mov (by conv => lhs; whnf) ?_)) | refine end_ops ?_ | refine norm_then ?_)
  refine CWD_seq (CWD_ops c5 ?_)
  repeat (first | (refine step_ops ?_; (first | (refine m_mov (by conv => lhs; whnf) ?_) | (refine m_mkf ?_))) | refine end_ops ?_ | refine norm_then ?_)
  refine CWD_seq (CWD_ops c6 ?_)
  repeat (refine step_ops ?_; (first | (refine m_mov (by conv => lhs; whnf) ?_) | (apply m_ld_rp; (· rfl); (· rfl)) | (refine m_fa_rp rfl ?_)))
  refine step_ops ?_
  refine m_callM 900 1000 hfa ?_ rfl (by omega) (by omega) (by omega) rfl ?_ ?_
  · refine lends_cons lend_v (lends_cons lend_fnc (lends_cons (lend_fn ?_) lends_nil))
    exact lends_self (bears_read (by
      show readL [.rp [.i n, .ro false 3 (cls C) C.length]] = true
      simp [readL, readV, readL_plain (cls_plain C)])) _
  · intro j hj
    simp (disch := omega) only [hp_put, hp_mem_ne, hp_kill_ne]
    exact look2_none (by omega) (by omega)
  refine step_ops ?_
  refine m_st (r := pbase) (off := 0) (fl := false) (cs := [.v (.slice none 0 0)]) rfl (by rfl) rfl (by decide) rfl ?_
  refine step_ops ?_
  refine m_st (r := pbase + 1) (off := 0) (fl := true) (cs := [.v (.bool false)]) rfl (by rfl) rfl (by decide) rfl ?_
  refine end_ops ?_
  simp only [Then]
  refine CWD_ret ?_
  refine ⟨rfl, rfl, rfl, rfl, rfl, rfl, fun j hj => ?_⟩
  simp (disch := omega) only [hp_put, hp_mem_ne]
  refine addM_row (by omega) ?_ hj
  simp (disch := omega) only [hp_put, hp_mem_ne]
  exact look2_none (by omega) (by omega)
theorem solve_no (n : Nat) (C : List Clu) (h1 : 1 ≤ n) (h5 : n ≤ 5) (hC : C.length ≤ 6) (hbad : ∃ c ∈ C, ¬ IsClu n c) {D : List Deferred} {i4 i5 i6 : Nat} {p4 p5 p6 : Array Oper}
    (c4 : ccode Tryd.prog (min Tryd.f37.ntmps pbase) (.region i4 p4 false) = some (sqa (sqb (sqb (sqb ac37))))) (c5 : ccode Tryd.prog (min Tryd.f37.ntmps pbase) (.region i5 p5 false) = some (sqa (sqb (sqb (sqb (sqb ac37))))))
    (c6 : ccode Tryd.prog (min Tryd.f37.ntmps pbase) (.region i6 p6 false) = some (sqa (sqb (sqb (sqb (sqb (sqb ac37))))))) :
    CWD Tryd.prog (min Tryd.f37.ntmps pbase) D (.seq (.region i4 p4 false) (.seq (.region i5 p5 false) (.seq (.region i6 p6 false) .ret))) (Sv1 n C) EndN := by
  have hpb : pbase = 4000000 := rfl
  have hfa := findAll_throws n C h1 h5 hC hbad
  simp only [sqa, sqb, ac37] at c4 c5 c6
  refine CWD_seq (CWD_ops c4 ?_)
  repeat (first | (refine step_ops ?_; (refine m_mov (by conv => lhs; whnf) ?_)) | refine end_ops ?_ | refine norm_then ?_)
  refine CWD_seq (CWD_ops c5 ?_)
  repeat (first | (refine step_ops ?_; (first | (refine m_mov (by conv => lhs; whnf) ?_) | (refine m_mkf ?_))) | refine end_ops ?_ | refine norm_then ?_)
  refine CWD_seq (CWD_panic 4 (ok := NoV) c6 ?_)
  simp only [List.take_succ_cons, List.take_zero]
  repeat (first | (refine step_ops ?_; (first | (refine m_mov (by conv => lhs; whnf) ?_) | (apply m_ld_rp; (· rfl); (· rfl)) | (refine m_fa_rp rfl ?_))) | refine end_ops ?_)
  refine ⟨_, rfl, ⟨rfl, .inl ⟨_, _, _, rfl, hfa, ?_⟩⟩, fun v hv => ?_⟩
  · refine lends_cons lend_v (lends_cons lend_fnc (lends_cons (lend_fn ?_) lends_nil))
    exact lends_self (bears_read (by
      show readL [.rp [.i n, .ro false 3 (cls C) C.length]] = true
      simp [readL, readV, readL_plain (cls_plain C)])) _
  · simp only [Then]
    exact ⟨⟨v, rfl, hv⟩, rfl, rfl, rfl, rfl⟩
/-- Where there are no such numbers of guests or clues. -/
theorem solve_G (g : Int) (C : List Clu) (h : ¬ (PzN g ∧ C.length ≤ 6)) : AW Tryd.prog (min Tryd.f37.ntmps pbase) (sqa (sqb ac37)) (Sv0 g C) (fun e s' => e = .ret ∧ s'.tm 2 = .pt 2 0 ∧ s'.tm 3 = .pt 3 0 ∧ s'.hp 2 = some (false, [.v (.slice none 0 0)]) ∧ s'.hp 3 = some (true, [.v (.bool false)])) := by
  simp only [sqa, sqb, ac37]
  by_cases h1 : g < 1
  · repeat (first | (refine step_ops ?_; (first | (first | (refine m_mov (by conv => lhs; whnf) ?_) | (refine m_lss rfl rfl ?_) | (apply m_ld_pt; (· rfl); (· rfl); (· rfl)) | (apply m_st; (· rfl); (· rfl); (· rfl); (· first | omega | (simp; done) | (simp; omega)); (· rfl)) | (refine m_pick_t rfl ?_ (by conv => lhs; whnf) ?_; (· first | rfl | assumption | (refine decide_eq_true ?_; first | assumption | omega) | (refine nt ?_; first | assumption | omega) | (simp [*]; done))) | (refine m_fa rfl ?_)) | (refine g_noF rfl ?_ ?_; (· first | rfl | assumption | (refine decide_eq_true ?_; first | assumption | omega) | (refine nt ?_; first | assumption | omega) | (simp [*]; done))))) | refine end_ops ?_ | refine seq_ops ?_ | (refine cond_t rfl ?_ ?_; (· first | rfl | assumption | (refine decide_eq_true ?_; first | assumption | omega) | (refine nt ?_; first | assumption | omega) | (simp [*]; done))) | refine AW_ret ?_)
    exact ⟨rfl, rfl, rfl, rfl, rfl⟩
  by_cases h5 : g > 5
  · repeat (first | (refine step_ops ?_; (first | ((try (refine g_yes rfl ?_ ?_; (· first | rfl | assumption | (refine decide_eq_true ?_; first | assumption | omega) | (refine nt ?_; first | assumption | omega) | (simp [*]; done) | (refine decide_eq_false ?_; first | assumption | omega) | (refine nf ?_; first | assumption | omega)))); (first | (refine m_mov (by conv => lhs; whnf) ?_) | (refine m_lss rfl rfl ?_) | (refine m_gtr rfl rfl ?_) | (apply m_ld_pt; (· rfl); (· rfl); (· rfl)) | (apply m_st; (· rfl); (· rfl); (· rfl); (· first | omega | (simp; done) | (simp; omega)); (· rfl)) | (refine m_pick_t rfl ?_ (by conv => lhs; whnf) ?_; (· first | rfl | assumption | (refine decide_eq_true ?_; first | assumption | omega) | (refine nt ?_; first | assumption | omega) | (simp [*]; done))) | (refine m_pick_f rfl ?_ (by conv => lhs; whnf) ?_; (· first | rfl | assumption | (refine decide_eq_false ?_; first | assumption | omega) | (refine nf ?_; first | assumption | omega) | (simp [*]; done))) | (refine m_fa rfl ?_))) | (refine g_noF rfl ?_ ?_; (· first | rfl | assumption | (refine decide_eq_true ?_; first | assumption | omega) | (refine nt ?_; first | assumption | omega) | (simp [*]; done))))) | refine end_ops ?_ | refine seq_ops ?_ | (refine cond_t rfl ?_ ?_; (· first | rfl | assumption | (refine decide_eq_true ?_; first | assumption | omega) | (refine nt ?_; first | assumption | omega) | (simp [*]; done))) | refine AW_ret ?_)
    exact ⟨rfl, rfl, rfl, rfl, rfl⟩
  have h6 : 6 < C.length := by
    apply Classical.byContradiction
    intro h6
    exact h ⟨⟨by omega, by omega⟩, by omega⟩
  repeat (first | (refine step_ops ?_; ((try (refine g_yes rfl ?_ ?_; (· first | rfl | assumption | (refine decide_eq_true ?_; first | assumption | omega) | (refine nt ?_; first | assumption | omega) | (simp [*]; done) | (refine decide_eq_false ?_; first | assumption | omega) | (refine nf ?_; first | assumption | omega)))); (first | (refine m_mov (by conv => lhs; whnf) ?_) | (refine m_lss rfl rfl ?_) | (refine m_gtr rfl rfl ?_) | (refine m_len_ro rfl ?_) | (apply m_ld_pt; (· rfl); (· rfl); (· rfl)) | (apply m_st; (· rfl); (· rfl); (· rfl); (· first | omega | (simp; done) | (simp; omega)); (· rfl)) | (refine m_pick_f rfl ?_ (by conv => lhs; whnf) ?_; (· first | rfl | assumption | (refine decide_eq_false ?_; first | assumption | omega) | (refine nf ?_; first | assumption | omega) | (simp [*]; done))) | (refine m_fa rfl ?_)))) | refine end_ops ?_ | refine seq_ops ?_ | (refine cond_t rfl ?_ ?_; (· first | rfl | assumption | (refine decide_eq_true ?_; first | assumption | omega) | (refine nt ?_; first | assumption | omega) | (simp [*]; done))) | refine AW_ret ?_)
  exact ⟨rfl, rfl, rfl, rfl, rfl⟩
end Go.Proofs.YtjgcmbihbeokeaaDoor
namespace Go.Am
/-- What is owed where a call ends with nothing. -/
theorem nil_post {w w' : World} {phi : Nat → Option Nat} (hm : More w w') : ∃ v phi', Ending.returned (.tuple #[.slice none 0 0, .bool false]) = .returned v ∧ w'.os = w.os ∧ w'.tape = w.tape ∧ w'.output = w.output ∧ w.heap.size ≤ w'.heap.size ∧
      (∀ r, ((fun _ => none : Hp) r).isSome = true → phi' r = phi r) ∧ (∀ b, b < w.heap.size → (∀ r, ((fun _ => none : Hp) r).isSome = true → phi r ≠ some b) → w'.heap[b]? = w.heap[b]?) ∧
      (∀ (b : Nat) (cur : Array Value) (e : TypeId) (f : Nat × Nat), w.heap[b]? = some (.cells cur e f) → ∃ cur' : Array Value, w'.heap[b]? = some (.cells cur' e f) ∧ cur'.size = cur.size) ∧
      Inj (matO []) phi' ∧ (∀ r b, (matO [] r).isSome = true → (fun _ => none : Hp) r = none → phi' r = some b → w.heap.size ≤ b) ∧ Regs (ctxX w w' phi' (matO [])) (matO []) ∧ SimV (.tup [.sl nbase 1 0 ([] : List (List Int)).length, .b false]) (ctxX w w' phi' (matO [])) v := by
  refine ⟨_, fun _ => none, rfl, hm.os, hm.tape, hm.output, hm.size, fun r h => by simp at h, fun b hb _ => hm.block b hb, fun b cur e f hc => ⟨cur, (hm.block b (lt_of_get hc)).trans hc, rfl⟩, fun r r' b _ _ h => by simp at h, fun r b _ _ h => by simp at h, fun r c hc => ?_, ?_⟩
  · rcases matH_some hc with ⟨_, rfl⟩ | ⟨j, hj, _⟩
    · exact .inl ⟨rfl, rfl⟩
    · simp at hj
  · simp only [SimV]
    refine ⟨_, rfl, rfl, ?_⟩
    simp [SimL, SimV, ctxX, matO, matH_outer]
theorem run_cell_at {P : Program} {t : TypeId} {d : TypeDesc} {w : World} {p : Addr} {y : Value} (ht : P.underlying t = some d) (hd : ∀ fs, d ≠ .struct fs) (hd' : ∀ n e, d ≠ .array n e) (hcell : w.cell? p = some y) : (loadVar t p).run P w = .ok y w := by
  have hag : (isAgg t).run P w = .ok false w := by
    unfold isAgg
    rw [Sem.run_bind, run_underlying ht]
    cases d <;> simp_all
  simp [loadVar, hag, hcell]
theorem res_cell_at {P : Program} {t : TypeId} {w : World} {p : Addr} {y : Value} {tm : Array Value} {a : Nat} (ht : shapeT P t = some none) (ha : tm.getD a undef = .pointer (some p)) (hcell : w.cell? p = some y) : (resOne tm (.cell a t)).run P w = .ok y w := by
  obtain ⟨d, hd, hd1, hd2⟩ := shapeT_none ht
  simp only [resOne, ha, asAddr]
  exact run_cell_at hd hd1 hd2 hcell
/-- A caller's variable with one plain value: its block. -/
theorem door_cells {w w' : World} {mu : Nat → Option Nat} {N : Nat} {s : AS} {tm : Array Value} {phi : Nat → Option Nat} {ro : Nat → Prop} (hS : Sim w mu N s tm w' phi ro) {r b x : Nat} {fl : Bool} {v : Value} (hr : pbase ≤ r) (hmu : mu r = some b) (ht : s.tm x = .pt r 0) (hg : s.hp r = some (fl, [.v v])) :
    tm.getD x undef = .pointer (some ⟨b, 0, none⟩) ∧ ∃ cur e, w'.heap[b]? = some (.cells cur e (0, 0)) ∧ 0 < cur.size := by
  have hv := hS.tms x
  rw [ht] at hv
  simp only [SimV] at hv
  obtain ⟨_, _, b', p1, p2, cur0, e0, p3⟩ := hv
  have p1' : phi r = some b' := p1
  rcases hS.liv r _ hg with ⟨_, h2, _⟩ | ⟨b2, cur, e, h1, h2, _, h4, h5⟩ | ⟨b2, o, h1, _⟩
  · cases h2
  · rcases h4 with h4 | h4
    · omega
    · have e1 : b2 = b := by have := h4.2; rw [hmu] at this; cases this; rfl
      subst e1
      rw [h1] at p1'
      cases p1'
      refine ⟨p2, cur, e, h2, ?_⟩
      have hl : 0 < cur.toList.length := by
        cases hc : cur.toList with
        | nil => rw [hc] at h5; simp [SimR, SimL] at h5
        | cons y ys => simp
      simpa using hl
  · cases h1
end Go.Am
namespace Go.Proofs.YtjgcmbihbeokeaaDoor
open Go.Am
theorem solve_results : Tryd.f37.results = #[.cell 2 60, .cell 3 4] := rfl
theorem shape_mat : shapeT Tryd.prog 60 = some none := by kernel_rfl
theorem shape_bool : shapeT Tryd.prog 4 = some none := by kernel_rfl
theorem door_invoke (w : World) (p q : Value) : (invoke (.fn (.func 52) #[p, q]) #[]).run Tryd.prog w = .ok (.enter 52 #[p, q]) w := by
  have h1 : ¬ Tryd.f52.name = "runtime.NumGoroutine" := by decide
  have h2 : Tryd.f52.body ≠ none := by intro e; cases e
  simp [invoke, callFunc, Tryd.func52, h1, h2]
set_option maxHeartbeats 400000 in
theorem solve_spec (g : Int) (C : List Clu) : SpH Tryd.prog 37 [pzl g C] (fun _ => none) (.tup [.sl nbase 1 0 (solS g C).length, .b (decide (IsPz g C))]) (matO (solS g C)) := by
  have hpb : pbase = 4000000 := rfl
  unfold SpH
  intro w vs phi hg hgb hinj hregs hs hl
  obtain ⟨A, B, o0, o1, i3, i4, p4, i5, p5, i6, p6, hb, hA, hB, ⟨k0, k0g, k0d, k1, k1g, k1d⟩, c4, c5, c6⟩ := solve_code
  have hsim := enterH_sim (n := Tryd.f37.ntmps) hg hgb (fun r h => by simp at h) hinj hregs hs hl
  have hS0 : Simw w (fun r => if ((fun _ => none : Hp) r).isSome = true then phi r else none) (min Tryd.f37.ntmps pbase) (enterH [pzl g C] (fun _ => none)) { tmps := vs ++ Array.replicate (Tryd.f37.ntmps - vs.size) undef, defers := [] } w := ⟨rfl, _, _, hsim⟩
  have hmu : ∀ r, (fun r => if ((fun _ => none : Hp) r).isSome = true then phi r else none) r = none := fun r => by simp
  generalize (fun r => if ((fun _ => none : Hp) r).isSome = true then phi r else none) = mu at hS0 hmu
  refine calls_of_wp_defers Tryd.func37 hb ?_
  refine wp_seq (wp_mono (AW.toC (solve_A g C) hA w mu _ w hS0) fun e a1 w1 hA1 => ?_)
  obtain ⟨s1, ⟨rfl, hwk1⟩, hS1⟩ := hA1
  have hS1 := hwk1 _ _ _ _ _ hS1
  by_cases hok : PzN g ∧ C.length ≤ 6
  · obtain ⟨hpn, hC⟩ := hok
    obtain ⟨n, rfl⟩ := Int.eq_ofNat_of_zero_le (show 0 ≤ g by have := hpn.1; omega)
    have h1 : 1 ≤ n := by have := hpn.1; omega
    have h5 : n ≤ 5 := by have := hpn.2; omega
    refine wp_seq (wp_mono (AW.toC (solve_B n C h1 h5 hC) hB w mu a1 w1 hS1) fun e a2 w2 hA2 => ?_)
    obtain ⟨s2, ⟨rfl, hwk2⟩, hS2⟩ := hA2
    have hS2 := hwk2 _ _ _ _ _ hS2
    refine wp_seq (wp_defer k0 k0g k0d k1 k1g k1d hS2 (by decide) (by decide) (by decide) rfl fun a3 hS3 e2 e3 => ?_)
    obtain ⟨b, c, hb2, hc2, hne, hwb, hwc, hm, hS4⟩ := door_enter (x := 1) (y := 2) (z := 3) (r1 := 1) (r2 := 2) (r3 := 3) hmu hS3 rfl rfl rfl rfl rfl rfl (by simp [readL, readV, readL_plain (cls_plain C)]) (by decide) (by decide) (by decide) (by decide) (by decide) (by decide)
    rw [← e2, ← e3, hb2, hc2]
    have hmuD : ∀ r b', muD b c r = some b' → r < gvb := by
      intro r b' hr
      unfold muD at hr
      split at hr
      · subst_vars; decide
      · split at hr
        · subst_vars; decide
        · cases hr
    have hmuE : ∀ b', b' < w.heap.size → ∀ r, muD b c r ≠ some b' := by
      intro b' hb' r hr
      unfold muD at hr
      split at hr
      · cases hr; omega
      · split at hr
        · cases hr; omega
        · cases hr
    by_cases hcl : ∀ x ∈ C, IsClu n x
    · have hz : IsPz n C := ⟨hpn, hC, hcl⟩
      have hst : Static (fun _ => none) (.tup [.sl nbase 1 0 (solS n C).length, .b (decide (IsPz n C))]) (matO (solS n C)) := static_mat2 _ _
      have e0 : solS n C = sol n C := by unfold solS; rw [if_pos hz, Int.toNat_natCast]
      rw [e0, decide_eq_true hz] at hst ⊢
      have hRl := sol_len (n := n) (C := C) h5
      refine wp_mono (solve_yes n C h1 h5 hC hcl (D := [doorD 52 (.pointer (some ⟨b, 0, none⟩)) (.pointer (some ⟨c, 0, none⟩))]) c4 c5 c6 w2 (muD b c) a3 w2 hS4) fun e a5 w5 hA5 => ?_
      generalize sol n C = R at *
      obtain ⟨a0, rfl, s5, ⟨rfl, t2, t3, g2, g3, g4, g5⟩, hf5, phi5, ro5, hS5⟩ := hA5
      show Leaves _ _ a0.tmps _ (a0.defers ++ _) .returning w5
      rw [hf5, List.nil_append]
      refine leaves_cons (by simp) (door_invoke w5 _ _) ?_
      refine (door_idle _ _ w5).mono ?_
      rintro e u' w6 ⟨rfl, rfl, hm6⟩
      have hS6 := hS5.more_same hm6
      obtain ⟨y1, q1, q2⟩ := rv1_run hS6 shape_mat t2 g2 rfl
      obtain ⟨y2, q3, q4⟩ := rv1_run hS6 shape_bool t3 g3 rfl
      obtain ⟨f1, f2, f3, f4⟩ := finD w hS6 hst hmuD (gnm 900 1000) (fun r c hc => ⟨_, gnm_hp g4 g5 r c hc, .inl rfl⟩) (fun r hr => by
        obtain ⟨c, hc⟩ := Option.isSome_iff_exists.1 hr
        rcases matH_some hc with ⟨rfl, _⟩ | ⟨j, hj, rfl, _⟩
        · rw [gnm_outer]; decide
        · rw [gnm_row]; omega) (fun r r' h2 h3 e => gnm_inj (by decide) h2 h3 e)
      refine ⟨.tuple #[y1, y2], run_two solve_results q1 q3, .tuple #[y1, y2], fun r => phi5 (gnm 900 1000 r), rfl, (hS6.os.trans hm.os), hS6.tape.trans hm.tape, hS6.output.trans hm.output, Nat.le_trans hm.size hS6.size, fun r hr => by simp at hr, fun b' hb' _ => (hS6.kept b' (Nat.lt_of_lt_of_le hb' hm.size) (hmuE b' hb')).trans (hm.block b' hb'), ?_, f1, fun r b' hr _ hb' => Nat.le_trans hm.size (f2 r b' hr hb'), f3, f4 _ ?_⟩
      · intro b' cur e f hc
        exact hS6.shp b' cur e f ((hm.block b' (lt_of_get hc)).trans hc)
      · simp only [renV, renL, gnm_outer, SimV, SimL, and_true]
        exact ⟨_, rfl, rfl, by simpa [SimV] using q2, by simpa [SimV, SimL] using q4⟩
    · have hbad : ∃ x ∈ C, ¬ IsClu n x := by
        apply Classical.byContradiction
        intro hno
        exact hcl fun x hx => Classical.byContradiction fun hx2 => hno ⟨x, hx, hx2⟩
      have hz : ¬ IsPz n C := fun h => hcl h.2.2
      have e0 : solS n C = [] := by unfold solS; rw [if_neg hz]
      rw [e0, decide_eq_false hz]
      refine wp_mono (solve_no n C h1 h5 hC hbad (D := [doorD 52 (.pointer (some ⟨b, 0, none⟩)) (.pointer (some ⟨c, 0, none⟩))]) c4 c5 c6 w2 (muD b c) a3 w2 hS4) fun e a5 w5 hA5 => ?_
      obtain ⟨a0, rfl, s5, ⟨⟨v, rfl, ⟨⟨ck, ca, cb⟩, rfl⟩⟩, t2, t3, g2, g3⟩, hf5, phi5, ro5, hS5⟩ := hA5
      show Leaves _ _ a0.tmps _ (a0.defers ++ _) (.panicking _) w5
      rw [hf5, List.nil_append]
      refine leaves_cons (by simp) (door_invoke w5 _ _) ?_
      obtain ⟨x1, cur1, e1, x2, x3⟩ := door_cells hS5 (Nat.le_refl _) (show muD b c pbase = some b by simp [muD]) t2 g2
      obtain ⟨z1, cur2, e2', z2, z3⟩ := door_cells hS5 (Nat.le_succ _) (show muD b c (pbase + 1) = some c by simp [muD]) t3 g3
      refine (door_catches b c ck ca cb w5 cur1 cur2 e1 e2' x2 z2 x3 z3 hne).mono ?_
      rintro e u' w6 ⟨rfl, rfl, hca⟩
      refine ⟨_, run_two solve_results (res_cell_at shape_mat x1 hca.cellp) (res_cell_at shape_bool z1 hca.cellq), ?_⟩
      have hm6 : More w w6 := ⟨hca.os.trans (hS5.os.trans hm.os), hca.tape.trans (hS5.tape.trans hm.tape), hca.output.trans (hS5.output.trans hm.output), Nat.le_trans hm.size (Nat.le_trans hS5.size hca.size), fun b' hb' => by
        have hb2' : b' < w2.heap.size := Nat.lt_of_lt_of_le hb' hm.size
        rw [hca.block b' (Nat.lt_of_lt_of_le hb2' hS5.size) (by omega) (by omega), hS5.kept b' hb2' (hmuE b' hb')]
        exact hm.block b' hb'⟩
      exact nil_post hm6
  · have hz : ¬ IsPz g C := fun h => hok ⟨h.1, h.2.1⟩
    have e0 : solS g C = [] := by unfold solS; rw [if_neg hz]
    rw [e0, decide_eq_false hz]
    refine wp_seq (wp_mono (AW.toC (solve_G g C hok) hB w mu a1 w1 hS1) fun e a2 w2 hA2 => ?_)
    obtain ⟨s2, ⟨rfl, t2, t3, g2, g3⟩, hf2, phi2, ro2, hS2⟩ := hA2
    show Leaves _ _ a2.tmps _ a2.defers .returning w2
    rw [hf2]
    obtain ⟨y1, q1, q2⟩ := rv1_run hS2 shape_mat t2 g2 rfl
    obtain ⟨y2, q3, q4⟩ := rv1_run hS2 shape_bool t3 g3 rfl
    simp only [SimV] at q2 q4
    subst q2
    subst q4
    exact ⟨_, run_two solve_results q1 q3, nil_post ⟨hS2.os, hS2.tape, hS2.output, hS2.size, fun b hb => hS2.kept b hb fun r hr => by rw [hmu] at hr; cases hr⟩⟩
end Go.Proofs.YtjgcmbihbeokeaaDoor
namespace Go.Proofs.YtjgcmbihbeokeaaDoor
open Go.Am
attribute [local irreducible] AW Outs Weak Lends Lend Sp aops atree aop1 Then Round InBlock Done
attribute [local irreducible] SpM DoneM SpH DoneH SpG DoneT
def Hid (L : List Int) : Prop := IsEx L ∧ PzN L.length
instance (L : List Int) : Decidable (Hid L) := inferInstanceAs (Decidable (_ ∧ _))
def DoOk (c : Clu) (L : List Int) : Prop := Hid L ∧ IsClu L.length c
instance (c : Clu) (L : List Int) : Decidable (DoOk c L) := inferInstanceAs (Decidable (_ ∧ _))
end Go.Proofs.YtjgcmbihbeokeaaDoor
namespace Go.Proofs.YtjgcmbihbeokeaaDoor
open Go.Am
attribute [local irreducible] AW Outs Weak Lends Lend Sp aops atree aop1 Then Round InBlock Done
attribute [local irreducible] SpM DoneM SpH DoneH SpP
theorem solve_sp (g : Int) (C : List Clu) : Sp Tryd.prog 37 [pzl g C] (.tup [roF (solS g C), .b (decide (IsPz g C))]) := sp_mat2 (solve_spec g C)
theorem implIsPuzzle_spec (g : Int) (C : List Clu) : Sp Tryd.prog 23 [pzl g C] (.b (decide (IsPz g C))) := by
  have hs := solve_sp g C
  refine spec_of Tryd.func23 rfl cc23 rfl ?_
  unfold ac23
  repeat (first | (refine step_ops ?_; (first | (refine m_mov (by conv => lhs; whnf) ?_) | (refine m_box rfl ?_ ?_; (· first | rfl | (simp [cellOk, Value.oneCell']; done))) | (refine m_ldall rfl rfl ?_ ?_; (· first | rfl | (simp; done) | (simp [*]; done))))) | refine end_ops ?_ | refine seq_ops ?_)
  refine step_ops ?_
  refine m_call hs (lends_cons lend_pzl lends_nil) ?_
  repeat (first | (refine step_ops ?_; (first | (refine m_mov (by conv => lhs; whnf) ?_) | (refine m_ext rfl rfl ?_))) | refine end_ops ?_ | refine seq_ops ?_ | refine AW_ret ?_ | refine ret_done ?_)
  exact outs_b rfl
end Go.Proofs.YtjgcmbihbeokeaaDoor
namespace Go.Am
theorem m_bsl3i {P : Program} {own : Bool} {s : AS} {K : AS → Prop} {x y u : Opd} {r : Nat} {z : Value} {a b c : Int} (hx : s.ev x = .i a) (hy : s.ev y = .i b) (hu : s.ev u = .i c) (k : K (((s.kill r).mem r (true, [a, b, c].map AV.i)).put (some r) (.sl r 1 0 3))) : aop1 P own ⟨some r, .bsl 1 3 [z] [(0, x), (1, y), (2, u)], none⟩ s K :=
  m_bsl (fl := true) (out := [.i a, .i b, .i c]) (.inl ⟨rfl, by simp, by rw [hx]; rfl, .inl ⟨rfl, by simp, by rw [hy]; rfl, .inl ⟨rfl, by simp, by rw [hu]; rfl, by rw [hx, hy, hu]; rfl⟩⟩⟩) k
theorem join_snoc (c : UInt8) (W : List (List UInt8)) (y : List UInt8) : Lib.join (W ++ [y]) [c] = (if W = [] then [] else Lib.join W [c] ++ [c]) ++ y := by
  cases W with
  | nil => simp [Lib.join_one]
  | cons a l =>
    rw [if_neg (by simp), List.cons_append, Lib.join_cons, Lib.join_cons]
    simp [Lib.joinTail]
end Go.Am
namespace Go.Proofs.YtjgcmbihbeokeaaDoor
open Go.Am
attribute [local irreducible] AW Outs Weak Lends Lend Sp aops atree aop1 Then Round InBlock Done
attribute [local irreducible] SpM DoneM SpH DoneH SpP
/-- A clue asx a text. -/
def cluT (c : Clu) : List UInt8 := txtC 46 [c.1, c.2.1, c.2.2]
def cluW (C : List Clu) (k : Nat) : List (List UInt8) := (C.take k).map cluT
def pzT (n : Nat) (C : List Clu) (k : Nat) : List UInt8 := Lib.decDigits n ++ [58] ++ Lib.join (cluW C k) [44]
theorem cluT_eq (a b c : Nat) : cluT ((a : Int), (b : Int), (c : Int)) = Lib.decDigits a ++ [46] ++ Lib.decDigits b ++ [46] ++ Lib.decDigits c := by
  unfold cluT txtC wrds
  simp [Lib.join_cons, Lib.joinTail]
theorem isClu_small {n : Nat} (h5 : n ≤ 5) {k a b : Int} (h : IsClu n (k, a, b)) : (0 ≤ k ∧ k < 100) ∧ (0 ≤ a ∧ a < 100) ∧ 0 ≤ b ∧ b < 100 := by
  by_cases hk : 0 ≤ k ∧ k ≤ 5
  · have hcases : k = 0 ∨ k = 1 ∨ k = 2 ∨ k = 3 ∨ k = 4 ∨ k = 5 := by omega
    rcases hcases with rfl | rfl | rfl | rfl | rfl | rfl
    · have := (isClu_01 (.inl rfl)).1 h; omega
    · have := (isClu_01 (.inr rfl)).1 h; omega
    · have := isClu_2.1 h; omega
    · have := isClu_3.1 h; omega
    · have := isClu_4.1 h; omega
    · have := isClu_5.1 h; omega
  · exact absurd h (isClu_no hk)
theorem cluT_len {n : Nat} (h5 : n ≤ 5) {c : Clu} (h : IsClu n c) : (cluT c).length ≤ 8 := by
  obtain ⟨k, a, b⟩ := c
  obtain ⟨h1, h2, h3⟩ := isClu_small h5 h
  obtain ⟨k, rfl⟩ := Int.eq_ofNat_of_zero_le h1.1
  obtain ⟨a, rfl⟩ := Int.eq_ofNat_of_zero_le h2.1
  obtain ⟨b, rfl⟩ := Int.eq_ofNat_of_zero_le h3.1
  have e1 := dec_len (n := k) (by omega)
  have e2 := dec_len (n := a) (by omega)
  have e3 := dec_len (n := b) (by omega)
  rw [cluT_eq]
  simp only [List.length_append, List.length_cons, List.length_nil]
  omega
theorem cluW_succ (C : List Clu) (k : Nat) (h : k < C.length) : cluW C (k + 1) = cluW C k ++ [cluT (C.getD k (0, 0, 0))] := by
  unfold cluW
  rw [take_snoc C k (0, 0, 0) h, List.map_append]
  rfl
theorem cluW_len (C : List Clu) (k : Nat) (h : k ≤ C.length) : (cluW C k).length = k := by
  unfold cluW
  rw [List.length_map, List.length_take]
  omega
theorem cluJ_len {n : Nat} (h5 : n ≤ 5) {C : List Clu} (hC : ∀ c ∈ C, IsClu n c) : ∀ k, k ≤ C.length → (Lib.join (cluW C k) [44]).length ≤ 9 * k
  | 0, _ => by simp [cluW, Lib.join_nil]
  | k + 1, hk => by
    have ih := cluJ_len h5 hC k (by omega)
    have hl := cluT_len h5 (hC _ (getD_memL (d := ((0, 0, 0) : Clu)) (show k < C.length by omega)))
    rw [cluW_succ C k (by omega), join_snoc, List.length_append]
    split
    · simp only [List.length_nil]; omega
    · simp only [List.length_append, List.length_cons, List.length_nil]; omega
theorem pzT_succ (n : Nat) (C : List Clu) (k : Nat) (h : k < C.length) : pzT n C (k + 1) = (if k = 0 then pzT n C k else pzT n C k ++ [44]) ++ cluT (C.getD k (0, 0, 0)) := by
  unfold pzT
  rw [cluW_succ C k h, join_snoc]
  have hl := cluW_len C k (by omega)
  by_cases hk : k = 0
  · subst hk
    rw [if_pos rfl, show cluW C 0 = [] from rfl, if_pos rfl, Lib.join_nil]
    simp
  · rw [if_neg hk, if_neg fun e => hk (by rw [e] at hl; simpa using hl.symm)]
    simp only [List.append_assoc]
theorem pzT_len {n : Nat} (h5 : n ≤ 5) {C : List Clu} (hC6 : C.length ≤ 6) (hC : ∀ c ∈ C, IsClu n c) (k : Nat) (hk : k ≤ C.length) : (pzT n C k).length ≤ 60 := by
  have h1 := cluJ_len h5 hC k hk
  have h2 := dec_len (n := n) (by omega)
  unfold pzT
  simp only [List.length_append, List.length_cons, List.length_nil]
  omega
set_option maxRecDepth 20000 in
theorem pzText_spec (n : Nat) (C : List Clu) (h : IsPz n C) : Sp Tryd.prog 21 [pzl n C] (str (pzT n C C.length)) := by
  have h5 : n ≤ 5 := by have := h.1.2; omega
  have hC6 := h.2.1
  have hnum := l1Num_spec n (by omega)
  have hdn := dec_len (n := n) (by omega)
  have e0 : pzT n C 0 = Lib.decDigits n ++ [58] := by
    unfold pzT
    rw [show cluW C 0 = [] from rfl, Lib.join_nil, List.append_nil]
  refine spec_of Tryd.func21 rfl cc21 rfl ?_
  unfold ac21
  repeat (first | (refine step_ops ?_; (first | (refine m_mov (by conv => lhs; whnf) ?_) | (apply m_ld_pt; (· rfl); (· rfl); (· rfl)) | (refine m_fa rfl ?_) | (refine m_box rfl ?_ ?_; (· first | rfl | (simp [cellOk, Value.oneCell']; done))))) | refine end_ops ?_ | refine seq_ops ?_)
  refine step_ops ?_; (apply m_call (hnum)); (· repeat (first | exact lends_nil | (refine lends_cons ?_ ?_; (· exact lend_v))))
  repeat (first | (refine step_ops ?_; (first | (refine m_mov (by conv => lhs; whnf) ?_) | (refine m_adds rfl rfl ?_ ?_; (· first | omega | (simp; omega))) | (refine m_len_ro rfl ?_) | (apply m_ld_pt; (· rfl); (· rfl); (· rfl)) | (refine m_fa rfl ?_))) | refine end_ops ?_ | refine seq_ops ?_ | refine AW_seq ?_ | refine AW_block ?_)
  refine AW_loop (α := Nat) (fun k => k ≤ C.length) (fun k => st [(1, .pt 1 0), (3, str (pzT n C k)), (11, .ro false 3 (cls C) C.length), (12, .i C.length), (13, .i k)] [(1, (true, [.i n, .ro false 3 (cls C) C.length]))]) (fun k => C.length - k) 0 (Nat.zero_le _) (weak_st ?_ ?_ rfl rfl) ?_
  · rw [e0]
    (repeat' (first | exact trivial | refine And.intro ?_ ?_)) <;> (first | rfl | skip)
  · exact ⟨rfl, trivial⟩
  intro k hk
  have hpl := pzT_len h5 hC6 h.2.2 k hk
  by_cases hc : k < C.length
  · have hmem := getD_memL (d := ((0, 0, 0) : Clu)) hc
    have hsucc := pzT_succ n C k hc
    rcases hce : C.getD k (0, 0, 0) with ⟨c1, c2, c3⟩
    rw [hce] at hmem hsucc
    obtain ⟨g1, g2, g3⟩ := isClu_small h5 (h.2.2 _ hmem)
    obtain ⟨a, rfl⟩ := Int.eq_ofNat_of_zero_le g1.1
    obtain ⟨b, rfl⟩ := Int.eq_ofNat_of_zero_le g2.1
    obtain ⟨c, rfl⟩ := Int.eq_ofNat_of_zero_le g3.1
    have n1 := l1Num_spec a (by omega)
    have n2 := l1Num_spec b (by omega)
    have n3 := l1Num_spec c (by omega)
    have d1 := dec_len (n := a) (by omega)
    have d2 := dec_len (n := b) (by omega)
    have d3 := dec_len (n := c) (by omega)
    rw [cluT_eq] at hsucc
    generalize Lib.decDigits a = A at *
    generalize Lib.decDigits b = B at *
    generalize Lib.decDigits c = D at *
    generalize pzT n C k = T at *
    by_cases h0 : k = 0
    · rw [if_pos h0] at hsucc
      have h0' : ¬ (k : Int) > 0 := by omega
      repeat (first | (refine step_ops ?_; (first | (refine m_mov (by conv => lhs; whnf) ?_) | (refine m_lss rfl rfl ?_) | (refine m_idx_ro rfl rfl ?_ ?_ ?_; (· omega); (· omega)))) | refine end_ops ?_ | refine seq_ops ?_ | (refine cond_t rfl ?_ ?_; (· first | rfl | assumption | (refine decide_eq_true ?_; first | assumption | omega) | (refine nt ?_; first | assumption | omega) | (simp [*]; done))) | refine skip_then ?_ | refine AW_seq ?_ | refine AW_block ?_)
      refine step_ops ?_
      refine m_ldClu hc hce rfl ?_
      repeat (first | ((first | refine step_ops ?_ | refine step_tree ?_); (first | (refine m_mov (by conv => lhs; whnf) ?_) | (refine m_gtr rfl rfl ?_) | (apply m_ld_pt; (· rfl); (· rfl); (· rfl)) | (refine m_alloc ?_) | (refine m_fa rfl ?_) | (refine m_stall rfl rfl rfl ?_ ?_ ?_ ?_; (· first | rfl | (simp [*]; done)); (· first | rfl | (simp [*]; done)); (· first | rfl | (simp [cellOk, Value.oneCell']; done))))) | refine end_ops ?_ | refine seq_ops ?_ | refine AW_tree ?_ | (refine cond_f rfl ?_ ?_; (· first | rfl | assumption | (refine decide_eq_false ?_; first | assumption | omega) | (refine nf ?_; first | assumption | omega) | (simp [*]; done))) | refine skip_then ?_ | refine AW_seq ?_)
      refine step_tree ?_
      refine m_call n1 (lends_cons lend_v lends_nil) ?_
      repeat (refine step_tree ?_; (first | (refine m_adds rfl rfl ?_ ?_; (· first | omega | (simp; omega))) | (apply m_ld_pt; (· rfl); (· rfl); (· rfl)) | (refine m_fa rfl ?_)))
      refine step_tree ?_
      refine m_call n2 (lends_cons lend_v lends_nil) ?_
      repeat (refine step_tree ?_; (first | (refine m_adds rfl rfl ?_ ?_; (· first | omega | (simp; omega))) | (apply m_ld_pt; (· rfl); (· rfl); (· rfl)) | (refine m_fa rfl ?_)))
      refine step_tree ?_
      refine m_call n3 (lends_cons lend_v lends_nil) ?_
      repeat (first | ((first | refine step_ops ?_ | refine step_tree ?_); (first | (refine m_mov (by conv => lhs; whnf) ?_) | (refine m_add rfl rfl ?_ ?_ ?_; (· omega); (· omega)) | (refine m_adds rfl rfl ?_ ?_; (· first | omega | (simp; omega))))) | refine end_ops ?_ | refine AW_ops ?_ | refine end_tree ?_ | refine norm_then ?_ | refine norm_block ?_)
      refine next_round (k + 1) hc (weak_st ?_ ?_ rfl rfl) (by omega)
      · rw [hsucc]
        (repeat' (first | exact trivial | refine And.intro ?_ ?_)) <;> (first | rfl | skip)
      · exact ⟨rfl, trivial⟩
    · rw [if_neg h0] at hsucc
      have h0' : (k : Int) > 0 := by omega
      repeat (first | (refine step_ops ?_; (first | (refine m_mov (by conv => lhs; whnf) ?_) | (refine m_lss rfl rfl ?_) | (refine m_idx_ro rfl rfl ?_ ?_ ?_; (· omega); (· omega)))) | refine end_ops ?_ | refine seq_ops ?_ | (refine cond_t rfl ?_ ?_; (· first | rfl | assumption | (refine decide_eq_true ?_; first | assumption | omega) | (refine nt ?_; first | assumption | omega) | (simp [*]; done))) | refine skip_then ?_ | refine AW_seq ?_ | refine AW_block ?_)
      refine step_ops ?_
      refine m_ldClu hc hce rfl ?_
      repeat (first | ((first | refine step_ops ?_ | refine step_tree ?_); (first | (refine m_mov (by conv => lhs; whnf) ?_) | (refine m_gtr rfl rfl ?_) | (refine m_adds rfl rfl ?_ ?_; (· first | omega | (simp; omega))) | (apply m_ld_pt; (· rfl); (· rfl); (· rfl)) | (refine m_alloc ?_) | (refine m_fa rfl ?_) | (refine m_stall rfl rfl rfl ?_ ?_ ?_ ?_; (· first | rfl | (simp [*]; done)); (· first | rfl | (simp [*]; done)); (· first | rfl | (simp [cellOk, Value.oneCell']; done))))) | refine end_ops ?_ | refine seq_ops ?_ | refine AW_ops ?_ | refine AW_tree ?_ | (refine cond_t rfl ?_ ?_; (· first | rfl | assumption | (refine decide_eq_true ?_; first | assumption | omega) | (refine nt ?_; first | assumption | omega) | (simp [*]; done))) | refine AW_seq ?_ | refine norm_then ?_)
      refine step_tree ?_
      refine m_call n1 (lends_cons lend_v lends_nil) ?_
      repeat (refine step_tree ?_; (first | (refine m_adds rfl rfl ?_ ?_; (· first | omega | (simp; omega))) | (apply m_ld_pt; (· rfl); (· rfl); (· rfl)) | (refine m_fa rfl ?_)))
      refine step_tree ?_
      refine m_call n2 (lends_cons lend_v lends_nil) ?_
      repeat (refine step_tree ?_; (first | (refine m_adds rfl rfl ?_ ?_; (· first | omega | (simp; omega))) | (apply m_ld_pt; (· rfl); (· rfl); (· rfl)) | (refine m_fa rfl ?_)))
      refine step_tree ?_
      refine m_call n3 (lends_cons lend_v lends_nil) ?_
      repeat (first | ((first | refine step_ops ?_ | refine step_tree ?_); (first | (refine m_mov (by conv => lhs; whnf) ?_) | (refine m_add rfl rfl ?_ ?_ ?_; (· omega); (· omega)) | (refine m_adds rfl rfl ?_ ?_; (· first | omega | (simp; omega))))) | refine end_ops ?_ | refine AW_ops ?_ | refine end_tree ?_ | refine norm_then ?_ | refine norm_block ?_)
      refine next_round (k + 1) hc (weak_st ?_ ?_ rfl rfl) (by omega)
      · rw [hsucc]
        (repeat' (first | exact trivial | refine And.intro ?_ ?_)) <;> (first | rfl | skip)
      · exact ⟨rfl, trivial⟩
  · obtain rfl : k = C.length := by omega
    repeat (first | (refine step_ops ?_; (first | (refine m_mov (by conv => lhs; whnf) ?_) | (refine m_lss rfl rfl ?_))) | refine end_ops ?_ | refine seq_ops ?_ | (refine cond_f rfl ?_ ?_; (· first | rfl | assumption | (refine decide_eq_false ?_; first | assumption | omega) | (refine nf ?_; first | assumption | omega) | (simp [*]; done))) | refine AW_seq ?_ | refine AW_ret ?_ | refine ret_done ?_ | refine norm_then ?_ | refine exit_then ?_ | refine exit_round ?_ | refine AW_exit ?_ | refine exit_block ?_)
    exact outs_v
/-- What the words are behind k rounds. -/
def wrdK (C : List Clu) (k : Nat) : List AV := strsA (cluW C k) ++ List.replicate (C.length - k) (str [])
theorem strsA_len (l : List (List UInt8)) : (strsA l).length = l.length := by simp [strsA]
theorem wrdK_len (C : List Clu) (k : Nat) (h : k ≤ C.length) : (wrdK C k).length = C.length := by
  unfold wrdK
  rw [List.length_append, strsA_len, cluW_len C k h, List.length_replicate]
  omega
theorem wrdK_set (C : List Clu) (k : Nat) (h : k < C.length) : (wrdK C k).set k (str (cluT (C.getD k (0, 0, 0)))) = wrdK C (k + 1) := by
  have hl : (strsA (cluW C k)).length = k := by rw [strsA_len, cluW_len C k (by omega)]
  obtain ⟨j, hj⟩ : ∃ j, C.length - k = j + 1 := ⟨C.length - k - 1, by omega⟩
  have hj2 : C.length - (k + 1) = j := by omega
  unfold wrdK
  rw [hj, hj2, List.set_append_right _ _ (by omega), hl, Nat.sub_self, List.replicate_succ, List.set_cons_zero, cluW_succ C k h]
  simp [strsA]
theorem wrdK_all (C : List Clu) : wrdK C C.length = strsA (cluW C C.length) := by simp [wrdK]
def ptT (g : Int) (C : List Clu) : List UInt8 := if IsPz g C then pzT g.toNat C C.length else []
def ptR (g : Int) (C : List Clu) : AV := .tup [str (ptT g C), .b (decide (IsPz g C))]
theorem specPuzzleText_spec (g : Int) (C : List Clu) : Sp Tryd.prog 7 [pzl g C] (ptR g C) := by
  have hgo := pzGood_spec g C
  unfold ptR ptT
  by_cases h : IsPz g C
  · obtain ⟨n, rfl, h1, h5⟩ := pz_nat h
    have hpt := pzText_spec n C h
    rw [decide_eq_true h] at hgo
    rw [if_pos h, decide_eq_true h, Int.toNat_natCast]
    refine spec_of Tryd.func7 rfl cc7 rfl ?_
    unfold ac7
    repeat (first | (refine step_ops ?_; (first | (refine m_mov (by conv => lhs; whnf) ?_) | (refine m_box rfl ?_ ?_; (· first | rfl | (simp [cellOk, Value.oneCell']; done))) | (refine m_ldall rfl rfl ?_ ?_; (· first | rfl | (simp; done) | (simp [*]; done))))) | refine end_ops ?_ | refine seq_ops ?_ | refine AW_seq ?_)
    refine step_ops ?_
    refine m_call hgo (lends_cons lend_pzl lends_nil) ?_
    repeat (first | (refine step_ops ?_; (first | (refine m_not rfl ?_) | (refine m_ldall rfl rfl ?_ ?_; (· first | rfl | (simp; done) | (simp [*]; done))))) | refine end_ops ?_ | refine seq_ops ?_ | (refine cond_f rfl ?_ ?_; (· first | rfl | assumption | (refine decide_eq_false ?_; first | assumption | omega) | (refine nf ?_; first | assumption | omega) | (simp [*]; done))) | refine skip_then ?_)
    refine step_ops ?_
    refine m_call hpt (lends_cons lend_pzl lends_nil) ?_
    repeat (first | (refine step_ops ?_; (refine m_mov (by conv => lhs; whnf) ?_)) | refine end_ops ?_ | refine AW_ret ?_ | refine ret_done ?_)
    exact outs_tup2 outs_v (outs_b rfl)
  · rw [decide_eq_false h] at hgo
    rw [if_neg h, decide_eq_false h]
    refine spec_of Tryd.func7 rfl cc7 rfl ?_
    unfold ac7
    repeat (first | (refine step_ops ?_; (first | (refine m_mov (by conv => lhs; whnf) ?_) | (refine m_box rfl ?_ ?_; (· first | rfl | (simp [cellOk, Value.oneCell']; done))) | (refine m_ldall rfl rfl ?_ ?_; (· first | rfl | (simp; done) | (simp [*]; done))))) | refine end_ops ?_ | refine seq_ops ?_ | refine AW_seq ?_)
    refine step_ops ?_
    refine m_call hgo (lends_cons lend_pzl lends_nil) ?_
    repeat (first | (refine step_ops ?_; (first | (refine m_mov (by conv => lhs; whnf) ?_) | (refine m_not rfl ?_))) | refine end_ops ?_ | refine seq_ops ?_ | (refine cond_t rfl ?_ ?_; (· first | rfl | assumption | (refine decide_eq_true ?_; first | assumption | omega) | (refine nt ?_; first | assumption | omega) | (simp [*]; done))) | refine AW_ret ?_ | refine ret_done ?_ | refine ret_then ?_)
    exact outs_tup2 outs_v (outs_b rfl)
set_option maxRecDepth 20000 in
theorem implPuzzleText_spec (g : Int) (C : List Clu) : Sp Tryd.prog 9 [pzl g C] (ptR g C) := by
  have hp := implIsPuzzle_spec g C
  unfold ptR ptT
  by_cases h : IsPz g C
  · obtain ⟨n, rfl, h1, h5⟩ := pz_nat h
    have hC6 := h.2.1
    have hit := itoa_spec n (by omega)
    have hdn := dec_len (n := n) (by omega)
    rw [decide_eq_true h] at hp
    rw [if_pos h, decide_eq_true h, Int.toNat_natCast]
    refine spec_of Tryd.func9 rfl cc9 rfl ?_
    unfold ac9
    repeat (first | (refine step_ops ?_; (first | (refine m_mov (by conv => lhs; whnf) ?_) | (refine m_box rfl ?_ ?_; (· first | rfl | (simp [cellOk, Value.oneCell']; done))) | (refine m_ldall rfl rfl ?_ ?_; (· first | rfl | (simp; done) | (simp [*]; done))))) | refine end_ops ?_ | refine seq_ops ?_ | refine AW_seq ?_)
    refine step_ops ?_
    refine m_call hp (lends_cons lend_pzl lends_nil) ?_
    repeat (first | (refine step_ops ?_; (first | (refine m_not rfl ?_) | (refine m_len_ro rfl ?_) | (apply m_ld_pt; (· rfl); (· rfl); (· rfl)) | (refine m_fa rfl ?_))) | refine end_ops ?_ | refine seq_ops ?_ | (refine cond_f rfl ?_ ?_; (· first | rfl | assumption | (refine decide_eq_false ?_; first | assumption | omega) | (refine nf ?_; first | assumption | omega) | (simp [*]; done))) | refine skip_then ?_)
    refine step_ops ?_
    refine m_mk (n := C.length) rfl rfl ?_ ?_ ?_
    · omega
    · omega
    repeat (first | (refine step_ops ?_; (first | (refine m_mov (by conv => lhs; whnf) ?_) | (refine m_len_ro rfl ?_) | (apply m_ld_pt; (· rfl); (· rfl); (· rfl)) | (refine m_fa rfl ?_))) | refine end_ops ?_ | refine seq_ops ?_ | refine AW_seq ?_ | refine AW_block ?_)
    refine AW_loop (α := Nat) (fun k => k ≤ C.length) (fun k => st [(1, .pt 1 0), (4, .sl 13 1 0 C.length), (15, .ro false 3 (cls C) C.length), (16, .i C.length), (17, .i k)] [(1, (true, [.i n, .ro false 3 (cls C) C.length])), (13, (true, wrdK C k))]) (fun k => C.length - k) 0 (Nat.zero_le _) (weak_st ?_ ?_ rfl rfl) ?_
    · (repeat' (first | exact trivial | refine And.intro ?_ ?_)) <;> (first | rfl | skip)
    · refine ⟨rfl, ?_, trivial⟩
      show some (true, (List.replicate C.length (List.map AV.v [Value.string ⟨#[]⟩])).flatten) = _
      simp [wrdK, cluW, strsA, List.flatten_replicate_singleton]
    intro k hk
    have hwl := wrdK_len C k hk
    by_cases hc : k < C.length
    · have hmem := getD_memL (d := ((0, 0, 0) : Clu)) hc
      have hws := wrdK_set C k hc
      rcases hce : C.getD k (0, 0, 0) with ⟨c1, c2, c3⟩
      rw [hce] at hmem hws
      obtain ⟨g1, g2, g3⟩ := isClu_small h5 (h.2.2 _ hmem)
      have hnt := numbersText_spec [c1, c2, c3] 46 (by simp) (by
        intro x hx
        simp only [List.mem_cons, List.not_mem_nil, or_false] at hx
        rcases hx with rfl | rfl | rfl
        · exact g1
        · exact g2
        · exact g3)
      rw [show txtC 46 [c1, c2, c3] = cluT (c1, c2, c3) from rfl] at hnt
      generalize cluT (c1, c2, c3) = T at *
      repeat (first | (refine step_ops ?_; (first | (refine m_mov (by conv => lhs; whnf) ?_) | (refine m_lss rfl rfl ?_) | (refine m_idx_ro rfl rfl ?_ ?_ ?_; (· omega); (· omega)))) | refine end_ops ?_ | refine seq_ops ?_ | (refine cond_t rfl ?_ ?_; (· first | rfl | assumption | (refine decide_eq_true ?_; first | assumption | omega) | (refine nt ?_; first | assumption | omega) | (simp [*]; done))) | refine skip_then ?_ | refine AW_seq ?_ | refine AW_block ?_)
      refine step_ops ?_
      refine m_ldClu hc hce rfl ?_
      repeat (first | (refine step_ops ?_; (first | (refine m_mov (by conv => lhs; whnf) ?_) | (apply m_ld_pt; (· rfl); (· rfl); (· rfl)) | (refine m_alloc ?_) | (refine m_fa rfl ?_) | (refine m_stall rfl rfl rfl ?_ ?_ ?_ ?_; (· first | rfl | (simp [*]; done)); (· first | rfl | (simp [*]; done)); (· first | rfl | (simp [cellOk, Value.oneCell']; done))))) | refine end_ops ?_ | refine AW_ops ?_)
      refine step_ops ?_
      refine m_bsl3i (a := c1) (b := c2) (c := c3) rfl rfl rfl ?_
      skip
      refine step_ops ?_
      refine m_call hnt (lends_cons (lend_sli (L := [c1, c2, c3]) rfl rfl) (lends_cons lend_v lends_nil)) ?_
      repeat (first | (refine step_ops ?_; (first | (refine m_mov (by conv => lhs; whnf) ?_) | (refine m_add rfl rfl ?_ ?_ ?_; (· omega); (· omega)) | (refine m_idx1_sl rfl rfl ?_ ?_; (· omega)) | (apply m_st; (· rfl); (· rfl); (· rfl); (· first | omega | (simp; done) | (simp; omega)); (· rfl)))) | refine end_ops ?_ | refine AW_ops ?_ | refine norm_then ?_ | refine norm_block ?_)
      refine next_round (k + 1) hc (weak_st ?_ ?_ rfl rfl) (by omega)
      · (repeat' (first | exact trivial | refine And.intro ?_ ?_)) <;> (first | rfl | skip)
      · refine ⟨rfl, ?_, trivial⟩
        rw [← hws]
        rfl
    · obtain rfl : k = C.length := by omega
      have hcj := cluJ_len h5 h.2.2 C.length (Nat.le_refl _)
      have hcw := cluW_len C C.length (Nat.le_refl _)
      have hj := join_spec (cluW C C.length) [44] (by omega) (by omega)
      have hwn : (cluW C C.length).length = C.length := hcw
      rw [hwn] at hj
      rw [wrdK_all]
      unfold pzT
      generalize Lib.decDigits n = A at *
      generalize cluW C C.length = W at *
      generalize Lib.join W [44] = J at *
      repeat (first | (refine step_ops ?_; (first | (refine m_lss rfl rfl ?_) | (apply m_ld_pt; (· rfl); (· rfl); (· rfl)) | (refine m_fa rfl ?_))) | refine end_ops ?_ | refine seq_ops ?_ | (refine cond_f rfl ?_ ?_; (· first | rfl | assumption | (refine decide_eq_false ?_; first | assumption | omega) | (refine nf ?_; first | assumption | omega) | (simp [*]; done))) | refine AW_seq ?_ | refine norm_then ?_ | refine exit_then ?_ | refine exit_round ?_ | refine AW_exit ?_ | refine exit_block ?_)
      (refine step_ops ?_); (apply m_call (hit)); (· repeat (first | exact lends_nil | (refine lends_cons ?_ ?_; (· exact lend_v))))
      repeat (refine step_ops ?_; (first | (refine m_mov (by conv => lhs; whnf) ?_) | (refine m_adds rfl rfl ?_ ?_; (· first | omega | (simp; omega)))))
      refine step_ops ?_
      refine m_call hj ?_ ?_
      · refine lends_cons ?_ (lends_cons lend_v lends_nil)
        have hlen : (strsA W).length = C.length := by rw [strsA_len, hwn]
        have e1 : ((strsA W).drop 0).take (C.length * 1) = strsA W := by rw [List.drop_zero, Nat.mul_one, List.take_of_length_le (by omega)]
        have key : ∀ {hp : Hp}, hp 13 = some (true, strsA W) → Lend hp (.sl 13 1 0 C.length) (.ro false 1 (strsA W) C.length) := fun hr => by
          have := lend_sl (z := 1) (off := 0) (n := C.length) hr (by omega) (strs_all _)
          rwa [e1] at this
        exact key rfl
      repeat (first | (refine step_ops ?_; (first | (refine m_mov (by conv => lhs; whnf) ?_) | (refine m_adds rfl rfl ?_ ?_; (· first | omega | (simp; omega))))) | refine end_ops ?_ | refine AW_ret ?_ | refine ret_done ?_)
      exact outs_tup2 outs_v (outs_b rfl)
  · rw [decide_eq_false h] at hp
    rw [if_neg h, decide_eq_false h]
    refine spec_of Tryd.func9 rfl cc9 rfl ?_
    unfold ac9
    repeat (first | (refine step_ops ?_; (first | (refine m_mov (by conv => lhs; whnf) ?_) | (refine m_box rfl ?_ ?_; (· first | rfl | (simp [cellOk, Value.oneCell']; done))) | (refine m_ldall rfl rfl ?_ ?_; (· first | rfl | (simp; done) | (simp [*]; done))))) | refine end_ops ?_ | refine seq_ops ?_ | refine AW_seq ?_)
    refine step_ops ?_
    refine m_call hp (lends_cons lend_pzl lends_nil) ?_
    repeat (first | (refine step_ops ?_; (first | (refine m_mov (by conv => lhs; whnf) ?_) | (refine m_not rfl ?_))) | refine end_ops ?_ | refine seq_ops ?_ | (refine cond_t rfl ?_ ?_; (· first | rfl | assumption | (refine decide_eq_true ?_; first | assumption | omega) | (refine nt ?_; first | assumption | omega) | (simp [*]; done))) | refine AW_ret ?_ | refine ret_done ?_ | refine ret_then ?_)
    exact outs_tup2 outs_v (outs_b rfl)
end Go.Proofs.YtjgcmbihbeokeaaDoor
namespace Go.Am
open Go.ChangeShapes Go.WideShapes Go.ChangeAt Go.RowKit Go.ChangeMaps
variable {P : Program} {H : Type} {enc : TypeId × Value → H}
theorem and_mk {a b : Bool} (h : a = true) (k : b = true) : (a && b) = true := by rw [h, k]; rfl
theorem More.below {w w' : World} (h : More w w') : Below w.heap.size w w' := ⟨h.os, h.tape, h.output, h.size, h.block⟩
theorem trodAll_stays (hl : laidOutB P = true) {W W' : World} (hb : Below W.heap.size W W') (sp : Nat → Bool) : ∀ {ts : List TypeId} {vs : List Value} {ds : List (DataW H)} {ps : List MemPlace},
    (∀ t ∈ ts, P.readableRec t = true ∧ t < P.types.size) → DataW.TrodAll enc P W 0 (fun _ => true) true ts vs ds ps → (∀ p ∈ ps, p.block < W.heap.size) → (∀ p ∈ ps, sp p.block = true) →
    DataW.TrodAll enc P W' 0 sp true ts vs ds ps
  | [], vs, ds, ps, _, h, _, _ => by
    obtain ⟨rfl, rfl, rfl⟩ := trodAll_nil h
    exact trodAll_mk0
  | t :: ts, vs, ds, ps, hr, h, hlt, hsp => by
    obtain ⟨v, vs', d, ds', p, q, rfl, rfl, rfl, h1, h2⟩ := trodAll_cons h
    refine ⟨p, q, ?_, trodAll_stays hl hb sp (fun t ht => hr t (List.mem_cons_of_mem _ ht)) h2 (fun x hx => hlt x (List.mem_append_right _ hx)) (fun x hx => hsp x (List.mem_append_right _ hx)), rfl⟩
    obtain ⟨h3, h4⟩ := hr t (List.mem_cons_self ..)
    exact WideElems.Trod_stays hl h3 h4 h1 (fun x hx => hb.same (hlt x (List.mem_append_left _ hx))) (fun x hx => hsp x (List.mem_append_left _ hx))
/-- What the row's last words ask of a law that says true. -/
theorem law_post (hl : laidOutB P = true) {f : Func} {s : ChangeSpec} {fresh handsOn again : Bool} {W W' : World} {args : Array Value} {ds gs : List (DataW H)} {before : List MemPlace} {bt : TypeId}
    (hW : DataW.Whole enc P f.params.toList s.vars false W args.toList ds gs before) (hvars : s.vars = []) (hfn : s.fn H (ds ++ gs) = { results := [.lit (.bool true)], args := ds })
    (hres : f.resultTypes = #[bt]) (hbt : P.underlying bt = some .bool) (hread : ∀ t ∈ f.params.toList, P.readableRec t = true ∧ t < P.types.size) (hm : More W W') :
    s.post enc P f false fresh handsOn again W args (.bool true) W' := by
  have hb := hm.below
  have hlt : ∀ p ∈ before, p.block < W.heap.size := fun p hp => hW.lt p hp
  obtain ⟨p, q, hA, hV, hpq, hz, hn⟩ := hW
  rw [hvars] at hV
  obtain ⟨rfl, rfl⟩ := trodVars_none hV
  rw [List.append_nil] at hpq
  subst hpq
  have hargs : ∀ sp : Nat → Bool, (∀ x ∈ before, sp x.block = true) → DataW.TrodAll enc P W' 0 sp true f.params.toList args.toList ds before := fun sp hsp => trodAll_stays hl hb sp hread hA hlt hsp
  have hresT : ∀ (b : Nat) (sp : Nat → Bool) (hd : Bool), DataW.TrodAll enc P W' b sp hd f.resultTypes.toList ((Value.bool true).resultList f.resultTypes.size) [.lit (.bool true)] [] := by
    intro b sp hd
    rw [hres]
    exact trodAll_mk1 (shut_bool hbt true)
  have hvarsT : ∀ sp : Nat → Bool, DataW.TrodVars enc P W' sp s.vars (s.fn H (ds ++ [])).vars [] := by
    intro sp
    rw [hvars, hfn]
    rfl
  have hfull : DataW.Whole enc P f.params.toList s.vars false W args.toList ds [] before := ⟨before, [], hA, by rw [hvars]; rfl, by simp, hz, by simp⟩
  refine ⟨ds, [], before, [], before, [], hfull, by rw [hfn]; exact hresT _ _ _, by rw [hfn]; exact hargs _ (fun x hx => by simpa using hlt x hx), hvarsT _, World.keptBut_mono (fun x hx => ⟨hx, .inr (.inl hx)⟩) (hb.frame (· ∈ before)), fun _ => ?_⟩
  refine ⟨ok_one hres rfl (okWide_bool_mk hbt true), _, _, ([] ++ before) ++ [], ⟨[] ++ before, [], trodAll_append (hargs _ (fun _ _ => rfl)) (hresT _ _ _), hvarsT _, rfl, ?_, by simp⟩, ?_⟩
  · intro b off hp
    have hin : MemPlace.cell b off ∈ before := by simpa using hp
    rw [hb.frozen (hlt _ hin)]
    exact hz b off hin
  · intro x hx _
    simpa using hx
abbrev Outer (w : World) : Ctx := { heap := w.heap, ro := fun b => b < w.heap.size, base := w.heap.size, phi := fun _ => none, live := fun _ => false, loc := false }
/-- A law says true. -/
theorem law_calls {f : FuncId} {asx : List AV} {W : World} {args : Array Value} (hs : Sp P f asx (.b true)) (he : SimL asx (Outer W) args.toList) (hlen : args.size = asx.length) (hg : GoodW W := by exact goodW_none rfl) :
    Calls P f args W fun e W' => e = .returned (.bool true) ∧ More W W' := by
  refine (hs W args hg ⟨he, by simpa using hlen⟩).mono fun e W' ⟨v, h1, h2, h3⟩ => ?_
  simp only [SimV] at h3
  subst h3
  exact ⟨h1, h2⟩
end Go.Am
namespace Go.Proofs.YtjgcmbihbeokeaaDoor
open Go.ChangeShapes Go.WideShapes Go.ChangeAt Go.RowKit
theorem factMayEnter : Tryd.checked.prog.mayEnter = true := by kernel_rfl
end Go.Proofs.YtjgcmbihbeokeaaDoor
namespace Go.Proofs.YtjgcmbihbeokeaaDoor
open Go.ChangeShapes Go.WideShapes Go.ChangeAt Go.RowKit
theorem factLifts : Tryd.checked.prog.liftsFinal = false := by kernel_rfl
end Go.Proofs.YtjgcmbihbeokeaaDoor
namespace Go.Proofs.YtjgcmbihbeokeaaDoor
open Go.ChangeShapes Go.WideShapes Go.ChangeAt Go.RowKit
theorem factMake : Tryd.checked.prog.make = some (OpenClaim.make { program := "", sum := "", func := "", spec := "" }) := by kernel_rfl
end Go.Proofs.YtjgcmbihbeokeaaDoor
namespace Go.Proofs.YtjgcmbihbeokeaaDoor
open Go.ChangeShapes Go.WideShapes Go.ChangeAt Go.RowKit
theorem door_met (os : Os) (args : Array Value) : laidMetH Tryd.prog Rows.fnExactPuzzleTextRow.laid ((World.laidAll Tryd.prog os Rows.fnExactPuzzleTextRow.laid).forCall (fun _ _ => 0) ⟨#[], args, []⟩).memory := by
  rw [MakeChecks.laidMetH_plain _ _ _ (by kernel_rfl)]
  exact laidMet_laidAll _ (by kernel_rfl) (by kernel_rfl)
theorem door_shaped (os : Os) (args : Array Value) : World.Shaped Tryd.prog ((World.laidAll Tryd.prog os Rows.fnExactPuzzleTextRow.laid).forCall (fun _ _ => 0) ⟨#[], args, []⟩) := World.shaped_of_ZipB (by kernel_rfl) (by kernel_rfl)
end Go.Proofs.YtjgcmbihbeokeaaDoor
