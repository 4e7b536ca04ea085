/- Roots of an exchange: the specification's, in the order of a search. -/
import Derived.Test.YteoogkiaacdmiaaSuZ
namespace Go.Proofs.Yteoogkiaacdmiaa
open Go.Am
attribute [local irreducible] AW Outs Weak Lends Lend Sp aops atree aop1 Then Round InBlock Done
attribute [local irreducible] SpH DoneH SpG DoneT

theorem flatMap_fil {β : Type} {p : Nat → Bool} {f g : Nat → List β} : ∀ l : List Nat, (∀ x ∈ l, g x = if p x then f x else []) → l.flatMap g = (l.filter p).flatMap f
  | [], _ => rfl
  | a :: l, h => by
    rw [List.flatMap_cons, h a (by simp), flatMap_fil l (fun x hx => h x (by simp [hx])), List.filter_cons]
    cases p a <;> simp
theorem getD_snoc0 {M : List Int} {x : Int} {i : Nat} (h : i < M.length) : (M ++ [x]).getD i 0 = M.getD i 0 := by
  rw [List.getD_eq_getElem?_getD, List.getD_eq_getElem?_getD, List.getElem?_append_left h]
theorem thenW_get {A B : List Int} {k i : Nat} (h : i < k) : (thenW A B k).getD i 0 = A.getD (B.getD i 0).toNat 0 := by
  unfold thenW
  rw [List.getD_eq_getElem?_getD, List.getElem?_map, List.getElem?_range h]
  rfl
theorem ext_getD0 {A B : List Int} (hl : A.length = B.length) (h : ∀ i < A.length, A.getD i 0 = B.getD i 0) : A = B := by
  refine List.ext_getElem hl fun i h1 h2 => ?_
  have := h i h1
  rw [List.getD_eq_getElem?_getD, List.getD_eq_getElem?_getD, List.getElem?_eq_getElem h1, List.getElem?_eq_getElem h2] at this
  exact this
theorem getD_mem0 {M : List Int} {i : Nat} (h : i < M.length) : M.getD i 0 ∈ M := by
  rw [List.getD_eq_getElem?_getD, List.getElem?_eq_getElem h]
  exact List.getElem_mem h

theorem rtU_nil (L : List Int) : ∀ k M, RtBeg L.length M → M.length + k = L.length → ¬ RtC L M M.length → rtU L k M = []
  | 0, M, hb, hl, hc => by
    rw [rtU, if_neg]
    intro he
    refine hc fun i hi hlt => ?_
    rw [← he, thenW_get hi]
  | k + 1, M, hb, hl, hc => by
    rw [rtU]; unfold rtS
    rw [List.flatMap_eq_nil_iff]
    intro x hx
    split
    · rfl
    · rename_i hm
      refine rtU_nil L k _ (rtBeg_snoc hb (List.mem_range.1 hx) hm) (by rw [List.length_append, List.length_singleton]; omega) fun hh => hc fun i hi hlt => ?_
      have h1 := hh i (by rw [List.length_append, List.length_singleton]; omega)
      have h2 := hb.1 _ (getD_mem0 hi)
      rw [getD_snoc0 hi, List.length_append, List.length_singleton, getD_snoc0 (by omega)] at h1
      exact h1 (by omega)
theorem rtU_goOn (L : List Int) : ∀ k M, RtBeg L.length M → M.length + k = L.length → RtC L M M.length → rtU L k M = goOn (rtFits L) L.length k M
  | 0, M, hb, hl, hc => by
    rw [rtU, goOn, if_pos]
    refine ext_getD0 (by rw [thenW_len]; omega) fun i hi => ?_
    rw [thenW_len] at hi
    have h2 := hb.1 _ (getD_mem0 hi)
    rw [thenW_get hi]
    exact hc i hi (by omega)
  | k + 1, M, hb, hl, hc => by
    rw [rtU, goOn]; unfold rtS
    refine flatMap_fil _ fun x hx => ?_
    unfold rtFits
    by_cases hm : (x : Int) ∈ M
    · simp [hm]
    · have hb2 := rtBeg_snoc hb (List.mem_range.1 hx) hm
      have hl2 : (M ++ [(x : Int)]).length = M.length + 1 := by simp
      rw [if_neg hm, decide_eq_false hm, Bool.not_false, Bool.true_and]
      by_cases hc2 : RtC L (M ++ [(x : Int)]) (M.length + 1)
      · rw [if_pos (decide_eq_true hc2)]
        exact rtU_goOn L k _ hb2 (by omega) (by rw [hl2]; exact hc2)
      · rw [if_neg (by rw [decide_eq_false hc2]; simp)]
        exact rtU_nil L k _ hb2 (by omega) (by rw [hl2]; exact hc2)
theorem frO_goOn {L : List Int} (h : RoOk L) : frO L = (goOn (rtFits L) L.length L.length []).head? := by
  unfold frO
  rw [if_pos h, rtU_goOn L L.length [] ⟨fun x hx => absurd hx (by simp), List.nodup_nil⟩ (by simp) fun i hi => absurd hi (by simp)]

theorem implFirstRoot_spec (L : List Int) (hL : L.length ≤ 1048576) : Sp Try.prog 19 [ints L] (frTup L) := by
  unfold frTup
  by_cases h : RoOk L
  · have h1 := h.1.1
    have h7 := h.2
    have hs := firstFitting_spec (rootsAsks L (by omega)) (by omega) h1
    rw [← frO_goOn h] at hs
    have hcan := canHaveRoots_spec L hL
    rw [decide_eq_true h] at hcan
    unfold srchR at hs
    generalize frO L = T at hs ⊢
    refine spec_of Try.func19 rfl cc19 rfl ?_
    unfold ac19
    repeat (first | (refine step_ops ?_; (first | (refine m_mov (by conv => lhs; whnf) ?_) | (refine m_not rfl ?_) | (refine m_len_ro rfl ?_) | (refine m_len_sl rfl ?_) | (refine m_len_nil rfl ?_) | (refine m_nils ?_) | (refine m_ext rfl rfl ?_))) | refine end_ops ?_ | refine seq_ops ?_ | refine AW_ops ?_ | (refine cond_t rfl ?_ ?_; (· first | rfl | assumption | (refine decide_eq_true ?_; first | assumption | omega) | (refine nt ?_; first | assumption | omega) | (simp [*]; done))) | (refine cond_f rfl ?_ ?_; (· first | rfl | assumption | (refine decide_eq_false ?_; first | assumption | omega) | (refine nf ?_; first | assumption | omega) | (simp [*]; done))) | refine skip_then ?_ | refine AW_seq ?_ | refine AW_ret ?_ | refine ret_done ?_ | refine norm_then ?_ | refine ret_then ?_ | refine exit_then ?_ | refine AW_skip ?_)
    (refine step_ops ?_); (apply m_call (hcan)); (· repeat (first | exact lends_nil | (refine lends_cons ?_ ?_; (· first | exact lend_v | (refine lend_roM rfl; done) | (refine lend_mat rfl ?_; intro j hj; simp (disch := first | omega | assumption) only [hp_put, hp_mem_ne, hp_kill_ne]; first | exact stM_row rfl hj | (rw [stM_row rfl hj]; rfl)) | (refine lend_ints ?_; first | rfl | omega) | (refine lend_sli (by rfl) ?_; first | rfl | omega | (simp; done)) | exact lend_any | (refine lend_agg ?_; first | rfl | assumption | (simp [plainV]; done))))))
    repeat (first | (refine step_ops ?_; (first | (refine m_mov (by conv => lhs; whnf) ?_) | (refine m_not rfl ?_) | (refine m_len_ro rfl ?_) | (refine m_len_sl rfl ?_) | (refine m_len_nil rfl ?_) | (refine m_nils ?_) | (refine m_ext rfl rfl ?_))) | refine end_ops ?_ | refine seq_ops ?_ | refine AW_ops ?_ | (refine cond_t rfl ?_ ?_; (· first | rfl | assumption | (refine decide_eq_true ?_; first | assumption | omega) | (refine nt ?_; first | assumption | omega) | (simp [*]; done))) | (refine cond_f rfl ?_ ?_; (· first | rfl | assumption | (refine decide_eq_false ?_; first | assumption | omega) | (refine nf ?_; first | assumption | omega) | (simp [*]; done))) | refine skip_then ?_ | refine AW_seq ?_ | refine AW_ret ?_ | refine ret_done ?_ | refine norm_then ?_ | refine ret_then ?_ | refine exit_then ?_ | refine AW_skip ?_)
    refine step_ops ?_
    refine m_callbox rootsAmong_spec rfl rfl ?_
    repeat (first | (refine step_ops ?_; (first | (refine m_mov (by conv => lhs; whnf) ?_) | (refine m_not rfl ?_) | (refine m_len_ro rfl ?_) | (refine m_len_sl rfl ?_) | (refine m_len_nil rfl ?_) | (refine m_nils ?_) | (refine m_ext rfl rfl ?_))) | refine end_ops ?_ | refine seq_ops ?_ | refine AW_ops ?_ | (refine cond_t rfl ?_ ?_; (· first | rfl | assumption | (refine decide_eq_true ?_; first | assumption | omega) | (refine nt ?_; first | assumption | omega) | (simp [*]; done))) | (refine cond_f rfl ?_ ?_; (· first | rfl | assumption | (refine decide_eq_false ?_; first | assumption | omega) | (refine nf ?_; first | assumption | omega) | (simp [*]; done))) | refine skip_then ?_ | refine AW_seq ?_ | refine AW_ret ?_ | refine ret_done ?_ | refine norm_then ?_ | refine ret_then ?_ | refine exit_then ?_ | refine AW_skip ?_)
    refine step_ops ?_
    refine m_call hs ?_ ?_
    · exact lends_cons lend_v (lends_cons (lend_fn (lends_cons (lend_ptR rfl (by rw [readL, readV_ints]; rfl)) lends_nil)) lends_nil)
    repeat (first | (refine step_ops ?_; (first | (refine m_mov (by conv => lhs; whnf) ?_) | (refine m_not rfl ?_) | (refine m_len_ro rfl ?_) | (refine m_len_sl rfl ?_) | (refine m_len_nil rfl ?_) | (refine m_nils ?_) | (refine m_ext rfl rfl ?_))) | refine end_ops ?_ | refine seq_ops ?_ | refine AW_ops ?_ | (refine cond_t rfl ?_ ?_; (· first | rfl | assumption | (refine decide_eq_true ?_; first | assumption | omega) | (refine nt ?_; first | assumption | omega) | (simp [*]; done))) | (refine cond_f rfl ?_ ?_; (· first | rfl | assumption | (refine decide_eq_false ?_; first | assumption | omega) | (refine nf ?_; first | assumption | omega) | (simp [*]; done))) | refine skip_then ?_ | refine AW_seq ?_ | refine AW_ret ?_ | refine ret_done ?_ | refine norm_then ?_ | refine ret_then ?_ | refine exit_then ?_ | refine AW_skip ?_)
    exact outs_tup2 (outs_ro (allv_ints _)) (outs_b rfl)
  · have e : frO L = none := if_neg h
    have hcan := canHaveRoots_spec L hL
    rw [decide_eq_false h] at hcan
    rw [e]
    refine spec_of Try.func19 rfl cc19 rfl ?_
    unfold ac19
    repeat (first | (refine step_ops ?_; (first | (refine m_mov (by conv => lhs; whnf) ?_) | (refine m_not rfl ?_) | (refine m_len_ro rfl ?_) | (refine m_len_sl rfl ?_) | (refine m_len_nil rfl ?_) | (refine m_nils ?_) | (refine m_ext rfl rfl ?_))) | refine end_ops ?_ | refine seq_ops ?_ | refine AW_ops ?_ | (refine cond_t rfl ?_ ?_; (· first | rfl | assumption | (refine decide_eq_true ?_; first | assumption | omega) | (refine nt ?_; first | assumption | omega) | (simp [*]; done))) | (refine cond_f rfl ?_ ?_; (· first | rfl | assumption | (refine decide_eq_false ?_; first | assumption | omega) | (refine nf ?_; first | assumption | omega) | (simp [*]; done))) | refine skip_then ?_ | refine AW_seq ?_ | refine AW_ret ?_ | refine ret_done ?_ | refine norm_then ?_ | refine ret_then ?_ | refine exit_then ?_ | refine AW_skip ?_)
    (refine step_ops ?_); (apply m_call (hcan)); (· repeat (first | exact lends_nil | (refine lends_cons ?_ ?_; (· first | exact lend_v | (refine lend_roM rfl; done) | (refine lend_mat rfl ?_; intro j hj; simp (disch := first | omega | assumption) only [hp_put, hp_mem_ne, hp_kill_ne]; first | exact stM_row rfl hj | (rw [stM_row rfl hj]; rfl)) | (refine lend_ints ?_; first | rfl | omega) | (refine lend_sli (by rfl) ?_; first | rfl | omega | (simp; done)) | exact lend_any | (refine lend_agg ?_; first | rfl | assumption | (simp [plainV]; done))))))
    repeat (first | (refine step_ops ?_; (first | (refine m_mov (by conv => lhs; whnf) ?_) | (refine m_not rfl ?_) | (refine m_len_ro rfl ?_) | (refine m_len_sl rfl ?_) | (refine m_len_nil rfl ?_) | (refine m_nils ?_) | (refine m_ext rfl rfl ?_))) | refine end_ops ?_ | refine seq_ops ?_ | refine AW_ops ?_ | (refine cond_t rfl ?_ ?_; (· first | rfl | assumption | (refine decide_eq_true ?_; first | assumption | omega) | (refine nt ?_; first | assumption | omega) | (simp [*]; done))) | (refine cond_f rfl ?_ ?_; (· first | rfl | assumption | (refine decide_eq_false ?_; first | assumption | omega) | (refine nf ?_; first | assumption | omega) | (simp [*]; done))) | refine skip_then ?_ | refine AW_seq ?_ | refine AW_ret ?_ | refine ret_done ?_ | refine norm_then ?_ | refine ret_then ?_ | refine exit_then ?_ | refine AW_skip ?_)
    exact outs_tup2 (outs_ints rfl rfl rfl) (outs_b rfl)
end Go.Proofs.Yteoogkiaacdmiaa
