/- Contracts: AllSeatings, CountDisplaced. -/
import Derived.Test.YtpefdmmnimmpiaaSpF
import Derived.Test.YtpefdmmnimmpiaaSqA
import Derived.Test.YtpefdmmnimmpiaaSqH
import Derived.Test.YtpefdmmnimmpiaaSpQ
import Derived.Test.YtpefdmmnimmpiaaAmV
namespace Go.Proofs.Ytpefdmmnimmpiaa
open Go.Am
attribute [local irreducible] AW Outs Weak Lends Lend Sp aops atree aop1 Then Round InBlock Done
attribute [local irreducible] SpH DoneH

/-- May there be so many guests and lost tickets? -/
def SeOk (m g l : Int) : Prop := (1 ≤ g ∧ g ≤ m) ∧ 0 ≤ l ∧ l ≤ g
instance (m g l : Int) : Decidable (SeOk m g l) := inferInstanceAs (Decidable (_ ∧ _))

theorem canList_spec (g l : Int) : Sp Try.prog 23 [.i g, .i l] (.b (decide (SeOk 7 g l))) := by
  refine spec_of Try.func23 rfl cc23 rfl ?_
  unfold ac23
  by_cases h1 : 1 ≤ g
  · by_cases h2 : g ≤ 7
    · repeat (first | (refine step_ops ?_; (first | ((try (refine g_yes rfl ?_ ?_; (· first | rfl | assumption | (refine decide_eq_true ?_; first | assumption | omega) | (refine nt ?_; first | assumption | omega) | (simp [*]; done) | (refine decide_eq_false ?_; first | assumption | omega) | (refine nf ?_; first | assumption | omega)))); (first | (refine m_mov (by conv => lhs; whnf) ?_) | (refine m_leq rfl rfl ?_) | (refine m_geq rfl rfl ?_) | (refine m_pick_t rfl ?_ (by conv => lhs; whnf) ?_; (· first | rfl | assumption | (refine decide_eq_true ?_; first | assumption | omega) | (refine nt ?_; first | assumption | omega) | (simp [*]; done))) | (refine m_pick_f rfl ?_ (by conv => lhs; whnf) ?_; (· first | rfl | assumption | (refine decide_eq_false ?_; first | assumption | omega) | (refine nf ?_; first | assumption | omega) | (simp [*]; done))))) | (refine g_noT rfl ?_ ?_; (· first | rfl | assumption | (refine decide_eq_false ?_; first | assumption | omega) | (refine nf ?_; first | assumption | omega) | (simp [*]; done))))) | refine end_ops ?_ | refine seq_ops ?_ | refine AW_ops ?_ | refine AW_seq ?_ | refine AW_ret ?_ | refine ret_done ?_ | refine norm_then ?_ | refine ret_then ?_ | refine exit_then ?_)
      (refine step_ops ?_); (first | (apply m_call (canLose_spec _ _)) | (refine g_yes rfl ?_ ?_; (· first | (first | rfl | assumption | (refine decide_eq_true ?_; first | assumption | omega) | (refine nt ?_; first | assumption | omega) | (simp [*]; done)) | (first | rfl | assumption | (refine decide_eq_false ?_; first | assumption | omega) | (refine nf ?_; first | assumption | omega) | (simp [*]; done))); (apply m_call (canLose_spec _ _)))); (· repeat (first | exact lends_nil | (refine lends_cons ?_ ?_; (· first | exact lend_v | (refine lend_roM rfl; done) | (refine lend_mat rfl ?_; intro j hj; simp (disch := first | omega | assumption) only [hp_put, hp_mem_ne, hp_kill_ne]; first | exact stM_row rfl hj | (rw [stM_row rfl hj]; rfl)) | (refine lend_ints ?_; first | rfl | omega) | (refine lend_sli (by rfl) ?_; first | rfl | omega | (simp; done)) | exact lend_any | (refine lend_agg ?_; first | rfl | assumption | (simp [plainV]; done))))))
      repeat (first | (refine step_ops ?_; (first | ((try (refine g_yes rfl ?_ ?_; (· first | rfl | assumption | (refine decide_eq_true ?_; first | assumption | omega) | (refine nt ?_; first | assumption | omega) | (simp [*]; done) | (refine decide_eq_false ?_; first | assumption | omega) | (refine nf ?_; first | assumption | omega)))); (first | (refine m_mov (by conv => lhs; whnf) ?_) | (refine m_leq rfl rfl ?_) | (refine m_geq rfl rfl ?_) | (refine m_pick_t rfl ?_ (by conv => lhs; whnf) ?_; (· first | rfl | assumption | (refine decide_eq_true ?_; first | assumption | omega) | (refine nt ?_; first | assumption | omega) | (simp [*]; done))) | (refine m_pick_f rfl ?_ (by conv => lhs; whnf) ?_; (· first | rfl | assumption | (refine decide_eq_false ?_; first | assumption | omega) | (refine nf ?_; first | assumption | omega) | (simp [*]; done))))) | (refine g_noT rfl ?_ ?_; (· first | rfl | assumption | (refine decide_eq_false ?_; first | assumption | omega) | (refine nf ?_; first | assumption | omega) | (simp [*]; done))))) | refine end_ops ?_ | refine seq_ops ?_ | refine AW_ops ?_ | refine AW_seq ?_ | refine AW_ret ?_ | refine ret_done ?_ | refine norm_then ?_ | refine ret_then ?_ | refine exit_then ?_)
      refine outs_b ?_
      refine decide_eq_decide.2 ?_
      unfold SeOk
      simp [h1, h2]
    · repeat (first | (refine step_ops ?_; (first | ((try (refine g_yes rfl ?_ ?_; (· first | rfl | assumption | (refine decide_eq_true ?_; first | assumption | omega) | (refine nt ?_; first | assumption | omega) | (simp [*]; done) | (refine decide_eq_false ?_; first | assumption | omega) | (refine nf ?_; first | assumption | omega)))); (first | (refine m_mov (by conv => lhs; whnf) ?_) | (refine m_leq rfl rfl ?_) | (refine m_geq rfl rfl ?_) | (refine m_pick_t rfl ?_ (by conv => lhs; whnf) ?_; (· first | rfl | assumption | (refine decide_eq_true ?_; first | assumption | omega) | (refine nt ?_; first | assumption | omega) | (simp [*]; done))) | (refine m_pick_f rfl ?_ (by conv => lhs; whnf) ?_; (· first | rfl | assumption | (refine decide_eq_false ?_; first | assumption | omega) | (refine nf ?_; first | assumption | omega) | (simp [*]; done))))) | (refine g_noT rfl ?_ ?_; (· first | rfl | assumption | (refine decide_eq_false ?_; first | assumption | omega) | (refine nf ?_; first | assumption | omega) | (simp [*]; done))))) | refine end_ops ?_ | refine seq_ops ?_ | refine AW_ops ?_ | refine AW_seq ?_ | refine AW_ret ?_ | refine ret_done ?_ | refine norm_then ?_ | refine ret_then ?_ | refine exit_then ?_)
      refine outs_b ?_
      symm
      exact decide_eq_false fun hh => h2 hh.1.2
  · repeat (first | (refine step_ops ?_; (first | ((try (refine g_yes rfl ?_ ?_; (· first | rfl | assumption | (refine decide_eq_true ?_; first | assumption | omega) | (refine nt ?_; first | assumption | omega) | (simp [*]; done) | (refine decide_eq_false ?_; first | assumption | omega) | (refine nf ?_; first | assumption | omega)))); (first | (refine m_mov (by conv => lhs; whnf) ?_) | (refine m_leq rfl rfl ?_) | (refine m_geq rfl rfl ?_) | (refine m_pick_t rfl ?_ (by conv => lhs; whnf) ?_; (· first | rfl | assumption | (refine decide_eq_true ?_; first | assumption | omega) | (refine nt ?_; first | assumption | omega) | (simp [*]; done))) | (refine m_pick_f rfl ?_ (by conv => lhs; whnf) ?_; (· first | rfl | assumption | (refine decide_eq_false ?_; first | assumption | omega) | (refine nf ?_; first | assumption | omega) | (simp [*]; done))))) | (refine g_noT rfl ?_ ?_; (· first | rfl | assumption | (refine decide_eq_false ?_; first | assumption | omega) | (refine nf ?_; first | assumption | omega) | (simp [*]; done))))) | refine end_ops ?_ | refine seq_ops ?_ | refine AW_ops ?_ | refine AW_seq ?_ | refine AW_ret ?_ | refine ret_done ?_ | refine norm_then ?_ | refine ret_then ?_ | refine exit_then ?_)
    refine outs_b ?_
    symm
    exact decide_eq_false fun hh => h1 hh.1.1

theorem allKeeps (n : Nat) : Keeps Try.prog 25 [] 0 n (fun _ => true) where
  call := ⟨_, Try.func25, by rfl, by rfl⟩
  bears := bears_nil
  norefs := fun _ => rfl
  nokill := fun _ => rfl
  spec := fun M _ => by
    show Sp Try.prog 25 [ints M] (.b true)
    refine spec_of Try.func25 rfl cc25 rfl ?_
    unfold ac25
    repeat (first | (refine step_ops ?_; (first | (refine m_mov (by conv => lhs; whnf) ?_))) | refine end_ops ?_ | refine seq_ops ?_ | refine AW_ops ?_ | refine AW_seq ?_ | refine AW_ret ?_ | refine ret_done ?_ | refine norm_then ?_ | refine ret_then ?_ | refine exit_then ?_)
    exact outs_b rfl

/-- What AllSeatings tells. -/
def allR (g l : Int) : List (List Int) := if SeOk 7 g l then allS l g.toNat else []
theorem allR_ok (g l : Int) : (allR g l).length ≤ 5040 ∧ ∀ r ∈ allR g l, r.length ≤ 7 := by
  unfold allR
  split
  · rename_i h
    have h2 := h.1.2
    refine ⟨allS_len l _ (by omega), fun r hr => ?_⟩
    have := (allS_mem hr).2
    omega
  · simp

theorem specAllSeatings_spec (g l : Int) : SpH Try.prog 8 [.i g, .i l] (fun _ => none) (.tup [.sl nbase 1 0 (allR g l).length, .v (.bool (decide (SeOk 7 g l)))]) (matO (allR g l)) := by
  have hpb : pbase = 100000 := rfl
  have hstat : Static (fun _ => none) (.tup [.sl nbase 1 0 (allR g l).length, .v (.bool (decide (SeOk 7 g l)))]) (matO (allR g l)) := static_mat2 _ _
  by_cases h : SeOk 7 g l
  · have h1 := h.1
    have h2 := h.2
    have e0 : allR g l = allS l g.toNat := if_pos h
    rw [e0] at hstat ⊢
    rw [decide_eq_true h] at hstat ⊢
    obtain ⟨g, rfl⟩ := Int.eq_ofNat_of_zero_le (show 0 ≤ g by omega)
    rw [Int.toNat_natCast] at hstat ⊢
    have hal := allS_len l g (by omega)
    have hsa : SpH Try.prog 22 [.i g, .i l, ints []] (fun _ => none) (.sl nbase 1 0 (allS l g).length) (matO (allS l g)) := seAll_spec l g (by omega) g [] (beg_nil g) (by simp)
    refine specH_of Try.func8 rfl cc8 rfl (by first | exact static_mat1 _ | exact static_mat2 _ _ | assumption) ?_
    unfold ac8
    repeat (first | (refine step_ops ?_; (first | (refine m_mov (by conv => lhs; whnf) ?_) | (refine m_not rfl ?_) | (refine m_nils ?_))) | refine end_ops ?_ | refine seq_ops ?_ | refine AW_ops ?_ | (refine cond_t rfl ?_ ?_; (· first | rfl | assumption | (refine decide_eq_true ?_; first | assumption | omega) | (refine nt ?_; first | assumption | omega) | (simp [*]; done))) | (refine cond_f rfl ?_ ?_; (· first | rfl | assumption | (refine decide_eq_false ?_; first | assumption | omega) | (refine nf ?_; first | assumption | omega) | (simp [*]; done))) | refine skip_then ?_ | refine AW_seq ?_ | refine AW_ret ?_ | refine ret_done ?_ | refine norm_then ?_ | refine ret_then ?_ | refine exit_then ?_ | refine AW_skip ?_)
    (refine step_ops ?_); (apply m_call (seGuests_spec _ _ _)); (· repeat (first | exact lends_nil | (refine lends_cons ?_ ?_; (· first | exact lend_v | (refine lend_roM rfl; done) | (refine lend_mat rfl ?_; intro j hj; simp (disch := first | omega | assumption) only [hp_put, hp_mem_ne, hp_kill_ne]; first | exact stM_row rfl hj | (rw [stM_row rfl hj]; rfl)) | (refine lend_ints ?_; first | rfl | omega) | (refine lend_sli (by rfl) ?_; first | rfl | omega | (simp; done)) | exact lend_any | (refine lend_agg ?_; first | rfl | assumption | (simp [plainV]; done))))))
    repeat (first | (refine step_ops ?_; (first | (refine m_mov (by conv => lhs; whnf) ?_) | (refine m_not rfl ?_) | (refine m_nils ?_))) | refine end_ops ?_ | refine seq_ops ?_ | refine AW_ops ?_ | (refine cond_t rfl ?_ ?_; (· first | rfl | assumption | (refine decide_eq_true ?_; first | assumption | omega) | (refine nt ?_; first | assumption | omega) | (simp [*]; done))) | (refine cond_f rfl ?_ ?_; (· first | rfl | assumption | (refine decide_eq_false ?_; first | assumption | omega) | (refine nf ?_; first | assumption | omega) | (simp [*]; done))) | refine skip_then ?_ | refine AW_seq ?_ | refine AW_ret ?_ | refine ret_done ?_ | refine norm_then ?_ | refine ret_then ?_ | refine exit_then ?_ | refine AW_skip ?_)
    refine step_ops ?_
    refine m_callM 12 1000 hsa ?_ rfl (by omega) (by omega) (by omega) rfl ?_ ?_
    · exact lends_cons lend_v (lends_cons lend_v (lends_cons lend_nil lends_nil))
    · intro j hj
      simp (disch := omega) only [hp_put, hp_mem_ne, hp_kill_ne]
      rfl
    repeat (first | (refine step_ops ?_; (first | (refine m_mov (by conv => lhs; whnf) ?_) | (refine m_not rfl ?_) | (refine m_nils ?_))) | refine end_ops ?_ | refine seq_ops ?_ | refine AW_ops ?_ | (refine cond_t rfl ?_ ?_; (· first | rfl | assumption | (refine decide_eq_true ?_; first | assumption | omega) | (refine nt ?_; first | assumption | omega) | (simp [*]; done))) | (refine cond_f rfl ?_ ?_; (· first | rfl | assumption | (refine decide_eq_false ?_; first | assumption | omega) | (refine nf ?_; first | assumption | omega) | (simp [*]; done))) | refine skip_then ?_ | refine AW_seq ?_ | refine AW_ret ?_ | refine ret_done ?_ | refine norm_then ?_ | refine ret_then ?_ | refine exit_then ?_ | refine AW_skip ?_)
    refine ret_mat (r0 := 12) (b := 1000) (by omega) (by omega) (by omega) rfl rfl ?_
    intro j hj
    simp only [hp_put]
    refine addM_row (by omega) ?_ hj
    simp (disch := omega) only [hp_put, hp_mem_ne, hp_kill_ne]
    rfl
  · have h' : ¬ ((1 ≤ g ∧ g ≤ 7) ∧ 0 ≤ l ∧ l ≤ g) := h
    have e0 : allR g l = [] := if_neg h
    rw [e0] at hstat ⊢
    rw [decide_eq_false h] at hstat ⊢
    refine specH_of Try.func8 rfl cc8 rfl (by first | exact static_mat1 _ | exact static_mat2 _ _ | assumption) ?_
    unfold ac8
    repeat (first | (refine step_ops ?_; (first | (refine m_mov (by conv => lhs; whnf) ?_) | (refine m_not rfl ?_) | (refine m_nils ?_))) | refine end_ops ?_ | refine seq_ops ?_ | refine AW_ops ?_ | (refine cond_t rfl ?_ ?_; (· first | rfl | assumption | (refine decide_eq_true ?_; first | assumption | omega) | (refine nt ?_; first | assumption | omega) | (simp [*]; done))) | (refine cond_f rfl ?_ ?_; (· first | rfl | assumption | (refine decide_eq_false ?_; first | assumption | omega) | (refine nf ?_; first | assumption | omega) | (simp [*]; done))) | refine skip_then ?_ | refine AW_seq ?_ | refine AW_ret ?_ | refine ret_done ?_ | refine norm_then ?_ | refine ret_then ?_ | refine exit_then ?_ | refine AW_skip ?_)
    (refine step_ops ?_); (apply m_call (seGuests_spec _ _ _)); (· repeat (first | exact lends_nil | (refine lends_cons ?_ ?_; (· first | exact lend_v | (refine lend_roM rfl; done) | (refine lend_mat rfl ?_; intro j hj; simp (disch := first | omega | assumption) only [hp_put, hp_mem_ne, hp_kill_ne]; first | exact stM_row rfl hj | (rw [stM_row rfl hj]; rfl)) | (refine lend_ints ?_; first | rfl | omega) | (refine lend_sli (by rfl) ?_; first | rfl | omega | (simp; done)) | exact lend_any | (refine lend_agg ?_; first | rfl | assumption | (simp [plainV]; done))))))
    repeat (first | (refine step_ops ?_; (first | (refine m_mov (by conv => lhs; whnf) ?_) | (refine m_not rfl ?_) | (refine m_nils ?_))) | refine end_ops ?_ | refine seq_ops ?_ | refine AW_ops ?_ | (refine cond_t rfl ?_ ?_; (· first | rfl | assumption | (refine decide_eq_true ?_; first | assumption | omega) | (refine nt ?_; first | assumption | omega) | (simp [*]; done))) | (refine cond_f rfl ?_ ?_; (· first | rfl | assumption | (refine decide_eq_false ?_; first | assumption | omega) | (refine nf ?_; first | assumption | omega) | (simp [*]; done))) | refine skip_then ?_ | refine AW_seq ?_ | refine AW_ret ?_ | refine ret_done ?_ | refine norm_then ?_ | refine ret_then ?_ | refine exit_then ?_ | refine AW_skip ?_)
    exact ret_mat0 (r0 := 4) (fl := true) (by omega) rfl rfl

theorem implAllSeatings_spec (g l : Int) : SpH Try.prog 9 [.i g, .i l] (fun _ => none) (.tup [.sl nbase 1 0 (allR g l).length, .v (.bool (decide (SeOk 7 g l)))]) (matO (allR g l)) := by
  have hpb : pbase = 100000 := rfl
  have hstat : Static (fun _ => none) (.tup [.sl nbase 1 0 (allR g l).length, .v (.bool (decide (SeOk 7 g l)))]) (matO (allR g l)) := static_mat2 _ _
  by_cases h : SeOk 7 g l
  · have h1 := h.1
    have h2 := h.2
    have e0 : allR g l = allS l g.toNat := if_pos h
    rw [e0] at hstat ⊢
    have hd := decide_eq_true h
    rw [hd] at hstat ⊢
    obtain ⟨g, rfl⟩ := Int.eq_ofNat_of_zero_le (show 0 ≤ g by omega)
    rw [Int.toNat_natCast] at hstat ⊢
    have hal := allS_len l g (by omega)
    have hsw := seatingsWhere_spec l (allKeeps g) (by omega) (by omega)
    rw [List.filter_eq_self.2 (fun a _ => rfl)] at hsw
    refine specH_of Try.func9 rfl cc9 rfl (by first | exact static_mat1 _ | exact static_mat2 _ _ | assumption) ?_
    unfold ac9
    repeat (first | (refine step_ops ?_; (first | (refine m_mov (by conv => lhs; whnf) ?_) | (refine m_not rfl ?_) | (refine m_nils ?_))) | refine end_ops ?_ | refine seq_ops ?_ | refine AW_ops ?_ | (refine cond_t rfl ?_ ?_; (· first | rfl | assumption | (refine decide_eq_true ?_; first | assumption | omega) | (refine nt ?_; first | assumption | omega) | (simp [*]; done))) | (refine cond_f rfl ?_ ?_; (· first | rfl | assumption | (refine decide_eq_false ?_; first | assumption | omega) | (refine nf ?_; first | assumption | omega) | (simp [*]; done))) | refine skip_then ?_ | refine AW_seq ?_ | refine AW_ret ?_ | refine ret_done ?_ | refine norm_then ?_ | refine ret_then ?_ | refine exit_then ?_ | refine AW_skip ?_)
    (refine step_ops ?_); (apply m_call (canList_spec _ _)); (· repeat (first | exact lends_nil | (refine lends_cons ?_ ?_; (· first | exact lend_v | (refine lend_roM rfl; done) | (refine lend_mat rfl ?_; intro j hj; simp (disch := first | omega | assumption) only [hp_put, hp_mem_ne, hp_kill_ne]; first | exact stM_row rfl hj | (rw [stM_row rfl hj]; rfl)) | (refine lend_ints ?_; first | rfl | omega) | (refine lend_sli (by rfl) ?_; first | rfl | omega | (simp; done)) | exact lend_any | (refine lend_agg ?_; first | rfl | assumption | (simp [plainV]; done))))))
    repeat (first | (refine step_ops ?_; (first | (refine m_mov (by conv => lhs; whnf) ?_) | (refine m_not rfl ?_) | (refine m_nils ?_))) | refine end_ops ?_ | refine seq_ops ?_ | refine AW_ops ?_ | (refine cond_t rfl ?_ ?_; (· first | rfl | assumption | (refine decide_eq_true ?_; first | assumption | omega) | (refine nt ?_; first | assumption | omega) | (simp [*]; done))) | (refine cond_f rfl ?_ ?_; (· first | rfl | assumption | (refine decide_eq_false ?_; first | assumption | omega) | (refine nf ?_; first | assumption | omega) | (simp [*]; done))) | refine skip_then ?_ | refine AW_seq ?_ | refine AW_ret ?_ | refine ret_done ?_ | refine norm_then ?_ | refine ret_then ?_ | refine exit_then ?_ | refine AW_skip ?_)
    refine step_ops ?_
    refine m_callM 12 1000 hsw ?_ rfl (by omega) (by omega) (by omega) rfl ?_ ?_
    · exact lends_cons lend_v (lends_cons lend_v (lends_cons lend_fnc lends_nil))
    · intro j hj
      simp (disch := omega) only [hp_put, hp_mem_ne, hp_kill_ne]
      rfl
    repeat (first | (refine step_ops ?_; (first | (refine m_mov (by conv => lhs; whnf) ?_) | (refine m_not rfl ?_) | (refine m_nils ?_))) | refine end_ops ?_ | refine seq_ops ?_ | refine AW_ops ?_ | (refine cond_t rfl ?_ ?_; (· first | rfl | assumption | (refine decide_eq_true ?_; first | assumption | omega) | (refine nt ?_; first | assumption | omega) | (simp [*]; done))) | (refine cond_f rfl ?_ ?_; (· first | rfl | assumption | (refine decide_eq_false ?_; first | assumption | omega) | (refine nf ?_; first | assumption | omega) | (simp [*]; done))) | refine skip_then ?_ | refine AW_seq ?_ | refine AW_ret ?_ | refine ret_done ?_ | refine norm_then ?_ | refine ret_then ?_ | refine exit_then ?_ | refine AW_skip ?_)
    refine ret_mat (r0 := 12) (b := 1000) (by omega) (by omega) (by omega) rfl rfl ?_
    intro j hj
    simp only [hp_put]
    refine addM_row (by omega) ?_ hj
    simp (disch := omega) only [hp_put, hp_mem_ne, hp_kill_ne]
    rfl
  · have e0 : allR g l = [] := if_neg h
    rw [e0] at hstat ⊢
    have hd := decide_eq_false h
    rw [hd] at hstat ⊢
    refine specH_of Try.func9 rfl cc9 rfl (by first | exact static_mat1 _ | exact static_mat2 _ _ | assumption) ?_
    unfold ac9
    repeat (first | (refine step_ops ?_; (first | (refine m_mov (by conv => lhs; whnf) ?_) | (refine m_not rfl ?_) | (refine m_nils ?_))) | refine end_ops ?_ | refine seq_ops ?_ | refine AW_ops ?_ | (refine cond_t rfl ?_ ?_; (· first | rfl | assumption | (refine decide_eq_true ?_; first | assumption | omega) | (refine nt ?_; first | assumption | omega) | (simp [*]; done))) | (refine cond_f rfl ?_ ?_; (· first | rfl | assumption | (refine decide_eq_false ?_; first | assumption | omega) | (refine nf ?_; first | assumption | omega) | (simp [*]; done))) | refine skip_then ?_ | refine AW_seq ?_ | refine AW_ret ?_ | refine ret_done ?_ | refine norm_then ?_ | refine ret_then ?_ | refine exit_then ?_ | refine AW_skip ?_)
    (refine step_ops ?_); (apply m_call (canList_spec _ _)); (· repeat (first | exact lends_nil | (refine lends_cons ?_ ?_; (· first | exact lend_v | (refine lend_roM rfl; done) | (refine lend_mat rfl ?_; intro j hj; simp (disch := first | omega | assumption) only [hp_put, hp_mem_ne, hp_kill_ne]; first | exact stM_row rfl hj | (rw [stM_row rfl hj]; rfl)) | (refine lend_ints ?_; first | rfl | omega) | (refine lend_sli (by rfl) ?_; first | rfl | omega | (simp; done)) | exact lend_any | (refine lend_agg ?_; first | rfl | assumption | (simp [plainV]; done))))))
    repeat (first | (refine step_ops ?_; (first | (refine m_mov (by conv => lhs; whnf) ?_) | (refine m_not rfl ?_) | (refine m_nils ?_))) | refine end_ops ?_ | refine seq_ops ?_ | refine AW_ops ?_ | (refine cond_t rfl ?_ ?_; (· first | rfl | assumption | (refine decide_eq_true ?_; first | assumption | omega) | (refine nt ?_; first | assumption | omega) | (simp [*]; done))) | (refine cond_f rfl ?_ ?_; (· first | rfl | assumption | (refine decide_eq_false ?_; first | assumption | omega) | (refine nf ?_; first | assumption | omega) | (simp [*]; done))) | refine skip_then ?_ | refine AW_seq ?_ | refine AW_ret ?_ | refine ret_done ?_ | refine norm_then ?_ | refine ret_then ?_ | refine exit_then ?_ | refine AW_skip ?_)
    exact ret_mat0 (r0 := 4) (fl := true) (by omega) rfl rfl
end Go.Proofs.Ytpefdmmnimmpiaa
