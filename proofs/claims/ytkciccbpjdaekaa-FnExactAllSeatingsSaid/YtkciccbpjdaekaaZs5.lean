/- The abstract machine, contracts: part 5 of what this claim needs. -/
import Derived.Test.YtkciccbpjdaekaaZs4
namespace Go.Proofs.Ytkciccbpjdaekaa
open Go.Am
attribute [local irreducible] AW Outs Weak Lends Lend Sp aops atree aop1 Then Round InBlock Done
attribute [local irreducible] SpH DoneH
/-- May there be so many guests and lost tickets? -/
def SeOk (m g l : Int) : Prop := (1 ≤ g ∧ g ≤ m) ∧ 0 ≤ l ∧ l ≤ g
instance (m g l : Int) : Decidable (SeOk m g l) := inferInstanceAs (Decidable (_ ∧ _))
theorem canList_spec (g l : Int) : Sp Try.prog 20 [.i g, .i l] (.b (decide (SeOk 7 g l))) := by
  refine spec_of Try.func20 rfl cc20 rfl ?_
  unfold ac20
  by_cases h1 : 1 ≤ g
  · by_cases h2 : g ≤ 7
    · repeat (first | (refine step_ops ?_; ((try (refine g_yes rfl ?_ ?_; (· first | rfl | assumption | (refine decide_eq_true ?_; first | assumption | omega) | (refine nt ?_; first | assumption | omega) | (simp [*]; done) | (refine decide_eq_false ?_; first | assumption | omega) | (refine nf ?_; first | assumption | omega)))); (first | (refine m_mov (by conv => lhs; whnf) ?_) | (refine m_leq rfl rfl ?_) | (refine m_geq rfl rfl ?_) | (refine m_pick_t rfl ?_ (by conv => lhs; whnf) ?_; (· first | rfl | assumption | (refine decide_eq_true ?_; first | assumption | omega) | (refine nt ?_; first | assumption | omega) | (simp [*]; done)))))) | refine end_ops ?_ | refine seq_ops ?_)
      (refine step_ops ?_); (refine g_yes rfl ?_ ?_; (· first | (first | rfl | assumption | (refine decide_eq_true ?_; first | assumption | omega) | (refine nt ?_; first | assumption | omega) | (simp [*]; done)) | (first | rfl | assumption | (refine decide_eq_false ?_; first | assumption | omega) | (refine nf ?_; first | assumption | omega) | (simp [*]; done))); (apply m_call (canLose_spec _ _))); (· repeat (first | exact lends_nil | (refine lends_cons ?_ ?_; (· exact lend_v))))
      repeat (first | (refine step_ops ?_; (first | (refine m_mov (by conv => lhs; whnf) ?_) | (refine m_pick_t rfl ?_ (by conv => lhs; whnf) ?_; (· first | rfl | assumption | (refine decide_eq_true ?_; first | assumption | omega) | (refine nt ?_; first | assumption | omega) | (simp [*]; done))))) | refine end_ops ?_ | refine AW_ret ?_ | refine ret_done ?_)
      refine outs_b ?_
      refine decide_eq_decide.2 ?_
      unfold SeOk
      simp [h1, h2]
    · repeat (first | (refine step_ops ?_; (first | ((try (refine g_yes rfl ?_ ?_; (· first | rfl | assumption | (refine decide_eq_true ?_; first | assumption | omega) | (refine nt ?_; first | assumption | omega) | (simp [*]; done) | (refine decide_eq_false ?_; first | assumption | omega) | (refine nf ?_; first | assumption | omega)))); (first | (refine m_mov (by conv => lhs; whnf) ?_) | (refine m_leq rfl rfl ?_) | (refine m_geq rfl rfl ?_) | (refine m_pick_t rfl ?_ (by conv => lhs; whnf) ?_; (· first | rfl | assumption | (refine decide_eq_true ?_; first | assumption | omega) | (refine nt ?_; first | assumption | omega) | (simp [*]; done))) | (refine m_pick_f rfl ?_ (by conv => lhs; whnf) ?_; (· first | rfl | assumption | (refine decide_eq_false ?_; first | assumption | omega) | (refine nf ?_; first | assumption | omega) | (simp [*]; done))))) | (refine g_noT rfl ?_ ?_; (· first | rfl | assumption | (refine decide_eq_false ?_; first | assumption | omega) | (refine nf ?_; first | assumption | omega) | (simp [*]; done))))) | refine end_ops ?_ | refine seq_ops ?_ | refine AW_ret ?_ | refine ret_done ?_)
      refine outs_b ?_
      symm
      exact decide_eq_false fun hh => h2 hh.1.2
  · repeat (first | (refine step_ops ?_; (first | (first | (refine m_mov (by conv => lhs; whnf) ?_) | (refine m_geq rfl rfl ?_) | (refine m_pick_f rfl ?_ (by conv => lhs; whnf) ?_; (· first | rfl | assumption | (refine decide_eq_false ?_; first | assumption | omega) | (refine nf ?_; first | assumption | omega) | (simp [*]; done)))) | (refine g_noT rfl ?_ ?_; (· first | rfl | assumption | (refine decide_eq_false ?_; first | assumption | omega) | (refine nf ?_; first | assumption | omega) | (simp [*]; done))))) | refine end_ops ?_ | refine seq_ops ?_ | refine AW_ret ?_ | refine ret_done ?_)
    refine outs_b ?_
    symm
    exact decide_eq_false fun hh => h1 hh.1.1
theorem allKeeps (n : Nat) : Keeps Try.prog 22 [] 0 n (fun _ => true) where
  call := ⟨_, Try.func22, by rfl, by rfl⟩
  bears := bears_nil
  norefs := fun _ => rfl
  nokill := fun _ => rfl
  spec := fun M _ => by
    show Sp Try.prog 22 [ints M] (.b true)
    refine spec_of Try.func22 rfl cc22 rfl ?_
    unfold ac22
    repeat (first | (refine step_ops ?_; (refine m_mov (by conv => lhs; whnf) ?_)) | refine end_ops ?_ | refine seq_ops ?_ | refine AW_ret ?_ | refine ret_done ?_)
    exact outs_b rfl
/-- What AllSeatings tells. -/
def allR (g l : Int) : List (List Int) := if SeOk 7 g l then allS l g.toNat else []
theorem allR_ok (g l : Int) : (allR g l).length ≤ 5040 ∧ ∀ r ∈ allR g l, r.length ≤ 7 := by
  unfold allR
  split
  · rename_i h
    have h2 := h.1.2
    refine ⟨allS_len l _ (by omega), fun r hr => ?_⟩
    have := (allS_mem hr).2
    omega
  · simp
theorem specAllSeatings_spec (g l : Int) : SpH Try.prog 7 [.i g, .i l] (fun _ => none) (.tup [.sl nbase 1 0 (allR g l).length, .v (.bool (decide (SeOk 7 g l)))]) (matO (allR g l)) := by
  have hpb : pbase = 4000000 := rfl
  have hstat : Static (fun _ => none) (.tup [.sl nbase 1 0 (allR g l).length, .v (.bool (decide (SeOk 7 g l)))]) (matO (allR g l)) := static_mat2 _ _
  by_cases h : SeOk 7 g l
  · have h1 := h.1
    have h2 := h.2
    have e0 : allR g l = allS l g.toNat := if_pos h
    rw [e0] at hstat ⊢
    rw [decide_eq_true h] at hstat ⊢
    obtain ⟨g, rfl⟩ := Int.eq_ofNat_of_zero_le (show 0 ≤ g by omega)
    rw [Int.toNat_natCast] at hstat ⊢
    have hal := allS_len l g (by omega)
    have hsa : SpH Try.prog 19 [.i g, .i l, ints []] (fun _ => none) (.sl nbase 1 0 (allS l g).length) (matO (allS l g)) := seAll_spec l g (by omega) g [] (beg_nil g) (by simp)
    refine specH_of Try.func7 rfl cc7 rfl (by first | exact static_mat1 _ | exact static_mat2 _ _ | assumption) ?_
    unfold ac7
    repeat (first | (refine step_ops ?_; (first | (refine m_mov (by conv => lhs; whnf) ?_) | (refine m_nils ?_))) | refine end_ops ?_ | refine seq_ops ?_ | refine AW_seq ?_)
    (refine step_ops ?_); (apply m_call (seGuests_spec _ _ _)); (· repeat (first | exact lends_nil | (refine lends_cons ?_ ?_; (· exact lend_v))))
    repeat (first | (refine step_ops ?_; (first | (refine m_mov (by conv => lhs; whnf) ?_) | (refine m_not rfl ?_))) | refine end_ops ?_ | refine seq_ops ?_ | (refine cond_f rfl ?_ ?_; (· first | rfl | assumption | (refine decide_eq_false ?_; first | assumption | omega) | (refine nf ?_; first | assumption | omega) | (simp [*]; done))) | refine skip_then ?_)
    refine step_ops ?_
    refine m_callM 12 1000 hsa ?_ rfl (by omega) (by omega) (by omega) rfl ?_ ?_
    · exact lends_cons lend_v (lends_cons lend_v (lends_cons lend_nil lends_nil))
    · intro j hj
      simp (disch := omega) only [hp_put, hp_mem_ne, hp_kill_ne]
      rfl
    repeat (first | (refine step_ops ?_; (refine m_mov (by conv => lhs; whnf) ?_)) | refine end_ops ?_ | refine AW_ret ?_)
    refine ret_mat (r0 := 12) (b := 1000) (by omega) (by omega) (by omega) rfl rfl ?_
    intro j hj
    simp only [hp_put]
    refine addM_row (by omega) ?_ hj
    simp (disch := omega) only [hp_put, hp_mem_ne, hp_kill_ne]
    rfl
  · have h' : ¬ ((1 ≤ g ∧ g ≤ 7) ∧ 0 ≤ l ∧ l ≤ g) := h
    have e0 : allR g l = [] := if_neg h
    rw [e0] at hstat ⊢
    rw [decide_eq_false h] at hstat ⊢
    refine specH_of Try.func7 rfl cc7 rfl (by first | exact static_mat1 _ | exact static_mat2 _ _ | assumption) ?_
    unfold ac7
    repeat (first | (refine step_ops ?_; (first | (refine m_mov (by conv => lhs; whnf) ?_) | (refine m_nils ?_))) | refine end_ops ?_ | refine seq_ops ?_ | refine AW_seq ?_)
    (refine step_ops ?_); (apply m_call (seGuests_spec _ _ _)); (· repeat (first | exact lends_nil | (refine lends_cons ?_ ?_; (· exact lend_v))))
    repeat (first | (refine step_ops ?_; (first | (refine m_mov (by conv => lhs; whnf) ?_) | (refine m_not rfl ?_) | (refine m_nils ?_))) | refine end_ops ?_ | refine seq_ops ?_ | (refine cond_t rfl ?_ ?_; (· first | rfl | assumption | (refine decide_eq_true ?_; first | assumption | omega) | (refine nt ?_; first | assumption | omega) | (simp [*]; done))) | refine AW_ret ?_ | refine ret_then ?_)
    exact ret_mat0 (r0 := 4) (fl := true) (by omega) rfl rfl
theorem implAllSeatings_spec (g l : Int) : SpH Try.prog 8 [.i g, .i l] (fun _ => none) (.tup [.sl nbase 1 0 (allR g l).length, .v (.bool (decide (SeOk 7 g l)))]) (matO (allR g l)) := by
  have hpb : pbase = 4000000 := rfl
  have hstat : Static (fun _ => none) (.tup [.sl nbase 1 0 (allR g l).length, .v (.bool (decide (SeOk 7 g l)))]) (matO (allR g l)) := static_mat2 _ _
  by_cases h : SeOk 7 g l
  · have h1 := h.1
    have h2 := h.2
    have e0 : allR g l = allS l g.toNat := if_pos h
    rw [e0] at hstat ⊢
    have hd := decide_eq_true h
    rw [hd] at hstat ⊢
    obtain ⟨g, rfl⟩ := Int.eq_ofNat_of_zero_le (show 0 ≤ g by omega)
    rw [Int.toNat_natCast] at hstat ⊢
    have hal := allS_len l g (by omega)
    have hsw := seatingsWhere_spec l (allKeeps g) (by omega) (by omega)
    rw [List.filter_eq_self.2 (fun a _ => rfl)] at hsw
    refine specH_of Try.func8 rfl cc8 rfl (by first | exact static_mat1 _ | exact static_mat2 _ _ | assumption) ?_
    unfold ac8
    repeat (first | (refine step_ops ?_; (first | (refine m_mov (by conv => lhs; whnf) ?_) | (refine m_nils ?_))) | refine end_ops ?_ | refine seq_ops ?_ | refine AW_seq ?_)
    (refine step_ops ?_); (apply m_call (canList_spec _ _)); (· repeat (first | exact lends_nil | (refine lends_cons ?_ ?_; (· exact lend_v))))
    repeat (first | (refine step_ops ?_; (first | (refine m_mov (by conv => lhs; whnf) ?_) | (refine m_not rfl ?_))) | refine end_ops ?_ | refine seq_ops ?_ | (refine cond_f rfl ?_ ?_; (· first | rfl | assumption | (refine decide_eq_false ?_; first | assumption | omega) | (refine nf ?_; first | assumption | omega) | (simp [*]; done))) | refine skip_then ?_)
    refine step_ops ?_
    refine m_callM 12 1000 hsw ?_ rfl (by omega) (by omega) (by omega) rfl ?_ ?_
    · exact lends_cons lend_v (lends_cons lend_v (lends_cons lend_fnc lends_nil))
    · intro j hj
      simp (disch := omega) only [hp_put, hp_mem_ne, hp_kill_ne]
      rfl
    repeat (first | (refine step_ops ?_; (refine m_mov (by conv => lhs; whnf) ?_)) | refine end_ops ?_ | refine AW_ret ?_)
    refine ret_mat (r0 := 12) (b := 1000) (by omega) (by omega) (by omega) rfl rfl ?_
    intro j hj
    simp only [hp_put]
    refine addM_row (by omega) ?_ hj
    simp (disch := omega) only [hp_put, hp_mem_ne, hp_kill_ne]
    rfl
  · have e0 : allR g l = [] := if_neg h
    rw [e0] at hstat ⊢
    have hd := decide_eq_false h
    rw [hd] at hstat ⊢
    refine specH_of Try.func8 rfl cc8 rfl (by first | exact static_mat1 _ | exact static_mat2 _ _ | assumption) ?_
    unfold ac8
    repeat (first | (refine step_ops ?_; (first | (refine m_mov (by conv => lhs; whnf) ?_) | (refine m_nils ?_))) | refine end_ops ?_ | refine seq_ops ?_ | refine AW_seq ?_)
    (refine step_ops ?_); (apply m_call (canList_spec _ _)); (· repeat (first | exact lends_nil | (refine lends_cons ?_ ?_; (· exact lend_v))))
    repeat (first | (refine step_ops ?_; (first | (refine m_mov (by conv => lhs; whnf) ?_) | (refine m_not rfl ?_) | (refine m_nils ?_))) | refine end_ops ?_ | refine seq_ops ?_ | (refine cond_t rfl ?_ ?_; (· first | rfl | assumption | (refine decide_eq_true ?_; first | assumption | omega) | (refine nt ?_; first | assumption | omega) | (simp [*]; done))) | refine AW_ret ?_ | refine ret_then ?_)
    exact ret_mat0 (r0 := 4) (fl := true) (by omega) rfl rfl
end Go.Proofs.Ytkciccbpjdaekaa
namespace Go.Proofs.Ytkciccbpjdaekaa
open Go.Am
attribute [local irreducible] AW Outs Weak Lends Lend Sp aops atree aop1 Then Round InBlock Done
attribute [local irreducible] SpH DoneH
/-- Have just so many guests other seats? -/
def keepD (m : Int) (M : List Int) : Bool := decide (((disp M M.length).length : Int) = m)
theorem own_disp (L : List Int) : ∀ k, (ownList L k).length + (disp L k).length = k
  | 0 => rfl
  | k + 1 => by
    have ih := own_disp L k
    by_cases h : L.getD k 0 = (k : Int)
    · rw [ownList_yes h, disp_no h, List.length_append]; simp only [List.length_cons, List.length_nil]; omega
    · rw [ownList_no h, disp_yes h, List.length_append]; simp only [List.length_cons, List.length_nil]; omega
theorem seMany_spec (M : List Int) (hM : M.length ≤ 1048576) : Sp Try.prog 31 [ints M] (.i (disp M M.length).length) := by
  have hod := own_disp M M.length
  refine spec_of Try.func31 rfl cc31 rfl ?_
  unfold ac31
  repeat (first | (refine step_ops ?_; (first | (refine m_mov (by conv => lhs; whnf) ?_) | (refine m_len_ro rfl ?_))) | refine end_ops ?_ | refine seq_ops ?_)
  (refine step_ops ?_); (apply m_call (exOwn_spec M hM)); (· repeat (first | exact lends_nil | (refine lends_cons ?_ ?_; (· (refine lend_ints ?_; first | rfl | omega)))))
  repeat (first | (refine step_ops ?_; (first | (refine m_mov (by conv => lhs; whnf) ?_) | (refine m_sub rfl rfl ?_ ?_ ?_; (· omega); (· omega)) | (refine m_len_ro rfl ?_))) | refine end_ops ?_ | refine AW_ret ?_ | refine ret_done ?_)
  refine outs_i ?_
  omega
theorem dispKeeps (m : Int) (n : Nat) (hn : n ≤ 7) : Keeps Try.prog 46 [.rp [.i m]] 0 n (keepD m) where
  call := ⟨_, Try.func46, by rfl, by rfl⟩
  bears := bears_rp rfl
  norefs := fun _ => rfl
  nokill := fun _ => rfl
  spec := fun M hM => by
    have hM' : M.length ≤ 1048576 := by omega
    have hdl := disp_le M M.length
    unfold keepD
    show Sp Try.prog 46 [ints M, .rp [.i m]] _
    refine spec_of Try.func46 rfl cc46 rfl ?_
    unfold ac46
    repeat (first | ((first | refine step_ops ?_ | refine step_tree ?_); (refine m_mov (by conv => lhs; whnf) ?_)) | refine end_ops ?_ | refine seq_ops ?_ | refine seq_tree ?_)
    refine step_tree ?_; (apply m_call (displacedIn_spec M hM')); (· repeat (first | exact lends_nil | (refine lends_cons ?_ ?_; (· (refine lend_ints ?_; first | rfl | omega)))))
    repeat (first | (refine step_tree ?_; (first | (refine m_mov (by conv => lhs; whnf) ?_) | (refine m_eql rfl rfl ?_) | (refine m_len_ro rfl ?_) | (apply m_ld_rp; (· rfl); (· rfl)))) | refine end_tree ?_ | refine AW_ret ?_ | refine ret_done ?_)
    exact outs_b rfl
theorem withDisplaced_spec (g : Nat) (l m : Int) (hn : g ≤ 7) (h1 : 1 ≤ g) :
    SpH Try.prog 32 [.i g, .i l, .i m] (fun _ => none) (.sl nbase 1 0 ((allS l g).filter (keepD m)).length) (matO ((allS l g).filter (keepD m))) := by
  have hpb : pbase = 4000000 := rfl
  have hal := allS_len l g hn
  have hle : ((allS l g).filter (keepD m)).length ≤ (allS l g).length := List.length_filter_le ..
  have hsw := seatingsWhere_spec l (dispKeeps m g hn) hn h1
  have hstat : Static (fun _ => none) (.sl nbase 1 0 ((allS l g).filter (keepD m)).length) (matO ((allS l g).filter (keepD m))) := static_mat1 _
  generalize (allS l g).filter (keepD m) = R at *
  refine specH_of Try.func32 rfl cc32 rfl (by first | exact static_mat1 _ | exact static_mat2 _ _ | assumption) ?_
  unfold ac32
  repeat (first | (refine step_ops ?_; (first | (refine m_mov (by conv => lhs; whnf) ?_) | (refine m_mkf ?_) | (refine m_nils ?_) | (refine m_box1 rfl rfl ?_))) | refine end_ops ?_ | refine seq_ops ?_)
  refine step_ops ?_
  refine m_callM 10 1000 hsw ?_ rfl (by omega) (by omega) (by omega) rfl ?_ ?_
  · exact lends_cons lend_v (lends_cons lend_v (lends_cons (lend_fn (lends_cons (lend_pt rfl rfl) lends_nil)) lends_nil))
  · intro j hj
    simp (disch := omega) only [hp_put, hp_mem_ne, hp_kill_ne]
    rfl
  repeat (first | (refine step_ops ?_; (refine m_mov (by conv => lhs; whnf) ?_)) | refine end_ops ?_ | refine AW_ret ?_)
  refine ret_mat (r0 := 10) (b := 1000) (by omega) (by omega) (by omega) rfl rfl ?_
  intro j hj
  simp only [hp_put]
  refine addM_row (by omega) ?_ hj
  simp (disch := omega) only [hp_put, hp_mem_ne, hp_kill_ne]
  rfl
def DisOk (g l m : Int) : Prop := SeOk 7 g l ∧ 0 ≤ m ∧ m ≤ g
instance (g l m : Int) : Decidable (DisOk g l m) := inferInstanceAs (Decidable (_ ∧ _))
def disN (g l m : Int) : Int := if DisOk g l m then ((allS l g.toNat).filter (keepD m)).length else 0
def disTup (g l m : Int) : AV := .tup [.i (disN g l m), .b (decide (DisOk g l m))]
theorem implCountDisplaced_spec (g l m : Int) : Sp Try.prog 15 [.i g, .i l, .i m] (disTup g l m) := by
  unfold disTup
  by_cases hs : SeOk 7 g l
  · by_cases h1 : 0 ≤ m
    · by_cases h2 : m ≤ g
      · have h : DisOk g l m := ⟨hs, h1, h2⟩
        have e : disN g l m = _ := if_pos h
        rw [e, decide_eq_true h]
        have hg1 := hs.1.1
        have hg2 := hs.1.2
        obtain ⟨g, rfl⟩ := Int.eq_ofNat_of_zero_le (show 0 ≤ g by omega)
        rw [Int.toNat_natCast]
        have hal := allS_len l g (by omega)
        have hle : ((allS l g).filter (keepD m)).length ≤ (allS l g).length := List.length_filter_le ..
        have hw := sp_mat1 (withDisplaced_spec g l m (by omega) (by omega))
        generalize (allS l g).filter (keepD m) = R at *
        refine spec_of Try.func15 rfl cc15 rfl ?_
        unfold ac15
        repeat (first | (refine step_ops ?_; (refine m_mov (by conv => lhs; whnf) ?_)) | refine end_ops ?_ | refine seq_ops ?_ | refine AW_seq ?_)
        (refine step_ops ?_); (apply m_call (canList_spec _ _)); (· repeat (first | exact lends_nil | (refine lends_cons ?_ ?_; (· exact lend_v))))
        repeat (first | (refine step_ops ?_; ((try (refine g_yes rfl ?_ ?_; (· first | rfl | assumption | (refine decide_eq_true ?_; first | assumption | omega) | (refine nt ?_; first | assumption | omega) | (simp [*]; done) | (refine decide_eq_false ?_; first | assumption | omega) | (refine nf ?_; first | assumption | omega)))); (first | (refine m_mov (by conv => lhs; whnf) ?_) | (refine m_lss rfl rfl ?_) | (refine m_gtr rfl rfl ?_) | (refine m_not rfl ?_) | (refine m_pick_f rfl ?_ (by conv => lhs; whnf) ?_; (· first | rfl | assumption | (refine decide_eq_false ?_; first | assumption | omega) | (refine nf ?_; first | assumption | omega) | (simp [*]; done)))))) | refine end_ops ?_ | refine seq_ops ?_ | (refine cond_f rfl ?_ ?_; (· first | rfl | assumption | (refine decide_eq_false ?_; first | assumption | omega) | (refine nf ?_; first | assumption | omega) | (simp [*]; done))) | refine skip_then ?_)
        (refine step_ops ?_); (apply m_call (hw)); (· repeat (first | exact lends_nil | (refine lends_cons ?_ ?_; (· exact lend_v))))
        repeat (first | (refine step_ops ?_; (first | (refine m_mov (by conv => lhs; whnf) ?_) | (refine m_len_ro rfl ?_))) | refine end_ops ?_ | refine AW_ret ?_ | refine ret_done ?_)
        exact outs_tup2 (outs_i rfl) (outs_b rfl)
      · have h : ¬ DisOk g l m := fun hh => h2 hh.2.2
        have e : disN g l m = 0 := if_neg h
        rw [e, decide_eq_false h]
        refine spec_of Try.func15 rfl cc15 rfl ?_
        unfold ac15
        repeat (first | (refine step_ops ?_; (refine m_mov (by conv => lhs; whnf) ?_)) | refine end_ops ?_ | refine seq_ops ?_ | refine AW_seq ?_)
        (refine step_ops ?_); (apply m_call (canList_spec _ _)); (· repeat (first | exact lends_nil | (refine lends_cons ?_ ?_; (· exact lend_v))))
        repeat (first | (refine step_ops ?_; ((try (refine g_yes rfl ?_ ?_; (· first | rfl | assumption | (refine decide_eq_true ?_; first | assumption | omega) | (refine nt ?_; first | assumption | omega) | (simp [*]; done) | (refine decide_eq_false ?_; first | assumption | omega) | (refine nf ?_; first | assumption | omega)))); (first | (refine m_mov (by conv => lhs; whnf) ?_) | (refine m_lss rfl rfl ?_) | (refine m_gtr rfl rfl ?_) | (refine m_not rfl ?_) | (refine m_pick_f rfl ?_ (by conv => lhs; whnf) ?_; (· first | rfl | assumption | (refine decide_eq_false ?_; first | assumption | omega) | (refine nf ?_; first | assumption | omega) | (simp [*]; done)))))) | refine end_ops ?_ | refine seq_ops ?_ | (refine cond_t rfl ?_ ?_; (· first | rfl | assumption | (refine decide_eq_true ?_; first | assumption | omega) | (refine nt ?_; first | assumption | omega) | (simp [*]; done))) | refine AW_ret ?_ | refine ret_done ?_ | refine ret_then ?_)
        exact outs_tup2 (outs_i rfl) (outs_b rfl)
    · have h : ¬ DisOk g l m := fun hh => h1 hh.2.1
      have e : disN g l m = 0 := if_neg h
      rw [e, decide_eq_false h]
      refine spec_of Try.func15 rfl cc15 rfl ?_
      unfold ac15
      repeat (first | (refine step_ops ?_; (refine m_mov (by conv => lhs; whnf) ?_)) | refine end_ops ?_ | refine seq_ops ?_ | refine AW_seq ?_)
      (refine step_ops ?_); (apply m_call (canList_spec _ _)); (· repeat (first | exact lends_nil | (refine lends_cons ?_ ?_; (· exact lend_v))))
      repeat (first | (refine step_ops ?_; (first | ((try (refine g_yes rfl ?_ ?_; (· first | rfl | assumption | (refine decide_eq_true ?_; first | assumption | omega) | (refine nt ?_; first | assumption | omega) | (simp [*]; done) | (refine decide_eq_false ?_; first | assumption | omega) | (refine nf ?_; first | assumption | omega)))); (first | (refine m_mov (by conv => lhs; whnf) ?_) | (refine m_lss rfl rfl ?_) | (refine m_not rfl ?_) | (refine m_pick_t rfl ?_ (by conv => lhs; whnf) ?_; (· first | rfl | assumption | (refine decide_eq_true ?_; first | assumption | omega) | (refine nt ?_; first | assumption | omega) | (simp [*]; done))) | (refine m_pick_f rfl ?_ (by conv => lhs; whnf) ?_; (· first | rfl | assumption | (refine decide_eq_false ?_; first | assumption | omega) | (refine nf ?_; first | assumption | omega) | (simp [*]; done))))) | (refine g_noF rfl ?_ ?_; (· first | rfl | assumption | (refine decide_eq_true ?_; first | assumption | omega) | (refine nt ?_; first | assumption | omega) | (simp [*]; done))))) | refine end_ops ?_ | refine seq_ops ?_ | (refine cond_t rfl ?_ ?_; (· first | rfl | assumption | (refine decide_eq_true ?_; first | assumption | omega) | (refine nt ?_; first | assumption | omega) | (simp [*]; done))) | refine AW_ret ?_ | refine ret_done ?_ | refine ret_then ?_)
      exact outs_tup2 (outs_i rfl) (outs_b rfl)
  · have h : ¬ DisOk g l m := fun hh => hs hh.1
    have e : disN g l m = 0 := if_neg h
    rw [e, decide_eq_false h]
    refine spec_of Try.func15 rfl cc15 rfl ?_
    unfold ac15
    repeat (first | (refine step_ops ?_; (refine m_mov (by conv => lhs; whnf) ?_)) | refine end_ops ?_ | refine seq_ops ?_ | refine AW_seq ?_)
    (refine step_ops ?_); (apply m_call (canList_spec _ _)); (· repeat (first | exact lends_nil | (refine lends_cons ?_ ?_; (· exact lend_v))))
    repeat (first | (refine step_ops ?_; (first | (first | (refine m_mov (by conv => lhs; whnf) ?_) | (refine m_not rfl ?_) | (refine m_pick_t rfl ?_ (by conv => lhs; whnf) ?_; (· first | rfl | assumption | (refine decide_eq_true ?_; first | assumption | omega) | (refine nt ?_; first | assumption | omega) | (simp [*]; done)))) | (refine g_noF rfl ?_ ?_; (· first | rfl | assumption | (refine decide_eq_true ?_; first | assumption | omega) | (refine nt ?_; first | assumption | omega) | (simp [*]; done))))) | refine end_ops ?_ | refine seq_ops ?_ | (refine cond_t rfl ?_ ?_; (· first | rfl | assumption | (refine decide_eq_true ?_; first | assumption | omega) | (refine nt ?_; first | assumption | omega) | (simp [*]; done))) | refine AW_ret ?_ | refine ret_done ?_ | refine ret_then ?_)
    exact outs_tup2 (outs_i rfl) (outs_b rfl)
theorem specCountDisplaced_spec (g l m : Int) : Sp Try.prog 14 [.i g, .i l, .i m] (disTup g l m) := by
  unfold disTup
  by_cases hs : SeOk 7 g l
  · have hs' : (1 ≤ g ∧ g ≤ 7) ∧ 0 ≤ l ∧ l ≤ g := hs
    by_cases h1 : 0 ≤ m ∧ m ≤ g
    · have h : DisOk g l m := ⟨hs, h1⟩
      have e : disN g l m = _ := if_pos h
      rw [e, decide_eq_true h]
      have hg1 := hs.1.1
      have hg2 := hs.1.2
      obtain ⟨g, rfl⟩ := Int.eq_ofNat_of_zero_le (show 0 ≤ g by omega)
      rw [Int.toNat_natCast]
      have hal := allS_len l g (by omega)
      have hmem : ∀ x ∈ allS l g, x.length = g := fun x hx => (allS_mem hx).2
      have hsa : SpH Try.prog 19 [.i g, .i l, ints []] (fun _ => none) (.sl nbase 1 0 (allS l g).length) (matO (allS l g)) := seAll_spec l g (by omega) g [] (beg_nil g) (by simp)
      have hsb := sp_mat1 hsa
      clear hsa hs
      generalize allS l g = A at *
      refine spec_of Try.func14 rfl cc14 rfl ?_
      unfold ac14
      repeat (first | (refine step_ops ?_; (refine m_mov (by conv => lhs; whnf) ?_)) | refine end_ops ?_ | refine seq_ops ?_ | refine AW_seq ?_)
      (refine step_ops ?_); (apply m_call (seGuests_spec _ _ _)); (· repeat (first | exact lends_nil | (refine lends_cons ?_ ?_; (· exact lend_v))))
      repeat (refine step_ops ?_; ((try (refine g_yes rfl ?_ ?_; (· first | rfl | assumption | (refine decide_eq_true ?_; first | assumption | omega) | (refine nt ?_; first | assumption | omega) | (simp [*]; done) | (refine decide_eq_false ?_; first | assumption | omega) | (refine nf ?_; first | assumption | omega)))); (first | (refine m_mov (by conv => lhs; whnf) ?_) | (refine m_not rfl ?_))))
      (refine step_ops ?_); (refine g_yes rfl ?_ ?_; (· first | (first | rfl | assumption | (refine decide_eq_true ?_; first | assumption | omega) | (refine nt ?_; first | assumption | omega) | (simp [*]; done)) | (first | rfl | assumption | (refine decide_eq_false ?_; first | assumption | omega) | (refine nf ?_; first | assumption | omega) | (simp [*]; done))); (apply m_call (l1In_spec _ _ _))); (· repeat (first | exact lends_nil | (refine lends_cons ?_ ?_; (· exact lend_v))))
      repeat (first | (refine step_ops ?_; ((try (refine g_yes rfl ?_ ?_; (· first | rfl | assumption | (refine decide_eq_true ?_; first | assumption | omega) | (refine nt ?_; first | assumption | omega) | (simp [*]; done) | (refine decide_eq_false ?_; first | assumption | omega) | (refine nf ?_; first | assumption | omega)))); (first | (refine m_mov (by conv => lhs; whnf) ?_) | (refine m_not rfl ?_) | (refine m_pick_f rfl ?_ (by conv => lhs; whnf) ?_; (· first | rfl | assumption | (refine decide_eq_false ?_; first | assumption | omega) | (refine nf ?_; first | assumption | omega) | (simp [*]; done)))))) | refine end_ops ?_ | refine seq_ops ?_ | (refine cond_f rfl ?_ ?_; (· first | rfl | assumption | (refine decide_eq_false ?_; first | assumption | omega) | (refine nf ?_; first | assumption | omega) | (simp [*]; done))) | refine skip_then ?_ | refine AW_seq ?_)
      refine step_ops ?_
      refine m_call hsb ?_ ?_
      · exact lends_cons lend_v (lends_cons lend_v (lends_cons lend_nil lends_nil))
      repeat (first | (refine step_ops ?_; (first | (refine m_mov (by conv => lhs; whnf) ?_) | (refine m_len_ro rfl ?_))) | refine end_ops ?_ | refine AW_block ?_)
      refine AW_loop (α := Nat) (fun k => k ≤ A.length) (fun k => st [(2, .i m), (8, .i ((A.take k).filter (keepD m)).length), (23, roF A), (24, .i A.length), (25, .i k)] []) (fun k => A.length - k) 0 (by omega) (weak_st ?_ ?_ rfl rfl) ?_
      · (repeat' (first | exact trivial | refine And.intro ?_ ?_)) <;> (first | rfl | skip)
      · trivial
      intro k hk
      have hle : ((A.take k).filter (keepD m)).length ≤ k := Nat.le_trans (List.length_filter_le ..) (List.length_take_le _ _)
      by_cases hc : k < A.length
      · have hml := hmem _ (show A.getD k [] ∈ A by simp [hc])
        have hat : ((A.map newInts).drop k)[0]? = some (newInts (A.getD k [])) := by simp [hc]
        have hsm := seMany_spec (A.getD k []) (by omega)
        by_cases hk2 : keepD m (A.getD k []) = true
        · have es : ((A.take (k + 1)).filter (keepD m)).length = ((A.take k).filter (keepD m)).length + 1 := by
            rw [take_snoc A k [] hc, List.filter_append, List.filter_cons_of_pos hk2]; simp
          have hk3 : ((disp (A.getD k []) (A.getD k []).length).length : Int) = m := of_decide_eq_true hk2
          repeat (first | (refine step_ops ?_; (first | (refine m_lss rfl rfl ?_) | (refine m_idx1_ro rfl rfl ?_ ?_; (· omega)))) | refine end_ops ?_ | refine seq_ops ?_ | (refine cond_t rfl ?_ ?_; (· first | rfl | assumption | (refine decide_eq_true ?_; first | assumption | omega) | (refine nt ?_; first | assumption | omega) | (simp [*]; done))) | refine skip_then ?_ | refine AW_seq ?_ | refine AW_block ?_)
          refine step_ops ?_
          refine m_ld_rp rfl hat ?_
          repeat (first | (refine step_ops ?_; (refine m_mov (by conv => lhs; whnf) ?_)) | refine end_ops ?_ | refine seq_ops ?_)
          (refine step_ops ?_); (apply m_call (hsm)); (· repeat (first | exact lends_nil | (refine lends_cons ?_ ?_; (· (refine lend_ints ?_; first | rfl | omega)))))
          repeat (first | (refine step_ops ?_; (first | (refine m_mov (by conv => lhs; whnf) ?_) | (refine m_eql rfl rfl ?_) | (refine m_add rfl rfl ?_ ?_ ?_; (· omega); (· omega)))) | refine end_ops ?_ | refine AW_ops ?_ | (refine cond_t rfl ?_ ?_; (· first | rfl | assumption | (refine decide_eq_true ?_; first | assumption | omega) | (refine nt ?_; first | assumption | omega) | (simp [*]; done))) | refine norm_then ?_ | refine norm_block ?_)
          refine next_round (k + 1) (by omega) (weak_st ?_ ?_ rfl rfl) ?_
          · rw [es]
            (repeat' (first | exact trivial | refine And.intro ?_ ?_)) <;> (first | rfl | skip)
          · trivial
          · omega
        · have es : ((A.take (k + 1)).filter (keepD m)).length = ((A.take k).filter (keepD m)).length := by
            rw [take_snoc A k [] hc, List.filter_append, List.filter_cons_of_neg hk2]; simp
          have hk3 : ¬ ((disp (A.getD k []) (A.getD k []).length).length : Int) = m := fun hh => hk2 (decide_eq_true hh)
          repeat (first | (refine step_ops ?_; (first | (refine m_lss rfl rfl ?_) | (refine m_idx1_ro rfl rfl ?_ ?_; (· omega)))) | refine end_ops ?_ | refine seq_ops ?_ | (refine cond_t rfl ?_ ?_; (· first | rfl | assumption | (refine decide_eq_true ?_; first | assumption | omega) | (refine nt ?_; first | assumption | omega) | (simp [*]; done))) | refine skip_then ?_ | refine AW_seq ?_ | refine AW_block ?_)
          refine step_ops ?_
          refine m_ld_rp rfl hat ?_
          repeat (first | (refine step_ops ?_; (refine m_mov (by conv => lhs; whnf) ?_)) | refine end_ops ?_ | refine seq_ops ?_)
          (refine step_ops ?_); (apply m_call (hsm)); (· repeat (first | exact lends_nil | (refine lends_cons ?_ ?_; (· (refine lend_ints ?_; first | rfl | omega)))))
          repeat (first | (refine step_ops ?_; (first | (refine m_mov (by conv => lhs; whnf) ?_) | (refine m_eql rfl rfl ?_) | (refine m_add rfl rfl ?_ ?_ ?_; (· omega); (· omega)))) | refine end_ops ?_ | refine AW_ops ?_ | (refine cond_f rfl ?_ ?_; (· first | rfl | assumption | (refine decide_eq_false ?_; first | assumption | omega) | (refine nf ?_; first | assumption | omega) | (simp [*]; done))) | refine norm_then ?_ | refine norm_block ?_ | refine AW_skip ?_)
          refine next_round (k + 1) (by omega) (weak_st ?_ ?_ rfl rfl) ?_
          · rw [es]
            (repeat' (first | exact trivial | refine And.intro ?_ ?_)) <;> (first | rfl | skip)
          · trivial
          · omega
      · obtain rfl : k = A.length := by omega
        rw [List.take_length] at hle ⊢
        repeat (first | (refine step_ops ?_; (first | (refine m_mov (by conv => lhs; whnf) ?_) | (refine m_lss rfl rfl ?_))) | refine end_ops ?_ | refine seq_ops ?_ | (refine cond_f rfl ?_ ?_; (· first | rfl | assumption | (refine decide_eq_false ?_; first | assumption | omega) | (refine nf ?_; first | assumption | omega) | (simp [*]; done))) | refine AW_seq ?_ | refine AW_ret ?_ | refine ret_done ?_ | refine norm_then ?_ | refine exit_then ?_ | refine exit_round ?_ | refine AW_exit ?_ | refine exit_block ?_)
        exact outs_tup2 (outs_i rfl) (outs_b rfl)
    · have h : ¬ DisOk g l m := fun hh => h1 hh.2
      have e : disN g l m = 0 := if_neg h
      rw [e, decide_eq_false h]
      refine spec_of Try.func14 rfl cc14 rfl ?_
      unfold ac14
      repeat (first | (refine step_ops ?_; (refine m_mov (by conv => lhs; whnf) ?_)) | refine end_ops ?_ | refine seq_ops ?_ | refine AW_seq ?_)
      (refine step_ops ?_); (apply m_call (seGuests_spec _ _ _)); (· repeat (first | exact lends_nil | (refine lends_cons ?_ ?_; (· exact lend_v))))
      repeat (refine step_ops ?_; ((try (refine g_yes rfl ?_ ?_; (· first | rfl | assumption | (refine decide_eq_true ?_; first | assumption | omega) | (refine nt ?_; first | assumption | omega) | (simp [*]; done) | (refine decide_eq_false ?_; first | assumption | omega) | (refine nf ?_; first | assumption | omega)))); (first | (refine m_mov (by conv => lhs; whnf) ?_) | (refine m_not rfl ?_))))
      (refine step_ops ?_); (refine g_yes rfl ?_ ?_; (· first | (first | rfl | assumption | (refine decide_eq_true ?_; first | assumption | omega) | (refine nt ?_; first | assumption | omega) | (simp [*]; done)) | (first | rfl | assumption | (refine decide_eq_false ?_; first | assumption | omega) | (refine nf ?_; first | assumption | omega) | (simp [*]; done))); (apply m_call (l1In_spec _ _ _))); (· repeat (first | exact lends_nil | (refine lends_cons ?_ ?_; (· exact lend_v))))
      repeat (first | (refine step_ops ?_; ((try (refine g_yes rfl ?_ ?_; (· first | rfl | assumption | (refine decide_eq_true ?_; first | assumption | omega) | (refine nt ?_; first | assumption | omega) | (simp [*]; done) | (refine decide_eq_false ?_; first | assumption | omega) | (refine nf ?_; first | assumption | omega)))); (first | (refine m_mov (by conv => lhs; whnf) ?_) | (refine m_not rfl ?_) | (refine m_pick_f rfl ?_ (by conv => lhs; whnf) ?_; (· first | rfl | assumption | (refine decide_eq_false ?_; first | assumption | omega) | (refine nf ?_; first | assumption | omega) | (simp [*]; done)))))) | refine end_ops ?_ | refine seq_ops ?_ | (refine cond_t rfl ?_ ?_; (· first | rfl | assumption | (refine decide_eq_true ?_; first | assumption | omega) | (refine nt ?_; first | assumption | omega) | (simp [*]; done))) | refine AW_ret ?_ | refine ret_done ?_ | refine ret_then ?_)
      exact outs_tup2 (outs_i rfl) (outs_b rfl)
  · have hs' : ¬ ((1 ≤ g ∧ g ≤ 7) ∧ 0 ≤ l ∧ l ≤ g) := hs
    have h : ¬ DisOk g l m := fun hh => hs hh.1
    have e : disN g l m = 0 := if_neg h
    rw [e, decide_eq_false h]
    refine spec_of Try.func14 rfl cc14 rfl ?_
    unfold ac14
    repeat (first | (refine step_ops ?_; (refine m_mov (by conv => lhs; whnf) ?_)) | refine end_ops ?_ | refine seq_ops ?_ | refine AW_seq ?_)
    (refine step_ops ?_); (apply m_call (seGuests_spec _ _ _)); (· repeat (first | exact lends_nil | (refine lends_cons ?_ ?_; (· exact lend_v))))
    repeat (first | (refine step_ops ?_; (first | (first | (refine m_mov (by conv => lhs; whnf) ?_) | (refine m_not rfl ?_) | (refine m_pick_t rfl ?_ (by conv => lhs; whnf) ?_; (· first | rfl | assumption | (refine decide_eq_true ?_; first | assumption | omega) | (refine nt ?_; first | assumption | omega) | (simp [*]; done)))) | (refine g_noF rfl ?_ ?_; (· first | rfl | assumption | (refine decide_eq_true ?_; first | assumption | omega) | (refine nt ?_; first | assumption | omega) | (simp [*]; done))))) | refine end_ops ?_ | refine seq_ops ?_ | (refine cond_t rfl ?_ ?_; (· first | rfl | assumption | (refine decide_eq_true ?_; first | assumption | omega) | (refine nt ?_; first | assumption | omega) | (simp [*]; done))) | refine AW_ret ?_ | refine ret_done ?_ | refine ret_then ?_)
    exact outs_tup2 (outs_i rfl) (outs_b rfl)
end Go.Proofs.Ytkciccbpjdaekaa
namespace Go.Am
open Go.ChangeShapes Go.WideShapes Go.ChangeAt Go.RowKit Go.ChangeMaps
variable {P : Program} {H : Type} {enc : TypeId × Value → H}
theorem and_mk {a b : Bool} (h : a = true) (k : b = true) : (a && b) = true := by rw [h, k]; rfl
theorem More.below {w w' : World} (h : More w w') : Below w.heap.size w w' := ⟨h.os, h.tape, h.output, h.size, h.block⟩
theorem trodAll_stays (hl : laidOutB P = true) {W W' : World} (hb : Below W.heap.size W W') (sp : Nat → Bool) : ∀ {ts : List TypeId} {vs : List Value} {ds : List (DataW H)} {ps : List MemPlace},
    (∀ t ∈ ts, P.readableRec t = true ∧ t < P.types.size) → DataW.TrodAll enc P W 0 (fun _ => true) true ts vs ds ps → (∀ p ∈ ps, p.block < W.heap.size) → (∀ p ∈ ps, sp p.block = true) →
    DataW.TrodAll enc P W' 0 sp true ts vs ds ps
  | [], vs, ds, ps, _, h, _, _ => by
    obtain ⟨rfl, rfl, rfl⟩ := trodAll_nil h
    exact trodAll_mk0
  | t :: ts, vs, ds, ps, hr, h, hlt, hsp => by
    obtain ⟨v, vs', d, ds', p, q, rfl, rfl, rfl, h1, h2⟩ := trodAll_cons h
    refine ⟨p, q, ?_, trodAll_stays hl hb sp (fun t ht => hr t (List.mem_cons_of_mem _ ht)) h2 (fun x hx => hlt x (List.mem_append_right _ hx)) (fun x hx => hsp x (List.mem_append_right _ hx)), rfl⟩
    obtain ⟨h3, h4⟩ := hr t (List.mem_cons_self ..)
    exact WideElems.Trod_stays hl h3 h4 h1 (fun x hx => hb.same (hlt x (List.mem_append_left _ hx))) (fun x hx => hsp x (List.mem_append_left _ hx))
/-- What the row's last words ask of a law that says true. -/
theorem law_post (hl : laidOutB P = true) {f : Func} {s : ChangeSpec} {fresh handsOn again : Bool} {W W' : World} {args : Array Value} {ds gs : List (DataW H)} {before : List MemPlace} {bt : TypeId}
    (hW : DataW.Whole enc P f.params.toList s.vars false W args.toList ds gs before) (hvars : s.vars = []) (hfn : s.fn H (ds ++ gs) = { results := [.lit (.bool true)], args := ds })
    (hres : f.resultTypes = #[bt]) (hbt : P.underlying bt = some .bool) (hread : ∀ t ∈ f.params.toList, P.readableRec t = true ∧ t < P.types.size) (hm : More W W') :
    s.post enc P f false fresh handsOn again W args (.bool true) W' := by
  have hb := hm.below
  have hlt : ∀ p ∈ before, p.block < W.heap.size := fun p hp => hW.lt p hp
  obtain ⟨p, q, hA, hV, hpq, hz, hn⟩ := hW
  rw [hvars] at hV
  obtain ⟨rfl, rfl⟩ := trodVars_none hV
  rw [List.append_nil] at hpq
  subst hpq
  have hargs : ∀ sp : Nat → Bool, (∀ x ∈ before, sp x.block = true) → DataW.TrodAll enc P W' 0 sp true f.params.toList args.toList ds before := fun sp hsp => trodAll_stays hl hb sp hread hA hlt hsp
  have hresT : ∀ (b : Nat) (sp : Nat → Bool) (hd : Bool), DataW.TrodAll enc P W' b sp hd f.resultTypes.toList ((Value.bool true).resultList f.resultTypes.size) [.lit (.bool true)] [] := by
    intro b sp hd
    rw [hres]
    exact trodAll_mk1 (shut_bool hbt true)
  have hvarsT : ∀ sp : Nat → Bool, DataW.TrodVars enc P W' sp s.vars (s.fn H (ds ++ [])).vars [] := by
    intro sp
    rw [hvars, hfn]
    rfl
  have hfull : DataW.Whole enc P f.params.toList s.vars false W args.toList ds [] before := ⟨before, [], hA, by rw [hvars]; rfl, by simp, hz, by simp⟩
  refine ⟨ds, [], before, [], before, [], hfull, by rw [hfn]; exact hresT _ _ _, by rw [hfn]; exact hargs _ (fun x hx => by simpa using hlt x hx), hvarsT _, World.keptBut_mono (fun x hx => ⟨hx, .inr (.inl hx)⟩) (hb.frame (· ∈ before)), fun _ => ?_⟩
  refine ⟨ok_one hres rfl (okWide_bool_mk hbt true), _, _, ([] ++ before) ++ [], ⟨[] ++ before, [], trodAll_append (hargs _ (fun _ _ => rfl)) (hresT _ _ _), hvarsT _, rfl, ?_, by simp⟩, ?_⟩
  · intro b off hp
    have hin : MemPlace.cell b off ∈ before := by simpa using hp
    rw [hb.frozen (hlt _ hin)]
    exact hz b off hin
  · intro x hx _
    simpa using hx
abbrev Outer (w : World) : Ctx := { heap := w.heap, ro := fun b => b < w.heap.size, base := w.heap.size, phi := fun _ => none, live := fun _ => false, loc := false }
/-- An integer that came in. -/
theorem arg_int {W : World} {t : TypeId} {v : Value} {d : DataW H} {ps : List MemPlace} (ht : P.underlying t = some (.int .i64))
    (hval : Value.okWide P W .any 0 t v) (h : DataW.Trod enc P W 0 (fun _ => true) true t v d ps) : ∃ n : Int, SimV (.i n) (Outer W) v ∧ -9223372036854775808 ≤ n ∧ n ≤ 9223372036854775807 := by
  obtain ⟨n, rfl, _, _, hw⟩ := open_int ht hval h
  simp [Lit.wf, IntKind.min, IntKind.max, IntKind.signed, IntKind.bits] at hw
  exact ⟨n, by simp [SimV], by omega, by omega⟩
/-- A law says true. -/
theorem law_calls {f : FuncId} {asx : List AV} {W : World} {args : Array Value} (hs : Sp P f asx (.b true)) (he : SimL asx (Outer W) args.toList) (hlen : args.size = asx.length) (hg : GoodW W := by exact goodW_none rfl) :
    Calls P f args W fun e W' => e = .returned (.bool true) ∧ More W W' := by
  refine (hs W args hg ⟨he, by simpa using hlen⟩).mono fun e W' ⟨v, h1, h2, h3⟩ => ?_
  simp only [SimV] at h3
  subst h3
  exact ⟨h1, h2⟩
end Go.Am
namespace Go.Proofs.Ytkciccbpjdaekaa
open Go.ChangeShapes Go.WideShapes Go.ChangeAt Go.RowKit
theorem factMayEnter : Try.checked.prog.mayEnter = true := by kernel_rfl
end Go.Proofs.Ytkciccbpjdaekaa
namespace Go.Proofs.Ytkciccbpjdaekaa
open Go.ChangeShapes Go.WideShapes Go.ChangeAt Go.RowKit
theorem factLifts : Try.checked.prog.liftsFinal = false := by kernel_rfl
end Go.Proofs.Ytkciccbpjdaekaa
namespace Go.Proofs.Ytkciccbpjdaekaa
open Go.ChangeShapes Go.WideShapes Go.ChangeAt Go.RowKit
theorem factMake : Try.checked.prog.make = some (OpenClaim.make { program := "", sum := "", func := "", spec := "" }) := by kernel_rfl
end Go.Proofs.Ytkciccbpjdaekaa
namespace Go.Proofs.Ytkciccbpjdaekaa
open Go.Am
attribute [local irreducible] AW Outs Weak Lends Lend Sp aops atree aop1 Then Round InBlock Done
def SeatOk (l : Int) (L : List Int) : Prop := IsEx L ∧ 0 ≤ l ∧ l ≤ L.length
instance (l : Int) (L : List Int) : Decidable (SeatOk l L) := inferInstanceAs (Decidable (_ ∧ _))
theorem chanceOf_spec (l : Int) (L : List Int) (hL : L.length ≤ 12) : Sp Try.prog 36 [.i l, ints L] (.agg (fracV (1, prodS l L L.length))) := by
  have hb := prodS_bound l L hL L.length (by omega)
  have hp := partOf_spec 1 (prodS l L L.length) (by omega) (by omega) hb.1
  have e : low 1 (prodS l L L.length) = (1, prodS l L L.length) := by simp [low]
  rw [e] at hp
  have hp' : Sp Try.prog 34 [.i 1, .i (prodS l L L.length)] (.agg (fracV (1, prodS l L L.length))) := hp
  clear hp e
  unfold fracV at hp' ⊢
  refine specC_of Try.func36 rfl cc36 (by rfl) ?_
  unfold ac36
  repeat (first | (refine step_ops ?_; (first | (refine m_mov (by conv => lhs; whnf) ?_) | (refine m_alloc ?_))) | refine end_ops ?_ | refine seq_ops ?_)
  (refine step_ops ?_); (apply m_call (countChosen_spec l L hL)); (· repeat (first | exact lends_nil | (refine lends_cons ?_ ?_; (· (first | exact lend_v | (refine lend_ints ?_; first | rfl | omega))))))
  skip
  (refine step_ops ?_); (apply m_call (hp')); (· repeat (first | exact lends_nil | (refine lends_cons ?_ ?_; (· exact lend_v))))
  repeat (first | (refine step_ops ?_; (refine m_stall rfl rfl rfl ?_ ?_ ?_ ?_; (· first | rfl | (simp [*]; done)); (· first | rfl | (simp [*]; done)); (· first | rfl | (simp [cellOk, Value.oneCell']; done)))) | refine end_ops ?_ | refine AW_ret ?_)
  exact ret_donec rfl rfl rfl (outs_agg rfl)
end Go.Proofs.Ytkciccbpjdaekaa
namespace Go.Proofs.Ytkciccbpjdaekaa
open Go.Am
attribute [local irreducible] AW Outs Weak Lends Lend Sp aops atree aop1 Then Round InBlock Done
attribute [local irreducible] SpH DoneH
def disF (g l m : Int) : Nat × Nat := if DisOk g l m then sumC l ((allS l g.toNat).filter (keepD m)) else (0, 0)
def disFTup (g l m : Int) : AV := .tup [.i (disF g l m).1, .i (disF g l m).2, .b (decide (DisOk g l m))]
theorem implChanceDisplaced_in (g : Nat) (l m : Int) (h : DisOk g l m) : Sp Try.prog 17 [.i g, .i l, .i m] (.tup [.i (sumC l ((allS l g).filter (keepD m))).1, .i (sumC l ((allS l g).filter (keepD m))).2, .b true]) := by
  obtain ⟨hs, h1, h2⟩ := h
  have hg1 := hs.1.1
  have hg2 := hs.1.2
  have hal := allS_len l g (by omega)
  have hle : ((allS l g).filter (keepD m)).length ≤ (allS l g).length := List.length_filter_le ..
  have hmem : ∀ x ∈ (allS l g).filter (keepD m), x.length = g := fun x hx => (allS_mem (List.mem_filter.1 hx).1).2
  have hw := sp_mat1 (withDisplaced_spec g l m (by omega) (by omega))
  have hp0 : Sp Try.prog 34 [.i 0, .i 1] (.agg [.i 0, .i 1]) := partOf_spec 0 1 (by omega) (by omega) (by omega)
  generalize (allS l g).filter (keepD m) = R at *
  refine spec_of Try.func17 rfl cc17 rfl ?_
  unfold ac17
  repeat (first | (refine step_ops ?_; (refine m_mov (by conv => lhs; whnf) ?_)) | refine end_ops ?_ | refine seq_ops ?_ | refine AW_seq ?_)
  refine step_ops ?_; (apply m_call (canList_spec _ _)); (· repeat (first | exact lends_nil | (refine lends_cons ?_ ?_; (· exact lend_v))))
  repeat (first | (refine step_ops ?_; ((try (refine g_yes rfl ?_ ?_; (· first | rfl | assumption | (refine decide_eq_true ?_; first | assumption | omega) | (refine nt ?_; first | assumption | omega) | (simp [*]; done) | (refine decide_eq_false ?_; first | assumption | omega) | (refine nf ?_; first | assumption | omega)))); (first | (refine m_mov (by conv => lhs; whnf) ?_) | (refine m_lss rfl rfl ?_) | (refine m_gtr rfl rfl ?_) | (refine m_not rfl ?_) | (refine m_pick_f rfl ?_ (by conv => lhs; whnf) ?_; (· first | rfl | assumption | (refine decide_eq_false ?_; first | assumption | omega) | (refine nf ?_; first | assumption | omega) | (simp [*]; done)))))) | refine end_ops ?_ | refine seq_ops ?_ | (refine cond_f rfl ?_ ?_; (· first | rfl | assumption | (refine decide_eq_false ?_; first | assumption | omega) | (refine nf ?_; first | assumption | omega) | (simp [*]; done))) | refine skip_then ?_)
  refine step_ops ?_; (apply m_call (hp0)); (· repeat (first | exact lends_nil | (refine lends_cons ?_ ?_; (· exact lend_v))))
  repeat (first | (refine step_ops ?_; (first | (refine m_mov (by conv => lhs; whnf) ?_) | (refine m_alloc ?_) | (refine m_stall rfl rfl rfl ?_ ?_ ?_ ?_; (· first | rfl | (simp [*]; done)); (· first | rfl | (simp [*]; done)); (· first | rfl | (simp [cellOk, Value.oneCell']; done))))) | refine end_ops ?_ | refine seq_ops ?_ | refine AW_seq ?_)
  refine step_ops ?_; (apply m_call (hw)); (· repeat (first | exact lends_nil | (refine lends_cons ?_ ?_; (· exact lend_v))))
  repeat (first | (refine step_ops ?_; (first | (refine m_mov (by conv => lhs; whnf) ?_) | (refine m_len_ro rfl ?_))) | refine end_ops ?_ | refine AW_block ?_)
  refine AW_loop (α := Nat) (fun k => k ≤ R.length) (fun k => st [(1, .i l), (9, .pt 9 0), (29, roF R), (30, .i R.length), (31, .i k)] [(9, (true, fracV (sumC l (R.take k))))]) (fun k => R.length - k) 0 (by omega) (weak_st ?_ ?_ rfl rfl) ?_
  · (repeat' (first | exact trivial | refine And.intro ?_ ?_)) <;> (first | rfl | skip)
  · exact ⟨rfl, trivial⟩
  intro k hk
  have hb := sumC_ok l g (by omega) (R.take k) (fun x hx => hmem x (List.mem_of_mem_take hx)) (by rw [List.length_take]; omega)
  by_cases hc : k < R.length
  · have hml := hmem _ (show R.getD k [] ∈ R by simp [hc])
    have hat : ((R.map newInts).drop k)[0]? = some (newInts (R.getD k [])) := by simp [hc]
    have hps := prodS_small l (R.getD k []) (by omega)
    have hco := chanceOf_spec l (R.getD k []) (by omega)
    have hpl := plus_spec (sumC l (R.take k)) (1, prodS l (R.getD k []) (R.getD k []).length) hb.1 hb.2.1 (by simp) (by show prodS _ _ _ ≤ _; omega) hb.2.2 hps.1
    have es : sumC l (R.take (k + 1)) = addF (sumC l (R.take k)) (1, prodS l (R.getD k []) (R.getD k []).length) := by
      rw [take_snoc R k [] hc, sumC_snoc]; rfl
    rw [← es] at hpl
    unfold fracV at hco hpl ⊢
    dsimp only at hco hpl
    repeat (first | (refine step_ops ?_; (first | (refine m_lss rfl rfl ?_) | (refine m_idx1_ro rfl rfl ?_ ?_; (· omega)))) | refine end_ops ?_ | refine seq_ops ?_ | (refine cond_t rfl ?_ ?_; (· first | rfl | assumption | (refine decide_eq_true ?_; first | assumption | omega) | (refine nt ?_; first | assumption | omega) | (simp [*]; done))) | refine skip_then ?_ | refine AW_seq ?_ | refine AW_block ?_)
    refine step_ops ?_
    refine m_ld_rp rfl hat ?_
    repeat (first | ((first | refine step_ops ?_ | refine step_tree ?_); (first | (refine m_mov (by conv => lhs; whnf) ?_) | (refine m_ldall rfl rfl ?_ ?_; (· first | rfl | (simp; done) | (simp [*]; done))))) | refine end_ops ?_ | refine AW_tree ?_)
    refine step_tree ?_; (apply m_call (hco)); (· repeat (first | exact lends_nil | (refine lends_cons ?_ ?_; (· (first | exact lend_v | (refine lend_ints ?_; first | rfl | omega))))))
    skip
    refine step_tree ?_; (apply m_call (hpl)); (· repeat (first | exact lends_nil | (refine lends_cons ?_ ?_; (· (refine lend_agg ?_; first | rfl | assumption | (simp [plainV]; done))))))
    repeat (first | ((first | refine step_ops ?_ | refine step_tree ?_); (first | (refine m_mov (by conv => lhs; whnf) ?_) | (refine m_add rfl rfl ?_ ?_ ?_; (· omega); (· omega)) | (refine m_stall rfl rfl rfl ?_ ?_ ?_ ?_; (· first | rfl | (simp [*]; done)); (· first | rfl | (simp [*]; done)); (· first | rfl | (simp [cellOk, Value.oneCell']; done))))) | refine end_ops ?_ | refine AW_ops ?_ | refine end_tree ?_ | refine norm_then ?_ | refine norm_block ?_)
    refine next_round (k + 1) (by omega) (weak_st ?_ ?_ rfl rfl) ?_
    · (repeat' (first | exact trivial | refine And.intro ?_ ?_)) <;> (first | rfl | skip)
    · exact ⟨rfl, trivial⟩
    · omega
  · obtain rfl : k = R.length := by omega
    rw [List.take_length] at hb ⊢
    have ht := told_spec (sumC l R)
    unfold fracV at ht ⊢
    repeat (first | (refine step_ops ?_; (first | (refine m_lss rfl rfl ?_) | (refine m_ldall rfl rfl ?_ ?_; (· first | rfl | (simp; done) | (simp [*]; done))))) | refine end_ops ?_ | refine seq_ops ?_ | (refine cond_f rfl ?_ ?_; (· first | rfl | assumption | (refine decide_eq_false ?_; first | assumption | omega) | (refine nf ?_; first | assumption | omega) | (simp [*]; done))) | refine AW_seq ?_ | refine norm_then ?_ | refine exit_then ?_ | refine exit_round ?_ | refine AW_exit ?_ | refine exit_block ?_)
    refine step_ops ?_; (apply m_call (ht)); (· repeat (first | exact lends_nil | (refine lends_cons ?_ ?_; (· (refine lend_agg ?_; first | rfl | assumption | (simp [plainV]; done))))))
    repeat (first | (refine step_ops ?_; (first | (refine m_mov (by conv => lhs; whnf) ?_) | (refine m_ext rfl rfl ?_))) | refine end_ops ?_ | refine AW_ret ?_ | refine ret_done ?_)
    exact outs_tup3 (outs_i rfl) (outs_i rfl) (outs_b rfl)
theorem implChanceDisplaced_spec (g l m : Int) : Sp Try.prog 17 [.i g, .i l, .i m] (disFTup g l m) := by
  unfold disFTup
  by_cases hs : SeOk 7 g l
  · by_cases h1 : 0 ≤ m
    · by_cases h2 : m ≤ g
      · have h : DisOk g l m := ⟨hs, h1, h2⟩
        have e : disF g l m = _ := if_pos h
        rw [e, decide_eq_true h]
        have hg1 := hs.1.1
        obtain ⟨g, rfl⟩ := Int.eq_ofNat_of_zero_le (show 0 ≤ g by omega)
        exact implChanceDisplaced_in g l m h
      · have h : ¬ DisOk g l m := fun hh => h2 hh.2.2
        have e : disF g l m = (0, 0) := if_neg h
        rw [e, decide_eq_false h]
        refine spec_of Try.func17 rfl cc17 rfl ?_
        unfold ac17
        repeat (first | (refine step_ops ?_; (refine m_mov (by conv => lhs; whnf) ?_)) | refine end_ops ?_ | refine seq_ops ?_ | refine AW_seq ?_)
        refine step_ops ?_; (apply m_call (canList_spec _ _)); (· repeat (first | exact lends_nil | (refine lends_cons ?_ ?_; (· exact lend_v))))
        repeat (first | (refine step_ops ?_; ((try (refine g_yes rfl ?_ ?_; (· first | rfl | assumption | (refine decide_eq_true ?_; first | assumption | omega) | (refine nt ?_; first | assumption | omega) | (simp [*]; done) | (refine decide_eq_false ?_; first | assumption | omega) | (refine nf ?_; first | assumption | omega)))); (first | (refine m_mov (by conv => lhs; whnf) ?_) | (refine m_lss rfl rfl ?_) | (refine m_gtr rfl rfl ?_) | (refine m_not rfl ?_) | (refine m_pick_f rfl ?_ (by conv => lhs; whnf) ?_; (· first | rfl | assumption | (refine decide_eq_false ?_; first | assumption | omega) | (refine nf ?_; first | assumption | omega) | (simp [*]; done)))))) | refine end_ops ?_ | refine seq_ops ?_ | (refine cond_t rfl ?_ ?_; (· first | rfl | assumption | (refine decide_eq_true ?_; first | assumption | omega) | (refine nt ?_; first | assumption | omega) | (simp [*]; done))) | refine AW_ret ?_ | refine ret_done ?_ | refine ret_then ?_)
        exact outs_tup3 (outs_i rfl) (outs_i rfl) (outs_b rfl)
    · have h : ¬ DisOk g l m := fun hh => h1 hh.2.1
      have e : disF g l m = (0, 0) := if_neg h
      rw [e, decide_eq_false h]
      refine spec_of Try.func17 rfl cc17 rfl ?_
      unfold ac17
      repeat (first | (refine step_ops ?_; (refine m_mov (by conv => lhs; whnf) ?_)) | refine end_ops ?_ | refine seq_ops ?_ | refine AW_seq ?_)
      refine step_ops ?_; (apply m_call (canList_spec _ _)); (· repeat (first | exact lends_nil | (refine lends_cons ?_ ?_; (· exact lend_v))))
      repeat (first | (refine step_ops ?_; (first | ((try (refine g_yes rfl ?_ ?_; (· first | rfl | assumption | (refine decide_eq_true ?_; first | assumption | omega) | (refine nt ?_; first | assumption | omega) | (simp [*]; done) | (refine decide_eq_false ?_; first | assumption | omega) | (refine nf ?_; first | assumption | omega)))); (first | (refine m_mov (by conv => lhs; whnf) ?_) | (refine m_lss rfl rfl ?_) | (refine m_not rfl ?_) | (refine m_pick_t rfl ?_ (by conv => lhs; whnf) ?_; (· first | rfl | assumption | (refine decide_eq_true ?_; first | assumption | omega) | (refine nt ?_; first | assumption | omega) | (simp [*]; done))) | (refine m_pick_f rfl ?_ (by conv => lhs; whnf) ?_; (· first | rfl | assumption | (refine decide_eq_false ?_; first | assumption | omega) | (refine nf ?_; first | assumption | omega) | (simp [*]; done))))) | (refine g_noF rfl ?_ ?_; (· first | rfl | assumption | (refine decide_eq_true ?_; first | assumption | omega) | (refine nt ?_; first | assumption | omega) | (simp [*]; done))))) | refine end_ops ?_ | refine seq_ops ?_ | (refine cond_t rfl ?_ ?_; (· first | rfl | assumption | (refine decide_eq_true ?_; first | assumption | omega) | (refine nt ?_; first | assumption | omega) | (simp [*]; done))) | refine AW_ret ?_ | refine ret_done ?_ | refine ret_then ?_)
      exact outs_tup3 (outs_i rfl) (outs_i rfl) (outs_b rfl)
  · have h : ¬ DisOk g l m := fun hh => hs hh.1
    have e : disF g l m = (0, 0) := if_neg h
    rw [e, decide_eq_false h]
    refine spec_of Try.func17 rfl cc17 rfl ?_
    unfold ac17
    repeat (first | (refine step_ops ?_; (refine m_mov (by conv => lhs; whnf) ?_)) | refine end_ops ?_ | refine seq_ops ?_ | refine AW_seq ?_)
    refine step_ops ?_; (apply m_call (canList_spec _ _)); (· repeat (first | exact lends_nil | (refine lends_cons ?_ ?_; (· exact lend_v))))
    repeat (first | (refine step_ops ?_; (first | (first | (refine m_mov (by conv => lhs; whnf) ?_) | (refine m_not rfl ?_) | (refine m_pick_t rfl ?_ (by conv => lhs; whnf) ?_; (· first | rfl | assumption | (refine decide_eq_true ?_; first | assumption | omega) | (refine nt ?_; first | assumption | omega) | (simp [*]; done)))) | (refine g_noF rfl ?_ ?_; (· first | rfl | assumption | (refine decide_eq_true ?_; first | assumption | omega) | (refine nt ?_; first | assumption | omega) | (simp [*]; done))))) | refine end_ops ?_ | refine seq_ops ?_ | (refine cond_t rfl ?_ ?_; (· first | rfl | assumption | (refine decide_eq_true ?_; first | assumption | omega) | (refine nt ?_; first | assumption | omega) | (simp [*]; done))) | refine AW_ret ?_ | refine ret_done ?_ | refine ret_then ?_)
    exact outs_tup3 (outs_i rfl) (outs_i rfl) (outs_b rfl)
theorem specChanceDisplaced_in (g : Nat) (l m : Int) (h : DisOk g l m) : Sp Try.prog 16 [.i g, .i l, .i m] (.tup [.i (sumC l ((allS l g).filter (keepD m))).1, .i (sumC l ((allS l g).filter (keepD m))).2, .b true]) := by
  obtain ⟨hs, h1⟩ := h
  have hg1 := hs.1.1
  have hg2 := hs.1.2
  have hs' : (1 ≤ (g : Int) ∧ (g : Int) ≤ 7) ∧ 0 ≤ l ∧ l ≤ g := hs
  have hal := allS_len l g (by omega)
  have hmem : ∀ x ∈ allS l g, x.length = g := fun x hx => (allS_mem hx).2
  have hcome : ∀ x ∈ allS l g, comeK l x x.length := fun x hx => goOn_come l g g [] (fun j hj => by simp at hj) x hx
  have hsa : SpH Try.prog 19 [.i g, .i l, ints []] (fun _ => none) (.sl nbase 1 0 (allS l g).length) (matO (allS l g)) := seAll_spec l g (by omega) g [] (beg_nil g) (by simp)
  have hsb := sp_mat1 hsa
  clear hsa hs
  generalize allS l g = A at *
  refine spec_of Try.func16 rfl cc16 rfl ?_
  unfold ac16
  repeat (first | (refine step_ops ?_; (refine m_mov (by conv => lhs; whnf) ?_)) | refine end_ops ?_ | refine seq_ops ?_ | refine AW_seq ?_)
  (refine step_ops ?_); (apply m_call (seGuests_spec _ _ _)); (· repeat (first | exact lends_nil | (refine lends_cons ?_ ?_; (· exact lend_v))))
  repeat (refine step_ops ?_; ((try (refine g_yes rfl ?_ ?_; (· first | rfl | assumption | (refine decide_eq_true ?_; first | assumption | omega) | (refine nt ?_; first | assumption | omega) | (simp [*]; done) | (refine decide_eq_false ?_; first | assumption | omega) | (refine nf ?_; first | assumption | omega)))); (first | (refine m_mov (by conv => lhs; whnf) ?_) | (refine m_not rfl ?_))))
  (refine step_ops ?_); (refine g_yes rfl ?_ ?_; (· first | (first | rfl | assumption | (refine decide_eq_true ?_; first | assumption | omega) | (refine nt ?_; first | assumption | omega) | (simp [*]; done)) | (first | rfl | assumption | (refine decide_eq_false ?_; first | assumption | omega) | (refine nf ?_; first | assumption | omega) | (simp [*]; done))); (apply m_call (l1In_spec _ _ _))); (· repeat (first | exact lends_nil | (refine lends_cons ?_ ?_; (· exact lend_v))))
  repeat (first | (refine step_ops ?_; ((try (refine g_yes rfl ?_ ?_; (· first | rfl | assumption | (refine decide_eq_true ?_; first | assumption | omega) | (refine nt ?_; first | assumption | omega) | (simp [*]; done) | (refine decide_eq_false ?_; first | assumption | omega) | (refine nf ?_; first | assumption | omega)))); (first | (refine m_mov (by conv => lhs; whnf) ?_) | (refine m_not rfl ?_) | (refine m_pick_f rfl ?_ (by conv => lhs; whnf) ?_; (· first | rfl | assumption | (refine decide_eq_false ?_; first | assumption | omega) | (refine nf ?_; first | assumption | omega) | (simp [*]; done)))))) | refine end_ops ?_ | refine seq_ops ?_ | (refine cond_f rfl ?_ ?_; (· first | rfl | assumption | (refine decide_eq_false ?_; first | assumption | omega) | (refine nf ?_; first | assumption | omega) | (simp [*]; done))) | refine skip_then ?_ | refine AW_seq ?_)
  refine step_ops ?_
  refine m_call hsb ?_ ?_
  · exact lends_cons lend_v (lends_cons lend_v (lends_cons lend_nil lends_nil))
  repeat (first | (refine step_ops ?_; (first | (refine m_mov (by conv => lhs; whnf) ?_) | (refine m_len_ro rfl ?_))) | refine end_ops ?_ | refine AW_block ?_)
  refine AW_loop (α := Nat) (fun k => k ≤ A.length) (fun k => st [(1, .i l), (2, .i m), (9, .i (sumC l ((A.take k).filter (keepD m))).1), (10, .i (sumC l ((A.take k).filter (keepD m))).2), (27, roF A), (28, .i A.length), (29, .i k)] []) (fun k => A.length - k) 0 (by omega) (weak_st ?_ ?_ rfl rfl) ?_
  · (repeat' (first | exact trivial | refine And.intro ?_ ?_)) <;> (first | rfl | skip)
  · trivial
  intro k hk
  have hle : ((A.take k).filter (keepD m)).length ≤ k := Nat.le_trans (List.length_filter_le ..) (List.length_take_le _ _)
  have hb := sumC_ok l g (by omega) ((A.take k).filter (keepD m)) (fun x hx => hmem x (List.mem_of_mem_take (List.mem_filter.1 hx).1)) (by omega)
  by_cases hc : k < A.length
  · have hmk : A.getD k [] ∈ A := by simp [hc]
    have hml := hmem _ hmk
    have hat : ((A.map newInts).drop k)[0]? = some (newInts (A.getD k [])) := by simp [hc]
    have hsm := seMany_spec (A.getD k []) (by omega)
    have hsc := seCan_spec l (A.getD k []) (by omega)
    rw [if_pos (hcome _ hmk), decide_eq_true (hcome _ hmk)] at hsc
    by_cases hk2 : keepD m (A.getD k []) = true
    · have es : sumC l ((A.take (k + 1)).filter (keepD m)) = addC (sumC l ((A.take k).filter (keepD m))) (prodS l (A.getD k []) (A.getD k []).length) := by
        rw [take_snoc A k [] hc, List.filter_append, List.filter_cons_of_pos hk2, List.filter_nil, sumC_snoc]
      have hk3 : ((disp (A.getD k []) (A.getD k []).length).length : Int) = m := of_decide_eq_true hk2
      have hps := prodS_small l (A.getD k []) (by omega)
      unfold addC at es
      generalize sumC l ((A.take k).filter (keepD m)) = p at hb es ⊢
      generalize prodS l (A.getD k []) (A.getD k []).length = q at hps es hsc
      have m1 : p.1 * q ≤ 1000000000 * 5040 := Nat.mul_le_mul hb.1 hps.2
      have m3 : p.2 * q ≤ 1000000000 * 5040 := Nat.mul_le_mul hb.2.1 hps.2
      have m4 : 1 * 1 ≤ p.2 * q := Nat.mul_le_mul hb.2.2 hps.1
      have c1 : (p.1 : Int) * (q : Int) = ((p.1 * q : Nat) : Int) := by simp
      have c3 : (p.2 : Int) * (q : Int) = ((p.2 * q : Nat) : Int) := by simp
      have hlw := exLowN_spec (p.1 * q + 1 * p.2) (p.2 * q) (by omega) (by omega) (by omega)
      rw [show low (p.1 * q + 1 * p.2) (p.2 * q) = lowN (p.1 * q + 1 * p.2) (p.2 * q) from rfl, ← es] at hlw
      generalize hr : sumC l ((A.take (k + 1)).filter (keepD m)) = r at hlw
      rw [show ((p.1 * q + 1 * p.2 : Nat) : Int) = (p.1 : Int) * (q : Int) + (p.2 : Int) by omega, ← c3] at hlw
      clear es
      repeat (first | (refine step_ops ?_; (first | (refine m_lss rfl rfl ?_) | (refine m_idx1_ro rfl rfl ?_ ?_; (· omega)))) | refine end_ops ?_ | refine seq_ops ?_ | (refine cond_t rfl ?_ ?_; (· first | rfl | assumption | (refine decide_eq_true ?_; first | assumption | omega) | (refine nt ?_; first | assumption | omega) | (simp [*]; done))) | refine skip_then ?_ | refine AW_seq ?_ | refine AW_block ?_)
      refine step_ops ?_
      refine m_ld_rp rfl hat ?_
      repeat (first | (refine step_ops ?_; (refine m_mov (by conv => lhs; whnf) ?_)) | refine end_ops ?_ | refine seq_ops ?_)
      (refine step_ops ?_); (apply m_call (hsm)); (· repeat (first | exact lends_nil | (refine lends_cons ?_ ?_; (· (refine lend_ints ?_; first | rfl | omega)))))
      repeat (first | (refine step_ops ?_; (first | (refine m_mov (by conv => lhs; whnf) ?_) | (refine m_eql rfl rfl ?_))) | refine end_ops ?_ | refine seq_ops ?_ | (refine cond_t rfl ?_ ?_; (· first | rfl | assumption | (refine decide_eq_true ?_; first | assumption | omega) | (refine nt ?_; first | assumption | omega) | (simp [*]; done))))
      (refine step_ops ?_); (apply m_call (hsc)); (· repeat (first | exact lends_nil | (refine lends_cons ?_ ?_; (· (first | exact lend_v | (refine lend_ints ?_; first | rfl | omega))))))
      repeat (first | (refine step_ops ?_; (first | (refine m_mov (by conv => lhs; whnf) ?_) | (refine m_add rfl rfl ?_ ?_ ?_; (· omega); (· omega)) | (refine m_mul rfl rfl ?_ ?_ ?_; (· first | omega | (simp; done)); (· first | omega | (simp; done))) | (refine m_ext rfl rfl ?_))) | refine end_ops ?_ | refine AW_ops ?_)
      (refine step_ops ?_); (apply m_call (hlw)); (· repeat (first | exact lends_nil | (refine lends_cons ?_ ?_; (· exact lend_v))))
      repeat (first | (refine step_ops ?_; (first | (refine m_mov (by conv => lhs; whnf) ?_) | (refine m_add rfl rfl ?_ ?_ ?_; (· omega); (· omega)) | (refine m_ext rfl rfl ?_))) | refine end_ops ?_ | refine AW_ops ?_ | refine norm_then ?_ | refine norm_block ?_)
      refine next_round (k + 1) (by omega) (weak_st ?_ ?_ rfl rfl) ?_
      · rw [hr]
        (repeat' (first | exact trivial | refine And.intro ?_ ?_)) <;> (first | rfl | skip)
      · trivial
      · omega
    · have es : sumC l ((A.take (k + 1)).filter (keepD m)) = sumC l ((A.take k).filter (keepD m)) := by
        rw [take_snoc A k [] hc, List.filter_append, List.filter_cons_of_neg hk2, List.filter_nil, List.append_nil]
      have hk3 : ¬ ((disp (A.getD k []) (A.getD k []).length).length : Int) = m := fun hh => hk2 (decide_eq_true hh)
      repeat (first | (refine step_ops ?_; (first | (refine m_lss rfl rfl ?_) | (refine m_idx1_ro rfl rfl ?_ ?_; (· omega)))) | refine end_ops ?_ | refine seq_ops ?_ | (refine cond_t rfl ?_ ?_; (· first | rfl | assumption | (refine decide_eq_true ?_; first | assumption | omega) | (refine nt ?_; first | assumption | omega) | (simp [*]; done))) | refine skip_then ?_ | refine AW_seq ?_ | refine AW_block ?_)
      refine step_ops ?_
      refine m_ld_rp rfl hat ?_
      repeat (first | (refine step_ops ?_; (refine m_mov (by conv => lhs; whnf) ?_)) | refine end_ops ?_ | refine seq_ops ?_)
      (refine step_ops ?_); (apply m_call (hsm)); (· repeat (first | exact lends_nil | (refine lends_cons ?_ ?_; (· (refine lend_ints ?_; first | rfl | omega)))))
      repeat (first | (refine step_ops ?_; (first | (refine m_mov (by conv => lhs; whnf) ?_) | (refine m_eql rfl rfl ?_) | (refine m_add rfl rfl ?_ ?_ ?_; (· omega); (· omega)))) | refine end_ops ?_ | refine AW_ops ?_ | (refine cond_f rfl ?_ ?_; (· first | rfl | assumption | (refine decide_eq_false ?_; first | assumption | omega) | (refine nf ?_; first | assumption | omega) | (simp [*]; done))) | refine norm_then ?_ | refine norm_block ?_ | refine AW_skip ?_)
      refine next_round (k + 1) (by omega) (weak_st ?_ ?_ rfl rfl) ?_
      · rw [es]
        (repeat' (first | exact trivial | refine And.intro ?_ ?_)) <;> (first | rfl | skip)
      · trivial
      · omega
  · obtain rfl : k = A.length := by omega
    rw [List.take_length] at hb ⊢
    repeat (first | (refine step_ops ?_; (first | (refine m_mov (by conv => lhs; whnf) ?_) | (refine m_lss rfl rfl ?_))) | refine end_ops ?_ | refine seq_ops ?_ | (refine cond_f rfl ?_ ?_; (· first | rfl | assumption | (refine decide_eq_false ?_; first | assumption | omega) | (refine nf ?_; first | assumption | omega) | (simp [*]; done))) | refine AW_seq ?_ | refine AW_ret ?_ | refine ret_done ?_ | refine norm_then ?_ | refine exit_then ?_ | refine exit_round ?_ | refine AW_exit ?_ | refine exit_block ?_)
    exact outs_tup3 (outs_i rfl) (outs_i rfl) (outs_b rfl)
theorem specChanceDisplaced_spec (g l m : Int) : Sp Try.prog 16 [.i g, .i l, .i m] (disFTup g l m) := by
  unfold disFTup
  by_cases hs : SeOk 7 g l
  · have hs' : (1 ≤ g ∧ g ≤ 7) ∧ 0 ≤ l ∧ l ≤ g := hs
    by_cases h1 : 0 ≤ m ∧ m ≤ g
    · have h : DisOk g l m := ⟨hs, h1⟩
      have e : disF g l m = _ := if_pos h
      rw [e, decide_eq_true h]
      have hg1 := hs.1.1
      obtain ⟨g, rfl⟩ := Int.eq_ofNat_of_zero_le (show 0 ≤ g by omega)
      exact specChanceDisplaced_in g l m h
    · have h : ¬ DisOk g l m := fun hh => h1 hh.2
      have e : disF g l m = (0, 0) := if_neg h
      rw [e, decide_eq_false h]
      refine spec_of Try.func16 rfl cc16 rfl ?_
      unfold ac16
      repeat (first | (refine step_ops ?_; (refine m_mov (by conv => lhs; whnf) ?_)) | refine end_ops ?_ | refine seq_ops ?_ | refine AW_seq ?_)
      (refine step_ops ?_); (apply m_call (seGuests_spec _ _ _)); (· repeat (first | exact lends_nil | (refine lends_cons ?_ ?_; (· exact lend_v))))
      repeat (refine step_ops ?_; ((try (refine g_yes rfl ?_ ?_; (· first | rfl | assumption | (refine decide_eq_true ?_; first | assumption | omega) | (refine nt ?_; first | assumption | omega) | (simp [*]; done) | (refine decide_eq_false ?_; first | assumption | omega) | (refine nf ?_; first | assumption | omega)))); (first | (refine m_mov (by conv => lhs; whnf) ?_) | (refine m_not rfl ?_))))
      (refine step_ops ?_); (refine g_yes rfl ?_ ?_; (· first | (first | rfl | assumption | (refine decide_eq_true ?_; first | assumption | omega) | (refine nt ?_; first | assumption | omega) | (simp [*]; done)) | (first | rfl | assumption | (refine decide_eq_false ?_; first | assumption | omega) | (refine nf ?_; first | assumption | omega) | (simp [*]; done))); (apply m_call (l1In_spec _ _ _))); (· repeat (first | exact lends_nil | (refine lends_cons ?_ ?_; (· exact lend_v))))
      repeat (first | (refine step_ops ?_; ((try (refine g_yes rfl ?_ ?_; (· first | rfl | assumption | (refine decide_eq_true ?_; first | assumption | omega) | (refine nt ?_; first | assumption | omega) | (simp [*]; done) | (refine decide_eq_false ?_; first | assumption | omega) | (refine nf ?_; first | assumption | omega)))); (first | (refine m_mov (by conv => lhs; whnf) ?_) | (refine m_not rfl ?_) | (refine m_pick_f rfl ?_ (by conv => lhs; whnf) ?_; (· first | rfl | assumption | (refine decide_eq_false ?_; first | assumption | omega) | (refine nf ?_; first | assumption | omega) | (simp [*]; done)))))) | refine end_ops ?_ | refine seq_ops ?_ | (refine cond_t rfl ?_ ?_; (· first | rfl | assumption | (refine decide_eq_true ?_; first | assumption | omega) | (refine nt ?_; first | assumption | omega) | (simp [*]; done))) | refine AW_ret ?_ | refine ret_done ?_ | refine ret_then ?_)
      exact outs_tup3 (outs_i rfl) (outs_i rfl) (outs_b rfl)
  · have hs' : ¬ ((1 ≤ g ∧ g ≤ 7) ∧ 0 ≤ l ∧ l ≤ g) := hs
    have h : ¬ DisOk g l m := fun hh => hs hh.1
    have e : disF g l m = (0, 0) := if_neg h
    rw [e, decide_eq_false h]
    refine spec_of Try.func16 rfl cc16 rfl ?_
    unfold ac16
    repeat (first | (refine step_ops ?_; (refine m_mov (by conv => lhs; whnf) ?_)) | refine end_ops ?_ | refine seq_ops ?_ | refine AW_seq ?_)
    (refine step_ops ?_); (apply m_call (seGuests_spec _ _ _)); (· repeat (first | exact lends_nil | (refine lends_cons ?_ ?_; (· exact lend_v))))
    repeat (first | (refine step_ops ?_; (first | (first | (refine m_mov (by conv => lhs; whnf) ?_) | (refine m_not rfl ?_) | (refine m_pick_t rfl ?_ (by conv => lhs; whnf) ?_; (· first | rfl | assumption | (refine decide_eq_true ?_; first | assumption | omega) | (refine nt ?_; first | assumption | omega) | (simp [*]; done)))) | (refine g_noF rfl ?_ ?_; (· first | rfl | assumption | (refine decide_eq_true ?_; first | assumption | omega) | (refine nt ?_; first | assumption | omega) | (simp [*]; done))))) | refine end_ops ?_ | refine seq_ops ?_ | (refine cond_t rfl ?_ ?_; (· first | rfl | assumption | (refine decide_eq_true ?_; first | assumption | omega) | (refine nt ?_; first | assumption | omega) | (simp [*]; done))) | refine AW_ret ?_ | refine ret_done ?_ | refine ret_then ?_)
    exact outs_tup3 (outs_i rfl) (outs_i rfl) (outs_b rfl)
end Go.Proofs.Ytkciccbpjdaekaa
namespace Go.Proofs.Ytkciccbpjdaekaa
open Go.Am
attribute [local irreducible] AW Outs Weak Lends Lend Sp aops atree aop1 Then Round InBlock Done
attribute [local irreducible] SpH DoneH
theorem likeKeeps (l : Int) (c n : Nat) (hn : n ≤ 7) : Keeps Try.prog 28 [.rp [.i l], .rp [.i c]] 0 n (likeB l c) where
  call := ⟨_, Try.func28, by rfl, by rfl⟩
  bears := bears_cons (bears_rp rfl) (bears_rp rfl)
  norefs := fun _ => rfl
  nokill := fun _ => rfl
  spec := fun M hM => by
    have hM' : M.length ≤ 12 := by omega
    unfold likeB
    show Sp Try.prog 28 [ints M, .rp [.i l], .rp [.i c]] _
    refine spec_of Try.func28 rfl cc28 rfl ?_
    unfold ac28
    repeat (first | ((first | refine step_ops ?_ | refine step_tree ?_); (first | (refine m_mov (by conv => lhs; whnf) ?_) | (apply m_ld_rp; (· rfl); (· rfl)))) | refine end_ops ?_ | refine seq_ops ?_ | refine seq_tree ?_)
    refine step_tree ?_; (apply m_call (countChosen_spec l M hM')); (· repeat (first | exact lends_nil | (refine lends_cons ?_ ?_; (· (first | exact lend_v | (refine lend_ints ?_; first | rfl | omega))))))
    repeat (first | (refine step_tree ?_; (first | (refine m_mov (by conv => lhs; whnf) ?_) | (refine m_eql rfl rfl ?_) | (apply m_ld_rp; (· rfl); (· rfl)))) | refine end_tree ?_ | refine AW_ret ?_ | refine ret_done ?_)
    refine outs_b ?_
    refine decide_eq_decide.2 ?_
    omega
def likeR (g l : Int) : List (List Int) := if SeOk 7 g l then (allS l g.toNat).filter (likeB l (downTo g.toNat l.toNat)) else []
theorem likeR_ok (g l : Int) : (likeR g l).length ≤ 5040 ∧ ∀ r ∈ likeR g l, r.length ≤ 7 := by
  unfold likeR
  split
  · rename_i h
    have h2 := h.1.2
    refine ⟨Nat.le_trans (List.length_filter_le ..) (allS_len l _ (by omega)), fun r hr => ?_⟩
    have := (allS_mem (List.mem_filter.1 hr).1).2
    omega
  · simp
end Go.Proofs.Ytkciccbpjdaekaa
namespace Go.Proofs.Ytkciccbpjdaekaa
open Go.Am
attribute [local irreducible] AW Outs Weak Lends Lend Sp aops atree aop1 Then Round InBlock Done
attribute [local irreducible] SpH DoneH
/-- What comes behind the least product. -/
def lkRest : ACode := .seq (.ops [⟨(some 18), (.mov (.t 0)), none⟩, ⟨(some 19), (.ld none (.t 3)), none⟩, ⟨(some 20), (.mkf 28 0 [(.t 3), (.t 6)]), none⟩, ⟨(some 21), (.call 21 [(.t 18), (.t 19), (.t 20)]), none⟩, ⟨(some 4), (.mov (.t 21)), none⟩, ⟨(some 5), (.mov (.c (.bool true))), none⟩]) .ret
theorem like_rest (N g l c : Nat) (hg : g ≤ 7) (h1 : 1 ≤ g) (R : List (List Int)) (hR : (allS (l : Int) g).filter (likeB (l : Int) c) = R) :
    AW Try.prog N lkRest (st [(0, .i g), (3, .pt 3 0), (6, .pt 6 0)] [(3, (true, [.i l])), (6, (true, [.i c]))]) (DoneH [5, 4].reverse (.tup [.sl nbase 1 0 R.length, .v (.bool true)]) (fun _ => none) (matO R)) := by
  have hpb : pbase = 4000000 := rfl
  have hal := allS_len (l : Int) g hg
  have hle : R.length ≤ 5040 := by rw [← hR]; exact Nat.le_trans (List.length_filter_le ..) hal
  have hsw := seatingsWhere_spec (l : Int) (likeKeeps (l : Int) c g hg) hg h1
  rw [hR] at hsw
  have hnone : ∀ j, (st [(0, .i g), (3, .pt 3 0), (6, .pt 6 0)] [(3, (true, [.i l])), (6, (true, [.i c]))]).hp (1000 + j) = none := fun j => by
    show Am.look _ _ = none
    exact look_none fun p hp => by
      simp only [List.mem_cons, List.not_mem_nil, or_false] at hp
      rcases hp with rfl | rfl
      · show 3 < 1000 + j; omega
      · show 6 < 1000 + j; omega
  unfold lkRest
  repeat (first | (refine step_ops ?_; (first | (refine m_mov (by conv => lhs; whnf) ?_) | (apply m_ld_pt; (· rfl); (· rfl); (· rfl)) | (refine m_mkf ?_))) | refine seq_ops ?_)
  refine step_ops ?_
  refine m_callM 21 1000 hsw ?_ rfl (by omega) (by omega) (by omega) rfl ?_ ?_
  · exact lends_cons lend_v (lends_cons lend_v (lends_cons (lend_fn (lends_cons (lend_pt rfl rfl) (lends_cons (lend_pt rfl rfl) lends_nil))) lends_nil))
  · intro j hj
    simp (disch := omega) only [hp_put]
    exact hnone j
  repeat (first | (refine step_ops ?_; (refine m_mov (by conv => lhs; whnf) ?_)) | refine end_ops ?_ | refine AW_ret ?_)
  refine ret_mat (r0 := 21) (b := 1000) (by omega) (by omega) (by omega) rfl rfl ?_
  intro j hj
  simp only [hp_put]
  refine addM_row (by omega) ?_ hj
  simp (disch := omega) only [hp_put]
  exact hnone j
theorem fac_down : ∀ n < 8, ∀ (l : Nat), l < n + 1 → fac n / fac (n - l) = (downTo n l : Nat) := by decide +kernel
theorem fac_pos : ∀ n < 8, 1 ≤ fac n ∧ fac n ≤ 5040 := by decide +kernel
set_option maxHeartbeats 4000000 in
theorem implLikeliest_in (g l : Nat) (hg : g ≤ 7) (h1 : 1 ≤ g) (hl : l ≤ g) (R : List (List Int)) (hR : (allS (l : Int) g).filter (likeB (l : Int) (downTo g l)) = R) :
    SpH Try.prog 13 [.i g, .i l] (fun _ => none) (.tup [.sl nbase 1 0 R.length, .v (.bool true)]) (matO R) := by
  have hpb : pbase = 4000000 := rfl
  have hstat : Static (fun _ => none) (.tup [.sl nbase 1 0 R.length, .v (.bool true)]) (matO R) := static_mat2 _ _
  have hok : SeOk 7 (g : Int) (l : Int) := ⟨⟨by omega, by omega⟩, by omega, by omega⟩
  have f1 := factorial_spec g (by omega)
  have f2 := factorial_spec (g - l) (by omega)
  rw [show ((g - l : Nat) : Int) = (g : Int) - (l : Int) by omega] at f2
  have fd := fac_down g (by omega) l (by omega)
  have fp := fac_pos (g - l) (by omega)
  have fp1 := fac_pos g (by omega)
  have hr := like_rest (min Try.f13.ntmps pbase) g l (downTo g l) hg h1 R hR
  rw [← fd] at hr
  clear fd
  generalize fac g = F1 at *
  generalize fac (g - l) = F2 at *
  generalize downTo g l = D at *
  refine specH_of Try.func13 rfl cc13 rfl (by first | exact static_mat1 _ | exact static_mat2 _ _ | assumption) ?_
  unfold ac13
  repeat (first | (refine step_ops ?_; (first | (refine m_mov (by conv => lhs; whnf) ?_) | (apply m_ld_pt; (· rfl); (· rfl); (· rfl)) | (refine m_nils ?_) | (refine m_box1 rfl rfl ?_))) | refine end_ops ?_ | refine seq_ops ?_ | refine AW_seq ?_)
  refine step_ops ?_; (apply m_call (canList_spec _ _)); (· repeat (first | exact lends_nil | (refine lends_cons ?_ ?_; (· exact lend_v))))
  iterate 4 ((first | (refine step_ops ?_; (refine m_not rfl ?_)) | refine end_ops ?_ | (refine cond_f rfl ?_ ?_; (· first | rfl | assumption | (refine decide_eq_false ?_; first | assumption | omega) | (refine nf ?_; first | assumption | omega) | (simp [*]; done))) | refine skip_then ?_))
  refine AW_cutseq0 _ hr ?_
  refine AW_tree ?_
  repeat' (first | exact step_top | (refine step_alt ?_ ?_) | (refine step_two ?_ ?_) | (refine step_tree ?_; refine m_call f1 (lends_cons lend_v lends_nil) ?_) | (refine step_tree ?_; refine m_call f2 (lends_cons lend_v lends_nil) ?_) | (refine end_tree ?_; exact weak_st ⟨rfl, rfl, rfl, trivial⟩ ⟨rfl, rfl, trivial⟩ rfl rfl) | ((refine step_tree ?_; (first | (refine m_mov (by conv => lhs; whnf) ?_) | (refine m_sub rfl rfl ?_ ?_ ?_; (· omega); (· omega)) | (apply m_ld_pt; (· rfl); (· rfl); (· rfl)) | (apply m_st; (· rfl); (· rfl); (· rfl); (· first | omega | (simp; done) | (simp; omega)); (· rfl)) | (refine m_alloc ?_) | (refine m_quo rfl rfl ?_ ?_ ?_ ?_; (· omega); (· omega); (· omega))))))
theorem implLikeliestSeatings_spec (g l : Int) : SpH Try.prog 13 [.i g, .i l] (fun _ => none) (.tup [.sl nbase 1 0 (likeR g l).length, .v (.bool (decide (SeOk 7 g l)))]) (matO (likeR g l)) := by
  have hpb : pbase = 4000000 := rfl
  have hstat : Static (fun _ => none) (.tup [.sl nbase 1 0 (likeR g l).length, .v (.bool (decide (SeOk 7 g l)))]) (matO (likeR g l)) := static_mat2 _ _
  by_cases h : SeOk 7 g l
  · have h1 := h.1
    have h2 := h.2
    have e0 : likeR g l = _ := if_pos h
    rw [e0]
    have hd := decide_eq_true h
    rw [hd]
    clear hd e0 hstat
    obtain ⟨g, rfl⟩ := Int.eq_ofNat_of_zero_le (show 0 ≤ g by omega)
    obtain ⟨l, rfl⟩ := Int.eq_ofNat_of_zero_le (show 0 ≤ l by omega)
    rw [Int.toNat_natCast, Int.toNat_natCast]
    exact implLikeliest_in g l (by omega) (by omega) (by omega) _ rfl
  · have e0 : likeR g l = [] := if_neg h
    rw [e0] at hstat ⊢
    have hd := decide_eq_false h
    rw [hd] at hstat ⊢
    refine specH_of Try.func13 rfl cc13 rfl (by first | exact static_mat1 _ | exact static_mat2 _ _ | assumption) ?_
    unfold ac13
    repeat (first | (refine step_ops ?_; (first | (refine m_mov (by conv => lhs; whnf) ?_) | (apply m_ld_pt; (· rfl); (· rfl); (· rfl)) | (refine m_nils ?_) | (refine m_box1 rfl rfl ?_))) | refine end_ops ?_ | refine seq_ops ?_ | refine AW_seq ?_)
    refine step_ops ?_; (apply m_call (canList_spec _ _)); (· repeat (first | exact lends_nil | (refine lends_cons ?_ ?_; (· exact lend_v))))
    repeat (first | (refine step_ops ?_; (first | (refine m_mov (by conv => lhs; whnf) ?_) | (refine m_not rfl ?_) | (refine m_nils ?_))) | refine end_ops ?_ | refine seq_ops ?_ | (refine cond_t rfl ?_ ?_; (· first | rfl | assumption | (refine decide_eq_true ?_; first | assumption | omega) | (refine nt ?_; first | assumption | omega) | (simp [*]; done))) | refine AW_ret ?_ | refine ret_then ?_)
    exact ret_mat0 (r0 := 4) (fl := true) (by omega) rfl rfl
end Go.Proofs.Ytkciccbpjdaekaa
namespace Go.Proofs.Ytkciccbpjdaekaa
open Go.Am
attribute [local irreducible] AW Outs Weak Lends Lend Sp aops atree aop1 Then Round InBlock Done
attribute [local irreducible] SpH DoneH
theorem specLikeliest_in (g l : Nat) (hg : g ≤ 7) (h1 : 1 ≤ g) (hl : l ≤ g) (R : List (List Int)) (hR : (allS (l : Int) g).filter (likeB (l : Int) (downTo g l)) = R) :
    Sp Try.prog 12 [.i g, .i l] (.tup [roF R, .b true]) := by
  have hok : (1 ≤ (g : Int) ∧ (g : Int) ≤ 7) ∧ 0 ≤ (l : Int) ∧ (l : Int) ≤ g := ⟨⟨by omega, by omega⟩, by omega, by omega⟩
  have hal := allS_len (l : Int) g hg
  have hmem : ∀ x ∈ allS (l : Int) g, x.length = g := fun x hx => (allS_mem hx).2
  have hcome : ∀ x ∈ allS (l : Int) g, comeK (l : Int) x x.length := fun x hx => goOn_come (l : Int) g g [] (fun j hj => by simp at hj) x hx
  have hge : ∀ x ∈ allS (l : Int) g, downTo g l ≤ prodS (l : Int) x x.length := fun x hx => by
    have e := hmem x hx
    have := prodS_least l x (by omega)
    rwa [e] at this ⊢
  have hfst : (allS (l : Int) g).getD 0 [] = iotaI g ∧ 0 < (allS (l : Int) g).length := by
    have h0 : (allS (l : Int) g).head? = some (iotaI g) := first_iota g (by omega) l (by omega)
    cases hA : allS (l : Int) g with
    | nil => rw [hA] at h0; cases h0
    | cons a m => rw [hA] at h0; cases h0; simp
  have hpi := prod_iota g (by omega) l (by omega)
  have hil : (iotaI g).length = g := by simp [iotaI]
  have hp0 : prodS (l : Int) ((allS (l : Int) g).getD 0 []) ((allS (l : Int) g).getD 0 []).length = downTo g l := by rw [hfst.1, hil]; exact hpi
  have hpos : 1 ≤ downTo g l := by rw [← hpi]; exact (prodS_bound (l : Int) (iotaI g) (by omega) g (by omega)).1
  have hsa : SpH Try.prog 19 [.i g, .i l, ints []] (fun _ => none) (.sl nbase 1 0 (allS (l : Int) g).length) (matO (allS (l : Int) g)) := seAll_spec (l : Int) g hg g [] (beg_nil g) (by simp)
  have hsb := sp_mat1 hsa
  clear hsa hpi hil
  have hA0 := hfst.2
  clear hfst
  generalize allS (l : Int) g = A at *
  generalize downTo g l = c at *
  refine spec_of Try.func12 rfl cc12 rfl ?_
  unfold ac12
  repeat (first | (refine step_ops ?_; (first | (refine m_mov (by conv => lhs; whnf) ?_) | (refine m_nils ?_))) | refine end_ops ?_ | refine seq_ops ?_ | refine AW_seq ?_)
  (refine step_ops ?_); (apply m_call (seGuests_spec _ _ _)); (· repeat (first | exact lends_nil | (refine lends_cons ?_ ?_; (· exact lend_v))))
  repeat (first | (refine step_ops ?_; (first | (refine m_mov (by conv => lhs; whnf) ?_) | (refine m_not rfl ?_) | (refine m_nils ?_))) | refine end_ops ?_ | refine seq_ops ?_ | (refine cond_f rfl ?_ ?_; (· first | rfl | assumption | (refine decide_eq_false ?_; first | assumption | omega) | (refine nf ?_; first | assumption | omega) | (simp [*]; done))) | refine skip_then ?_ | refine AW_seq ?_)
  refine step_ops ?_
  refine m_call hsb ?_ ?_
  · exact lends_cons lend_v (lends_cons lend_v (lends_cons lend_nil lends_nil))
  repeat (first | (refine step_ops ?_; (first | (refine m_mov (by conv => lhs; whnf) ?_) | (refine m_len_ro rfl ?_))) | refine end_ops ?_ | refine AW_block ?_)
  refine AW_loop (α := Nat × Nat) (fun a => a.1 ≤ A.length ∧ (a.2 = 6 ∨ a.2 = 44))
    (fun a => st [(1, .i l), (6, .sl a.2 1 0 ((A.take a.1).filter (likeB (l : Int) c)).length), (7, .i (if a.1 = 0 then 0 else c : Nat)), (18, roF A), (19, .i A.length), (20, .i a.1)] [(a.2, (true, ((A.take a.1).filter (likeB (l : Int) c)).map newInts))]) (fun a => A.length - a.1) (0, 6) (by simp) (weak_st ?_ ?_ rfl rfl) ?_
  · (repeat' (first | exact trivial | refine And.intro ?_ ?_)) <;> (first | rfl | skip)
  · exact ⟨rfl, trivial⟩
  rintro ⟨k, r⟩ ⟨hk, hr⟩
  simp only at hk hr
  have hle : ((A.take k).filter (likeB (l : Int) c)).length ≤ k := Nat.le_trans (List.length_filter_le ..) (List.length_take_le _ _)
  by_cases hc : k < A.length
  · have hmk : A.getD k [] ∈ A := by simp [hc]
    have hml := hmem _ hmk
    have hat : ((A.map newInts).drop k)[0]? = some (newInts (A.getD k [])) := by simp [hc]
    have hsc := seCan_spec (l : Int) (A.getD k []) (by omega)
    rw [if_pos (hcome _ hmk), decide_eq_true (hcome _ hmk)] at hsc
    have hgek := hge _ hmk
    have hpb := (prodS_bound (l : Int) (A.getD k []) (by omega) (A.getD k []).length (Nat.le_refl _)).2
    by_cases h0 : k = 0
    · subst h0
      have hlk : likeB (l : Int) c (A.getD 0 []) = true := decide_eq_true hp0
      have es : (A.take (0 + 1)).filter (likeB (l : Int) c) = [A.getD 0 []] := by
        rw [take_snoc A 0 [] hA0, List.filter_append, List.filter_cons_of_pos hlk]; rfl
      rw [hp0] at hsc
      have e00 : ((if (0 : Nat) = 0 then 0 else c : Nat) : Int) = 0 := rfl
      dsimp only
      rw [e00]
      rcases hr with rfl | rfl
      all_goals
        repeat (first | (refine step_ops ?_; (first | (refine m_lss rfl rfl ?_) | (refine m_idx1_ro rfl rfl ?_ ?_; (· omega)))) | refine end_ops ?_ | refine seq_ops ?_ | (refine cond_t rfl ?_ ?_; (· first | rfl | assumption | (refine decide_eq_true ?_; first | assumption | omega) | (refine nt ?_; first | assumption | omega) | (simp [*]; done))) | refine skip_then ?_ | refine AW_seq ?_ | refine AW_block ?_)
        refine step_ops ?_
        refine m_ld_rp rfl hat ?_
        repeat (first | (refine step_ops ?_; (refine m_mov (by conv => lhs; whnf) ?_)) | refine end_ops ?_ | refine seq_ops ?_)
        (refine step_ops ?_); (apply m_call (hsc)); (· repeat (first | exact lends_nil | (refine lends_cons ?_ ?_; (· (first | exact lend_v | (refine lend_ints ?_; first | rfl | omega))))))
        repeat (first | (refine step_ops ?_; (first | (first | (refine m_mov (by conv => lhs; whnf) ?_) | (refine m_eql rfl rfl ?_) | (refine m_add rfl rfl ?_ ?_ ?_; (· omega); (· omega)) | (refine m_pick_t rfl ?_ (by conv => lhs; whnf) ?_; (· first | rfl | assumption | (refine decide_eq_true ?_; first | assumption | omega) | (refine nt ?_; first | assumption | omega) | (simp [*]; done))) | (refine m_nils ?_) | (refine m_ext rfl rfl ?_) | (refine m_bsl1 rfl rfl ?_) | (refine m_app1 rfl (by decide) rfl (by first | (simp; done) | (simp [*]; done) | (simp; omega)) rfl rfl rfl ?_ (by decide) ?_; (· first | omega | (simp; omega)))) | (refine g_noF rfl ?_ ?_; (· first | rfl | assumption | (refine decide_eq_true ?_; first | assumption | omega) | (refine nt ?_; first | assumption | omega) | (simp [*]; done))))) | refine end_ops ?_ | refine seq_ops ?_ | refine AW_ops ?_ | (refine cond_t rfl ?_ ?_; (· first | rfl | assumption | (refine decide_eq_true ?_; first | assumption | omega) | (refine nt ?_; first | assumption | omega) | (simp [*]; done))) | refine AW_seq ?_ | refine norm_then ?_ | refine norm_block ?_)
        refine next_round (1, 44) ⟨hA0, .inr rfl⟩ (weak_st ?_ ?_ rfl rfl) ?_
        · rw [es]
          (repeat' (first | exact trivial | refine And.intro ?_ ?_)) <;> (first | rfl | skip)
        · rw [es]
          exact ⟨rfl, trivial⟩
        · omega
    · have ek : ((if k = 0 then 0 else c : Nat) : Int) = (c : Int) := by rw [if_neg h0]
      have ek1 : ((if k + 1 = 0 then 0 else c : Nat) : Int) = (c : Int) := by rw [if_neg (by omega)]
      dsimp only
      rw [ek]
      have hc0 : ¬ (c : Int) = 0 := by omega
      have hls : ¬ ((prodS (l : Int) (A.getD k []) (A.getD k []).length : Nat) : Int) < (c : Int) := by omega
      by_cases hp : prodS (l : Int) (A.getD k []) (A.getD k []).length = c
      · have hlk : likeB (l : Int) c (A.getD k []) = true := decide_eq_true hp
        have es : (A.take (k + 1)).filter (likeB (l : Int) c) = (A.take k).filter (likeB (l : Int) c) ++ [A.getD k []] := by
          rw [take_snoc A k [] hc, List.filter_append, List.filter_cons_of_pos hlk]; rfl
        rw [hp] at hsc hls
        generalize (A.take k).filter (likeB (l : Int) c) = T at *
        have hTl : (T.map newInts).length = T.length := by simp
        rcases hr with rfl | rfl
        all_goals
          repeat (first | (refine step_ops ?_; (first | (refine m_lss rfl rfl ?_) | (refine m_idx1_ro rfl rfl ?_ ?_; (· omega)))) | refine end_ops ?_ | refine seq_ops ?_ | (refine cond_t rfl ?_ ?_; (· first | rfl | assumption | (refine decide_eq_true ?_; first | assumption | omega) | (refine nt ?_; first | assumption | omega) | (simp [*]; done))) | refine skip_then ?_ | refine AW_seq ?_ | refine AW_block ?_)
          refine step_ops ?_
          refine m_ld_rp rfl hat ?_
          repeat (first | (refine step_ops ?_; (refine m_mov (by conv => lhs; whnf) ?_)) | refine end_ops ?_ | refine seq_ops ?_)
          (refine step_ops ?_); (apply m_call (hsc)); (· repeat (first | exact lends_nil | (refine lends_cons ?_ ?_; (· (first | exact lend_v | (refine lend_ints ?_; first | rfl | omega))))))
          repeat (first | (refine step_ops ?_; ((try (refine g_yes rfl ?_ ?_; (· first | rfl | assumption | (refine decide_eq_true ?_; first | assumption | omega) | (refine nt ?_; first | assumption | omega) | (simp [*]; done) | (refine decide_eq_false ?_; first | assumption | omega) | (refine nf ?_; first | assumption | omega)))); (first | (refine m_mov (by conv => lhs; whnf) ?_) | (refine m_lss rfl rfl ?_) | (refine m_eql rfl rfl ?_) | (refine m_add rfl rfl ?_ ?_ ?_; (· omega); (· omega)) | (refine m_pick_f rfl ?_ (by conv => lhs; whnf) ?_; (· first | rfl | assumption | (refine decide_eq_false ?_; first | assumption | omega) | (refine nf ?_; first | assumption | omega) | (simp [*]; done))) | (refine m_ext rfl rfl ?_) | (refine m_bsl1 rfl rfl ?_) | (refine m_app1 rfl (by decide) rfl (by first | (simp; done) | (simp [*]; done) | (simp; omega)) rfl rfl rfl ?_ (by decide) ?_; (· first | omega | (simp; omega)))))) | refine end_ops ?_ | refine seq_ops ?_ | refine AW_ops ?_ | (refine cond_t rfl ?_ ?_; (· first | rfl | assumption | (refine decide_eq_true ?_; first | assumption | omega) | (refine nt ?_; first | assumption | omega) | (simp [*]; done))) | (refine cond_f rfl ?_ ?_; (· first | rfl | assumption | (refine decide_eq_false ?_; first | assumption | omega) | (refine nf ?_; first | assumption | omega) | (simp [*]; done))) | refine skip_then ?_ | refine AW_seq ?_ | refine norm_then ?_ | refine norm_block ?_)
          refine next_round (k + 1, 44) ⟨by omega, .inr rfl⟩ (weak_st ?_ ?_ rfl rfl) ?_
          · rw [es]
            dsimp only
            rw [ek1, List.length_append]
            (repeat' (first | exact trivial | refine And.intro ?_ ?_)) <;> (first | rfl | skip)
          · rw [es, List.map_append]
            exact ⟨rfl, trivial⟩
          · omega
      · have hlk : ¬ likeB (l : Int) c (A.getD k []) = true := fun hh => hp (of_decide_eq_true hh)
        have es : (A.take (k + 1)).filter (likeB (l : Int) c) = (A.take k).filter (likeB (l : Int) c) := by
          rw [take_snoc A k [] hc, List.filter_append, List.filter_cons_of_neg hlk]; simp
        generalize (A.take k).filter (likeB (l : Int) c) = T at *
        generalize prodS (l : Int) (A.getD k []) (A.getD k []).length = q at *
        have hne : ¬ (q : Int) = (c : Int) := by omega
        rcases hr with rfl | rfl
        all_goals
          repeat (first | (refine step_ops ?_; (first | (refine m_lss rfl rfl ?_) | (refine m_idx1_ro rfl rfl ?_ ?_; (· omega)))) | refine end_ops ?_ | refine seq_ops ?_ | (refine cond_t rfl ?_ ?_; (· first | rfl | assumption | (refine decide_eq_true ?_; first | assumption | omega) | (refine nt ?_; first | assumption | omega) | (simp [*]; done))) | refine skip_then ?_ | refine AW_seq ?_ | refine AW_block ?_)
          refine step_ops ?_
          refine m_ld_rp rfl hat ?_
          repeat (first | (refine step_ops ?_; (refine m_mov (by conv => lhs; whnf) ?_)) | refine end_ops ?_ | refine seq_ops ?_)
          (refine step_ops ?_); (apply m_call (hsc)); (· repeat (first | exact lends_nil | (refine lends_cons ?_ ?_; (· (first | exact lend_v | (refine lend_ints ?_; first | rfl | omega))))))
          repeat (first | (refine step_ops ?_; ((try (refine g_yes rfl ?_ ?_; (· first | rfl | assumption | (refine decide_eq_true ?_; first | assumption | omega) | (refine nt ?_; first | assumption | omega) | (simp [*]; done) | (refine decide_eq_false ?_; first | assumption | omega) | (refine nf ?_; first | assumption | omega)))); (first | (refine m_mov (by conv => lhs; whnf) ?_) | (refine m_lss rfl rfl ?_) | (refine m_eql rfl rfl ?_) | (refine m_add rfl rfl ?_ ?_ ?_; (· omega); (· omega)) | (refine m_pick_f rfl ?_ (by conv => lhs; whnf) ?_; (· first | rfl | assumption | (refine decide_eq_false ?_; first | assumption | omega) | (refine nf ?_; first | assumption | omega) | (simp [*]; done))) | (refine m_ext rfl rfl ?_)))) | refine end_ops ?_ | refine seq_ops ?_ | refine AW_ops ?_ | (refine cond_f rfl ?_ ?_; (· first | rfl | assumption | (refine decide_eq_false ?_; first | assumption | omega) | (refine nf ?_; first | assumption | omega) | (simp [*]; done))) | refine skip_then ?_ | refine AW_seq ?_ | refine norm_then ?_ | refine norm_block ?_ | refine AW_skip ?_)
          first
          | (refine next_round (k + 1, 6) ⟨by omega, .inl rfl⟩ (weak_st ?_ ?_ rfl rfl) ?_
             · rw [es]
               dsimp only
               rw [ek1]
               (repeat' (first | exact trivial | refine And.intro ?_ ?_)) <;> (first | rfl | skip)
             · rw [es]
               exact ⟨rfl, trivial⟩
             · omega)
          | (refine next_round (k + 1, 44) ⟨by omega, .inr rfl⟩ (weak_st ?_ ?_ rfl rfl) ?_
             · rw [es]
               dsimp only
               rw [ek1]
               (repeat' (first | exact trivial | refine And.intro ?_ ?_)) <;> (first | rfl | skip)
             · rw [es]
               exact ⟨rfl, trivial⟩
             · omega)
  · obtain rfl : k = A.length := by omega
    rw [List.take_length, hR] at hle ⊢
    rcases hr with rfl | rfl
    all_goals
      repeat (first | (refine step_ops ?_; (first | (refine m_mov (by conv => lhs; whnf) ?_) | (refine m_lss rfl rfl ?_))) | refine end_ops ?_ | refine seq_ops ?_ | (refine cond_f rfl ?_ ?_; (· first | rfl | assumption | (refine decide_eq_false ?_; first | assumption | omega) | (refine nf ?_; first | assumption | omega) | (simp [*]; done))) | refine AW_seq ?_ | refine AW_ret ?_ | refine ret_done ?_ | refine norm_then ?_ | refine exit_then ?_ | refine exit_round ?_ | refine AW_exit ?_ | refine exit_block ?_)
      exact outs_tup2 (outs_slro rfl rfl) (outs_b rfl)
theorem specLikeliestSeatings_spec (g l : Int) : Sp Try.prog 12 [.i g, .i l] (.tup [roF (likeR g l), .b (decide (SeOk 7 g l))]) := by
  by_cases h : SeOk 7 g l
  · have h1 := h.1
    have h2 := h.2
    have e0 : likeR g l = _ := if_pos h
    rw [e0, decide_eq_true h]
    obtain ⟨g, rfl⟩ := Int.eq_ofNat_of_zero_le (show 0 ≤ g by omega)
    obtain ⟨l, rfl⟩ := Int.eq_ofNat_of_zero_le (show 0 ≤ l by omega)
    rw [Int.toNat_natCast, Int.toNat_natCast]
    exact specLikeliest_in g l (by omega) (by omega) (by omega) _ rfl
  · have e0 : likeR g l = [] := if_neg h
    have h' : ¬ ((1 ≤ g ∧ g ≤ 7) ∧ 0 ≤ l ∧ l ≤ g) := h
    rw [e0, decide_eq_false h]
    refine spec_of Try.func12 rfl cc12 rfl ?_
    unfold ac12
    repeat (first | (refine step_ops ?_; (first | (refine m_mov (by conv => lhs; whnf) ?_) | (refine m_nils ?_))) | refine end_ops ?_ | refine seq_ops ?_ | refine AW_seq ?_)
    (refine step_ops ?_); (apply m_call (seGuests_spec _ _ _)); (· repeat (first | exact lends_nil | (refine lends_cons ?_ ?_; (· exact lend_v))))
    repeat (first | (refine step_ops ?_; (first | (refine m_mov (by conv => lhs; whnf) ?_) | (refine m_not rfl ?_) | (refine m_nils ?_))) | refine end_ops ?_ | refine seq_ops ?_ | (refine cond_t rfl ?_ ?_; (· first | rfl | assumption | (refine decide_eq_true ?_; first | assumption | omega) | (refine nt ?_; first | assumption | omega) | (simp [*]; done))) | refine AW_ret ?_ | refine ret_done ?_ | refine ret_then ?_)
    exact outs_tup2 (outs_slro (rows := []) rfl rfl) (outs_b rfl)
end Go.Proofs.Ytkciccbpjdaekaa
