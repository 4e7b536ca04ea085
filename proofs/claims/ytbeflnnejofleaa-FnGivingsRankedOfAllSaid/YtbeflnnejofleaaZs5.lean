/- The abstract machine, contracts: part 5 of what this claim needs. -/
import Derived.Test.YtbeflnnejofleaaZs4
set_option linter.unusedSectionVars false
namespace Go.Proofs.Ytbeflnnejofleaa
variable [Go.Am.CodeBlk]
open Go.Am
attribute [local irreducible] AW Outs Weak Lends Lend Sp aops atree aop1 Then Round InBlock Done
attribute [local irreducible] SpH SpX DoneH DoneX DoneHG
def GrOk (F : List Int) (r : Int) : Prop := IsFam F ∧ 0 ≤ r ∧ r < (bhN F 0 : Nat)
instance (F : List Int) (r : Int) : Decidable (GrOk F r) := inferInstanceAs (Decidable (_ ∧ _ ∧ _))
def grR (F : List Int) (r : Int) : List Int := if GrOk F r then (gvAt F r.toNat F.length).1 else []
theorem specGivingOfRank_spec (F : List Int) (r : Int) (hL : F.length ≤ 1048576) : Sp Try.prog 24 [ints F, .i r] (.tup [newInts (grR F r), .b (decide (GrOk F r))]) := by
  refine spec_of Try.func24 rfl cc24 rfl ?_
  unfold ac24
  by_cases hf : IsFam F
  · have h9 := hf.2.1
    have hs := giRest_spec F [] h9 ⟨List.nodup_nil, fun x hx => absurd hx (by simp)⟩
    rw [show setB [] = 0 from rfl] at hs
    have hnf : (!decide (IsFam F)) = false := by simp [hf]
    have hb0 := bhN_le h9 0
    obtain ⟨N, hN⟩ : ∃ N, bhN F 0 = N := ⟨_, rfl⟩
    by_cases hr : 0 ≤ r ∧ r < (bhN F 0 : Nat)
    · have h : GrOk F r := ⟨hf, hr⟩
      have e : grR F r = _ := if_pos h
      rw [e]
      obtain ⟨r0, rfl⟩ := Int.eq_ofNat_of_zero_le hr.1
      rw [Int.toNat_natCast]
      have h0 : r0 < bhN F 0 := by omega
      rw [hN] at hs hr hb0
      repeat (first | (refine step_ops ?_; (first | (refine m_mov (by conv => lhs; whnf) ?_) | (refine m_nils ?_))) | refine end_ops ?_ | refine seq_ops ?_ | refine AW_seq ?_)
      refine step_ops ?_; (apply m_call (giGood_spec F hL)); (· repeat (first | exact lends_nil | (refine lends_cons ?_ ?_; (· (refine lend_ints ?_; first | rfl | omega)))))
      repeat (refine step_ops ?_; ((try (refine g_yes rfl ?_ ?_; (· assumption))); (first | (refine m_mov (by conv => lhs; whnf) ?_) | (refine m_not rfl ?_))))
      refine step_ops ?_
      refine g_yes rfl ?_ ?_
      · exact hnf
      refine m_call hs ?_ ?_
      · refine lends_cons ?_ (lends_cons lend_nil lends_nil)
        exact lend_ints rfl
      repeat (refine step_ops ?_; ((try (refine g_yes rfl ?_ ?_; (· assumption))); (refine m_sub rfl rfl ?_ ?_ ?_; (· omega); (· omega))))
      refine step_ops ?_; (refine g_yes rfl ?_ ?_; (· first | (assumption) | (fail)); (apply m_call (l1In_spec _ _ _))); (· repeat (first | exact lends_nil | (refine lends_cons ?_ ?_; (· exact lend_v))))
      repeat (first | (refine step_ops ?_; ((try (refine g_yes rfl ?_ ?_; (· assumption))); (first | (refine m_not rfl ?_) | (refine m_pick_f rfl ?_ (by conv => lhs; whnf) ?_; (· assumption)) | (refine m_nils ?_)))) | refine end_ops ?_ | refine seq_ops ?_ | (refine cond_f rfl ?_ ?_; (· (refine nf ?_; omega))) | refine skip_then ?_ | refine AW_seq ?_ | refine AW_block ?_)
      refine AW_loop (α := Nat) (fun k => k ≤ F.length) (fun k => st [(0, ints F), (1, .i ((gvAt F r0 k).2 : Nat)), (6, .sl 6 1 0 k)] [(6, (true, (gvAt F r0 k).1.map AV.i))]) (fun k => F.length - k) 0 (by omega) (weak_st ?_ ?_ rfl rfl) ?_
      · (repeat' (first | exact trivial | refine And.intro ?_ ?_)) <;> (first | rfl | skip)
      · (repeat' (first | exact trivial | refine And.intro ?_ ?_)) <;> (first | rfl | skip)
      intro k hk
      have hg := gv_ok h0 k hk
      have hgl := gv_len F r0 k
      by_cases hc : k < F.length
      · have hall := gv_all hg hc
        have hsuc : gvAt F r0 (k + 1) = ((gvAt F r0 k).1 ++ [((gvX F k (setB (gvAt F r0 k).1) (gvAt F r0 k).2 : Nat) : Int)], (gvAt F r0 k).2 - bhTo F (bhN F) k (setB (gvAt F r0 k).1) (gvX F k (setB (gvAt F r0 k).1) (gvAt F r0 k).2)) := rfl
        generalize hB : (gvAt F r0 k).1 = B at *
        generalize hq : (gvAt F r0 k).2 = q at *
        obtain ⟨g1, g2, g3⟩ := hg
        obtain ⟨s1, s2, s3⟩ := setB_ok g1
        have hq9 : q ≤ 387420489 := Nat.le_trans (Nat.le_of_lt g3) (bhN_le h9 _)
        rw [hall] at g3
        repeat (first | (refine step_ops ?_; (first | (refine m_mov (by conv => lhs; whnf) ?_) | (refine m_lss rfl rfl ?_) | (refine m_len_ro rfl ?_) | (refine m_len_sl rfl ?_))) | refine end_ops ?_ | refine seq_ops ?_ | (refine cond_t rfl ?_ ?_; (· (refine decide_eq_true ?_; omega))) | refine skip_then ?_ | refine AW_seq ?_ | refine AW_block ?_)
        refine AW_loop (α := Nat) (fun x => x ≤ F.length ∧ bhTo F (bhN F) k (setB B) x ≤ q) (fun x => st [(0, ints F), (1, .i ((q - bhTo F (bhN F) k (setB B) x : Nat) : Int)), (6, .sl 6 1 0 k), (27, .i F.length), (28, .i x)] [(6, (true, B.map AV.i))]) (fun x => F.length - x) 0 ⟨by omega, by simp [bhTo]⟩ (weak_st ?_ ?_ rfl rfl) ?_
        · (repeat' (first | exact trivial | refine And.intro ?_ ?_)) <;> (first | rfl | skip)
        · (repeat' (first | exact trivial | refine And.intro ?_ ?_)) <;> (first | rfl | skip)
        rintro x ⟨hx, hqx⟩
        by_cases hcx : x < F.length
        · have hsum : bhTo F (bhN F) k (setB B) (x + 1) = bhTo F (bhN F) k (setB B) x + bhT F (bhN F) k (setB B) x := rfl
          have hbit := s3 x
          by_cases hne : F.getD x 0 = F.getD k 0
          · have hz : bhT F (bhN F) k (setB B) x = 0 := by
              unfold bhT
              rw [if_neg fun h => h.2 hne.symm]
            rw [hz, Nat.add_zero] at hsum
            generalize bhTo F (bhN F) k (setB B) x = acc at *
            repeat (first | ((first | refine step_ops ?_ | refine step_tree ?_); (first | (first | (refine m_mov (by conv => lhs; whnf) ?_) | (refine m_lss rfl rfl ?_) | (refine m_eql rfl rfl ?_) | (refine m_add rfl rfl ?_ ?_ ?_; (· omega); (· omega)) | (refine m_len_sl rfl ?_) | (refine m_idx1_ro rfl rfl ?_ ?_; (· omega)) | (refine m_ld_rpi rfl ?_ ?_; (· omega)) | (refine m_pick_t rfl ?_ (by conv => lhs; whnf) ?_; (· (refine decide_eq_true ?_; assumption)))) | (refine g_noF rfl ?_ ?_; (· (refine decide_eq_true ?_; assumption))))) | refine end_ops ?_ | refine seq_ops ?_ | refine AW_ops ?_ | refine end_tree ?_ | refine seq_tree ?_ | (refine cond_t rfl ?_ ?_; (· first | rfl | (refine decide_eq_true ?_; omega))) | refine skip_then ?_ | refine AW_seq ?_ | refine norm_then ?_ | refine exit_then ?_ | refine AW_block ?_ | refine AW_exit ?_ | refine exit_block ?_)
            refine next_round (x + 1) ⟨by omega, by rw [hsum]; exact hqx⟩ (weak_st ?_ ?_ rfl rfl) ?_
            · rw [hsum]
              (repeat' (first | exact trivial | refine And.intro ?_ ?_)) <;> (first | rfl | skip)
            · (repeat' (first | exact trivial | refine And.intro ?_ ?_)) <;> (first | rfl | skip)
            · omega
          · by_cases hm : (x : Int) ∈ B
            · have hz : bhT F (bhN F) k (setB B) x = 0 := by
                unfold bhT
                rw [hbit, if_neg fun h => by rw [decide_eq_true hm] at h; exact absurd h.1 (by decide)]
              rw [hz, Nat.add_zero] at hsum
              generalize bhTo F (bhN F) k (setB B) x = acc at *
              repeat (first | ((first | refine step_ops ?_ | refine step_tree ?_); ((try (refine g_yes rfl ?_ ?_; (· (refine decide_eq_false ?_; assumption)))); (first | (refine m_mov (by conv => lhs; whnf) ?_) | (refine m_lss rfl rfl ?_) | (refine m_eql rfl rfl ?_) | (refine m_len_sl rfl ?_) | (refine m_idx1_ro rfl rfl ?_ ?_; (· omega)) | (refine m_ld_rpi rfl ?_ ?_; (· omega))))) | refine end_ops ?_ | refine seq_ops ?_ | refine seq_tree ?_ | (refine cond_t rfl ?_ ?_; (· (refine decide_eq_true ?_; omega))) | refine skip_then ?_ | refine AW_seq ?_ | refine AW_block ?_)
              refine step_tree ?_; (refine g_yes rfl ?_ ?_; (· first | (fail) | ((refine decide_eq_false ?_; assumption))); (apply m_call (l1Has_spec B _ (by omega)))); (· repeat (first | exact lends_nil | (refine lends_cons ?_ ?_; (· (first | exact lend_v | (refine lend_sli (by rfl) ?_; first | rfl | omega | (simp; done)))))))
              repeat (first | ((first | refine step_ops ?_ | refine step_tree ?_); (first | (refine m_mov (by conv => lhs; whnf) ?_) | (refine m_add rfl rfl ?_ ?_ ?_; (· omega); (· omega)) | (refine m_pick_f rfl ?_ (by conv => lhs; whnf) ?_; (· (refine decide_eq_false ?_; assumption))))) | refine end_ops ?_ | refine AW_ops ?_ | refine end_tree ?_ | (refine cond_t rfl ?_ ?_; (· (refine decide_eq_true ?_; assumption))) | refine norm_then ?_ | refine exit_then ?_ | refine AW_exit ?_ | refine exit_block ?_)
              refine next_round (x + 1) ⟨by omega, by rw [hsum]; exact hqx⟩ (weak_st ?_ ?_ rfl rfl) ?_
              · rw [hsum]
                (repeat' (first | exact trivial | refine And.intro ?_ ?_)) <;> (first | rfl | skip)
              · (repeat' (first | exact trivial | refine And.intro ?_ ?_)) <;> (first | rfl | skip)
              · omega
            · have hz : bhT F (bhN F) k (setB B) x = bhN F (setB (B ++ [(x : Int)])) := by
                unfold bhT
                rw [hbit, if_pos ⟨decide_eq_false hm, fun e => hne e.symm⟩, setB_snoc, Int.toNat_natCast]
              have hg := giRest_spec F (B ++ [(x : Int)]) h9 (setOk_snoc g1 hcx hm)
              have hle := bhN_le h9 (setB (B ++ [(x : Int)]))
              have hll : (B ++ [(x : Int)]).length = k + 1 := by rw [List.length_append, g2]; rfl
              rw [hz] at hsum
              by_cases hfd : q < bhTo F (bhN F) k (setB B) (x + 1)
              · have hgx := gvX_eq hcx hqx hfd
                rw [hgx] at hsuc
                have hlt : ((q - bhTo F (bhN F) k (setB B) x : Nat) : Int) < (bhN F (setB (B ++ [(x : Int)])) : Nat) := by omega
                generalize bhN F (setB (B ++ [(x : Int)])) = v at *
                generalize bhTo F (bhN F) k (setB B) x = acc at *
                repeat (first | ((first | refine step_ops ?_ | refine step_tree ?_); ((try (refine g_yes rfl ?_ ?_; (· (refine decide_eq_false ?_; assumption)))); (first | (refine m_mov (by conv => lhs; whnf) ?_) | (refine m_lss rfl rfl ?_) | (refine m_eql rfl rfl ?_) | (refine m_len_sl rfl ?_) | (refine m_idx1_ro rfl rfl ?_ ?_; (· omega)) | (refine m_ld_rpi rfl ?_ ?_; (· omega))))) | refine end_ops ?_ | refine seq_ops ?_ | refine seq_tree ?_ | (refine cond_t rfl ?_ ?_; (· (refine decide_eq_true ?_; omega))) | refine skip_then ?_ | refine AW_seq ?_ | refine AW_block ?_)
                refine step_tree ?_; (refine g_yes rfl ?_ ?_; (· first | (fail) | ((refine decide_eq_false ?_; assumption))); (apply m_call (l1Has_spec B _ (by omega)))); (· repeat (first | exact lends_nil | (refine lends_cons ?_ ?_; (· (first | exact lend_v | (refine lend_sli (by rfl) ?_; first | rfl | omega | (simp; done)))))))
                repeat (first | ((first | refine step_ops ?_ | refine step_tree ?_); (first | (refine m_mov (by conv => lhs; whnf) ?_) | (refine m_pick_f rfl ?_ (by conv => lhs; whnf) ?_; (· (refine decide_eq_false ?_; assumption))))) | refine seq_ops ?_ | refine end_tree ?_ | (refine cond_f rfl ?_ ?_; (· (refine decide_eq_false ?_; assumption))) | refine skip_then ?_)
                refine step_ops ?_; (apply m_callo (l1Own_spec B (by omega))); (· repeat (first | exact lends_nil | (refine lends_cons ?_ ?_; (· (refine lend_sli (by rfl) ?_; first | rfl | omega | (simp; done)))))); (· first | exact allv_ints _ | rfl | (simp; done))
                repeat (first | (refine step_ops ?_; (first | (refine m_mov (by conv => lhs; whnf) ?_) | (refine m_bsl1 rfl rfl ?_) | (refine m_app1i rfl (by decide) (by rfl) (by first | rfl | omega | (simp; done)) rfl rfl ?_ (by decide) ?_; (· first | omega | (simp; omega))))) | refine end_ops ?_ | refine seq_ops ?_)
                refine step_ops ?_; (apply m_call (hg)); (· repeat (first | exact lends_nil | (refine lends_cons ?_ ?_; (· (first | (refine lend_ints ?_; first | rfl | omega) | (refine lend_sli (by rfl) ?_; first | rfl | omega | (simp; done)))))))
                repeat (first | (refine step_ops ?_; (first | (refine m_mov (by conv => lhs; whnf) ?_) | (refine m_lss rfl rfl ?_))) | refine end_ops ?_ | refine seq_ops ?_ | (refine cond_t rfl ?_ ?_; (· (refine decide_eq_true ?_; assumption))) | refine AW_seq ?_ | refine exit_then ?_ | refine norm_block ?_ | refine exit_round ?_ | refine AW_exit ?_ | refine exit_block ?_ | (refine exit_other ?_ ?_; (· decide)))
                refine next_round (k + 1) (by omega) (Weak.trans (weak_move (r := 50) (q := 6) rfl (by decide) (by decide)) (weak_st ?_ ?_ rfl rfl)) ?_
                · rw [hsuc]
                  refine ⟨rfl, rfl, ?_, trivial⟩
                  show AV.sl 6 1 0 (B ++ [(x : Int)]).length = _
                  rw [hll]
                · rw [hsuc]
                  (repeat' (first | exact trivial | refine And.intro ?_ ?_)) <;> (first | rfl | skip)
                · omega
              · have hlt : ¬ ((q - bhTo F (bhN F) k (setB B) x : Nat) : Int) < (bhN F (setB (B ++ [(x : Int)])) : Nat) := by omega
                generalize bhN F (setB (B ++ [(x : Int)])) = v at *
                generalize bhTo F (bhN F) k (setB B) x = acc at *
                repeat (first | ((first | refine step_ops ?_ | refine step_tree ?_); ((try (refine g_yes rfl ?_ ?_; (· (refine decide_eq_false ?_; assumption)))); (first | (refine m_mov (by conv => lhs; whnf) ?_) | (refine m_lss rfl rfl ?_) | (refine m_eql rfl rfl ?_) | (refine m_len_sl rfl ?_) | (refine m_idx1_ro rfl rfl ?_ ?_; (· omega)) | (refine m_ld_rpi rfl ?_ ?_; (· omega))))) | refine end_ops ?_ | refine seq_ops ?_ | refine seq_tree ?_ | (refine cond_t rfl ?_ ?_; (· (refine decide_eq_true ?_; omega))) | refine skip_then ?_ | refine AW_seq ?_ | refine AW_block ?_)
                refine step_tree ?_; (refine g_yes rfl ?_ ?_; (· first | (fail) | ((refine decide_eq_false ?_; assumption))); (apply m_call (l1Has_spec B _ (by omega)))); (· repeat (first | exact lends_nil | (refine lends_cons ?_ ?_; (· (first | exact lend_v | (refine lend_sli (by rfl) ?_; first | rfl | omega | (simp; done)))))))
                repeat (first | ((first | refine step_ops ?_ | refine step_tree ?_); (first | (refine m_mov (by conv => lhs; whnf) ?_) | (refine m_pick_f rfl ?_ (by conv => lhs; whnf) ?_; (· (refine decide_eq_false ?_; assumption))))) | refine seq_ops ?_ | refine end_tree ?_ | (refine cond_f rfl ?_ ?_; (· (refine decide_eq_false ?_; assumption))) | refine skip_then ?_)
                refine step_ops ?_; (apply m_callo (l1Own_spec B (by omega))); (· repeat (first | exact lends_nil | (refine lends_cons ?_ ?_; (· (refine lend_sli (by rfl) ?_; first | rfl | omega | (simp; done)))))); (· first | exact allv_ints _ | rfl | (simp; done))
                repeat (first | (refine step_ops ?_; (first | (refine m_mov (by conv => lhs; whnf) ?_) | (refine m_bsl1 rfl rfl ?_) | (refine m_app1i rfl (by decide) (by rfl) (by first | rfl | omega | (simp; done)) rfl rfl ?_ (by decide) ?_; (· first | omega | (simp; omega))))) | refine end_ops ?_ | refine seq_ops ?_)
                refine step_ops ?_; (apply m_call (hg)); (· repeat (first | exact lends_nil | (refine lends_cons ?_ ?_; (· (first | (refine lend_ints ?_; first | rfl | omega) | (refine lend_sli (by rfl) ?_; first | rfl | omega | (simp; done)))))))
                repeat (first | (refine step_ops ?_; (first | (refine m_mov (by conv => lhs; whnf) ?_) | (refine m_lss rfl rfl ?_) | (refine m_add rfl rfl ?_ ?_ ?_; (· omega); (· omega)) | (refine m_sub rfl rfl ?_ ?_ ?_; (· omega); (· omega)))) | refine end_ops ?_ | refine seq_ops ?_ | refine AW_ops ?_ | (refine cond_f rfl ?_ ?_; (· (refine decide_eq_false ?_; assumption))) | refine skip_then ?_ | refine AW_seq ?_ | refine norm_then ?_ | refine norm_block ?_)
                refine next_round (x + 1) ⟨by omega, by omega⟩ (weak_st ?_ ?_ rfl rfl) ?_
                · refine ⟨rfl, ?_, rfl, rfl, rfl, trivial⟩
                  show AV.i (((q - acc : Nat) : Int) - (v : Nat)) = AV.i _
                  congr 1
                  omega
                · (repeat' (first | exact trivial | refine And.intro ?_ ?_)) <;> (first | rfl | skip)
                · omega
        · obtain rfl : x = F.length := by omega
          omega
      · obtain rfl : k = F.length := by omega
        repeat (first | (refine step_ops ?_; (first | (refine m_mov (by conv => lhs; whnf) ?_) | (refine m_lss rfl rfl ?_) | (refine m_len_ro rfl ?_) | (refine m_len_sl rfl ?_))) | refine end_ops ?_ | refine seq_ops ?_ | (refine cond_f rfl ?_ ?_; (· (refine decide_eq_false ?_; omega))) | refine AW_seq ?_ | refine AW_ret ?_ | refine ret_done ?_ | refine norm_then ?_ | refine exit_then ?_ | refine exit_round ?_ | refine AW_exit ?_ | refine exit_block ?_)
        exact outs_tup2 (outs_ints rfl rfl hgl.symm) (outs_b (decide_eq_true h).symm)
    · have h : ¬ GrOk F r := fun hh => hr hh.2
      have e : grR F r = _ := if_neg h
      rw [e]
      rw [hN] at hs hr hb0
      have hr2 : ¬ (0 ≤ r ∧ r ≤ (N : Int) - 1) := by omega
      repeat (first | (refine step_ops ?_; (first | (refine m_mov (by conv => lhs; whnf) ?_) | (refine m_nils ?_))) | refine end_ops ?_ | refine seq_ops ?_ | refine AW_seq ?_)
      refine step_ops ?_; (apply m_call (giGood_spec F hL)); (· repeat (first | exact lends_nil | (refine lends_cons ?_ ?_; (· (refine lend_ints ?_; first | rfl | omega)))))
      repeat (refine step_ops ?_; ((try (refine g_yes rfl ?_ ?_; (· assumption))); (first | (refine m_mov (by conv => lhs; whnf) ?_) | (refine m_not rfl ?_))))
      refine step_ops ?_
      refine g_yes rfl ?_ ?_
      · exact hnf
      refine m_call hs ?_ ?_
      · refine lends_cons ?_ (lends_cons lend_nil lends_nil)
        exact lend_ints rfl
      repeat (refine step_ops ?_; ((try (refine g_yes rfl ?_ ?_; (· assumption))); (refine m_sub rfl rfl ?_ ?_ ?_; (· omega); (· omega))))
      refine step_ops ?_; (refine g_yes rfl ?_ ?_; (· first | (assumption) | (fail)); (apply m_call (l1In_spec _ _ _))); (· repeat (first | exact lends_nil | (refine lends_cons ?_ ?_; (· exact lend_v))))
      repeat (first | (refine step_ops ?_; ((try (refine g_yes rfl ?_ ?_; (· assumption))); (first | (refine m_mov (by conv => lhs; whnf) ?_) | (refine m_not rfl ?_) | (refine m_pick_f rfl ?_ (by conv => lhs; whnf) ?_; (· assumption)) | (refine m_nils ?_)))) | refine end_ops ?_ | refine seq_ops ?_ | (refine cond_t rfl ?_ ?_; (· (refine nt ?_; assumption))) | refine AW_ret ?_ | refine ret_done ?_ | refine ret_then ?_)
      exact outs_tup2 (outs_ints rfl rfl rfl) (outs_b (decide_eq_false h).symm)
  · have h : ¬ GrOk F r := fun hh => hf hh.1
    have e : grR F r = _ := if_neg h
    rw [e]
    repeat (first | (refine step_ops ?_; (first | (refine m_mov (by conv => lhs; whnf) ?_) | (refine m_nils ?_))) | refine end_ops ?_ | refine seq_ops ?_ | refine AW_seq ?_)
    refine step_ops ?_; (apply m_call (giGood_spec F hL)); (· repeat (first | exact lends_nil | (refine lends_cons ?_ ?_; (· (refine lend_ints ?_; first | rfl | omega)))))
    repeat (first | (refine step_ops ?_; (first | (first | (refine m_mov (by conv => lhs; whnf) ?_) | (refine m_not rfl ?_) | (refine m_pick_t rfl ?_ (by conv => lhs; whnf) ?_; (· (refine nt ?_; assumption))) | (refine m_nils ?_)) | (refine g_noF rfl ?_ ?_; (· (refine nt ?_; assumption))))) | refine end_ops ?_ | refine seq_ops ?_ | (refine cond_t rfl ?_ ?_; (· rfl)) | refine AW_ret ?_ | refine ret_done ?_ | refine ret_then ?_)
    exact outs_tup2 (outs_ints rfl rfl rfl) (outs_b (decide_eq_false h).symm)
end Go.Proofs.Ytbeflnnejofleaa
namespace Go.Proofs.Ytbeflnnejofleaa
variable [Go.Am.CodeBlk]
open Go.Am
attribute [local irreducible] AW Outs Weak Lends Lend Sp aops atree aop1 Then Round InBlock Done
attribute [local irreducible] SpH SpX DoneH DoneX DoneHG
def glW (B : List Int) (n : Nat) : List Int := B ++ List.replicate (n - B.length) 0
theorem glW_len {B : List Int} {n : Nat} (h : B.length ≤ n) : (glW B n).length = n := by unfold glW; rw [List.length_append, List.length_replicate]; omega
theorem glW_set {B : List Int} {n k : Nat} (x : Int) (h : B.length = k) (hk : k < n) : (glW B n).set k x = glW (B ++ [x]) n := by
  unfold glW
  rw [List.set_append_right _ _ (by omega), h, Nat.sub_self]
  obtain ⟨u, hu⟩ : ∃ u, n - k = u + 1 := ⟨n - k - 1, by omega⟩
  rw [hu, List.replicate_succ, List.set_cons_zero, List.length_append, h]
  rw [show n - (k + [x].length) = u by simp; omega, List.append_assoc]
  rfl
theorem glW_full {B : List Int} {n : Nat} (h : B.length = n) : glW B n = B := by unfold glW; rw [h, Nat.sub_self]; simp
theorem kqV_killR {F : List Int} {r q : Nat} (h : q ≠ r) : killR r (false, kqV F q) = (false, kqV F q) := by
  unfold killR
  simp only [kqV_kill h]
theorem refsH_kq3 (F W : List Int) (m : Array MapEntry × Nat) : refsH (fun r => (Am.look [(6, (false, kqV F 100)), (27, (true, W.map AV.i)), (100, mpC m)] r).isSome) [(6, (false, kqV F 100)), (27, (true, W.map AV.i)), (100, mpC m)] = true := by
  have h : ∀ keep : Nat → Bool, keep 100 = true → refsL keep (kqV F 100) = true := fun keep hk => refsL_app keep _ _ (refsL_plain (kinV_plain F)) (by simp [refsL, refsV, hk])
  show ((false || refsL _ (kqV F 100)) && ((true || _) && ((true || _) && true))) = true
  rw [h _ rfl]
  rfl
theorem implGivingOfRank_spec (F : List Int) (r : Int) (hL : F.length ≤ 1048576) : Sp Try.prog 18 [ints F, .i r] (.tup [newInts (grR F r), .b (decide (GrOk F r))]) := by
  refine spec_of Try.func18 rfl cc18 rfl ?_
  unfold ac18
  by_cases hf : IsFam F
  · have h9 := hf.2.1
    have hkl := kqV_len (F := F) (q := 100) h9
    have hkin := kqV_kin (F := F) (q := 100) h9
    have hk11 := kqV_11 (F := F) (q := 100) h9
    have hcp := countBehind_aux F hf.1 h9 _ 0 rfl (Nat.two_pow_pos _) (#[], 0) (mapOkV_nil _)
    have hb0 := bhN_le h9 0
    repeat (first | (refine step_ops ?_; (first | (refine m_mov (by conv => lhs; whnf) ?_) | (refine m_nils ?_))) | refine end_ops ?_ | refine seq_ops ?_ | refine AW_seq ?_)
    refine step_ops ?_; (apply m_call (implAreFam_spec F hL)); (· repeat (first | exact lends_nil | (refine lends_cons ?_ ?_; (· (refine lend_ints ?_; first | rfl | omega)))))
    repeat (first | (refine step_ops ?_; (first | (refine m_mov (by conv => lhs; whnf) ?_) | (refine m_not rfl ?_))) | refine end_ops ?_ | refine seq_ops ?_ | (refine cond_f rfl ?_ ?_; (· (refine nf ?_; assumption))) | refine skip_then ?_)
    refine step_ops ?_
    refine m_callh (gN 100) (givingsOf_spec F hf) (lendsH_none (lends_cons (lend_ints rfl) lends_nil)) (lent_N rfl (by decide) (by simp only [ownV]; exact kmq_own F nbase false)) ?_
    rw [renV, kmq_ren, gN_self]
    repeat (refine step_ops ?_; (refine m_alloc ?_))
    refine weak_ops (weak_deep (r := 6) rfl (by simp) rfl) ?_
    refine step_ops ?_
    refine m_stall (l := killL 6 (kqV F 100)) rfl rfl rfl (by rw [kqV_kill (by decide), hkl]) rfl (by rw [kqV_kill (by decide)]; exact kqV_ok) ?_
    rw [kqV_kill (by decide)]
    by_cases hr0 : r < 0
    · have h : ¬ GrOk F r := fun hh => by have := hh.2.1; omega
      have e : grR F r = _ := if_neg h
      rw [e]
      repeat (first | (refine step_ops ?_; (first | (first | (refine m_mov (by conv => lhs; whnf) ?_) | (refine m_lss rfl rfl ?_) | (refine m_pick_t rfl ?_ (by conv => lhs; whnf) ?_; (· (refine decide_eq_true ?_; assumption))) | (refine m_nils ?_)) | (refine g_noF rfl ?_ ?_; (· (refine decide_eq_true ?_; assumption))))) | refine end_ops ?_ | refine seq_ops ?_ | (refine cond_t rfl ?_ ?_; (· rfl)) | refine AW_seq ?_ | refine AW_ret ?_ | refine ret_done ?_ | refine ret_then ?_)
      exact outs_tup2 (outs_ints rfl rfl rfl) (outs_b (decide_eq_false h).symm)
    · have hg0 : decide (r < 0) = false := decide_eq_false hr0
      repeat (first | (refine step_ops ?_; ((try (refine g_yes rfl ?_ ?_; (· assumption))); (first | (refine m_mov (by conv => lhs; whnf) ?_) | (refine m_lss rfl rfl ?_) | (refine m_ldall rfl rfl ?_ ?_; (· first | rfl | (simp; done) | (simp [*]; done)))))) | refine end_ops ?_ | refine seq_ops ?_ | refine AW_seq ?_)
      refine step_ops ?_
      refine g_yes rfl ?_ ?_
      · exact hg0
      refine m_callx (gM 100) hcp (lendsH_kq F rfl) ⟨(#[], 0), mapOkV_nil _⟩ fun m0 hm0 => ⟨lent_Mq (m := (#[], 0)) rfl, ?_⟩
      by_cases hr : r < (bhN F 0 : Nat)
      · have h : GrOk F r := ⟨hf, by omega, hr⟩
        have e : grR F r = _ := if_pos h
        rw [e]
        obtain ⟨r0, rfl⟩ := Int.eq_ofNat_of_zero_le (show 0 ≤ r by omega)
        rw [Int.toNat_natCast]
        have h0 : r0 < bhN F 0 := by omega
        have hnge : ¬ ((r0 : Nat) : Int) ≥ (bhN F 0 : Nat) := by omega
        generalize hN : bhN F 0 = N at *
        repeat (first | (refine step_ops ?_; ((try (refine g_yes rfl ?_ ?_; (· rfl))); (first | (refine m_mov (by conv => lhs; whnf) ?_) | (refine m_geq rfl rfl ?_) | (refine m_len_ro rfl ?_) | (refine m_pick_f rfl ?_ (by conv => lhs; whnf) ?_; (· rfl))))) | refine end_ops ?_ | refine seq_ops ?_ | (refine cond_f rfl ?_ ?_; (· (refine decide_eq_false ?_; assumption))) | refine skip_then ?_)
        refine step_ops ?_
        refine m_mk (n := F.length) rfl rfl (by omega) (by omega) ?_
        repeat (first | (refine step_ops ?_; (first | (refine m_mov (by conv => lhs; whnf) ?_) | (refine m_len_sl rfl ?_))) | refine end_ops ?_ | refine seq_ops ?_ | refine AW_seq ?_ | refine AW_block ?_)
        refine AW_loop (α := Nat × (Array MapEntry × Nat)) (fun a => a.1 ≤ F.length ∧ MapOkV (bhN F) a.2.1) (fun a => st [(1, .i ((gvAt F r0 a.1).2 : Nat)), (6, .pt 6 0), (7, .u (setB (gvAt F r0 a.1).1)), (8, .sl 27 1 0 F.length), (29, .i F.length), (30, .i a.1)] [(6, (false, kqV F 100)), (27, (true, (glW (gvAt F r0 a.1).1 F.length).map AV.i)), (100, mpC a.2)]) (fun a => F.length - a.1) (0, m0) ⟨by omega, hm0⟩ (weak_st ?_ ?_ rfl (refsH_kq3 F _ _)) ?_
        · (repeat' (first | exact trivial | refine And.intro ?_ ?_)) <;> (first | rfl | skip)
        · refine ⟨?_, ?_, rfl, trivial⟩
          · show some (killR 27 (false, kqV F 100)) = _
            rw [kqV_killR (by decide)]
          show some (true, (List.replicate F.length (List.map AV.v [Value.int IntKind.i64 0])).flatten) = _
          simp [gvAt, glW]
        rintro ⟨k, m1⟩ ⟨hk, hm1⟩
        dsimp only at hk hm1 ⊢
        have hg := gv_ok (by rw [hN]; exact h0) k hk
        have hgl := gv_len F r0 k
        by_cases hc : k < F.length
        · have hall := gv_all hg hc
          have hsuc : gvAt F r0 (k + 1) = ((gvAt F r0 k).1 ++ [((gvX F k (setB (gvAt F r0 k).1) (gvAt F r0 k).2 : Nat) : Int)], (gvAt F r0 k).2 - bhTo F (bhN F) k (setB (gvAt F r0 k).1) (gvX F k (setB (gvAt F r0 k).1) (gvAt F r0 k).2)) := rfl
          generalize hB : (gvAt F r0 k).1 = B at *
          generalize hq : (gvAt F r0 k).2 = q at *
          obtain ⟨g1, g2, g3⟩ := hg
          obtain ⟨s1, s2, s3⟩ := setB_ok g1
          have hq9 : q ≤ 387420489 := Nat.le_trans (Nat.le_of_lt g3) (bhN_le h9 _)
          have hS9 : setB B < 512 := Nat.lt_of_lt_of_le s1 (Nat.pow_le_pow_right (by decide) h9)
          have hwl : (glW B F.length).length = F.length := glW_len (by omega)
          rw [hall] at g3
          repeat (first | (refine step_ops ?_; (first | (refine m_mov (by conv => lhs; whnf) ?_) | (refine m_lss rfl rfl ?_) | (refine m_len_sl rfl ?_))) | refine end_ops ?_ | refine seq_ops ?_ | (refine cond_t rfl ?_ ?_; (· (refine decide_eq_true ?_; omega))) | refine skip_then ?_ | refine AW_seq ?_ | refine AW_block ?_)
          refine AW_loop (α := Nat × (Array MapEntry × Nat)) (fun b => b.1 ≤ F.length ∧ bhTo F (bhN F) k (setB B) b.1 ≤ q ∧ MapOkV (bhN F) b.2.1) (fun b => st [(1, .i ((q - bhTo F (bhN F) k (setB B) b.1 : Nat) : Int)), (6, .pt 6 0), (7, .u (setB B)), (8, .sl 27 1 0 F.length), (9, .i k), (29, .i F.length), (30, .i k), (34, .i F.length), (35, .i b.1)] [(6, (false, kqV F 100)), (27, (true, (glW B F.length).map AV.i)), (100, mpC b.2)]) (fun b => F.length - b.1) (0, m1) ⟨by omega, by simp [bhTo], hm1⟩ (weak_st ?_ ?_ rfl (refsH_kq3 F _ _)) ?_
          · (repeat' (first | exact trivial | refine And.intro ?_ ?_)) <;> (first | rfl | skip)
          · (repeat' (first | exact trivial | refine And.intro ?_ ?_)) <;> (first | rfl | skip)
          rintro ⟨x, m2⟩ ⟨hx, hqx, hm2⟩
          dsimp only at hx hqx hm2 ⊢
          by_cases hcx : x < F.length
          · have hsum : bhTo F (bhN F) k (setB B) (x + 1) = bhTo F (bhN F) k (setB B) x + bhT F (bhN F) k (setB B) x := rfl
            by_cases hbx : (setB B).testBit x = true
            · have hz : bhT F (bhN F) k (setB B) x = 0 := by
                unfold bhT
                rw [if_neg fun h => by rw [hbx] at h; exact absurd h.1 (by decide)]
              rw [hz, Nat.add_zero] at hsum
              generalize bhTo F (bhN F) k (setB B) x = acc at *
              generalize setB B = S at *
              repeat (first | (refine step_ops ?_; (first | (refine m_mov (by conv => lhs; whnf) ?_) | (refine m_lss rfl rfl ?_))) | refine end_ops ?_ | refine seq_ops ?_ | (refine cond_t rfl ?_ ?_; (· (refine decide_eq_true ?_; omega))) | refine skip_then ?_ | refine AW_seq ?_ | refine AW_block ?_)
              refine step_ops ?_; (apply m_call (gsHas_spec S x (by omega) (by omega))); (· repeat (first | exact lends_nil | (refine lends_cons ?_ ?_; (· exact lend_v))))
              repeat (first | (refine step_ops ?_; (first | (first | (refine m_mov (by conv => lhs; whnf) ?_) | (refine m_add rfl rfl ?_ ?_ ?_; (· omega); (· omega)) | (refine m_pick_t rfl ?_ (by conv => lhs; whnf) ?_; (· assumption))) | (refine g_noF rfl ?_ ?_; (· assumption)))) | refine end_ops ?_ | refine AW_ops ?_ | (refine cond_t rfl ?_ ?_; (· rfl)) | refine norm_then ?_ | refine exit_then ?_ | refine AW_exit ?_ | refine exit_block ?_)
              refine next_round (x + 1, m2) ⟨by omega, by rw [hsum]; exact hqx, hm2⟩ (weak_st ?_ ?_ rfl (refsH_kq3 F _ _)) ?_
              · rw [hsum]
                (repeat' (first | exact trivial | refine And.intro ?_ ?_)) <;> (first | rfl | skip)
              · (repeat' (first | exact trivial | refine And.intro ?_ ?_)) <;> (first | rfl | skip)
              · show F.length - (x + 1) < F.length - x; omega
            · have hbx : (setB B).testBit x = false := by simpa using hbx
              by_cases hne : F.getD k 0 = F.getD x 0
              · have hz : bhT F (bhN F) k (setB B) x = 0 := by
                  unfold bhT
                  rw [if_neg fun h => h.2 hne]
                have hq2 : decide (F.getD k 0 ≠ F.getD x 0) = false := decide_eq_false fun h => h hne
                rw [hz, Nat.add_zero] at hsum
                generalize bhTo F (bhN F) k (setB B) x = acc at *
                generalize setB B = S at *
                repeat (first | (refine step_ops ?_; (first | (refine m_mov (by conv => lhs; whnf) ?_) | (refine m_lss rfl rfl ?_))) | refine end_ops ?_ | refine seq_ops ?_ | (refine cond_t rfl ?_ ?_; (· (refine decide_eq_true ?_; omega))) | refine skip_then ?_ | refine AW_seq ?_ | refine AW_block ?_)
                refine step_ops ?_; (apply m_call (gsHas_spec S x (by omega) (by omega))); (· repeat (first | exact lends_nil | (refine lends_cons ?_ ?_; (· exact lend_v))))
                repeat (refine step_ops ?_; ((try (refine g_yes rfl ?_ ?_; (· assumption))); (first | (refine m_mov (by conv => lhs; whnf) ?_) | (refine m_fa rfl ?_))))
                refine step_ops ?_
                refine g_yes rfl ?_ ?_
                · exact hbx
                refine m_ldk (n := 10) (off := 0) rfl rfl (by omega) ?_
                rw [hkin]
                repeat (refine step_ops ?_; ((try (refine g_yes rfl ?_ ?_; (· assumption))); (refine m_mov (by conv => lhs; whnf) ?_)))
                refine step_ops ?_
                refine g_yes rfl ?_ ?_
                · exact hbx
                refine m_call (areApart_spec F k x h9 (by omega) (by omega)) (lends_cons (lend_agg (kinV_plain F)) (lends_cons lend_v (lends_cons lend_v lends_nil))) ?_
                repeat (first | (refine step_ops ?_; ((try (refine g_yes rfl ?_ ?_; (· assumption))); (first | (refine m_mov (by conv => lhs; whnf) ?_) | (refine m_add rfl rfl ?_ ?_ ?_; (· omega); (· omega)) | (refine m_not rfl ?_) | (refine m_pick_f rfl ?_ (by conv => lhs; whnf) ?_; (· assumption))))) | refine end_ops ?_ | refine AW_ops ?_ | (refine cond_t rfl ?_ ?_; (· (refine nt ?_; omega))) | refine norm_then ?_ | refine exit_then ?_ | refine AW_exit ?_ | refine exit_block ?_)
                refine next_round (x + 1, m2) ⟨by omega, by rw [hsum]; exact hqx, hm2⟩ (weak_st ?_ ?_ rfl (refsH_kq3 F _ _)) ?_
                · rw [hsum]
                  (repeat' (first | exact trivial | refine And.intro ?_ ?_)) <;> (first | rfl | skip)
                · (repeat' (first | exact trivial | refine And.intro ?_ ?_)) <;> (first | rfl | skip)
                · show F.length - (x + 1) < F.length - x; omega
              · have hz : bhT F (bhN F) k (setB B) x = bhN F (setB B + 2 ^ x) := by
                  unfold bhT
                  rw [if_pos ⟨hbx, hne⟩]
                have hlt := set_lt' s1 hcx hbx
                have hcall := countBehind_aux F hf.1 h9 _ (setB B + 2 ^ x) rfl hlt m2 hm2
                have hle := bhN_le h9 (setB B + 2 ^ x)
                have hq2 : decide (F.getD k 0 ≠ F.getD x 0) = true := decide_eq_true hne
                have hgx := fun hfd => gvX_eq (F := F) (i := k) (S := setB B) (r := q) (x := x) hcx hqx hfd
                have hset := glW_set (n := F.length) (x : Int) g2 hc
                have hsn : setB (B ++ [(x : Int)]) = setB B ||| 1 <<< x := by rw [setB_snoc, Int.toNat_natCast, bit_add hbx]
                rw [hz] at hsum
                generalize bhN F (setB B + 2 ^ x) = v at *
                rw [bit_add hbx] at hcall
                by_cases hfd : q < bhTo F (bhN F) k (setB B) (x + 1)
                · have hgx := hgx hfd
                  rw [hgx] at hsuc
                  have hlt : ((q - bhTo F (bhN F) k (setB B) x : Nat) : Int) < (v : Nat) := by omega
                  generalize bhTo F (bhN F) k (setB B) x = acc at *
                  generalize setB B = S at *
                  repeat (first | (refine step_ops ?_; (first | (refine m_mov (by conv => lhs; whnf) ?_) | (refine m_lss rfl rfl ?_))) | refine end_ops ?_ | refine seq_ops ?_ | (refine cond_t rfl ?_ ?_; (· (refine decide_eq_true ?_; omega))) | refine skip_then ?_ | refine AW_seq ?_ | refine AW_block ?_)
                  refine step_ops ?_; (apply m_call (gsHas_spec S x (by omega) (by omega))); (· repeat (first | exact lends_nil | (refine lends_cons ?_ ?_; (· exact lend_v))))
                  repeat (refine step_ops ?_; ((try (refine g_yes rfl ?_ ?_; (· assumption))); (first | (refine m_mov (by conv => lhs; whnf) ?_) | (refine m_fa rfl ?_))))
                  refine step_ops ?_
                  refine g_yes rfl ?_ ?_
                  · exact hbx
                  refine m_ldk (n := 10) (off := 0) rfl rfl (by omega) ?_
                  rw [hkin]
                  repeat (refine step_ops ?_; ((try (refine g_yes rfl ?_ ?_; (· assumption))); (refine m_mov (by conv => lhs; whnf) ?_)))
                  refine step_ops ?_
                  refine g_yes rfl ?_ ?_
                  · exact hbx
                  refine m_call (areApart_spec F k x h9 (by omega) (by omega)) (lends_cons (lend_agg (kinV_plain F)) (lends_cons lend_v (lends_cons lend_v lends_nil))) ?_
                  repeat (first | ((first | refine step_ops ?_ | refine step_tree ?_); ((try (refine g_yes rfl ?_ ?_; (· assumption))); (first | (refine m_mov (by conv => lhs; whnf) ?_) | (refine m_not rfl ?_) | (refine m_pick_f rfl ?_ (by conv => lhs; whnf) ?_; (· assumption)) | (refine m_ldall rfl rfl ?_ ?_; (· first | rfl | (simp; done) | (simp [*]; done)))))) | refine end_ops ?_ | refine seq_tree ?_ | (refine cond_f rfl ?_ ?_; (· (refine nf ?_; assumption))) | refine skip_then ?_)
                  refine step_tree ?_; (apply m_call (gsWith_spec S x (by omega) (by omega))); (· repeat (first | exact lends_nil | (refine lends_cons ?_ ?_; (· exact lend_v))))
                  skip
                  refine step_one ?_
                  refine m_callx (gM 100) hcall (lendsH_kq F rfl) ⟨m2, hm2⟩ fun m3 hm3 => ⟨lent_Mq (m := m2) rfl, ?_⟩
                  repeat (first | ((first | refine step_ops ?_ | refine step_tree ?_); (first | (refine m_mov (by conv => lhs; whnf) ?_) | (refine m_lss rfl rfl ?_))) | refine end_ops ?_ | refine seq_ops ?_ | refine end_tree ?_ | (refine cond_t rfl ?_ ?_; (· (refine decide_eq_true ?_; assumption))) | refine AW_seq ?_)
                  refine step_ops ?_; (apply m_call (gsWith_spec S x (by omega) (by omega))); (· repeat (first | exact lends_nil | (refine lends_cons ?_ ?_; (· exact lend_v))))
                  repeat (first | (refine step_ops ?_; (first | (refine m_mov (by conv => lhs; whnf) ?_) | (refine m_add rfl rfl ?_ ?_ ?_; (· omega); (· omega)) | (refine m_idx1_sl rfl rfl ?_ ?_; (· omega)) | (apply m_st; (· rfl); (· rfl); (· rfl); (· first | omega | (simp; done) | (simp; omega)); (· rfl)))) | refine end_ops ?_ | refine AW_ops ?_ | refine norm_then ?_ | refine exit_then ?_ | refine norm_block ?_ | refine exit_round ?_ | refine AW_exit ?_ | refine exit_block ?_ | (refine exit_other ?_ ?_; (· decide)))
                  refine next_round (k + 1, m3) ⟨by omega, hm3⟩ (weak_st ?_ ?_ rfl (refsH_kq3 F _ _)) ?_
                  · rw [hsuc, hsn]
                    (repeat' (first | exact trivial | refine And.intro ?_ ?_)) <;> (first | rfl | skip)
                  · refine ⟨rfl, ?_, rfl, trivial⟩
                    show some (true, ((glW B F.length).map AV.i).set k (AV.i x)) = _
                    rw [hsuc, ← hset, List.map_set]
                  · show F.length - (k + 1) < F.length - k; omega
                · have hlt : ¬ ((q - bhTo F (bhN F) k (setB B) x : Nat) : Int) < (v : Nat) := by omega
                  generalize bhTo F (bhN F) k (setB B) x = acc at *
                  generalize setB B = S at *
                  repeat (first | (refine step_ops ?_; (first | (refine m_mov (by conv => lhs; whnf) ?_) | (refine m_lss rfl rfl ?_))) | refine end_ops ?_ | refine seq_ops ?_ | (refine cond_t rfl ?_ ?_; (· (refine decide_eq_true ?_; omega))) | refine skip_then ?_ | refine AW_seq ?_ | refine AW_block ?_)
                  refine step_ops ?_; (apply m_call (gsHas_spec S x (by omega) (by omega))); (· repeat (first | exact lends_nil | (refine lends_cons ?_ ?_; (· exact lend_v))))
                  repeat (refine step_ops ?_; ((try (refine g_yes rfl ?_ ?_; (· assumption))); (first | (refine m_mov (by conv => lhs; whnf) ?_) | (refine m_fa rfl ?_))))
                  refine step_ops ?_
                  refine g_yes rfl ?_ ?_
                  · exact hbx
                  refine m_ldk (n := 10) (off := 0) rfl rfl (by omega) ?_
                  rw [hkin]
                  repeat (refine step_ops ?_; ((try (refine g_yes rfl ?_ ?_; (· assumption))); (refine m_mov (by conv => lhs; whnf) ?_)))
                  refine step_ops ?_
                  refine g_yes rfl ?_ ?_
                  · exact hbx
                  refine m_call (areApart_spec F k x h9 (by omega) (by omega)) (lends_cons (lend_agg (kinV_plain F)) (lends_cons lend_v (lends_cons lend_v lends_nil))) ?_
                  repeat (first | ((first | refine step_ops ?_ | refine step_tree ?_); ((try (refine g_yes rfl ?_ ?_; (· assumption))); (first | (refine m_mov (by conv => lhs; whnf) ?_) | (refine m_not rfl ?_) | (refine m_pick_f rfl ?_ (by conv => lhs; whnf) ?_; (· assumption)) | (refine m_ldall rfl rfl ?_ ?_; (· first | rfl | (simp; done) | (simp [*]; done)))))) | refine end_ops ?_ | refine seq_tree ?_ | (refine cond_f rfl ?_ ?_; (· (refine nf ?_; assumption))) | refine skip_then ?_)
                  refine step_tree ?_; (apply m_call (gsWith_spec S x (by omega) (by omega))); (· repeat (first | exact lends_nil | (refine lends_cons ?_ ?_; (· exact lend_v))))
                  skip
                  refine step_one ?_
                  refine m_callx (gM 100) hcall (lendsH_kq F rfl) ⟨m2, hm2⟩ fun m3 hm3 => ⟨lent_Mq (m := m2) rfl, ?_⟩
                  repeat (first | ((first | refine step_ops ?_ | refine step_tree ?_); (first | (refine m_mov (by conv => lhs; whnf) ?_) | (refine m_lss rfl rfl ?_) | (refine m_add rfl rfl ?_ ?_ ?_; (· omega); (· omega)) | (refine m_sub rfl rfl ?_ ?_ ?_; (· omega); (· omega)))) | refine end_ops ?_ | refine seq_ops ?_ | refine AW_ops ?_ | refine end_tree ?_ | (refine cond_f rfl ?_ ?_; (· (refine decide_eq_false ?_; assumption))) | refine skip_then ?_ | refine AW_seq ?_ | refine norm_then ?_ | refine norm_block ?_)
                  refine next_round (x + 1, m3) ⟨by omega, by dsimp only; omega, hm3⟩ (weak_st ?_ ?_ rfl (refsH_kq3 F _ _)) ?_
                  · refine ⟨?_, rfl, rfl, rfl, rfl, rfl, rfl, rfl, rfl, trivial⟩
                    show AV.i (((q - acc : Nat) : Int) - (v : Nat)) = AV.i _
                    congr 1
                    dsimp only
                    omega
                  · (repeat' (first | exact trivial | refine And.intro ?_ ?_)) <;> (first | rfl | skip)
                  · show F.length - (x + 1) < F.length - x; omega
          · obtain rfl : x = F.length := by omega
            omega
        · obtain rfl : k = F.length := by omega
          rw [glW_full hgl]
          repeat (first | (refine step_ops ?_; (first | (refine m_mov (by conv => lhs; whnf) ?_) | (refine m_lss rfl rfl ?_))) | refine end_ops ?_ | refine seq_ops ?_ | (refine cond_f rfl ?_ ?_; (· (refine decide_eq_false ?_; omega))) | refine AW_seq ?_ | refine AW_ret ?_ | refine ret_done ?_ | refine norm_then ?_ | refine exit_then ?_ | refine exit_round ?_ | refine AW_exit ?_ | refine exit_block ?_)
          exact outs_tup2 (outs_ints rfl rfl hgl.symm) (outs_b (decide_eq_true h).symm)
      · have h : ¬ GrOk F r := fun hh => hr hh.2.2
        have e : grR F r = _ := if_neg h
        rw [e]
        have hge : r ≥ (bhN F 0 : Nat) := by omega
        repeat (first | (refine step_ops ?_; ((try (refine g_yes rfl ?_ ?_; (· assumption))); (first | (refine m_mov (by conv => lhs; whnf) ?_) | (refine m_geq rfl rfl ?_) | (refine m_pick_f rfl ?_ (by conv => lhs; whnf) ?_; (· assumption)) | (refine m_nils ?_)))) | refine end_ops ?_ | refine seq_ops ?_ | (refine cond_t rfl ?_ ?_; (· (refine decide_eq_true ?_; assumption))) | refine AW_ret ?_ | refine ret_done ?_ | refine ret_then ?_)
        exact outs_tup2 (outs_ints rfl rfl rfl) (outs_b (decide_eq_false h).symm)
  · have h : ¬ GrOk F r := fun hh => hf hh.1
    have e : grR F r = _ := if_neg h
    rw [e]
    repeat (first | (refine step_ops ?_; (first | (refine m_mov (by conv => lhs; whnf) ?_) | (refine m_nils ?_))) | refine end_ops ?_ | refine seq_ops ?_ | refine AW_seq ?_)
    refine step_ops ?_; (apply m_call (implAreFam_spec F hL)); (· repeat (first | exact lends_nil | (refine lends_cons ?_ ?_; (· (refine lend_ints ?_; first | rfl | omega)))))
    repeat (first | (refine step_ops ?_; (first | (refine m_mov (by conv => lhs; whnf) ?_) | (refine m_not rfl ?_) | (refine m_nils ?_))) | refine end_ops ?_ | refine seq_ops ?_ | (refine cond_t rfl ?_ ?_; (· (refine nt ?_; assumption))) | refine AW_ret ?_ | refine ret_done ?_ | refine ret_then ?_)
    exact outs_tup2 (outs_ints rfl rfl rfl) (outs_b (decide_eq_false h).symm)
end Go.Proofs.Ytbeflnnejofleaa
namespace Go.Am
variable [Go.Am.CodeBlk]
/-- How many givings come before a list, asx far asx its first k gifts tell. -/
def rkTo (F L : List Int) : Nat → Nat
  | 0 => 0
  | k + 1 => rkTo F L k + bhTo F (bhN F) k (setB (L.take k)) (L.getD k 0).toNat
theorem bhTo_le99 {F : List Int} (h9 : F.length ≤ 9) (i S x : Nat) (hx : x ≤ 9) : bhTo F (bhN F) i S x ≤ 3486784401 :=
  Nat.le_trans (bhTo_le (b := 387420489) (bhN_le h9) x) (Nat.le_trans (Nat.mul_le_mul_right _ hx) (by decide))
end Go.Am
namespace Go.Proofs.Ytbeflnnejofleaa
variable [Go.Am.CodeBlk]
open Go.Am
attribute [local irreducible] AW Outs Weak Lends Lend Sp aops atree aop1 Then Round InBlock Done
attribute [local irreducible] SpH SpX DoneH DoneX DoneHG
theorem rkTo_le {F L : List Int} (h9 : F.length ≤ 9) (hL : ∀ x ∈ L, 0 ≤ x ∧ x < (F.length : Int)) : ∀ k, k ≤ L.length → rkTo F L k ≤ k * 3486784401
  | 0, _ => by simp [rkTo]
  | k + 1, hk => by
    have h := hL _ (getD_mem (show k < L.length by omega))
    have h1 := bhTo_le99 h9 k (setB (L.take k)) (L.getD k 0).toNat (by omega)
    have h2 := rkTo_le h9 hL k (by omega)
    rw [rkTo, Nat.add_mul, Nat.one_mul]
    omega
def rkR (F L : List Int) : Int := if Givers F L ∧ apart F L then (rkTo F L L.length : Nat) else 0
def rkTup (F L : List Int) : AV := .tup [.i (rkR F L), .b (decide (Givers F L ∧ apart F L))]
theorem givers_ok {F L : List Int} (h : Givers F L) : SetOk F.length L := ⟨h.2.1.2.2.2, fun x hx => by have := h.2.1.2.2.1 x hx; have := h.2.2; omega⟩
theorem specRankOfGiving_spec (F L : List Int) (hF : F.length ≤ 1048576) (hL : L.length ≤ 1048576) : Sp Try.prog 10 [ints F, ints L] (rkTup F L) := by
  unfold rkTup
  refine spec_of Try.func10 rfl cc10 rfl ?_
  unfold ac10
  by_cases h : Givers F L
  · by_cases ha : apart F L
    · have e : rkR F L = _ := if_pos ⟨h, ha⟩
      rw [e]
      have h9 := h.1.2.1
      have hlen := h.2.2
      have ok := givers_ok h
      repeat (first | (refine step_ops ?_; (refine m_mov (by conv => lhs; whnf) ?_)) | refine end_ops ?_ | refine seq_ops ?_ | refine AW_seq ?_)
      refine step_ops ?_; (apply m_call (giBoth_spec _ _ hF hL)); (· repeat (first | exact lends_nil | (refine lends_cons ?_ ?_; (· (refine lend_ints ?_; first | rfl | omega)))))
      repeat (refine step_ops ?_; ((try (refine g_yes rfl ?_ ?_; (· (simp [*]; done)))); (first | (refine m_mov (by conv => lhs; whnf) ?_) | (refine m_not rfl ?_))))
      refine step_ops ?_; (refine g_yes rfl ?_ ?_; (· first | ((simp [*]; done)) | (fail)); (apply m_call (giIs_spec _ _ h))); (· repeat (first | exact lends_nil | (refine lends_cons ?_ ?_; (· (refine lend_ints ?_; first | rfl | omega)))))
      repeat (first | (refine step_ops ?_; ((try (refine g_yes rfl ?_ ?_; (· (simp [*]; done)))); (first | (refine m_mov (by conv => lhs; whnf) ?_) | (refine m_not rfl ?_) | (refine m_len_ro rfl ?_) | (refine m_pick_f rfl ?_ (by conv => lhs; whnf) ?_; (· (refine nf ?_; assumption)))))) | refine end_ops ?_ | refine seq_ops ?_ | (refine cond_f rfl ?_ ?_; (· (refine nf ?_; assumption))) | refine skip_then ?_ | refine AW_seq ?_ | refine AW_block ?_)
      refine AW_loop (α := Nat) (fun k => k ≤ L.length) (fun k => st [(0, ints F), (1, ints L), (6, .i (rkTo F L k : Nat)), (20, ints L), (21, .i L.length), (22, .i k)] []) (fun k => L.length - k) 0 (by omega) (weak_st ?_ ?_ rfl rfl) ?_
      · (repeat' (first | exact trivial | refine And.intro ?_ ?_)) <;> (first | rfl | skip)
      · trivial
      intro k hk
      have hrk := rkTo_le h9 ok.2 k hk
      have hsucc : rkTo F L (k + 1) = rkTo F L k + bhTo F (bhN F) k (setB (L.take k)) (L.getD k 0).toNat := rfl
      by_cases hc : k < L.length
      · have hxx := ok.2 _ (getD_mem hc)
        obtain ⟨X, hX⟩ := Int.eq_ofNat_of_zero_le hxx.1
        rw [hX] at hxx
        rw [hX, Int.toNat_natCast] at hsucc
        generalize rkTo F L k = a at *
        have hok := setOk_take ok k
        obtain ⟨h1, h2, h3⟩ := setB_ok hok
        have hlt : (L.take k).length = k := by rw [List.length_take]; omega
        repeat (first | (refine step_ops ?_; (first | (refine m_mov (by conv => lhs; whnf) ?_) | (refine m_lss rfl rfl ?_) | (refine m_idx1_ro rfl rfl ?_ ?_; (· omega)) | (refine m_ld_rpi rfl ?_ ?_; (· omega)))) | refine end_ops ?_ | refine seq_ops ?_ | (refine cond_t rfl ?_ ?_; (· (refine decide_eq_true ?_; omega))) | refine skip_then ?_ | refine AW_seq ?_ | refine AW_block ?_)
        rw [hX]
        skip
        refine AW_loop (α := Nat) (fun x => x ≤ X) (fun x => st [(0, ints F), (1, ints L), (6, .i ((a + bhTo F (bhN F) k (setB (L.take k)) x : Nat) : Int)), (7, .i k), (8, .i X), (9, .i x), (20, ints L), (21, .i L.length), (22, .i k)] []) (fun x => X - x) 0 (by omega) (weak_st ?_ ?_ rfl rfl) ?_
        · (repeat' (first | exact trivial | refine And.intro ?_ ?_)) <;> (first | rfl | skip)
        · trivial
        intro x hx
        have hacc := bhTo_le99 h9 k (setB (L.take k)) x (by omega)
        have hsum : bhTo F (bhN F) k (setB (L.take k)) (x + 1) = bhTo F (bhN F) k (setB (L.take k)) x + bhT F (bhN F) k (setB (L.take k)) x := rfl
        by_cases hcx : x < X
        · generalize bhTo F (bhN F) k (setB (L.take k)) x = acc at *
          have hbit := h3 x
          by_cases hne : F.getD x 0 = F.getD k 0
          · have hz : bhT F (bhN F) k (setB (L.take k)) x = 0 := by
              unfold bhT
              rw [if_neg fun h => h.2 hne.symm]
            repeat (first | ((first | refine step_ops ?_ | refine step_tree ?_); (first | (first | (refine m_mov (by conv => lhs; whnf) ?_) | (refine m_lss rfl rfl ?_) | (refine m_neq rfl rfl ?_) | (refine m_add rfl rfl ?_ ?_ ?_; (· omega); (· omega)) | (refine m_idx1_ro rfl rfl ?_ ?_; (· omega)) | (refine m_ld_rpi rfl ?_ ?_; (· omega)) | (refine m_pick_f rfl ?_ (by conv => lhs; whnf) ?_; (· (refine decide_eq_false ?_; omega)))) | (refine g_noT rfl ?_ ?_; (· (refine decide_eq_false ?_; omega))))) | refine end_ops ?_ | refine seq_ops ?_ | refine AW_ops ?_ | refine end_tree ?_ | refine seq_tree ?_ | (refine cond_t rfl ?_ ?_; (· (refine decide_eq_true ?_; omega))) | (refine cond_f rfl ?_ ?_; (· rfl)) | refine skip_then ?_ | refine AW_seq ?_ | refine norm_then ?_ | refine AW_block ?_ | refine norm_block ?_ | refine AW_skip ?_)
            refine next_round (x + 1) (by omega) (weak_st ?_ ?_ rfl rfl) ?_
            · rw [hsum, hz, Nat.add_zero]
              (repeat' (first | exact trivial | refine And.intro ?_ ?_)) <;> (first | rfl | skip)
            · trivial
            · omega
          · by_cases hm : (x : Int) ∈ L.take k
            · have hz : bhT F (bhN F) k (setB (L.take k)) x = 0 := by
                unfold bhT
                rw [hbit, if_neg fun h => by rw [decide_eq_true hm] at h; exact absurd h.1 (by decide)]
              repeat (first | ((first | refine step_ops ?_ | refine step_tree ?_); ((try (refine g_yes rfl ?_ ?_; (· (refine decide_eq_true ?_; assumption)))); (first | (refine m_mov (by conv => lhs; whnf) ?_) | (refine m_lss rfl rfl ?_) | (refine m_neq rfl rfl ?_) | (refine m_idx1_ro rfl rfl ?_ ?_; (· omega)) | (refine m_ld_rpi rfl ?_ ?_; (· omega)) | (refine m_cut_hi rfl rfl ?_ ?_ ?_; (· first | rfl | omega | simp); (· first | omega | (simp; omega)))))) | refine end_ops ?_ | refine seq_ops ?_ | refine seq_tree ?_ | (refine cond_t rfl ?_ ?_; (· (refine decide_eq_true ?_; omega))) | refine skip_then ?_ | refine AW_seq ?_ | refine AW_block ?_)
              refine step_tree ?_; (refine g_yes rfl ?_ ?_; (· first | ((refine decide_eq_true ?_; assumption)) | (fail)); (apply m_call (l1Has_spec (L.take k) _ (by omega)))); (· repeat (first | exact lends_nil | (refine lends_cons ?_ ?_; (· (first | exact lend_v | (refine lend_ints ?_; first | rfl | omega))))))
              repeat (first | ((first | refine step_ops ?_ | refine step_tree ?_); ((try (refine g_yes rfl ?_ ?_; (· (refine decide_eq_true ?_; assumption)))); (first | (refine m_mov (by conv => lhs; whnf) ?_) | (refine m_add rfl rfl ?_ ?_ ?_; (· omega); (· omega)) | (refine m_not rfl ?_) | (refine m_pick_t rfl ?_ (by conv => lhs; whnf) ?_; (· (refine decide_eq_true ?_; assumption)))))) | refine end_ops ?_ | refine AW_ops ?_ | refine end_tree ?_ | (refine cond_f rfl ?_ ?_; (· (refine nf ?_; assumption))) | refine norm_then ?_ | refine norm_block ?_ | refine AW_skip ?_)
              refine next_round (x + 1) (by omega) (weak_st ?_ ?_ rfl rfl) ?_
              · rw [hsum, hz, Nat.add_zero]
                (repeat' (first | exact trivial | refine And.intro ?_ ?_)) <;> (first | rfl | skip)
              · trivial
              · omega
            · have hz : bhT F (bhN F) k (setB (L.take k)) x = bhN F (setB (L.take k ++ [(x : Int)])) := by
                unfold bhT
                rw [hbit, if_pos ⟨decide_eq_false hm, fun e => hne e.symm⟩, setB_snoc, Int.toNat_natCast]
              have hg := giRest_spec F (L.take k ++ [(x : Int)]) h9 (setOk_snoc hok (by omega) hm)
              have hle := bhN_le h9 (setB (L.take k ++ [(x : Int)]))
              rw [hz] at hsum
              generalize bhN F (setB (L.take k ++ [(x : Int)])) = v at *
              repeat (first | ((first | refine step_ops ?_ | refine step_tree ?_); ((try (refine g_yes rfl ?_ ?_; (· (refine decide_eq_true ?_; assumption)))); (first | (refine m_mov (by conv => lhs; whnf) ?_) | (refine m_lss rfl rfl ?_) | (refine m_neq rfl rfl ?_) | (refine m_idx1_ro rfl rfl ?_ ?_; (· omega)) | (refine m_ld_rpi rfl ?_ ?_; (· omega)) | (refine m_cut_hi rfl rfl ?_ ?_ ?_; (· first | rfl | omega | simp); (· first | omega | (simp; omega)))))) | refine end_ops ?_ | refine seq_ops ?_ | refine seq_tree ?_ | (refine cond_t rfl ?_ ?_; (· (refine decide_eq_true ?_; omega))) | refine skip_then ?_ | refine AW_seq ?_ | refine AW_block ?_)
              refine step_tree ?_; (refine g_yes rfl ?_ ?_; (· first | ((refine decide_eq_true ?_; assumption)) | (fail)); (apply m_call (l1Has_spec (L.take k) _ (by omega)))); (· repeat (first | exact lends_nil | (refine lends_cons ?_ ?_; (· (first | exact lend_v | (refine lend_ints ?_; first | rfl | omega))))))
              repeat (first | ((first | refine step_ops ?_ | refine step_tree ?_); ((try (refine g_yes rfl ?_ ?_; (· (refine decide_eq_true ?_; assumption)))); (first | (refine m_mov (by conv => lhs; whnf) ?_) | (refine m_not rfl ?_) | (refine m_pick_t rfl ?_ (by conv => lhs; whnf) ?_; (· (refine decide_eq_true ?_; assumption))) | (refine m_cut_hi rfl rfl ?_ ?_ ?_; (· first | rfl | omega | simp); (· first | omega | (simp; omega)))))) | refine AW_ops ?_ | refine end_tree ?_ | (refine cond_t rfl ?_ ?_; (· (refine nt ?_; assumption))))
              refine step_ops ?_; (apply m_callo (l1Own_spec (L.take k) (by omega))); (· repeat (first | exact lends_nil | (refine lends_cons ?_ ?_; (· (refine lend_ints ?_; first | rfl | omega))))); (· first | exact allv_ints _ | rfl | (simp; done))
              repeat (refine step_ops ?_; (first | (refine m_mov (by conv => lhs; whnf) ?_) | (refine m_bsl1 rfl rfl ?_) | (refine m_app1i rfl (by decide) (by rfl) (by first | rfl | omega | (simp; done)) rfl rfl ?_ (by decide) ?_; (· first | omega | (simp; omega)))))
              refine step_ops ?_; (apply m_call (hg)); (· repeat (first | exact lends_nil | (refine lends_cons ?_ ?_; (· (first | (refine lend_ints ?_; first | rfl | omega) | (refine lend_sli (by rfl) ?_; first | rfl | omega | (simp; done)))))))
              repeat (first | (refine step_ops ?_; (first | (refine m_mov (by conv => lhs; whnf) ?_) | (refine m_add rfl rfl ?_ ?_ ?_; (· omega); (· omega)))) | refine end_ops ?_ | refine AW_ops ?_ | refine norm_then ?_ | refine norm_block ?_)
              refine next_round (x + 1) (by omega) (weak_st ?_ ?_ rfl rfl) ?_
              · refine ⟨rfl, rfl, ?_, rfl, rfl, rfl, rfl, rfl, rfl, trivial⟩
                show AV.i (((a + acc : Nat) : Int) + (v : Nat)) = AV.i _
                rw [hsum]
                congr 1
                omega
              · trivial
              · omega
        · obtain rfl : x = X := by omega
          repeat (first | (refine step_ops ?_; (first | (refine m_mov (by conv => lhs; whnf) ?_) | (refine m_lss rfl rfl ?_) | (refine m_add rfl rfl ?_ ?_ ?_; (· omega); (· omega)))) | refine end_ops ?_ | refine seq_ops ?_ | refine AW_ops ?_ | (refine cond_f rfl ?_ ?_; (· (refine decide_eq_false ?_; omega))) | refine AW_seq ?_ | refine norm_then ?_ | refine exit_then ?_ | refine norm_block ?_ | refine exit_round ?_ | refine AW_exit ?_ | refine exit_block ?_)
          refine next_round (k + 1) (by omega) (weak_st ?_ ?_ rfl rfl) ?_
          · rw [hsucc]
            (repeat' (first | exact trivial | refine And.intro ?_ ?_)) <;> (first | rfl | skip)
          · trivial
          · omega
      · obtain rfl : k = L.length := by omega
        repeat (first | (refine step_ops ?_; (first | (refine m_mov (by conv => lhs; whnf) ?_) | (refine m_lss rfl rfl ?_))) | refine end_ops ?_ | refine seq_ops ?_ | (refine cond_f rfl ?_ ?_; (· (refine decide_eq_false ?_; omega))) | refine AW_seq ?_ | refine AW_ret ?_ | refine ret_done ?_ | refine norm_then ?_ | refine exit_then ?_ | refine exit_round ?_ | refine AW_exit ?_ | refine exit_block ?_)
        exact outs_tup2 (outs_i rfl) (outs_b (decide_eq_true ⟨h, ha⟩).symm)
    · have e : rkR F L = _ := if_neg fun hh => ha hh.2
      rw [e]
      repeat (first | (refine step_ops ?_; (refine m_mov (by conv => lhs; whnf) ?_)) | refine end_ops ?_ | refine seq_ops ?_ | refine AW_seq ?_)
      refine step_ops ?_; (apply m_call (giBoth_spec _ _ hF hL)); (· repeat (first | exact lends_nil | (refine lends_cons ?_ ?_; (· (refine lend_ints ?_; first | rfl | omega)))))
      repeat (refine step_ops ?_; ((try (refine g_yes rfl ?_ ?_; (· (simp [*]; done)))); (first | (refine m_mov (by conv => lhs; whnf) ?_) | (refine m_not rfl ?_))))
      refine step_ops ?_; (refine g_yes rfl ?_ ?_; (· first | ((simp [*]; done)) | (fail)); (apply m_call (giIs_spec _ _ h))); (· repeat (first | exact lends_nil | (refine lends_cons ?_ ?_; (· (refine lend_ints ?_; first | rfl | omega)))))
      repeat (first | (refine step_ops ?_; ((try (refine g_yes rfl ?_ ?_; (· (simp [*]; done)))); (first | (refine m_mov (by conv => lhs; whnf) ?_) | (refine m_not rfl ?_) | (refine m_pick_f rfl ?_ (by conv => lhs; whnf) ?_; (· (refine nf ?_; assumption)))))) | refine end_ops ?_ | refine seq_ops ?_ | (refine cond_t rfl ?_ ?_; (· (refine nt ?_; assumption))) | refine AW_ret ?_ | refine ret_done ?_ | refine ret_then ?_)
      exact outs_tup2 (outs_i rfl) (outs_b (decide_eq_false fun hh => ha hh.2).symm)
  · have e : rkR F L = _ := if_neg fun hh => h hh.1
    rw [e]
    repeat (first | (refine step_ops ?_; (refine m_mov (by conv => lhs; whnf) ?_)) | refine end_ops ?_ | refine seq_ops ?_ | refine AW_seq ?_)
    refine step_ops ?_; (apply m_call (giBoth_spec _ _ hF hL)); (· repeat (first | exact lends_nil | (refine lends_cons ?_ ?_; (· (refine lend_ints ?_; first | rfl | omega)))))
    repeat (first | (refine step_ops ?_; (first | (first | (refine m_mov (by conv => lhs; whnf) ?_) | (refine m_not rfl ?_) | (refine m_pick_t rfl ?_ (by conv => lhs; whnf) ?_; (· (refine nt ?_; assumption)))) | (refine g_noF rfl ?_ ?_; (· (refine nt ?_; assumption))))) | refine end_ops ?_ | refine seq_ops ?_ | (refine cond_t rfl ?_ ?_; (· rfl)) | refine AW_ret ?_ | refine ret_done ?_ | refine ret_then ?_)
    exact outs_tup2 (outs_i rfl) (outs_b (decide_eq_false fun hh => h hh.1).symm)
end Go.Proofs.Ytbeflnnejofleaa
namespace Go.Proofs.Ytbeflnnejofleaa
variable [Go.Am.CodeBlk]
open Go.Am
attribute [local irreducible] AW Outs Weak Lends Lend Sp aops atree aop1 Then Round InBlock Done
attribute [local irreducible] SpH SpX DoneH DoneX DoneHG
theorem refsH_kq (F : List Int) (m : Array MapEntry × Nat) (g q : Nat) : refsH (fun r => (Am.look [(g, (false, kqV F q)), (q, mpC m)] r).isSome) [(g, (false, kqV F q)), (q, mpC m)] = true := by
  have h : ∀ keep : Nat → Bool, keep q = true → refsL keep (kqV F q) = true := fun keep hk => refsL_app keep _ _ (refsL_plain (kinV_plain F)) (by simp [refsL, refsV, hk])
  have hq : (Am.look [(g, (false, kqV F q)), (q, mpC m)] q).isSome = true := by
    unfold Am.look
    by_cases e : q = g
    · simp [e]
    · simp [e, Am.look]
  show ((false || refsL _ (kqV F q)) && ((true || _) && true)) = true
  rw [h _ hq]
  rfl
theorem implRankOfGiving_spec (F L : List Int) (hF : F.length ≤ 1048576) (hL : L.length ≤ 1048576) : Sp Try.prog 9 [ints F, ints L] (rkTup F L) := by
  have his := implIsGiving_spec F L hF hL
  unfold isGivingR at his
  unfold rkTup
  refine spec_of Try.func9 rfl cc9 rfl ?_
  unfold ac9
  by_cases h : Givers F L
  · by_cases ha : apart F L
    · have e : rkR F L = _ := if_pos ⟨h, ha⟩
      rw [e]
      rw [decide_eq_true (show Givers F L ∧ apart F L from ⟨h, ha⟩), decide_eq_true h] at his
      have h9 := h.1.2.1
      have hlen := h.2.2
      have ok := givers_ok h
      have hkl := kqV_len (F := F) (q := 100) h9
      have hkin := kqV_kin (F := F) (q := 100) h9
      have hk11 := kqV_11 (F := F) (q := 100) h9
      repeat (first | (refine step_ops ?_; (refine m_mov (by conv => lhs; whnf) ?_)) | refine end_ops ?_ | refine seq_ops ?_)
      refine step_ops ?_; (apply m_call (his)); (· repeat (first | exact lends_nil | (refine lends_cons ?_ ?_; (· (refine lend_ints ?_; first | rfl | omega)))))
      repeat (first | (refine step_ops ?_; ((try (refine g_yes rfl ?_ ?_; (· rfl))); (first | (refine m_mov (by conv => lhs; whnf) ?_) | (refine m_not rfl ?_) | (refine m_pick_f rfl ?_ (by conv => lhs; whnf) ?_; (· rfl)) | (refine m_ext rfl rfl ?_)))) | refine end_ops ?_ | refine seq_ops ?_ | (refine cond_f rfl ?_ ?_; (· rfl)) | refine skip_then ?_ | refine AW_seq ?_)
      refine step_ops ?_
      refine m_callh (gN 100) (givingsOf_spec F h.1) (lendsH_none (lends_cons (lend_ints rfl) lends_nil)) (lent_N rfl (by decide) (by simp only [ownV]; exact kmq_own F nbase false)) ?_
      rw [renV, kmq_ren, gN_self]
      repeat (refine step_ops ?_; (refine m_alloc ?_))
      refine weak_ops (weak_deep (r := 8) rfl (by simp) rfl) ?_
      refine step_ops ?_
      refine m_stall (l := killL 8 (kqV F 100)) rfl rfl rfl (by rw [kqV_kill (by decide), hkl]) rfl (by rw [kqV_kill (by decide)]; exact kqV_ok) ?_
      rw [kqV_kill (by decide)]
      repeat (first | (refine step_ops ?_; (first | (refine m_mov (by conv => lhs; whnf) ?_) | (refine m_len_ro rfl ?_))) | refine end_ops ?_ | refine seq_ops ?_ | refine AW_seq ?_ | refine AW_block ?_)
      refine AW_loop (α := Nat × (Array MapEntry × Nat)) (fun a => a.1 ≤ L.length ∧ MapOkV (bhN F) a.2.1) (fun a => st [(1, ints L), (8, .pt 8 0), (9, .u (setB (L.take a.1))), (10, .i (rkTo F L a.1 : Nat)), (28, ints L), (29, .i L.length), (30, .i a.1)] [(8, (false, kqV F 100)), (100, mpC a.2)]) (fun a => L.length - a.1) (0, (#[], 0)) ⟨by omega, mapOkV_nil _⟩ (weak_st ?_ ?_ rfl (refsH_kq F _ 8 100)) ?_
      · (repeat' (first | exact trivial | refine And.intro ?_ ?_)) <;> (first | rfl | skip)
      · (repeat' (first | exact trivial | refine And.intro ?_ ?_)) <;> (first | rfl | skip)
      rintro ⟨k, m1⟩ ⟨hk, hm1⟩
      dsimp only at hk hm1 ⊢
      have hrk := rkTo_le h9 ok.2 k hk
      have hsucc : rkTo F L (k + 1) = rkTo F L k + bhTo F (bhN F) k (setB (L.take k)) (L.getD k 0).toNat := rfl
      by_cases hc : k < L.length
      · have hxx := ok.2 _ (getD_mem hc)
        have hnext : setB (L.take (k + 1)) = setB (L.take k) + 2 ^ (L.getD k 0).toNat := by rw [take_snoc L k 0 hc, setB_snoc]
        have hbX := (setB_ok (setOk_take ok k)).2.2 (L.getD k 0).toNat
        have hnm : L.getD k 0 ∉ L.take k := fun hm => notNodup hc hm h.2.1.2.2.2
        obtain ⟨X, hX⟩ := Int.eq_ofNat_of_zero_le hxx.1
        rw [hX] at hxx hnm
        rw [hX, Int.toNat_natCast] at hsucc hnext hbX
        rw [decide_eq_false hnm] at hbX
        rw [bit_add hbX] at hnext
        generalize rkTo F L k = a at *
        have hok := setOk_take ok k
        obtain ⟨h1, h2, h3⟩ := setB_ok hok
        have hS9 : setB (L.take k) < 512 := Nat.lt_of_lt_of_le h1 (Nat.pow_le_pow_right (by decide) h9)
        generalize setB (L.take k) = S at *
        repeat (first | (refine step_ops ?_; (first | (refine m_mov (by conv => lhs; whnf) ?_) | (refine m_lss rfl rfl ?_) | (refine m_idx1_ro rfl rfl ?_ ?_; (· omega)) | (refine m_ld_rpi rfl ?_ ?_; (· omega)))) | refine end_ops ?_ | refine seq_ops ?_ | (refine cond_t rfl ?_ ?_; (· (refine decide_eq_true ?_; omega))) | refine skip_then ?_ | refine AW_seq ?_ | refine AW_block ?_)
        rw [hX]
        skip
        refine AW_loop (α := Nat × (Array MapEntry × Nat)) (fun b => b.1 ≤ X ∧ MapOkV (bhN F) b.2.1) (fun b => st [(1, ints L), (8, .pt 8 0), (9, .u S), (10, .i ((a + bhTo F (bhN F) k S b.1 : Nat) : Int)), (11, .i k), (12, .i X), (28, ints L), (29, .i L.length), (30, .i k), (35, .i X), (36, .i b.1)] [(8, (false, kqV F 100)), (100, mpC b.2)]) (fun b => X - b.1) (0, m1) ⟨by omega, hm1⟩ (weak_st ?_ ?_ rfl (refsH_kq F _ 8 100)) ?_
        · (repeat' (first | exact trivial | refine And.intro ?_ ?_)) <;> (first | rfl | skip)
        · (repeat' (first | exact trivial | refine And.intro ?_ ?_)) <;> (first | rfl | skip)
        rintro ⟨x, m2⟩ ⟨hx, hm2⟩
        dsimp only at hx hm2 ⊢
        have hacc := bhTo_le99 h9 k S x (by omega)
        have hsum : bhTo F (bhN F) k S (x + 1) = bhTo F (bhN F) k S x + bhT F (bhN F) k S x := rfl
        by_cases hcx : x < X
        · generalize bhTo F (bhN F) k S x = acc at *
          by_cases hbx : S.testBit x = true
          · have hz : bhT F (bhN F) k S x = 0 := by
              unfold bhT
              rw [if_neg fun h => by rw [hbx] at h; exact absurd h.1 (by decide)]
            have hnb : (!S.testBit x) = false := by rw [hbx]; rfl
            repeat (first | (refine step_ops ?_; (first | (refine m_mov (by conv => lhs; whnf) ?_) | (refine m_lss rfl rfl ?_))) | refine end_ops ?_ | refine seq_ops ?_ | (refine cond_t rfl ?_ ?_; (· (refine decide_eq_true ?_; omega))) | refine skip_then ?_ | refine AW_seq ?_ | refine AW_block ?_)
            refine step_ops ?_; (apply m_call (gsHas_spec S x (by omega) (by omega))); (· repeat (first | exact lends_nil | (refine lends_cons ?_ ?_; (· exact lend_v))))
            repeat (first | (refine step_ops ?_; (first | (first | (refine m_mov (by conv => lhs; whnf) ?_) | (refine m_add rfl rfl ?_ ?_ ?_; (· omega); (· omega)) | (refine m_not rfl ?_) | (refine m_pick_f rfl ?_ (by conv => lhs; whnf) ?_; (· assumption))) | (refine g_noT rfl ?_ ?_; (· assumption)))) | refine end_ops ?_ | refine AW_ops ?_ | (refine cond_f rfl ?_ ?_; (· rfl)) | refine norm_then ?_ | refine norm_block ?_ | refine AW_skip ?_)
            refine next_round (x + 1, m2) ⟨by omega, hm2⟩ (weak_st ?_ ?_ rfl (refsH_kq F _ 8 100)) ?_
            · rw [hsum, hz, Nat.add_zero]
              (repeat' (first | exact trivial | refine And.intro ?_ ?_)) <;> (first | rfl | skip)
            · (repeat' (first | exact trivial | refine And.intro ?_ ?_)) <;> (first | rfl | skip)
            · show X - (x + 1) < X - x; omega
          · have hbx : S.testBit x = false := by simpa using hbx
            have hnb : (!S.testBit x) = true := by rw [hbx]; rfl
            by_cases hne : F.getD k 0 = F.getD x 0
            · have hz : bhT F (bhN F) k S x = 0 := by
                unfold bhT
                rw [if_neg fun h => h.2 hne]
              have hq : decide (F.getD k 0 ≠ F.getD x 0) = false := decide_eq_false fun h => h hne
              repeat (first | (refine step_ops ?_; (first | (refine m_mov (by conv => lhs; whnf) ?_) | (refine m_lss rfl rfl ?_))) | refine end_ops ?_ | refine seq_ops ?_ | (refine cond_t rfl ?_ ?_; (· (refine decide_eq_true ?_; omega))) | refine skip_then ?_ | refine AW_seq ?_ | refine AW_block ?_)
              refine step_ops ?_; (apply m_call (gsHas_spec S x (by omega) (by omega))); (· repeat (first | exact lends_nil | (refine lends_cons ?_ ?_; (· exact lend_v))))
              repeat (refine step_ops ?_; ((try (refine g_yes rfl ?_ ?_; (· assumption))); (first | (refine m_mov (by conv => lhs; whnf) ?_) | (refine m_not rfl ?_) | (refine m_fa rfl ?_))))
              refine step_ops ?_
              refine g_yes rfl ?_ ?_
              · exact hnb
              refine m_ldk (n := 10) (off := 0) rfl rfl (by omega) ?_
              rw [hkin]
              repeat (refine step_ops ?_; ((try (refine g_yes rfl ?_ ?_; (· assumption))); (refine m_mov (by conv => lhs; whnf) ?_)))
              refine step_ops ?_
              refine g_yes rfl ?_ ?_
              · exact hnb
              refine m_call (areApart_spec F k x h9 (by omega) (by omega)) (lends_cons (lend_agg (kinV_plain F)) (lends_cons lend_v (lends_cons lend_v lends_nil))) ?_
              repeat (first | (refine step_ops ?_; (first | (refine m_mov (by conv => lhs; whnf) ?_) | (refine m_add rfl rfl ?_ ?_ ?_; (· omega); (· omega)) | (refine m_pick_t rfl ?_ (by conv => lhs; whnf) ?_; (· assumption)))) | refine end_ops ?_ | refine AW_ops ?_ | (refine cond_f rfl ?_ ?_; (· assumption)) | refine norm_then ?_ | refine norm_block ?_ | refine AW_skip ?_)
              refine next_round (x + 1, m2) ⟨by omega, hm2⟩ (weak_st ?_ ?_ rfl (refsH_kq F _ 8 100)) ?_
              · rw [hsum, hz, Nat.add_zero]
                (repeat' (first | exact trivial | refine And.intro ?_ ?_)) <;> (first | rfl | skip)
              · (repeat' (first | exact trivial | refine And.intro ?_ ?_)) <;> (first | rfl | skip)
              · show X - (x + 1) < X - x; omega
            · have hz : bhT F (bhN F) k S x = bhN F (S + 2 ^ x) := by
                unfold bhT
                rw [if_pos ⟨hbx, hne⟩]
              have hlt := set_lt' h1 (by omega) hbx
              have hcall := countBehind_aux F h.1.1 h9 _ (S + 2 ^ x) rfl hlt m2 hm2
              have hle := bhN_le h9 (S + 2 ^ x)
              rw [hz] at hsum
              generalize bhN F (S + 2 ^ x) = v at *
              rw [bit_add hbx] at hcall
              have hq : decide (F.getD k 0 ≠ F.getD x 0) = true := decide_eq_true hne
              repeat (first | (refine step_ops ?_; (first | (refine m_mov (by conv => lhs; whnf) ?_) | (refine m_lss rfl rfl ?_))) | refine end_ops ?_ | refine seq_ops ?_ | (refine cond_t rfl ?_ ?_; (· (refine decide_eq_true ?_; omega))) | refine skip_then ?_ | refine AW_seq ?_ | refine AW_block ?_)
              refine step_ops ?_; (apply m_call (gsHas_spec S x (by omega) (by omega))); (· repeat (first | exact lends_nil | (refine lends_cons ?_ ?_; (· exact lend_v))))
              repeat (refine step_ops ?_; ((try (refine g_yes rfl ?_ ?_; (· assumption))); (first | (refine m_mov (by conv => lhs; whnf) ?_) | (refine m_not rfl ?_) | (refine m_fa rfl ?_))))
              refine step_ops ?_
              refine g_yes rfl ?_ ?_
              · exact hnb
              refine m_ldk (n := 10) (off := 0) rfl rfl (by omega) ?_
              rw [hkin]
              repeat (refine step_ops ?_; ((try (refine g_yes rfl ?_ ?_; (· assumption))); (refine m_mov (by conv => lhs; whnf) ?_)))
              refine step_ops ?_
              refine g_yes rfl ?_ ?_
              · exact hnb
              refine m_call (areApart_spec F k x h9 (by omega) (by omega)) (lends_cons (lend_agg (kinV_plain F)) (lends_cons lend_v (lends_cons lend_v lends_nil))) ?_
              repeat (first | ((first | refine step_ops ?_ | refine step_tree ?_); (first | (refine m_mov (by conv => lhs; whnf) ?_) | (refine m_pick_t rfl ?_ (by conv => lhs; whnf) ?_; (· assumption)) | (refine m_ldall rfl rfl ?_ ?_; (· first | rfl | (simp; done) | (simp [*]; done))))) | refine end_ops ?_ | refine AW_tree ?_ | (refine cond_t rfl ?_ ?_; (· assumption)))
              refine step_tree ?_; (apply m_call (gsWith_spec S x (by omega) (by omega))); (· repeat (first | exact lends_nil | (refine lends_cons ?_ ?_; (· exact lend_v))))
              skip
              refine step_one ?_
              refine m_callx (gM 100) hcall (lendsH_kq F rfl) ⟨m2, hm2⟩ fun m3 hm3 => ⟨lent_Mq (m := m2) rfl, ?_⟩
              repeat (first | ((first | refine step_ops ?_ | refine step_tree ?_); (first | (refine m_mov (by conv => lhs; whnf) ?_) | (refine m_add rfl rfl ?_ ?_ ?_; (· omega); (· omega)))) | refine end_ops ?_ | refine AW_ops ?_ | refine end_tree ?_ | refine norm_then ?_ | refine norm_block ?_)
              refine next_round (x + 1, m3) ⟨by omega, hm3⟩ (weak_st ?_ ?_ rfl (refsH_kq F _ 8 100)) ?_
              · refine ⟨rfl, rfl, rfl, ?_, rfl, rfl, rfl, rfl, rfl, rfl, rfl, trivial⟩
                show AV.i (((a + acc : Nat) : Int) + (v : Nat)) = AV.i _
                rw [hsum]
                congr 1
                omega
              · (repeat' (first | exact trivial | refine And.intro ?_ ?_)) <;> (first | rfl | skip)
              · show X - (x + 1) < X - x; omega
        · obtain rfl : x = X := by omega
          repeat (first | (refine step_ops ?_; (first | (refine m_mov (by conv => lhs; whnf) ?_) | (refine m_lss rfl rfl ?_))) | refine end_ops ?_ | refine seq_ops ?_ | refine AW_ops ?_ | (refine cond_f rfl ?_ ?_; (· (refine decide_eq_false ?_; omega))) | refine AW_seq ?_ | refine norm_then ?_ | refine exit_then ?_ | refine exit_round ?_ | refine AW_exit ?_ | refine exit_block ?_)
          refine step_ops ?_; (apply m_call (gsWith_spec S x (by omega) (by omega))); (· repeat (first | exact lends_nil | (refine lends_cons ?_ ?_; (· exact lend_v))))
          repeat (first | (refine step_ops ?_; (first | (refine m_mov (by conv => lhs; whnf) ?_) | (refine m_add rfl rfl ?_ ?_ ?_; (· omega); (· omega)))) | refine end_ops ?_ | refine AW_ops ?_ | refine norm_then ?_ | refine norm_block ?_)
          refine next_round (k + 1, m2) ⟨by omega, hm2⟩ (weak_st ?_ ?_ rfl (refsH_kq F _ 8 100)) ?_
          · rw [hsucc, hnext]
            (repeat' (first | exact trivial | refine And.intro ?_ ?_)) <;> (first | rfl | skip)
          · (repeat' (first | exact trivial | refine And.intro ?_ ?_)) <;> (first | rfl | skip)
          · show L.length - (k + 1) < L.length - k; omega
      · obtain rfl : k = L.length := by omega
        repeat (first | (refine step_ops ?_; (first | (refine m_mov (by conv => lhs; whnf) ?_) | (refine m_lss rfl rfl ?_))) | refine end_ops ?_ | refine seq_ops ?_ | (refine cond_f rfl ?_ ?_; (· (refine decide_eq_false ?_; omega))) | refine AW_seq ?_ | refine AW_ret ?_ | refine ret_done ?_ | refine norm_then ?_ | refine exit_then ?_ | refine exit_round ?_ | refine AW_exit ?_ | refine exit_block ?_)
        exact outs_tup2 (outs_i rfl) (outs_b (decide_eq_true ⟨h, ha⟩).symm)
    · have e : rkR F L = _ := if_neg fun hh => ha hh.2
      rw [e]
      rw [decide_eq_false (show ¬(Givers F L ∧ apart F L) from fun hh => ha hh.2), decide_eq_true h] at his
      repeat (first | (refine step_ops ?_; (refine m_mov (by conv => lhs; whnf) ?_)) | refine end_ops ?_ | refine seq_ops ?_)
      refine step_ops ?_; (apply m_call (his)); (· repeat (first | exact lends_nil | (refine lends_cons ?_ ?_; (· (refine lend_ints ?_; first | rfl | omega)))))
      repeat (first | (refine step_ops ?_; ((try (refine g_yes rfl ?_ ?_; (· rfl))); (first | (refine m_mov (by conv => lhs; whnf) ?_) | (refine m_not rfl ?_) | (refine m_pick_f rfl ?_ (by conv => lhs; whnf) ?_; (· rfl)) | (refine m_ext rfl rfl ?_)))) | refine end_ops ?_ | refine seq_ops ?_ | (refine cond_t rfl ?_ ?_; (· rfl)) | refine AW_seq ?_ | refine AW_ret ?_ | refine ret_done ?_ | refine ret_then ?_)
      exact outs_tup2 (outs_i rfl) (outs_b (decide_eq_false fun hh => ha hh.2).symm)
  · have e : rkR F L = _ := if_neg fun hh => h hh.1
    rw [e]
    rw [decide_eq_false (show ¬(Givers F L ∧ apart F L) from fun hh => h hh.1), decide_eq_false h] at his
    repeat (first | (refine step_ops ?_; (refine m_mov (by conv => lhs; whnf) ?_)) | refine end_ops ?_ | refine seq_ops ?_)
    refine step_ops ?_; (apply m_call (his)); (· repeat (first | exact lends_nil | (refine lends_cons ?_ ?_; (· (refine lend_ints ?_; first | rfl | omega)))))
    repeat (first | (refine step_ops ?_; (first | (first | (refine m_mov (by conv => lhs; whnf) ?_) | (refine m_not rfl ?_) | (refine m_pick_t rfl ?_ (by conv => lhs; whnf) ?_; (· rfl)) | (refine m_ext rfl rfl ?_)) | (refine g_noF rfl ?_ ?_; (· rfl)))) | refine end_ops ?_ | refine seq_ops ?_ | (refine cond_t rfl ?_ ?_; (· rfl)) | refine AW_seq ?_ | refine AW_ret ?_ | refine ret_done ?_ | refine ret_then ?_)
    exact outs_tup2 (outs_i rfl) (outs_b (decide_eq_false fun hh => h hh.1).symm)
end Go.Proofs.Ytbeflnnejofleaa
namespace Go.Am
variable [Go.Am.CodeBlk]
/-- Does the guest behind those of a list choose a seat? -/
def chsE (l : Int) (M : List Int) : Bool := decide ((M.length : Int) < l) || decide ((M.length : Int) ∈ M)
/-- Can the first k guests of a seating come so? -/
def comeK (l : Int) (L : List Int) (k : Nat) : Prop := ∀ j < k, chsE l (L.take j) = true ∨ L.getD j 0 = (j : Int)
instance (l : Int) (L : List Int) (k : Nat) : Decidable (comeK l L k) := inferInstanceAs (Decidable (∀ j < k, _))
end Go.Am
namespace Go.Am
variable [Go.Am.CodeBlk]
theorem comesB_asymm : ∀ a b : List Int, comesB a b = true → comesB b a = false
  | [], _, h => by simp [comesB] at h
  | _ :: _, [], h => by simp [comesB] at h
  | a :: l, b :: m, h => by
    simp only [comesB] at h ⊢
    by_cases e : a = b
    · subst e
      simp only [if_true] at h ⊢
      exact comesB_asymm l m h
    · rw [if_neg e] at h
      rw [if_neg fun hh => e hh.symm]
      have := of_decide_eq_true h
      exact decide_eq_false (by omega)
theorem goOn_sorted (fits : List Int → Nat → Bool) (n : Nat) : ∀ (k : Nat) (l : List Int), (goOn fits n k l).Pairwise fun a b => comesB a b = true
  | 0, l => by simp [goOn]
  | k + 1, l => by
    rw [goOn, List.pairwise_flatMap]
    refine ⟨fun x _ => goOn_sorted fits n k _, ?_⟩
    refine List.Pairwise.filter _ (List.Pairwise.imp ?_ List.pairwise_lt_range)
    intro a b hab x hx y hy
    obtain ⟨r, rfl, _⟩ := goOn_shape fits n _ _ _ hx
    obtain ⟨t, rfl, _⟩ := goOn_shape fits n _ _ _ hy
    rw [List.append_assoc, List.append_assoc, comesB_append]
    have h1 : ¬ (a : Int) = (b : Int) := by omega
    simp only [List.singleton_append, comesB, if_neg h1]
    exact decide_eq_true (by omega)
/-- In a sorted list the first behind the one at j is the next one. -/
theorem find_sorted {A : List (List Int)} (h : A.Pairwise fun a b => comesB a b = true) {j : Nat} (hj : j < A.length) : A.find? (fun m => comesB (A.getD j []) m) = A[j + 1]? := by
  have hs : A = A.take (j + 1) ++ A.drop (j + 1) := (List.take_append_drop _ _).symm
  have hg : A.getD j [] = A[j] := by simp [hj]
  have hpw := List.pairwise_iff_getElem.1 h
  have h1 : (A.take (j + 1)).find? (fun m => comesB (A.getD j []) m) = none := by
    rw [List.find?_eq_none]
    intro m hm
    obtain ⟨i, hi, rfl⟩ := List.mem_iff_getElem.1 hm
    rw [List.length_take] at hi
    rw [List.getElem_take, hg]
    by_cases e : i = j
    · subst e; rw [comesB_self]; simp
    · rw [comesB_asymm _ _ (hpw i j (by omega) hj (by omega))]; simp
  have h2 : (A.drop (j + 1)).find? (fun m => comesB (A.getD j []) m) = A[j + 1]? := by
    by_cases e : j + 1 < A.length
    · rw [List.drop_eq_getElem_cons e, List.find?_cons_of_pos (by rw [hg]; exact hpw j (j + 1) hj e (by omega))]
      simp [e]
    · rw [List.drop_eq_nil_of_le (by omega), List.getElem?_eq_none (by omega)]; rfl
  generalize A.getD j [] = B at h1 h2 ⊢
  have h3 : (A.take (j + 1) ++ A.drop (j + 1)).find? (fun m => comesB B m) = A[j + 1]? := by rw [List.find?_append, h1, Option.none_or, h2]
  rw [← hs] at h3
  exact h3
end Go.Am
namespace Go.Proofs.Ytbeflnnejofleaa
variable [Go.Am.CodeBlk]
open Go.Am
/-- What fits behind a beginning: another family, a guest who is none of it. -/
def FitG (F : List Int) (fits : List Int → Nat → Bool) : Prop := ∀ l x, fits l x = (decide (F.getD l.length 0 ≠ F.getD x 0) && !decide ((x : Int) ∈ l))
theorem fit_iff {F : List Int} {fits : List Int → Nat → Bool} (hf : FitG F fits) (l : List Int) (x : Nat) : fits l x = true ↔ F.getD l.length 0 ≠ F.getD x 0 ∧ (x : Int) ∉ l := by
  rw [hf, Bool.and_eq_true, decide_eq_true_eq, Bool.not_eq_true', decide_eq_false_iff_not]
theorem getD_l {α : Type} {a b : List α} {r : Nat} {d : α} (h : r < a.length) : (a ++ b).getD r d = a.getD r d := by
  rw [List.getD_eq_getElem?_getD, List.getD_eq_getElem?_getD, List.getElem?_append_left h]
theorem getD_r {α : Type} {a b : List α} {r : Nat} {d : α} (h : a.length ≤ r) : (a ++ b).getD r d = b.getD (r - a.length) d := by
  rw [List.getD_eq_getElem?_getD, List.getD_eq_getElem?_getD, List.getElem?_append_right h]
/-- Those that go on with a guest below x. -/
def upTo (fits : List Int → Nat → Bool) (n u : Nat) (l : List Int) (x : Nat) : List (List Int) := ((List.range x).filter fun x => fits l x).flatMap fun (x : Nat) => goOn fits n u (l ++ [(x : Int)])
theorem upTo_succ (fits : List Int → Nat → Bool) (n u : Nat) (l : List Int) (x : Nat) : upTo fits n u l (x + 1) = upTo fits n u l x ++ (if fits l x = true then goOn fits n u (l ++ [(x : Int)]) else []) := by
  unfold upTo
  rw [List.range_succ, List.filter_append, List.flatMap_append]
  congr 1
  by_cases hc : fits l x = true
  · rw [if_pos hc, List.filter_cons_of_pos hc]; simp
  · rw [if_neg hc, List.filter_cons_of_neg hc]; simp
theorem upTo_all (fits : List Int → Nat → Bool) (n u : Nat) (l : List Int) : goOn fits n (u + 1) l = upTo fits n u l n := rfl
theorem upTo_add (fits : List Int → Nat → Bool) (n u : Nat) (l : List Int) (x : Nat) : ∀ d, ∃ t, upTo fits n u l (x + d) = upTo fits n u l x ++ t
  | 0 => ⟨[], by simp⟩
  | d + 1 => by
    obtain ⟨t, ht⟩ := upTo_add fits n u l x d
    rw [← Nat.add_assoc, upTo_succ, ht, List.append_assoc]
    exact ⟨_, rfl⟩
theorem upTo_len {F : List Int} {fits : List Int → Nat → Bool} (hf : FitG F fits) {u : Nat} {l : List Int} (h : SetOk F.length l) (ih : ∀ x < F.length, fits l x = true → (goOn fits F.length u (l ++ [(x : Int)])).length = bhN F (setB l + 2 ^ x)) : ∀ x, x ≤ F.length → (upTo fits F.length u l x).length = bhTo F (bhN F) l.length (setB l) x
  | 0, _ => rfl
  | x + 1, hx => by
    rw [upTo_succ, List.length_append, upTo_len hf h ih x (by omega), bhTo]
    congr 1
    unfold bhT
    have hb := (setB_ok h).2.2 x
    by_cases hc : fits l x = true
    · have hc2 := (fit_iff hf l x).1 hc
      rw [if_pos hc, if_pos ⟨by rw [hb]; exact decide_eq_false hc2.2, hc2.1⟩]
      exact ih x (by omega) hc
    · rw [if_neg hc, if_neg fun hh => hc ((fit_iff hf l x).2 ⟨hh.2, by rw [hb] at hh; exact of_decide_eq_false hh.1⟩)]
      rfl
theorem goG_len {F : List Int} {fits : List Int → Nat → Bool} (hf : FitG F fits) : ∀ (u : Nat) (l : List Int), SetOk F.length l → l.length + u = F.length → (goOn fits F.length u l).length = bhN F (setB l)
  | 0, l, h, hl => by
    have h1 := (setB_ok h).2.1
    rw [bhN_full (out_zero F.length (by omega))]
    rfl
  | u + 1, l, h, hl => by
    have h1 := (setB_ok h).2.1
    have hs := bhN_step (F := F) (S := setB l) (u := u) (by omega)
    rw [upTo_all, upTo_len hf h (fun x hx hc => ?_) _ (Nat.le_refl _), hs, show F.length - (u + 1) = l.length by omega]
    have hc2 := (fit_iff hf l x).1 hc
    rw [goG_len hf u (l ++ [(x : Int)]) (setOk_snoc h hx hc2.2) (by simp; omega), setB_snoc, Int.toNat_natCast]
/-- Which guest the one with a rank goes on with. -/
theorem gv_x {F B : List Int} {k r : Nat} (h : GvOk F B k r) (hk : k < F.length) : ∃ x < F.length, bhTo F (bhN F) k (setB B) x ≤ r ∧ r < bhTo F (bhN F) k (setB B) (x + 1) := by
  have hr : r < bhTo F (bhN F) k (setB B) F.length := by rw [← gv_all h hk]; exact h.2.2
  have hex : ∀ n, r < bhTo F (bhN F) k (setB B) n → ∃ x < n, bhTo F (bhN F) k (setB B) x ≤ r ∧ r < bhTo F (bhN F) k (setB B) (x + 1) := by
    intro n
    induction n with
    | zero => intro hn; exact absurd hn (by simp [bhTo])
    | succ n ih =>
      intro hn
      by_cases hc : r < bhTo F (bhN F) k (setB B) n
      · obtain ⟨x, hx, hxx⟩ := ih hc
        exact ⟨x, by omega, hxx⟩
      · exact ⟨n, by omega, by omega, hn⟩
  exact hex _ hr
theorem goG_step {F : List Int} {fits : List Int → Nat → Bool} (hf : FitG F fits) {u : Nat} {l : List Int} {r x : Nat} (h : SetOk F.length l) (hl : l.length + (u + 1) = F.length) (hx : x < F.length) (h1 : bhTo F (bhN F) l.length (setB l) x ≤ r) (h2 : r < bhTo F (bhN F) l.length (setB l) (x + 1)) :
    (goOn fits F.length (u + 1) l).getD r [] = (goOn fits F.length u (l ++ [(x : Int)])).getD (r - bhTo F (bhN F) l.length (setB l) x) [] := by
  have hlen := upTo_len hf (u := u) h (fun y hy hc => by
    have hc2 := (fit_iff hf l y).1 hc
    rw [goG_len hf u (l ++ [(y : Int)]) (setOk_snoc h hy hc2.2) (by simp; omega), setB_snoc, Int.toNat_natCast])
  have l1 := hlen x (by omega)
  have l2 := hlen (x + 1) (by omega)
  obtain ⟨t, ht⟩ := upTo_add fits F.length u l (x + 1) (F.length - (x + 1))
  rw [show x + 1 + (F.length - (x + 1)) = F.length by omega] at ht
  rw [upTo_all, ht, getD_l (by omega)]
  rw [upTo_succ] at l2 ⊢
  rw [getD_r (by omega), l1]
  by_cases hc : fits l x = true
  · rw [if_pos hc]
  · rw [if_neg hc] at l2
    rw [List.append_nil] at l2
    omega
/-- The giving with a rank stands at its place. -/
theorem gv_at {F : List Int} {fits : List Int → Nat → Bool} (hf : FitG F fits) {r : Nat} (h0 : r < bhN F 0) : ∀ k, k ≤ F.length → (goOn fits F.length F.length []).getD r [] = (goOn fits F.length (F.length - k) (gvAt F r k).1).getD (gvAt F r k).2 []
  | 0, _ => rfl
  | k + 1, hk => by
    have h := gv_ok h0 k (by omega)
    obtain ⟨x, hx, h1, h2⟩ := gv_x h (by omega)
    have hl := h.2.1
    rw [gv_at hf h0 k (by omega), gvAt, gvX_eq hx h1 h2]
    have e : F.length - k = F.length - (k + 1) + 1 := by omega
    have hs := goG_step hf (u := F.length - (k + 1)) (l := (gvAt F r k).1) (r := (gvAt F r k).2) (x := x) h.1 (by omega) hx (by rw [hl]; exact h1) (by rw [hl]; exact h2)
    rw [e, hs, hl]
theorem gv_last {F : List Int} {r : Nat} (h0 : r < bhN F 0) : (gvAt F r F.length).2 = 0 := by
  have h := gv_ok h0 F.length (Nat.le_refl _)
  have h1 := (setB_ok h.1).2.1
  have h2 := h.2.1
  have h3 := h.2.2
  rw [bhN_full (out_zero F.length (by omega))] at h3
  omega
theorem all_at {F : List Int} {fits : List Int → Nat → Bool} (hf : FitG F fits) {r : Nat} (h0 : r < bhN F 0) : (goOn fits F.length F.length []).getD r [] = (gvAt F r F.length).1 := by
  rw [gv_at hf h0 F.length (Nat.le_refl _), gv_last h0, Nat.sub_self]
  rfl
theorem all_len {F : List Int} {fits : List Int → Nat → Bool} (hf : FitG F fits) : (goOn fits F.length F.length []).length = bhN F 0 :=
  goG_len hf F.length [] ⟨List.nodup_nil, fun x hx => by cases hx⟩ (by simp)
theorem gv_take (F : List Int) (r k : Nat) : ∀ d, (gvAt F r (k + d)).1.take k = (gvAt F r k).1
  | 0 => List.take_of_length_le (by rw [Nat.add_zero, gv_len]; exact Nat.le_refl _)
  | d + 1 => by
    rw [← Nat.add_assoc, gvAt]
    show ((gvAt F r (k + d)).1 ++ _).take k = _
    rw [List.take_append_of_le_length (by rw [gv_len]; omega), gv_take F r k d]
/-- The giving at a place has the rank of the place, however its rank is summed up. -/
theorem gv_rank {F : List Int} {r : Nat} (h0 : r < bhN F 0) (R : Nat → Nat) (hz : R 0 = 0) (hs : ∀ k, R (k + 1) = R k + bhTo F (bhN F) k (setB ((gvAt F r F.length).1.take k)) ((gvAt F r F.length).1.getD k 0).toNat) : ∀ k, k ≤ F.length → R k + (gvAt F r k).2 = r
  | 0, _ => by rw [hz]; exact Nat.zero_add _
  | k + 1, hk => by
    have ih := gv_rank h0 R hz hs k (by omega)
    have h := gv_ok h0 k (by omega)
    obtain ⟨x, hx, h1, h2⟩ := gv_x h (by omega)
    have t1 := gv_take F r k (F.length - k)
    have t2 := gv_take F r (k + 1) (F.length - (k + 1))
    rw [show k + (F.length - k) = F.length by omega] at t1
    rw [show k + 1 + (F.length - (k + 1)) = F.length by omega] at t2
    have hg : (gvAt F r F.length).1.getD k 0 = (x : Int) := by
      have e : ((gvAt F r F.length).1.take (k + 1)).getD k 0 = (gvAt F r F.length).1.getD k 0 := by
        simp [List.getD_eq_getElem?_getD]
      rw [← e, t2, gvAt, gvX_eq hx h1 h2]
      have hl := gv_len F r k
      simp [List.getD_eq_getElem?_getD, hl]
    rw [hs, t1, hg, Int.toNat_natCast, gvAt, gvX_eq hx h1 h2]
    show R k + _ + ((gvAt F r k).2 - _) = r
    omega
theorem gv_rank_all {F : List Int} {r : Nat} (h0 : r < bhN F 0) (R : Nat → Nat) (hz : R 0 = 0) (hs : ∀ k, R (k + 1) = R k + bhTo F (bhN F) k (setB ((gvAt F r F.length).1.take k)) ((gvAt F r F.length).1.getD k 0).toNat) : R F.length = r := by
  have := gv_rank h0 R hz hs F.length (Nat.le_refl _)
  rw [gv_last h0] at this
  omega
/-- What comes next behind the one at a place stands at the next place. -/
theorem gv_next {F : List Int} {fits : List Int → Nat → Bool} (hf : FitG F fits) {r : Nat} (h0 : r < bhN F 0) : (goOn fits F.length F.length []).find? (fun m => comesB (gvAt F r F.length).1 m) = if r + 1 < bhN F 0 then some (gvAt F (r + 1) F.length).1 else none := by
  have hl := all_len hf
  have h := find_sorted (goOn_sorted fits F.length F.length []) (j := r) (by omega)
  rw [all_at hf h0] at h
  rw [h]
  by_cases hc : r + 1 < bhN F 0
  · rw [if_pos hc]
    have ha := all_at hf hc
    rw [← ha]
    have hlt : r + 1 < (goOn fits F.length F.length []).length := by omega
    simp [hlt]
  · rw [if_neg hc]
    exact List.getElem?_eq_none (by omega)
/-- What stands in the list of all: guests each once, none of the own family. -/
theorem goG_sub {F : List Int} {fits : List Int → Nat → Bool} (hf : FitG F fits) : ∀ (u : Nat) (l m : List Int), m ∈ goOn fits F.length u l → SetOk F.length l → (∀ k, k < l.length → F.getD k 0 ≠ F.getD (l.getD k 0).toNat 0) → SetOk F.length m ∧ ∀ k, k < m.length → F.getD k 0 ≠ F.getD (m.getD k 0).toNat 0
  | 0, l, m, h, h1, h2 => by
    obtain rfl : m = l := by simpa [goOn] using h
    exact ⟨h1, h2⟩
  | u + 1, l, m, h, h1, h2 => by
    rw [goOn, List.mem_flatMap] at h
    obtain ⟨x, hx, hm⟩ := h
    rw [List.mem_filter, List.mem_range] at hx
    have hc := (fit_iff hf l x).1 hx.2
    refine goG_sub hf u (l ++ [(x : Int)]) m hm (setOk_snoc h1 hx.1 hc.2) fun k hk => ?_
    rw [List.length_append, List.length_singleton] at hk
    by_cases e : k < l.length
    · rw [getD_l e]; exact h2 k e
    · obtain rfl : k = l.length := by omega
      rw [getD_r (Nat.le_refl _), Nat.sub_self]
      simpa using hc.1
/-- And all such lists stand in it. -/
theorem goG_sup {F : List Int} {fits : List Int → Nat → Bool} (hf : FitG F fits) {m : List Int} (h1 : SetOk F.length m) (hl : m.length = F.length) (h2 : ∀ k, k < m.length → F.getD k 0 ≠ F.getD (m.getD k 0).toNat 0) : ∀ u, u ≤ F.length → m ∈ goOn fits F.length u (m.take (F.length - u))
  | 0, _ => by
    rw [Nat.sub_zero, ← hl, List.take_length]
    simp [goOn]
  | u + 1, hu => by
    have ih := goG_sup hf h1 hl h2 u (by omega)
    obtain ⟨k, hk⟩ : ∃ k, k = F.length - (u + 1) := ⟨_, rfl⟩
    rw [← hk]
    rw [show F.length - u = k + 1 by omega] at ih
    have hkm : k < m.length := by omega
    have hg : m.getD k 0 = m[k] := by simp [hkm]
    have ht : m.take (k + 1) = m.take k ++ [m.getD k 0] := by
      rw [List.take_succ_eq_append_getElem hkm, hg]
    have hr := h1.2 (m.getD k 0) (by rw [hg]; exact List.getElem_mem hkm)
    have hno := h2 k hkm
    obtain ⟨x, hx⟩ := Int.eq_ofNat_of_zero_le hr.1
    have hnd : (m.take k ++ [m.getD k 0]).Nodup := by rw [← ht]; exact h1.1.sublist (List.take_sublist _ _)
    rw [ht, hx] at ih
    rw [hx] at hr hno hnd
    rw [List.nodup_append] at hnd
    have hlen : (m.take k).length = k := by rw [List.length_take]; omega
    rw [goOn, List.mem_flatMap]
    refine ⟨x, ?_, ih⟩
    rw [List.mem_filter, List.mem_range]
    refine ⟨by omega, (fit_iff hf _ _).2 ⟨?_, fun hm => hnd.2.2 _ hm _ (List.mem_singleton.2 rfl) rfl⟩⟩
    rw [hlen]
    simpa using hno
theorem goG_mem {F : List Int} {fits : List Int → Nat → Bool} (hf : FitG F fits) (m : List Int) : m ∈ goOn fits F.length F.length [] ↔ (SetOk F.length m ∧ m.length = F.length) ∧ ∀ k, k < m.length → F.getD k 0 ≠ F.getD (m.getD k 0).toNat 0 := by
  refine ⟨fun h => ?_, fun h => ?_⟩
  · obtain ⟨h1, h2⟩ := goG_sub hf F.length [] m h ⟨List.nodup_nil, fun x hx => by cases hx⟩ (fun k hk => by cases hk)
    obtain ⟨t, rfl, ht⟩ := goOn_shape fits F.length _ _ _ h
    exact ⟨⟨h1, by simpa using ht⟩, h2⟩
  · have := goG_sup hf h.1.1 h.1.2 h.2 F.length (Nat.le_refl _)
    rwa [Nat.sub_self, List.take_zero] at this
end Go.Proofs.Ytbeflnnejofleaa
namespace Go.Proofs.Ytbeflnnejofleaa
variable [Go.Am.CodeBlk]
open Go.Am
theorem fitG (F : List Int) : FitG F (fitsG F) := fun _ _ => rfl
theorem giv_in {F L : List Int} (hF : IsFam F) : L ∈ goOn (fitsG F) F.length F.length [] ↔ Givers F L ∧ apart F L := by
  rw [goG_mem (fitG F)]
  have h1 := hF.1
  have h9 := hF.2.1
  refine ⟨fun h => ⟨⟨hF, ⟨by omega, by omega, fun x hx => ?_, h.1.1.1⟩, by omega⟩, h.2⟩, fun h => ⟨⟨givers_ok h.1, h.1.2.2.symm⟩, h.2⟩⟩
  have := h.1.1.2 x hx
  have := h.1.2
  omega
theorem gv_giv {F : List Int} (hF : IsFam F) {r : Nat} (h0 : r < bhN F 0) : Givers F (gvAt F r F.length).1 ∧ apart F (gvAt F r F.length).1 := by
  rw [← giv_in hF, ← all_at (fitG F) h0]
  have hl := all_len (fitG F)
  have hr : r < (goOn (fitsG F) F.length F.length []).length := by omega
  simp [hr]
theorem gv_rk {F : List Int} (_hF : IsFam F) {r : Nat} (h0 : r < bhN F 0) : rkTo F (gvAt F r F.length).1 F.length = r := gv_rank_all h0 (rkTo F (gvAt F r F.length).1) rfl fun _ => rfl
/-- A giving stands at the place that its rank tells. -/
theorem rk_gv {F L : List Int} (h : Givers F L) (ha : apart F L) : rkTo F L F.length < bhN F 0 ∧ (gvAt F (rkTo F L F.length) F.length).1 = L := by
  have hm := (giv_in h.1).2 ⟨h, ha⟩
  obtain ⟨j, hj, hg⟩ := List.mem_iff_getElem.1 hm
  have hl := all_len (fitG F)
  have h0 : j < bhN F 0 := by omega
  have e := all_at (fitG F) h0
  have e2 : (goOn (fitsG F) F.length F.length []).getD j [] = L := by simp [hj, hg]
  rw [e2] at e
  have hr := gv_rk h.1 h0
  rw [← e] at hr
  rw [hr]
  exact ⟨h0, e.symm⟩
/-- The giving with a rank: it is one, it has the rank, and what comes next is the one with the next rank. -/
theorem gr_facts {F : List Int} {r : Int} (h : GrOk F r) : Givers F (grR F r) ∧ apart F (grR F r) ∧ rkR F (grR F r) = r := by
  have e : grR F r = (gvAt F r.toNat F.length).1 := if_pos h
  have h0 : r.toNat < bhN F 0 := by have := h.2.1; have := h.2.2; omega
  obtain ⟨h1, h2⟩ := gv_giv h.1 h0
  rw [e]
  refine ⟨h1, h2, ?_⟩
  have hr := gv_rk h.1 h0
  unfold rkR
  rw [if_pos ⟨h1, h2⟩, ← h1.2.2, hr]
  have := h.2.1
  omega
theorem rk_facts {F L : List Int} (h : Givers F L) (ha : apart F L) : GrOk F (rkR F L) ∧ grR F (rkR F L) = L ∧ nextG F L = if GrOk F (rkR F L + 1) then some (grR F (rkR F L + 1)) else none := by
  obtain ⟨h1, h2⟩ := rk_gv h ha
  have e : rkR F L = ((rkTo F L F.length : Nat) : Int) := by unfold rkR; rw [if_pos ⟨h, ha⟩, ← h.2.2]
  have ho : GrOk F (rkR F L) := ⟨h.1, by omega, by omega⟩
  refine ⟨ho, ?_, ?_⟩
  · unfold grR
    rw [if_pos ho, e, Int.toNat_natCast, h2]
  · have hn := gv_next (fitG F) h1
    rw [h2] at hn
    have e3 : nextG F L = (goOn (fitsG F) F.length F.length []).find? (fun m => comesB L m) := if_pos h
    rw [e3, hn]
    by_cases hc : rkTo F L F.length + 1 < bhN F 0
    · have ho2 : GrOk F (rkR F L + 1) := ⟨h.1, by omega, by omega⟩
      rw [if_pos hc, if_pos ho2]
      unfold grR
      rw [if_pos ho2, e, show (((rkTo F L F.length : Nat) : Int) + 1).toNat = rkTo F L F.length + 1 by omega]
    · rw [if_neg hc, if_neg fun hh => hc (by have := hh.2.2; omega)]
/-- What comes next is a giving that comes behind. -/
theorem next_facts {F L N : List Int} (h : nextG F L = some N) : Givers F L ∧ Givers F N ∧ apart F N ∧ comesB L N = true := by
  unfold nextG at h
  by_cases hg : Givers F L
  · rw [if_pos hg] at h
    have hm := (giv_in hg.1).1 (List.mem_of_find?_eq_some h)
    exact ⟨hg, hm.1, hm.2, List.find?_some h⟩
  · rw [if_neg hg] at h
    cases h
end Go.Proofs.Ytbeflnnejofleaa
namespace Go.Am
variable [Go.Am.CodeBlk]
/-- What a table is. -/
def IsTab (L : List Int) : Prop := 2 ≤ L.length ∧ L.length ≤ 14 ∧ L.length % 2 = 0 ∧ (∀ x ∈ L, 0 ≤ x ∧ x < L.length) ∧ L.Nodup
instance (L : List Int) : Decidable (IsTab L) := inferInstanceAs (Decidable (_ ∧ _ ∧ _ ∧ _ ∧ _))
theorem pig_le : ∀ (l m : List Int), l.Nodup → (∀ x ∈ l, x ∈ m) → l.length ≤ m.length
  | [], _, _, _ => Nat.zero_le _
  | a :: l, m, hn, hs => by
    rw [List.nodup_cons] at hn
    have ha : a ∈ m := hs a (List.mem_cons_self ..)
    have h1 := pig_le l (m.erase a) hn.2 fun x hx => (List.mem_erase_of_ne (show x ≠ a from fun e => hn.1 (e ▸ hx))).2 (hs x (List.mem_cons_of_mem _ hx))
    rw [List.length_erase_of_mem ha] at h1
    have := List.length_pos_of_mem ha
    simp only [List.length_cons]
    omega
end Go.Am
namespace Go.Proofs.Ytbeflnnejofleaa
variable [Go.Am.CodeBlk]
open Go.Am
/-- The sum of what is told of the numbers below one. -/
def sumZ (h : Nat → Int) : Nat → Int
  | 0 => 0
  | g + 1 => sumZ h g + h g
theorem sumZ_add (h k : Nat → Int) : ∀ m, sumZ (fun g => h g + k g) m = sumZ h m + sumZ k m
  | 0 => rfl
  | m + 1 => by simp only [sumZ]; rw [sumZ_add h k m]; omega
theorem sumZ_zero {h : Nat → Int} : ∀ m, (∀ g < m, h g = 0) → sumZ h m = 0
  | 0, _ => rfl
  | m + 1, hh => by simp only [sumZ]; rw [sumZ_zero m fun g hg => hh g (by omega), hh m (by omega)]; rfl
theorem sumZ_one {h : Nat → Int} {a : Nat} : ∀ m, a < m → (∀ g < m, g ≠ a → h g = 0) → sumZ h m = h a
  | 0, ha, _ => absurd ha (by omega)
  | m + 1, ha, hh => by
    simp only [sumZ]
    by_cases e : a = m
    · subst e
      rw [sumZ_zero a fun g hg => hh g (by omega) (by omega)]; omega
    · rw [sumZ_one m (by omega) fun g hg hne => hh g (by omega) hne, hh m (by omega) (fun hm => e hm.symm)]; omega
theorem row_sum {F L : List Int} {m f : Nat} : ∀ k, k ≤ F.length → (∀ i, i < k → ∃ a : Nat, F.getD (L.getD i 0).toNat 0 = a ∧ a < m) → sumZ (fun g => gcnt F L f g k) m = cntI (F.take k) f
  | 0, _, _ => by
    rw [sumZ_zero (h := fun g => gcnt F L f g 0) m fun g _ => rfl]
    simp [cntI]
  | k + 1, hk, hr => by
    obtain ⟨a, ha, ham⟩ := hr k (by omega)
    have ih := row_sum (m := m) (f := f) k (by omega) fun i hi => hr i (by omega)
    have e : sumZ (fun g => gcnt F L f g (k + 1)) m = sumZ (fun g => gcnt F L f g k) m + sumZ (fun g => if F.getD k 0 = f ∧ F.getD (L.getD k 0).toNat 0 = (g : Int) then 1 else 0) m := sumZ_add _ _ m
    have ht : F.take (k + 1) = F.take k ++ [F.getD k 0] := by
      rw [List.take_succ_eq_append_getElem (show k < F.length by omega)]
      simp [show k < F.length by omega]
    rw [e, ih, ht, cntI_snoc, sumZ_one (a := a) m ham fun g _ hne => if_neg fun hh => hne (by have := hh.2; rw [ha] at this; omega)]
    congr 1
    by_cases hf : F.getD k 0 = (f : Int)
    · rw [if_pos hf, if_pos ⟨hf, ha⟩]
    · rw [if_neg hf, if_neg fun hh => hf hh.1]
theorem col_sum {F L : List Int} {m g : Nat} : ∀ k, k ≤ L.length → (∀ i, i < k → ∃ a : Nat, F.getD i 0 = a ∧ a < m) → sumZ (fun f => gcnt F L f g k) m = cntI ((L.take k).map fun x => F.getD x.toNat 0) g
  | 0, _, _ => by
    rw [sumZ_zero (h := fun f => gcnt F L f g 0) m fun g _ => rfl]
    simp [cntI]
  | k + 1, hk, hr => by
    obtain ⟨a, ha, ham⟩ := hr k (by omega)
    have ih := col_sum (F := F) (L := L) (m := m) (g := g) k (by omega) fun i hi => hr i (by omega)
    have e : sumZ (fun f => gcnt F L f g (k + 1)) m = sumZ (fun f => gcnt F L f g k) m + sumZ (fun (f : Nat) => if F.getD k 0 = (f : Int) ∧ F.getD (L.getD k 0).toNat 0 = (g : Int) then 1 else 0) m := sumZ_add _ _ m
    have ht : L.take (k + 1) = L.take k ++ [L.getD k 0] := by
      rw [List.take_succ_eq_append_getElem (show k < L.length by omega)]
      simp [show k < L.length by omega]
    rw [e, ih, ht, List.map_append, List.map_singleton, cntI_snoc, sumZ_one (a := a) m ham fun f _ hne => if_neg fun hh => hne (by have := hh.1; rw [ha] at this; omega)]
    congr 1
    by_cases hf : F.getD (L.getD k 0).toNat 0 = (g : Int)
    · rw [if_pos hf, if_pos ⟨ha, hf⟩]
    · rw [if_neg hf, if_neg fun hh => hf hh.2]
theorem ex_perm {L : List Int} (h : IsEx L) : L.Perm ((List.range L.length).map fun (i : Nat) => (i : Int)) := by
  have hsub : ∀ x ∈ L, x ∈ (List.range L.length).map fun (i : Nat) => (i : Int) := fun x hx => by
    have hr := h.2.2.1 x hx
    exact List.mem_map.2 ⟨x.toNat, List.mem_range.2 (by omega), by omega⟩
  have hnd : ((List.range L.length).map fun (i : Nat) => (i : Int)).Nodup := List.Pairwise.map _ (fun a b (hab : a ≠ b) e => hab (by omega)) List.nodup_range
  refine (List.perm_ext_iff_of_nodup h.2.2.2 hnd).2 fun a => ⟨hsub a, fun ha => Classical.byContradiction fun hn => ?_⟩
  have h1 := pig_le L (((List.range L.length).map fun (i : Nat) => (i : Int)).erase a) h.2.2.2 fun x hx => (List.mem_erase_of_ne (fun (e : x = a) => hn (e ▸ hx))).2 (hsub x hx)
  rw [List.length_erase_of_mem ha, List.length_map, List.length_range] at h1
  have := h.1
  omega
theorem fam_map (F : List Int) : (((List.range F.length).map fun (i : Nat) => (i : Int)).map fun x => F.getD x.toNat 0) = F := by
  apply List.ext_getElem?
  intro i
  by_cases hi : i < F.length
  · simp [hi]
  · simp [hi]
/-- Rows and columns of a giving add up to the families' sizes. -/
theorem gifts_sum {F L : List Int} (h : Givers F L) {f : Nat} : sumZ (fun g => gcnt F L f g L.length) (famN F).toNat = cntI F f ∧ sumZ (fun g => gcnt F L g f L.length) (famN F).toNat = cntI F f := by
  have hr : ∀ i, i < F.length → ∃ a : Nat, F.getD i 0 = a ∧ a < (famN F).toNat := fun i hi => by
    have hm := fam_range h.1 (getD_mem hi)
    exact ⟨(F.getD i 0).toNat, by omega, by omega⟩
  refine ⟨?_, ?_⟩
  · rw [← h.2.2, row_sum F.length (Nat.le_refl _) fun i hi => ?_, List.take_length]
    have hx := h.2.1.2.2.1 _ (getD_mem (show i < L.length by rw [← h.2.2]; exact hi))
    exact hr _ (by have := h.2.2; omega)
  · rw [col_sum L.length (Nat.le_refl _) fun i hi => hr i (by rw [h.2.2]; exact hi), List.take_length]
    have hp := (ex_perm h.2.1).map fun x => F.getD x.toNat 0
    rw [← h.2.2, fam_map] at hp
    unfold cntI
    rw [hp.count_eq]
/-- No family gives to itself. -/
theorem gifts_none {F L : List Int} (h : apart F L) (f : Nat) : ∀ k, k ≤ L.length → gcnt F L f f k = 0
  | 0, _ => rfl
  | k + 1, hk => by
    simp only [gcnt]
    rw [gifts_none h f k (by omega), if_neg fun hh => h k (by omega) (hh.1.trans hh.2.symm)]
    rfl
end Go.Proofs.Ytbeflnnejofleaa
namespace Go.Proofs.Ytbeflnnejofleaa
variable [Go.Am.CodeBlk]
open Go.Am
theorem ex_at {L : List Int} (h : IsEx L) {i : Nat} (hi : i < L.length) : ∃ x : Nat, L.getD i 0 = x ∧ x < L.length := by
  have hr := h.2.2.1 _ (getD_mem hi)
  exact ⟨(L.getD i 0).toNat, by omega, by omega⟩
theorem ex_inj' {L : List Int} (h : IsEx L) {i j : Nat} (hi : i < L.length) (hj : j < L.length) (e : L.getD i 0 = L.getD j 0) : i = j := by
  have e1 : L.getD i 0 = L[i] := by simp [hi]
  have e2 : L.getD j 0 = L[j] := by simp [hj]
  rw [e1, e2] at e
  have hp := List.pairwise_iff_getElem.1 (List.nodup_iff_pairwise_ne.1 h.2.2.2)
  rcases Nat.lt_trichotomy i j with c | c | c
  · exact absurd e (hp i j hi hj c)
  · exact c
  · exact absurd e.symm (hp j i hj hi c)
theorem bw_at {L : List Int} (h : IsEx L) : ∀ k, k ≤ L.length → ∀ i, i < k → (backW L k).getD (L.getD i 0).toNat 0 = (i : Int)
  | 0, _, i, hi => absurd hi (by omega)
  | k + 1, hk, i, hi => by
    obtain ⟨x, hx, hxl⟩ := ex_at h (show k < L.length by omega)
    rw [backW_succ L k x hx]
    have hb := backW_len L k
    by_cases e : i = k
    · subst e
      rw [hx, Int.toNat_natCast, List.getD_eq_getElem?_getD, List.getElem?_set_self (by omega)]
      rfl
    · obtain ⟨y, hy, hyl⟩ := ex_at h (show i < L.length by omega)
      have hne : x ≠ y := fun hxy => e (ex_inj' h (by omega) (by omega) (by rw [hx, hy, hxy]))
      have ih := bw_at h k (by omega) i (by omega)
      rw [hy, Int.toNat_natCast] at ih ⊢
      rw [List.getD_eq_getElem?_getD, List.getElem?_set_ne hne, ← List.getD_eq_getElem?_getD]
      exact ih
theorem ex_sur {L : List Int} (h : IsEx L) {j : Nat} (hj : j < L.length) : ∃ i, i < L.length ∧ L.getD i 0 = (j : Int) := by
  have hm : (j : Int) ∈ L := (ex_perm h).mem_iff.2 (List.mem_map.2 ⟨j, List.mem_range.2 hj, rfl⟩)
  obtain ⟨i, hi, he⟩ := List.mem_iff_getElem.1 hm
  exact ⟨i, hi, by simp [hi, he]⟩
theorem back_giv {F L : List Int} (h : Givers F L) (ha : apart F L) : Givers F (backRes L) ∧ apart F (backRes L) := by
  have hx := h.2.1
  have e : backRes L = backW L L.length := if_pos hx
  have hb := backW_len L L.length
  have hat := bw_at hx L.length (Nat.le_refl _)
  rw [e]
  have key : ∀ j, j < L.length → ∃ i, i < L.length ∧ L.getD i 0 = (j : Int) ∧ (backW L L.length).getD j 0 = (i : Int) := fun j hj => by
    obtain ⟨i, hi, hij⟩ := ex_sur hx hj
    have := hat i hi
    rw [hij, Int.toNat_natCast] at this
    exact ⟨i, hi, hij, this⟩
  generalize backW L L.length = B at *
  have hB : IsEx B := by
    refine ⟨by have := hx.1; omega, by have := hx.2.1; omega, fun x hxm => ?_, ?_⟩
    · obtain ⟨j, hj, he⟩ := List.mem_iff_getElem.1 hxm
      obtain ⟨i, hi, _, h2⟩ := key j (by omega)
      have e1 : B.getD j 0 = B[j] := by simp [hj]
      rw [e1, he] at h2
      omega
    · rw [List.nodup_iff_pairwise_ne, List.pairwise_iff_getElem]
      intro i j hi hj hij he
      obtain ⟨a, _, a1, a2⟩ := key i (by omega)
      obtain ⟨b, _, b1, b2⟩ := key j (by omega)
      have e1 : B.getD i 0 = B[i] := by simp [hi]
      have e2 : B.getD j 0 = B[j] := by simp [hj]
      rw [e1] at a2
      rw [e2] at b2
      have : a = b := by have := a2.symm.trans (he.trans b2); omega
      subst this
      have := a1.symm.trans b1
      omega
  refine ⟨⟨h.1, hB, by rw [h.2.2, hb]⟩, fun j hj => ?_⟩
  obtain ⟨i, hi, h1, h2⟩ := key j (by omega)
  have := ha i hi
  rw [h1, Int.toNat_natCast] at this
  rw [h2, Int.toNat_natCast]
  exact fun hh => this hh.symm
end Go.Proofs.Ytbeflnnejofleaa
namespace Go.Proofs.Ytbeflnnejofleaa
variable [Go.Am.CodeBlk]
open Go.Am
attribute [local irreducible] AW Outs Weak Lends Lend Sp aops atree aop1 Then Round InBlock Done
attribute [local irreducible] SpH DoneH
theorem sum_take' (K : List Int) (k : Nat) (hk : k < K.length) : (K.take (k + 1)).sum = (K.take k).sum + K.getD k 0 := by
  rw [List.take_succ_eq_append_getElem hk, List.sum_append]
  simp [hk]
theorem sum_bd9 {K : List Int} (h : ∀ x ∈ K, 0 ≤ x ∧ x ≤ 9) : ∀ k, k ≤ K.length → 0 ≤ (K.take k).sum ∧ (K.take k).sum ≤ 9 * k
  | 0, _ => by simp
  | k + 1, hk => by
    have ih := sum_bd9 h k (by omega)
    have hx := h _ (getD_mem (show k < K.length by omega))
    rw [sum_take' K k (by omega)]
    omega
theorem vSum_spec (K : List Int) (h12 : K.length ≤ 12) (h : ∀ x ∈ K, 0 ≤ x ∧ x ≤ 9) : Sp Try.prog 21 [ints K] (.i K.sum) := by
  refine spec_of Try.func21 rfl cc21 rfl ?_
  unfold ac21
  repeat (first | (refine step_ops ?_; (first | (refine m_mov (by conv => lhs; whnf) ?_) | (refine m_len_ro rfl ?_))) | refine end_ops ?_ | refine seq_ops ?_ | refine AW_seq ?_ | refine AW_block ?_)
  refine AW_loop (α := Nat) (fun k => k ≤ K.length) (fun k => st [(3, .i (K.take k).sum), (6, ints K), (7, .i K.length), (8, .i k)] []) (fun k => K.length - k) 0 (by omega) (weak_st ?_ ?_ rfl rfl) ?_
  · (repeat' (first | exact trivial | refine And.intro ?_ ?_)) <;> (first | rfl | skip)
  · trivial
  intro k hk
  have hb := sum_bd9 h k hk
  by_cases hc : k < K.length
  · have hx := h _ (getD_mem hc)
    have hs := sum_take' K k hc
    generalize (K.take k).sum = a at *
    repeat (first | (refine step_ops ?_; (first | (refine m_mov (by conv => lhs; whnf) ?_) | (refine m_lss rfl rfl ?_) | (refine m_add rfl rfl ?_ ?_ ?_; (· omega); (· omega)) | (refine m_idx1_ro rfl rfl ?_ ?_; (· omega)) | (refine m_ld_rpi rfl ?_ ?_; (· omega)))) | refine end_ops ?_ | refine seq_ops ?_ | refine AW_ops ?_ | (refine cond_t rfl ?_ ?_; (· (refine decide_eq_true ?_; omega))) | refine skip_then ?_ | refine AW_seq ?_ | refine norm_then ?_ | refine AW_block ?_ | refine norm_block ?_)
    refine next_round (k + 1) (by omega) (weak_st ?_ ?_ rfl rfl) ?_
    · rw [hs]
      (repeat' (first | exact trivial | refine And.intro ?_ ?_)) <;> (first | rfl | skip)
    · trivial
    · omega
  · obtain rfl : k = K.length := by omega
    rw [List.take_length] at hb ⊢
    repeat (first | (refine step_ops ?_; (first | (refine m_mov (by conv => lhs; whnf) ?_) | (refine m_lss rfl rfl ?_))) | refine end_ops ?_ | refine seq_ops ?_ | (refine cond_f rfl ?_ ?_; (· (refine decide_eq_false ?_; omega))) | refine AW_seq ?_ | refine AW_ret ?_ | refine ret_done ?_ | refine norm_then ?_ | refine exit_then ?_ | refine exit_round ?_ | refine AW_exit ?_ | refine exit_block ?_)
    exact outs_i rfl
/-- A row's sum, asx the sum of what is told of the numbers below one. -/
theorem sum_map (h : Nat → Int) : ∀ m, ((List.range m).map h).sum = sumZ h m
  | 0 => rfl
  | m + 1 => by rw [List.range_succ, List.map_append, List.sum_append, sum_map h m]; simp [sumZ]
theorem grow_sum (F L : List Int) (m f k : Nat) : (growF F L m f k).sum = sumZ (fun g => gcnt F L f g k) m := sum_map _ m
end Go.Proofs.Ytbeflnnejofleaa
namespace Go.Proofs.Ytbeflnnejofleaa
variable [Go.Am.CodeBlk]
open Go.Am
attribute [local irreducible] AW Outs Weak Lends Lend Sp aops atree aop1 Then Round InBlock Done
attribute [local irreducible] SpH DoneH
theorem cb_step {a b : List Int} {k : Nat} (h1 : k < a.length) (h2 : k < b.length) : comesB (a.drop k) (b.drop k) = if a.getD k 0 = b.getD k 0 then comesB (a.drop (k + 1)) (b.drop (k + 1)) else decide (a.getD k 0 < b.getD k 0) := by
  rw [List.drop_eq_getElem_cons h1, List.drop_eq_getElem_cons h2]
  simp [comesB, h1, h2]
theorem vBefore_spec (a b : List Int) (ha : a.length ≤ 1048576) (hb : b.length = a.length) : Sp Try.prog 17 [ints a, ints b] (.b (comesB a b)) := by
  have h0 : comesB (a.drop 0) (b.drop 0) = comesB a b := rfl
  generalize comesB a b = T at h0 ⊢
  refine spec_of Try.func17 rfl cc17 rfl ?_
  unfold ac17
  repeat (first | (refine step_ops ?_; (first | (refine m_mov (by conv => lhs; whnf) ?_) | (refine m_len_ro rfl ?_))) | refine end_ops ?_ | refine seq_ops ?_ | refine AW_seq ?_ | refine AW_block ?_)
  refine AW_loop (α := Nat) (fun k => k ≤ a.length ∧ comesB (a.drop k) (b.drop k) = T) (fun k => st [(0, ints a), (1, ints b), (7, ints a), (8, .i a.length), (9, .i (k : Nat))] []) (fun k => a.length - k) 0 ⟨Nat.zero_le _, h0⟩ (weak_st ?_ ?_ rfl rfl) ?_
  · (repeat' (first | exact trivial | refine And.intro ?_ ?_)) <;> (first | rfl | skip)
  · trivial
  rintro k ⟨hk, he⟩
  by_cases hc : k < a.length
  · rw [cb_step hc (by omega)] at he
    by_cases hx : a.getD k 0 = b.getD k 0
    · rw [if_pos hx] at he
      repeat (first | (refine step_ops ?_; (first | (refine m_mov (by conv => lhs; whnf) ?_) | (refine m_lss rfl rfl ?_) | (refine m_neq rfl rfl ?_) | (refine m_add rfl rfl ?_ ?_ ?_; (· omega); (· omega)) | (refine m_idx1_ro rfl rfl ?_ ?_; (· omega)) | (refine m_ld_rpi rfl ?_ ?_; (· omega)))) | refine end_ops ?_ | refine seq_ops ?_ | refine AW_ops ?_ | (refine cond_t rfl ?_ ?_; (· (refine decide_eq_true ?_; omega))) | (refine cond_f rfl ?_ ?_; (· (refine decide_eq_false ?_; omega))) | refine skip_then ?_ | refine AW_seq ?_ | refine norm_then ?_ | refine AW_block ?_ | refine norm_block ?_ | refine AW_skip ?_)
      refine next_round (k + 1) ⟨hc, he⟩ (weak_st ?_ ?_ rfl rfl) ?_
      · (repeat' (first | exact trivial | refine And.intro ?_ ?_)) <;> (first | rfl | skip)
      · trivial
      · omega
    · rw [if_neg hx] at he
      repeat (first | (refine step_ops ?_; (first | (refine m_mov (by conv => lhs; whnf) ?_) | (refine m_lss rfl rfl ?_) | (refine m_neq rfl rfl ?_) | (refine m_idx1_ro rfl rfl ?_ ?_; (· omega)) | (refine m_ld_rpi rfl ?_ ?_; (· omega)))) | refine end_ops ?_ | refine seq_ops ?_ | (refine cond_t rfl ?_ ?_; (· first | (refine decide_eq_true ?_; assumption) | (refine decide_eq_true ?_; omega))) | refine skip_then ?_ | refine AW_seq ?_ | refine AW_ret ?_ | refine ret_done ?_ | refine ret_then ?_ | refine AW_block ?_ | refine ret_block ?_ | refine ret_round ?_)
      exact outs_b he
  · rw [List.drop_of_length_le (by omega)] at he
    repeat (first | (refine step_ops ?_; (first | (refine m_mov (by conv => lhs; whnf) ?_) | (refine m_lss rfl rfl ?_))) | refine end_ops ?_ | refine seq_ops ?_ | (refine cond_f rfl ?_ ?_; (· (refine decide_eq_false ?_; omega))) | refine AW_seq ?_ | refine AW_ret ?_ | refine ret_done ?_ | refine norm_then ?_ | refine exit_then ?_ | refine exit_round ?_ | refine AW_exit ?_ | refine exit_block ?_)
    exact outs_b he
theorem vSame_self (L : List Int) (hL : L.length ≤ 1048576) : Sp Try.prog 15 [ints L, ints L] (.b true) := by
  refine spec_of Try.func15 rfl cc15 rfl ?_
  unfold ac15
  repeat (first | (refine step_ops ?_; (first | (refine m_mov (by conv => lhs; whnf) ?_) | (refine m_neq rfl rfl ?_) | (refine m_len_ro rfl ?_))) | refine end_ops ?_ | refine seq_ops ?_ | (refine cond_f rfl ?_ ?_; (· (refine decide_eq_false ?_; omega))) | refine skip_then ?_ | refine AW_seq ?_ | refine AW_block ?_)
  refine AW_loop (α := Nat) (fun k => k ≤ L.length) (fun k => st [(0, ints L), (1, ints L), (12, .i L.length), (13, .i k)] []) (fun k => L.length - k) 0 (by omega) (weak_st ?_ ?_ rfl rfl) ?_
  · (repeat' (first | exact trivial | refine And.intro ?_ ?_)) <;> (first | rfl | skip)
  · trivial
  intro k hk
  by_cases hc : k < L.length
  · repeat (first | ((first | refine step_ops ?_ | refine step_tree ?_); (first | (refine m_mov (by conv => lhs; whnf) ?_) | (refine m_lss rfl rfl ?_) | (refine m_neq rfl rfl ?_) | (refine m_add rfl rfl ?_ ?_ ?_; (· omega); (· omega)) | (refine m_idx1_ro rfl rfl ?_ ?_; (· omega)) | (refine m_ld_rpi rfl ?_ ?_; (· omega)))) | refine end_ops ?_ | refine seq_ops ?_ | refine AW_ops ?_ | refine end_tree ?_ | refine seq_tree ?_ | (refine cond_t rfl ?_ ?_; (· (refine decide_eq_true ?_; omega))) | (refine cond_f rfl ?_ ?_; (· (refine decide_eq_false ?_; omega))) | refine skip_then ?_ | refine AW_seq ?_ | refine norm_then ?_ | refine AW_block ?_ | refine norm_block ?_ | refine AW_skip ?_)
    refine next_round (k + 1) (by omega) (weak_st ?_ ?_ rfl rfl) ?_
    · (repeat' (first | exact trivial | refine And.intro ?_ ?_)) <;> (first | rfl | skip)
    · trivial
    · omega
  · repeat (first | (refine step_ops ?_; (first | (refine m_mov (by conv => lhs; whnf) ?_) | (refine m_lss rfl rfl ?_))) | refine end_ops ?_ | refine seq_ops ?_ | (refine cond_f rfl ?_ ?_; (· (refine decide_eq_false ?_; omega))) | refine AW_seq ?_ | refine AW_ret ?_ | refine ret_done ?_ | refine norm_then ?_ | refine exit_then ?_ | refine exit_round ?_ | refine AW_exit ?_ | refine exit_block ?_)
    exact outs_b rfl
theorem vRows_self (A : List (List Int)) (hA : A.length ≤ 1048576) (hr : ∀ r ∈ A, r.length ≤ 1048576) : Sp Try.prog 16 [roM A, roM A] (.b true) := by
  refine spec_of Try.func16 rfl cc16 rfl ?_
  unfold ac16
  repeat (first | (refine step_ops ?_; (first | (refine m_mov (by conv => lhs; whnf) ?_) | (refine m_neq rfl rfl ?_) | (refine m_len_ro rfl ?_))) | refine end_ops ?_ | refine seq_ops ?_ | (refine cond_f rfl ?_ ?_; (· (refine decide_eq_false ?_; omega))) | refine skip_then ?_ | refine AW_seq ?_ | refine AW_block ?_)
  refine AW_loop (α := Nat) (fun k => k ≤ A.length) (fun k => st [(0, roM A), (1, roM A), (11, roM A), (12, .i A.length), (13, .i k)] []) (fun k => A.length - k) 0 (by omega) (weak_st ?_ ?_ rfl rfl) ?_
  · (repeat' (first | exact trivial | refine And.intro ?_ ?_)) <;> (first | rfl | skip)
  · trivial
  intro k hk
  by_cases hc : k < A.length
  · have hm : (A.getD k []).length ≤ 1048576 := hr _ (by simp [hc])
    have hs := vSame_self (A.getD k []) hm
    repeat (first | ((first | refine step_ops ?_ | refine step_tree ?_); (first | (refine m_mov (by conv => lhs; whnf) ?_) | (refine m_lss rfl rfl ?_) | (refine m_idx1_ro rfl rfl ?_ ?_; (· omega)))) | refine end_ops ?_ | refine seq_ops ?_ | refine seq_tree ?_ | (refine cond_t rfl ?_ ?_; (· (refine decide_eq_true ?_; omega))) | refine skip_then ?_ | refine AW_seq ?_ | refine AW_block ?_)
    refine step_tree ?_
    refine m_ld_rp rfl (roM_at hc) ?_
    repeat (refine step_tree ?_; (first | (refine m_mov (by conv => lhs; whnf) ?_) | (refine m_idx1_ro rfl rfl ?_ ?_; (· omega))))
    refine step_tree ?_
    refine m_ld_rp rfl (roM_at hc) ?_
    skip
    refine step_tree ?_; (apply m_call (hs)); (· repeat (first | exact lends_nil | (refine lends_cons ?_ ?_; (· (refine lend_ints ?_; first | rfl | omega)))))
    repeat (first | ((first | refine step_ops ?_ | refine step_tree ?_); (first | (refine m_mov (by conv => lhs; whnf) ?_) | (refine m_add rfl rfl ?_ ?_ ?_; (· omega); (· omega)) | (refine m_not rfl ?_))) | refine end_ops ?_ | refine AW_ops ?_ | refine end_tree ?_ | (refine cond_f rfl ?_ ?_; (· rfl)) | refine norm_then ?_ | refine norm_block ?_ | refine AW_skip ?_)
    refine next_round (k + 1) (by omega) (weak_st ?_ ?_ rfl rfl) ?_
    · (repeat' (first | exact trivial | refine And.intro ?_ ?_)) <;> (first | rfl | skip)
    · trivial
    · omega
  · repeat (first | (refine step_ops ?_; (first | (refine m_mov (by conv => lhs; whnf) ?_) | (refine m_lss rfl rfl ?_))) | refine end_ops ?_ | refine seq_ops ?_ | (refine cond_f rfl ?_ ?_; (· (refine decide_eq_false ?_; omega))) | refine AW_seq ?_ | refine AW_ret ?_ | refine ret_done ?_ | refine norm_then ?_ | refine exit_then ?_ | refine exit_round ?_ | refine AW_exit ?_ | refine exit_block ?_)
    exact outs_b rfl
theorem sumZ_bd {h : Nat → Int} (hb : ∀ g, 0 ≤ h g ∧ h g ≤ 9) : ∀ m : Nat, 0 ≤ sumZ h m ∧ sumZ h m ≤ 9 * m
  | 0 => by simp [sumZ]
  | m + 1 => by
    have ih := sumZ_bd hb m
    have := hb m
    simp only [sumZ]
    omega
theorem roF_at {rows : List (List Int)} {k : Nat} (h : k < rows.length) : ((rows.map newInts).drop k)[0]? = some (newInts (rows.getD k [])) := by simp [h]
end Go.Proofs.Ytbeflnnejofleaa
namespace Go.Proofs.Ytbeflnnejofleaa
variable [Go.Am.CodeBlk]
open Go.Am
attribute [local irreducible] AW Outs Weak Lends Lend Sp aops atree aop1 Then Round InBlock Done
attribute [local irreducible] SpM DoneM SpH DoneH
/-- The second part of a code, the first one, the one that a condition leads to, and what is done of two. -/
def sndC : ACode → ACode
  | .seq _ y => y
  | c => c
def fstC : ACode → ACode
  | .seq x _ => x
  | c => c
def thnC : ACode → ACode
  | .cond _ x _ => x
  | c => c
def sndN : Nat → ACode → ACode
  | 0, c => c
  | n + 1, c => sndN n (sndC c)
theorem xor_self (b : Bool) : (true ^^ (b == b)) = false := by cases b <;> rfl
def glI : ACode := thnC (sndC (fstC (sndN 12 ac4)))
def glH : ACode := sndN 7 glI
def glL : ACode := sndN 6 glI
def glA : ACode := sndN 4 glI
theorem gl7 {F L f : List Int} {r : Int} (h : GbOk F L) (c : ACode) (hc : AW Try.prog (min Try.f4.ntmps pbase) c (st [(2, ints f), (3, .i r)] []) (Done [8].reverse (.b true))) :
    AW Try.prog (min Try.f4.ntmps pbase) glH (st [(0, ints F), (1, ints L), (2, ints f), (3, .i r)] []) (Then (fun s => AW Try.prog (min Try.f4.ntmps pbase) c s (Done [8].reverse (.b true))) (Done [8].reverse (.b true))) := by
  have h9 := h.1.1.2.1
  have hl := h.1.2.2
  have s1 := implBackExchange_spec L (by omega)
  rw [decide_eq_true h.1.2.1] at s1
  obtain ⟨b1, b2⟩ := back_giv h.1 h.2
  have hb := backRes_le L
  have s2 := implIsGiving_spec F (backRes L) (by omega) (by omega)
  unfold isGivingR at s2
  rw [decide_eq_true b1, decide_eq_true (⟨b1, b2⟩ : Givers F (backRes L) ∧ apart F (backRes L))] at s2
  unfold glH glI
  unfold ac4
  simp only [sndN, sndC, fstC, thnC]
  repeat (first | (refine step_ops ?_; (refine m_mov (by conv => lhs; whnf) ?_)) | refine seq_ops ?_)
  refine step_ops ?_; (apply m_call (s1)); (· repeat (first | exact lends_nil | (refine lends_cons ?_ ?_; (· (refine lend_ints ?_; first | rfl | omega)))))
  repeat (first | (refine step_ops ?_; (first | (refine m_mov (by conv => lhs; whnf) ?_) | (refine m_ext rfl rfl ?_))) | refine end_ops ?_ | refine seq_ops ?_)
  refine step_ops ?_; (apply m_call (s2)); (· repeat (first | exact lends_nil | (refine lends_cons ?_ ?_; (· (refine lend_ints ?_; first | rfl | omega)))))
  repeat (first | (refine step_ops ?_; ((try (refine g_yes rfl ?_ ?_; (· rfl))); (first | (refine m_mov (by conv => lhs; whnf) ?_) | (refine m_not rfl ?_) | (refine m_pick_f rfl ?_ (by conv => lhs; whnf) ?_; (· rfl)) | (refine m_ext rfl rfl ?_)))) | refine end_ops ?_ | refine seq_ops ?_ | (refine cond_f rfl ?_ ?_; (· rfl)) | refine skip_then ?_)
  refine AW_weak (weak_st ?_ ?_ rfl rfl) hc
  · (repeat' (first | exact trivial | refine And.intro ?_ ?_)) <;> (first | rfl | skip)
  · trivial
theorem gl6 {F L f : List Int} {r : Int} {m : Nat} (h : GbOk F L) (hm : famN F = m) (c : ACode) (hc : AW Try.prog (min Try.f4.ntmps pbase) c (st [(2, ints f), (3, .i r)] []) (Done [8].reverse (.b true))) :
    AW Try.prog (min Try.f4.ntmps pbase) glL (st [(0, ints F), (1, ints L), (2, ints f), (3, .i r), (21, roF (gmat F L m m L.length)), (33, newInts (sizesOf F m))] []) (Then (fun s => AW Try.prog (min Try.f4.ntmps pbase) c s (Done [8].reverse (.b true))) (Done [8].reverse (.b true))) := by
  have h7 := gl7 h c hc
  have hp : glL = .seq (fstC glL) glH := rfl
  rw [hp]
  clear hp
  generalize glH = c7 at *
  have h9 := h.1.1.2.1
  have hl := h.1.2.2
  have hmn := famN_le h.1.1
  have hml := gmat_len F L m m L.length
  have hsl := sizesOf_len F m
  have hg : ∀ a b : Nat, 0 ≤ gcnt F L a b L.length ∧ gcnt F L a b L.length ≤ 9 := fun a b => by have := gcnt_le F L a b L.length; omega
  unfold glL glI
  unfold ac4
  simp only [sndN, sndC, fstC, thnC]
  repeat (first | (refine step_ops ?_; (first | (refine m_mov (by conv => lhs; whnf) ?_) | (refine m_len_ro rfl ?_))) | refine end_ops ?_ | refine seq_ops ?_ | refine AW_seq ?_ | refine AW_block ?_)
  refine AW_loop (α := Nat) (fun k => k ≤ m) (fun k => st [(0, ints F), (1, ints L), (2, ints f), (3, .i r), (21, roF (gmat F L m m L.length)), (33, newInts (sizesOf F m)), (265, roF (gmat F L m m L.length)), (266, .i (gmat F L m m L.length).length), (267, .i (k : Nat))] []) (fun k => m - k) 0 (Nat.zero_le _) (weak_st ?_ ?_ rfl rfl) ?_
  · (repeat' (first | exact trivial | refine And.intro ?_ ?_)) <;> (first | rfl | skip)
  · trivial
  intro k hk
  by_cases hc : k < m
  · have hgk := gmat_get F L m m L.length k hc
    obtain ⟨g1, g2⟩ := gifts_sum h.1 (f := k)
    rw [hm, Int.toNat_natCast] at g1 g2
    have g3 := gifts_none h.2 k L.length (Nat.le_refl _)
    have g4 := growF_get F L m k L.length k hc
    have g5 := grow_sum F L m k L.length
    have g6 := growF_len F L m k L.length
    have g7 := sizesOf_get F m hc
    have g8 := sumZ_bd (h := fun g => gcnt F L k g L.length) (fun g => hg k g) m
    have hsm := vSum_spec (growF F L m k L.length) (by omega) (fun x hx => by
      unfold growF at hx
      rw [List.mem_map] at hx
      obtain ⟨g, _, rfl⟩ := hx
      exact hg k g)
    rw [g3] at g4
    rw [g5, g1] at hsm
    repeat (first | (refine step_ops ?_; (first | (refine m_mov (by conv => lhs; whnf) ?_) | (refine m_lss rfl rfl ?_) | (refine m_idx1_ro rfl rfl ?_ ?_; (· omega)))) | refine end_ops ?_ | refine seq_ops ?_ | (refine cond_t rfl ?_ ?_; (· (refine decide_eq_true ?_; omega))) | refine skip_then ?_ | refine AW_seq ?_ | refine AW_block ?_)
    refine step_ops ?_
    refine m_ld_rp rfl (roF_at (by omega)) ?_
    rw [hgk]
    repeat (first | (refine step_ops ?_; (first | (refine m_mov (by conv => lhs; whnf) ?_) | (refine m_len_ro rfl ?_))) | refine end_ops ?_ | refine seq_ops ?_ | refine AW_seq ?_ | refine AW_block ?_)
    refine AW_loop (α := Nat) (fun g => g ≤ m) (fun g => st [(0, ints F), (1, ints L), (2, ints f), (3, .i r), (21, roF (gmat F L m m L.length)), (33, newInts (sizesOf F m)), (265, roF (gmat F L m m L.length)), (266, .i (gmat F L m m L.length).length), (267, .i (k : Nat)), (35, .i (k : Nat)), (36, newInts (growF F L m k L.length)), (37, .i (sumZ (fun g => gcnt F L g k L.length) g)), (273, .i (gmat F L m m L.length).length), (274, .i (g : Nat))] []) (fun g => m - g) 0 (Nat.zero_le _) (weak_st ?_ ?_ rfl rfl) ?_
    · (repeat' (first | exact trivial | refine And.intro ?_ ?_)) <;> (first | rfl | skip)
    · trivial
    intro g hgm
    have q1 := sumZ_bd (h := fun g => gcnt F L g k L.length) (fun g => hg g k) g
    by_cases hc2 : g < m
    · have r1 := gmat_get F L m m L.length g hc2
      have r2 := growF_get F L m g L.length k hc
      have r3 := growF_len F L m g L.length
      have r4 : sumZ (fun g => gcnt F L g k L.length) (g + 1) = sumZ (fun g => gcnt F L g k L.length) g + gcnt F L g k L.length := rfl
      have r5 := hg g k
      generalize sumZ (fun g => gcnt F L g k L.length) g = a at *
      repeat (first | (refine step_ops ?_; (first | (refine m_mov (by conv => lhs; whnf) ?_) | (refine m_lss rfl rfl ?_) | (refine m_idx1_ro rfl rfl ?_ ?_; (· omega)))) | refine end_ops ?_ | refine seq_ops ?_ | refine AW_ops ?_ | (refine cond_t rfl ?_ ?_; (· (refine decide_eq_true ?_; omega))) | refine skip_then ?_ | refine AW_seq ?_ | refine AW_block ?_)
      refine step_ops ?_
      refine m_ld_rp rfl (roF_at (by omega)) ?_
      rw [r1]
      repeat (first | (refine step_ops ?_; (first | (refine m_mov (by conv => lhs; whnf) ?_) | (refine m_add rfl rfl ?_ ?_ ?_; (· omega); (· omega)) | (refine m_idx1_ro rfl rfl ?_ ?_; (· omega)) | (refine m_ld_rpi rfl ?_ ?_; (· omega)))) | refine end_ops ?_ | refine AW_ops ?_ | refine norm_then ?_ | refine norm_block ?_)
      refine next_round (g + 1) (by omega) (weak_st ?_ ?_ rfl rfl) (by omega)
      · rw [r4, ← r2]
        (repeat' (first | exact trivial | refine And.intro ?_ ?_)) <;> (first | rfl | skip)
      · trivial
    · obtain rfl : g = m := by omega
      rw [g2] at q1 ⊢
      repeat (first | ((first | refine step_ops ?_ | refine step_tree ?_); ((try (refine g_yes rfl ?_ ?_; (· (refine decide_eq_false ?_; omega)))); (first | (refine m_mov (by conv => lhs; whnf) ?_) | (refine m_lss rfl rfl ?_) | (refine m_neq rfl rfl ?_) | (refine m_idx1_ro rfl rfl ?_ ?_; (· omega)) | (refine m_ld_rpi rfl ?_ ?_; (· omega))))) | refine end_ops ?_ | refine seq_ops ?_ | refine seq_tree ?_ | (refine cond_f rfl ?_ ?_; (· (refine decide_eq_false ?_; omega))) | refine AW_seq ?_ | refine norm_then ?_ | refine exit_then ?_ | refine exit_round ?_ | refine AW_exit ?_ | refine exit_block ?_)
      refine step_tree ?_; (refine g_yes rfl ?_ ?_; (· first | (fail) | ((refine decide_eq_false ?_; omega))); (apply m_call (hsm))); (· repeat (first | exact lends_nil | (refine lends_cons ?_ ?_; (· (refine lend_ints ?_; first | rfl | omega)))))
      repeat (first | ((first | refine step_ops ?_ | refine step_tree ?_); ((try (refine g_yes rfl ?_ ?_; (· (refine decide_eq_false ?_; omega)))); (first | (refine m_mov (by conv => lhs; whnf) ?_) | (refine m_neq rfl rfl ?_) | (refine m_add rfl rfl ?_ ?_ ?_; (· omega); (· omega)) | (refine m_idx1_ro rfl rfl ?_ ?_; (· omega)) | (refine m_ld_rpi rfl ?_ ?_; (· omega)) | (refine m_pick_f rfl ?_ (by conv => lhs; whnf) ?_; (· (refine decide_eq_false ?_; omega)))))) | refine end_ops ?_ | refine AW_ops ?_ | refine end_tree ?_ | (refine cond_f rfl ?_ ?_; (· (refine decide_eq_false ?_; omega))) | refine norm_then ?_ | refine norm_block ?_ | refine AW_skip ?_)
      refine next_round (k + 1) (by omega) (weak_st ?_ ?_ rfl rfl) (by omega)
      · (repeat' (first | exact trivial | refine And.intro ?_ ?_)) <;> (first | rfl | skip)
      · trivial
  · obtain rfl : k = m := by omega
    repeat (first | (refine step_ops ?_; (refine m_lss rfl rfl ?_)) | refine end_ops ?_ | refine seq_ops ?_ | (refine cond_f rfl ?_ ?_; (· (refine decide_eq_false ?_; omega))) | refine AW_seq ?_ | refine norm_then ?_ | refine exit_then ?_ | refine exit_round ?_ | refine AW_exit ?_ | refine exit_block ?_)
    refine AW_weak (weak_st ?_ ?_ rfl rfl) h7
    · (repeat' (first | exact trivial | refine And.intro ?_ ?_)) <;> (first | rfl | skip)
    · trivial
end Go.Proofs.Ytbeflnnejofleaa
namespace Go.Proofs.Ytbeflnnejofleaa
variable [Go.Am.CodeBlk]
open Go.Am
attribute [local irreducible] AW Outs Weak Lends Lend Sp aops atree aop1 Then Round InBlock Done
attribute [local irreducible] SpM DoneM SpH DoneH
def gr13 : ACode := sndN 13 ac4
def gr12 : ACode := sndN 12 ac4
def gr11 : ACode := sndN 11 ac4
def gr10 : ACode := sndN 10 ac4
theorem gw13 {f : List Int} (hf : f.length ≤ 10000) (r : Int) : AW Try.prog (min Try.f4.ntmps pbase) gr13 (st [(2, ints f), (3, .i r)] []) (Done [8].reverse (.b true)) := by
  have s1 := implGivingOfRank_spec f r (by omega)
  have s2 := specGivingOfRank_spec f r (by omega)
  have x1 := xor_self (decide (GrOk f r))
  by_cases h : GrOk f r
  · obtain ⟨g1, g2, g3⟩ := gr_facts h
    have hl : (grR f r).length ≤ 1048576 := by have := g1.2.2; omega
    have s3 := vSame_self (grR f r) hl
    have s4 := implRankOfGiving_spec f (grR f r) (by omega) hl
    unfold rkTup at s4
    rw [g3, decide_eq_true (⟨g1, g2⟩ : Givers f (grR f r) ∧ apart f (grR f r))] at s4
    rw [decide_eq_true h] at s1 s2 x1
    generalize grR f r = R at *
    unfold gr13
    unfold ac4
    simp only [sndN, sndC]
    repeat (first | (refine step_ops ?_; (refine m_mov (by conv => lhs; whnf) ?_)) | refine seq_ops ?_)
    refine step_ops ?_; (apply m_call (s1)); (· repeat (first | exact lends_nil | (refine lends_cons ?_ ?_; (· (first | exact lend_v | (refine lend_ints ?_; first | rfl | omega))))))
    repeat (first | (refine step_ops ?_; (first | (refine m_mov (by conv => lhs; whnf) ?_) | (refine m_ext rfl rfl ?_))) | refine end_ops ?_ | refine seq_ops ?_)
    refine step_ops ?_; (apply m_call (s2)); (· repeat (first | exact lends_nil | (refine lends_cons ?_ ?_; (· (first | exact lend_v | (refine lend_ints ?_; first | rfl | omega))))))
    repeat (first | (refine step_ops ?_; ((try (refine g_yes rfl ?_ ?_; (· rfl))); (first | (refine m_mov (by conv => lhs; whnf) ?_) | (refine m_beq rfl rfl ?_) | (refine m_ext rfl rfl ?_)))) | refine end_ops ?_ | refine seq_ops ?_ | refine AW_seq ?_)
    refine step_ops ?_; (refine g_yes rfl ?_ ?_; (· first | (rfl) | (fail)); (apply m_call (s3))); (· repeat (first | exact lends_nil | (refine lends_cons ?_ ?_; (· (refine lend_ints ?_; first | rfl | omega)))))
    repeat (first | (refine step_ops ?_; ((try (refine g_yes rfl ?_ ?_; (· rfl))); (first | (refine m_mov (by conv => lhs; whnf) ?_) | (refine m_not rfl ?_) | (refine m_pick_f rfl ?_ (by conv => lhs; whnf) ?_; (· rfl))))) | refine end_ops ?_ | refine seq_ops ?_ | (refine cond_t rfl ?_ ?_; (· rfl)) | (refine cond_f rfl ?_ ?_; (· rfl)) | refine skip_then ?_ | refine AW_seq ?_)
    refine step_ops ?_; (apply m_call (s4)); (· repeat (first | exact lends_nil | (refine lends_cons ?_ ?_; (· (refine lend_ints ?_; first | rfl | omega)))))
    repeat (first | (refine step_ops ?_; ((try (refine g_yes rfl ?_ ?_; (· rfl))); (first | (refine m_mov (by conv => lhs; whnf) ?_) | (refine m_eql rfl rfl ?_) | (refine m_pick_t rfl ?_ (by conv => lhs; whnf) ?_; (· rfl)) | (refine m_ext rfl rfl ?_)))) | refine end_ops ?_ | refine seq_ops ?_ | refine AW_ret ?_ | refine ret_done ?_ | refine ret_then ?_)
    exact outs_b (by simp)
  · have e : grR f r = [] := if_neg h
    have s3 := vSame_self ([] : List Int) (by simp)
    rw [decide_eq_false h] at s1 s2 x1
    rw [e] at s1 s2
    unfold gr13
    unfold ac4
    simp only [sndN, sndC]
    repeat (first | (refine step_ops ?_; (refine m_mov (by conv => lhs; whnf) ?_)) | refine seq_ops ?_)
    refine step_ops ?_; (apply m_call (s1)); (· repeat (first | exact lends_nil | (refine lends_cons ?_ ?_; (· (first | exact lend_v | (refine lend_ints ?_; first | rfl | omega))))))
    repeat (first | (refine step_ops ?_; (first | (refine m_mov (by conv => lhs; whnf) ?_) | (refine m_ext rfl rfl ?_))) | refine end_ops ?_ | refine seq_ops ?_)
    refine step_ops ?_; (apply m_call (s2)); (· repeat (first | exact lends_nil | (refine lends_cons ?_ ?_; (· (first | exact lend_v | (refine lend_ints ?_; first | rfl | omega))))))
    repeat (first | (refine step_ops ?_; ((try (refine g_yes rfl ?_ ?_; (· rfl))); (first | (refine m_mov (by conv => lhs; whnf) ?_) | (refine m_beq rfl rfl ?_) | (refine m_ext rfl rfl ?_)))) | refine end_ops ?_ | refine seq_ops ?_ | refine AW_seq ?_)
    refine step_ops ?_; (refine g_yes rfl ?_ ?_; (· first | (rfl) | (fail)); (apply m_call (s3))); (· repeat (first | exact lends_nil | (refine lends_cons ?_ ?_; (· (refine lend_ints ?_; first | rfl | omega)))))
    repeat (first | (refine step_ops ?_; ((try (refine g_yes rfl ?_ ?_; (· rfl))); (first | (refine m_mov (by conv => lhs; whnf) ?_) | (refine m_not rfl ?_) | (refine m_pick_f rfl ?_ (by conv => lhs; whnf) ?_; (· rfl))))) | refine end_ops ?_ | refine seq_ops ?_ | (refine cond_f rfl ?_ ?_; (· rfl)) | refine skip_then ?_ | refine AW_seq ?_ | refine AW_ret ?_ | refine ret_done ?_)
    exact outs_b rfl
/-- The families' sizes, and on to the gifts. -/
theorem gl4 {F L f : List Int} {r : Int} {m : Nat} (h : GbOk F L) (hm : famN F = m) (c : ACode) (hc : AW Try.prog (min Try.f4.ntmps pbase) c (st [(2, ints f), (3, .i r)] []) (Done [8].reverse (.b true))) :
    AW Try.prog (min Try.f4.ntmps pbase) glA (st [(0, ints F), (1, ints L), (2, ints f), (3, .i r), (21, roF (gmat F L m m L.length))] []) (Then (fun s => AW Try.prog (min Try.f4.ntmps pbase) c s (Done [8].reverse (.b true))) (Done [8].reverse (.b true))) := by
  have h6 := gl6 h hm c hc
  have hp : glA = .seq (fstC glA) (.seq (fstC (sndN 1 glA)) glL) := rfl
  rw [hp]
  clear hp
  generalize glL = c6 at *
  have h9 := h.1.1.2.1
  have hml := gmat_len F L m m L.length
  have hsl := sizesOf_len F m
  have s1 := implFamilySizes_spec F (by omega)
  have e : sizesRes F = sizesOf F m := by unfold sizesRes; rw [if_pos h.1.1, hm, Int.toNat_natCast]
  rw [e, decide_eq_true h.1.1] at s1
  generalize sizesOf F m = S at *
  generalize gmat F L m m L.length = G at *
  have n1 : decide (((G.length : Nat) : Int) ≠ (S.length : Nat)) = false := decide_eq_false (by omega)
  unfold glA glI
  unfold ac4
  simp only [sndN, sndC, fstC, thnC]
  repeat (first | (refine step_ops ?_; (refine m_mov (by conv => lhs; whnf) ?_)) | refine seq_ops ?_)
  refine step_ops ?_; (apply m_call (s1)); (· repeat (first | exact lends_nil | (refine lends_cons ?_ ?_; (· (refine lend_ints ?_; first | rfl | omega)))))
  repeat (first | (refine step_ops ?_; ((try (refine g_yes rfl ?_ ?_; (· rfl))); (first | (refine m_mov (by conv => lhs; whnf) ?_) | (refine m_neq rfl rfl ?_) | (refine m_not rfl ?_) | (refine m_len_ro rfl ?_) | (refine m_pick_f rfl ?_ (by conv => lhs; whnf) ?_; (· rfl)) | (refine m_ext rfl rfl ?_)))) | refine end_ops ?_ | refine seq_ops ?_ | (refine cond_f rfl ?_ ?_; (· assumption)) | refine skip_then ?_ | refine AW_seq ?_)
  refine AW_weak (weak_st ?_ ?_ rfl rfl) h6
  · (repeat' (first | exact trivial | refine And.intro ?_ ?_)) <;> (first | rfl | skip)
  · trivial
theorem gw12 {F L f : List Int} (hF : F.length ≤ 10000) (hL : L.length ≤ 10000) (hf : f.length ≤ 10000) (r : Int) : AW Try.prog (min Try.f4.ntmps pbase) gr12 (st [(0, ints F), (1, ints L), (2, ints f), (3, .i r), (13, .i (rkR F L)), (14, .b (decide (GbOk F L))), (17, newInts ((nextG F L).getD [])), (18, .b (nextG F L).isSome), (21, roF (gbRes F L))] []) (Done [8].reverse (.b true)) := by
  have h13 := gw13 hf r
  have hp : gr12 = .seq (.seq (fstC (fstC gr12)) (.cond (.t 189) (.seq (fstC glI) (.seq (fstC (sndN 1 glI)) (.seq (fstC (sndN 2 glI)) (.seq (fstC (sndN 3 glI)) glA)))) .skip)) gr13 := rfl
  rw [hp]
  clear hp
  by_cases h : GbOk F L
  · have hfam := h.1.1
    have h9 := hfam.2.1
    have hmn := famN_le hfam
    obtain ⟨m, hm⟩ := Int.eq_ofNat_of_zero_le (show 0 ≤ famN F by omega)
    have hg := gl4 (f := f) (r := r) h hm gr13 h13
    have e0 : gbRes F L = gmat F L m m L.length := by unfold gbRes; rw [if_pos h, hm, Int.toNat_natCast]
    rw [e0]
    generalize gmat F L m m L.length = G at *
    generalize gr13 = c13 at *
    generalize glA = cA at *
    obtain ⟨k1, k2, k3⟩ := rk_facts h.1 h.2
    have s1 := implGivingOfRank_spec F (rkR F L) (by omega)
    rw [k2, decide_eq_true k1] at s1
    have s2 := implCountGivings_spec F (by omega)
    unfold cgTup at s2
    have e1 : cgR F = (bhN F 0 : Nat) := if_pos hfam
    rw [e1, decide_eq_true hfam] at s2
    have s3 := implGivingOfRank_spec F (rkR F L + 1) (by omega)
    have s4 := vSame_self L (by omega)
    have b0 := k1.2.1
    have b1 := k1.2.2
    have b2 := bhN_le h9 0
    have e2 : GrOk F (rkR F L + 1) ↔ rkR F L + 1 < (bhN F 0 : Nat) := ⟨fun hh => hh.2.2, fun hh => ⟨hfam, by omega, hh⟩⟩
    rw [decide_eq_true h]
    rw [k3]
    by_cases h2 : GrOk F (rkR F L + 1)
    · have h3 := e2.1 h2
      rw [if_pos h2]
      rw [decide_eq_true h2] at s3
      have hl2 : (grR F (rkR F L + 1)).length ≤ 1048576 := by have := (gr_facts h2).1.2.2; omega
      have s5 := vSame_self (grR F (rkR F L + 1)) hl2
      have x1 : (true ^^ (true == decide (rkR F L + 1 < (bhN F 0 : Nat)))) = false := by rw [decide_eq_true h3]; rfl
      rw [Option.getD_some, Option.isSome_some]
      generalize grR F (rkR F L + 1) = N at *
      generalize rkR F L = k at *
      generalize bhN F 0 = b at *
      unfold gr12 glI
      unfold ac4
      simp only [sndN, sndC, fstC, thnC]
      repeat (first | (refine step_ops ?_; (refine m_mov (by conv => lhs; whnf) ?_)) | refine end_ops ?_ | refine seq_ops ?_ | (refine cond_t rfl ?_ ?_; (· rfl)) | refine AW_seq ?_)
      refine step_ops ?_; (apply m_call (s1)); (· repeat (first | exact lends_nil | (refine lends_cons ?_ ?_; (· (first | exact lend_v | (refine lend_ints ?_; first | rfl | omega))))))
      repeat (first | (refine step_ops ?_; (first | (refine m_mov (by conv => lhs; whnf) ?_) | (refine m_ext rfl rfl ?_))) | refine end_ops ?_ | refine seq_ops ?_)
      refine step_ops ?_; (apply m_call (s2)); (· repeat (first | exact lends_nil | (refine lends_cons ?_ ?_; (· (refine lend_ints ?_; first | rfl | omega)))))
      repeat (first | (refine step_ops ?_; (first | (refine m_mov (by conv => lhs; whnf) ?_) | (refine m_add rfl rfl ?_ ?_ ?_; (· omega); (· omega)) | (refine m_ext rfl rfl ?_))) | refine end_ops ?_ | refine seq_ops ?_)
      refine step_ops ?_; (apply m_call (s3)); (· repeat (first | exact lends_nil | (refine lends_cons ?_ ?_; (· (first | exact lend_v | (refine lend_ints ?_; first | rfl | omega))))))
      repeat (first | (refine step_ops ?_; ((try (refine g_yes rfl ?_ ?_; (· rfl))); (first | (refine m_mov (by conv => lhs; whnf) ?_) | (refine m_not rfl ?_) | (refine m_ext rfl rfl ?_)))) | refine end_ops ?_ | refine seq_ops ?_ | refine AW_seq ?_)
      refine step_ops ?_; (refine g_yes rfl ?_ ?_; (· first | (rfl) | (fail)); (apply m_call (s4))); (· repeat (first | exact lends_nil | (refine lends_cons ?_ ?_; (· (refine lend_ints ?_; first | rfl | omega)))))
      repeat (refine step_ops ?_; ((try (refine g_yes rfl ?_ ?_; (· first | rfl | assumption | (simp [*]; done)))); (first | (refine m_mov (by conv => lhs; whnf) ?_) | (refine m_lss rfl rfl ?_) | (refine m_geq rfl rfl ?_) | (refine m_add rfl rfl ?_ ?_ ?_; (· omega); (· omega)) | (refine m_not rfl ?_) | (refine m_beq rfl rfl ?_) | (refine m_pick_f rfl ?_ (by conv => lhs; whnf) ?_; (· first | rfl | assumption | (refine decide_eq_false ?_; omega))))))
      refine step_ops ?_; (refine g_yes rfl ?_ ?_; (· first | (rfl) | (fail)); (apply m_call (s5))); (· repeat (first | exact lends_nil | (refine lends_cons ?_ ?_; (· (refine lend_ints ?_; first | rfl | omega)))))
      repeat (first | (refine step_ops ?_; ((try (refine g_yes rfl ?_ ?_; (· rfl))); (first | (refine m_not rfl ?_) | (refine m_pick_t rfl ?_ (by conv => lhs; whnf) ?_; (· rfl)) | (refine m_pick_f rfl ?_ (by conv => lhs; whnf) ?_; (· rfl))))) | refine end_ops ?_ | (refine cond_f rfl ?_ ?_; (· rfl)) | refine skip_then ?_)
      refine AW_weak (weak_st ?_ ?_ rfl rfl) hg
      · (repeat' (first | exact trivial | refine And.intro ?_ ?_)) <;> (first | rfl | skip)
      · trivial
    · have h3 : ¬ (rkR F L + 1 < (bhN F 0 : Nat)) := fun hh => h2 (e2.2 hh)
      rw [if_neg h2]
      rw [decide_eq_false h2] at s3
      have e3 : grR F (rkR F L + 1) = [] := if_neg h2
      rw [e3] at s3
      have x1 : (true ^^ (false == decide (rkR F L + 1 < (bhN F 0 : Nat)))) = false := by rw [decide_eq_false h3]; rfl
      rw [Option.getD_none, Option.isSome_none]
      generalize rkR F L = k at *
      generalize bhN F 0 = b at *
      unfold gr12 glI
      unfold ac4
      simp only [sndN, sndC, fstC, thnC]
      repeat (first | (refine step_ops ?_; (refine m_mov (by conv => lhs; whnf) ?_)) | refine end_ops ?_ | refine seq_ops ?_ | (refine cond_t rfl ?_ ?_; (· rfl)) | refine AW_seq ?_)
      refine step_ops ?_; (apply m_call (s1)); (· repeat (first | exact lends_nil | (refine lends_cons ?_ ?_; (· (first | exact lend_v | (refine lend_ints ?_; first | rfl | omega))))))
      repeat (first | (refine step_ops ?_; (first | (refine m_mov (by conv => lhs; whnf) ?_) | (refine m_ext rfl rfl ?_))) | refine end_ops ?_ | refine seq_ops ?_)
      refine step_ops ?_; (apply m_call (s2)); (· repeat (first | exact lends_nil | (refine lends_cons ?_ ?_; (· (refine lend_ints ?_; first | rfl | omega)))))
      repeat (first | (refine step_ops ?_; (first | (refine m_mov (by conv => lhs; whnf) ?_) | (refine m_add rfl rfl ?_ ?_ ?_; (· omega); (· omega)) | (refine m_ext rfl rfl ?_))) | refine end_ops ?_ | refine seq_ops ?_)
      refine step_ops ?_; (apply m_call (s3)); (· repeat (first | exact lends_nil | (refine lends_cons ?_ ?_; (· (first | exact lend_v | (refine lend_ints ?_; first | rfl | omega))))))
      repeat (first | (refine step_ops ?_; ((try (refine g_yes rfl ?_ ?_; (· rfl))); (first | (refine m_mov (by conv => lhs; whnf) ?_) | (refine m_not rfl ?_) | (refine m_ext rfl rfl ?_)))) | refine end_ops ?_ | refine seq_ops ?_ | refine AW_seq ?_)
      refine step_ops ?_; (refine g_yes rfl ?_ ?_; (· first | (rfl) | (fail)); (apply m_call (s4))); (· repeat (first | exact lends_nil | (refine lends_cons ?_ ?_; (· (refine lend_ints ?_; first | rfl | omega)))))
      repeat (first | (refine step_ops ?_; (first | ((try (refine g_yes rfl ?_ ?_; (· first | rfl | assumption | (simp [*]; done)))); (first | (refine m_mov (by conv => lhs; whnf) ?_) | (refine m_lss rfl rfl ?_) | (refine m_geq rfl rfl ?_) | (refine m_add rfl rfl ?_ ?_ ?_; (· omega); (· omega)) | (refine m_not rfl ?_) | (refine m_beq rfl rfl ?_) | (refine m_pick_f rfl ?_ (by conv => lhs; whnf) ?_; (· first | rfl | assumption | (refine decide_eq_false ?_; omega))))) | (refine g_noT rfl ?_ ?_; (· rfl)))) | refine end_ops ?_ | (refine cond_f rfl ?_ ?_; (· rfl)) | refine skip_then ?_)
      refine AW_weak (weak_st ?_ ?_ rfl rfl) hg
      · (repeat' (first | exact trivial | refine And.intro ?_ ?_)) <;> (first | rfl | skip)
      · trivial
  · rw [decide_eq_false h]
    generalize gr13 = c13 at *
    generalize glA = cA at *
    unfold gr12 glI
    unfold ac4
    simp only [sndN, sndC, fstC, thnC]
    repeat (first | (refine step_ops ?_; (refine m_mov (by conv => lhs; whnf) ?_)) | refine end_ops ?_ | refine seq_ops ?_ | (refine cond_f rfl ?_ ?_; (· rfl)) | refine skip_then ?_ | refine AW_seq ?_)
    refine AW_weak (weak_st ?_ ?_ rfl rfl) h13
    · (repeat' (first | exact trivial | refine And.intro ?_ ?_)) <;> (first | rfl | skip)
    · trivial
theorem gw11 {F L f : List Int} (hF : F.length ≤ 10000) (hL : L.length ≤ 10000) (hf : f.length ≤ 10000) (r : Int) : AW Try.prog (min Try.f4.ntmps pbase) gr11 (st [(0, ints F), (1, ints L), (2, ints f), (3, .i r), (13, .i (rkR F L)), (14, .b (decide (GbOk F L))), (17, newInts ((nextG F L).getD [])), (18, .b (nextG F L).isSome), (21, roF (gbRes F L))] []) (Done [8].reverse (.b true)) := by
  have h12 := gw12 hF hL hf r
  have hp : gr11 = .seq (fstC gr11) gr12 := rfl
  rw [hp]
  clear hp
  generalize gr12 = c12 at *
  rcases hn : nextG F L with _ | N
  · rw [hn] at h12
    rw [Option.getD_none, Option.isSome_none] at h12 ⊢
    generalize decide (GbOk F L) = B at *
    generalize gbRes F L = G at *
    unfold gr11
    unfold ac4
    simp only [sndN, sndC, fstC]
    repeat (first | (refine step_ops ?_; (refine m_mov (by conv => lhs; whnf) ?_)) | refine end_ops ?_ | refine seq_ops ?_ | (refine cond_f rfl ?_ ?_; (· rfl)) | refine skip_then ?_ | refine AW_seq ?_)
    refine AW_weak (weak_st ?_ ?_ rfl rfl) h12
    · (repeat' (first | exact trivial | refine And.intro ?_ ?_)) <;> (first | rfl | skip)
    · trivial
  · rw [hn] at h12
    obtain ⟨n1, n2, n3, n4⟩ := next_facts hn
    have e1 := n1.2.2
    have e2 := n2.2.2
    have s1 := implIsGiving_spec F N (by omega) (by omega)
    unfold isGivingR at s1
    rw [decide_eq_true n2, decide_eq_true (⟨n2, n3⟩ : Givers F N ∧ apart F N)] at s1
    have s2 := vBefore_spec L N (by omega) (by omega)
    rw [n4] at s2
    rw [Option.getD_some, Option.isSome_some] at h12 ⊢
    generalize decide (GbOk F L) = B at *
    generalize gbRes F L = G at *
    unfold gr11
    unfold ac4
    simp only [sndN, sndC, fstC]
    repeat (first | (refine step_ops ?_; (refine m_mov (by conv => lhs; whnf) ?_)) | refine end_ops ?_ | refine seq_ops ?_ | (refine cond_t rfl ?_ ?_; (· rfl)) | refine AW_seq ?_)
    refine step_ops ?_; (apply m_call (s1)); (· repeat (first | exact lends_nil | (refine lends_cons ?_ ?_; (· (refine lend_ints ?_; first | rfl | omega)))))
    repeat (first | (refine step_ops ?_; ((try (refine g_yes rfl ?_ ?_; (· rfl))); (first | (refine m_mov (by conv => lhs; whnf) ?_) | (refine m_not rfl ?_) | (refine m_pick_f rfl ?_ (by conv => lhs; whnf) ?_; (· rfl)) | (refine m_ext rfl rfl ?_)))) | refine end_ops ?_ | refine seq_ops ?_)
    refine step_ops ?_; (refine g_yes rfl ?_ ?_; (· first | (rfl) | (fail)); (apply m_call (s2))); (· repeat (first | exact lends_nil | (refine lends_cons ?_ ?_; (· (refine lend_ints ?_; first | rfl | omega)))))
    repeat (first | (refine step_ops ?_; ((try (refine g_yes rfl ?_ ?_; (· rfl))); (first | (refine m_not rfl ?_) | (refine m_pick_f rfl ?_ (by conv => lhs; whnf) ?_; (· rfl))))) | refine end_ops ?_ | (refine cond_f rfl ?_ ?_; (· rfl)) | refine skip_then ?_)
    refine AW_weak (weak_st ?_ ?_ rfl rfl) h12
    · (repeat' (first | exact trivial | refine And.intro ?_ ?_)) <;> (first | rfl | skip)
    · trivial
theorem gw10 {F L f : List Int} (hF : F.length ≤ 10000) (hL : L.length ≤ 10000) (hf : f.length ≤ 10000) (r : Int) : AW Try.prog (min Try.f4.ntmps pbase) gr10 (st [(0, ints F), (1, ints L), (2, ints f), (3, .i r), (9, .b (decide (Givers F L ∧ apart F L))), (10, .b (decide (Givers F L))), (11, .b (decide (Givers F L ∧ apart F L))), (12, .b (decide (Givers F L))), (13, .i (rkR F L)), (14, .b (decide (Givers F L ∧ apart F L))), (15, .i (rkR F L)), (16, .b (decide (Givers F L ∧ apart F L))), (17, newInts ((nextG F L).getD [])), (18, .b (nextG F L).isSome), (19, newInts ((nextG F L).getD [])), (20, .b (nextG F L).isSome), (21, roF (gbRes F L)), (22, .b (decide (GbOk F L))), (23, roF (gbRes F L)), (24, .b (decide (GbOk F L)))] []) (Done [8].reverse (.b true)) := by
  have h11 := gw11 hF hL hf r
  have hp : gr10 = .seq (fstC gr10) gr11 := rfl
  rw [hp]
  clear hp
  generalize gr11 = c11 at *
  have eg : decide (GbOk F L) = decide (Givers F L ∧ apart F L) := rfl
  rw [eg] at h11 ⊢
  have hN : ((nextG F L).getD []).length ≤ 1048576 := by have := nextG_le F L; omega
  have s1 := vSame_self _ hN
  obtain ⟨g1, g2⟩ := gbRes_ok F L
  have s2 := vRows_self (gbRes F L) (by omega) (fun x hx => by have := g2 x hx; omega)
  have x1 := xor_self (nextG F L).isSome
  have n1 : decide (rkR F L ≠ rkR F L) = false := by simp
  have hno : ¬ Givers F L → (nextG F L).isSome = false := fun hh => by unfold nextG; rw [if_neg hh]; rfl
  generalize gbRes F L = G at *
  generalize (nextG F L).getD [] = N at *
  generalize rkR F L = k at *
  by_cases h1 : Givers F L
  · by_cases h2 : apart F L
    · rw [decide_eq_true h1, decide_eq_true (⟨h1, h2⟩ : Givers F L ∧ apart F L)] at *
      generalize (nextG F L).isSome = B at *
      unfold gr10
      unfold ac4
      simp only [sndN, sndC, fstC]
      repeat (first | (refine step_ops ?_; ((try (refine g_yes rfl ?_ ?_; (· first | rfl | assumption))); (first | (refine m_mov (by conv => lhs; whnf) ?_) | (refine m_neq rfl rfl ?_) | (refine m_beq rfl rfl ?_) | (refine m_pick_f rfl ?_ (by conv => lhs; whnf) ?_; (· first | rfl | assumption))))) | refine seq_ops ?_ | refine AW_seq ?_)
      refine step_ops ?_; (refine g_yes rfl ?_ ?_; (· first | (assumption) | (fail)); (apply m_call (s1))); (· repeat (first | exact lends_nil | (refine lends_cons ?_ ?_; (· (refine lend_ints ?_; first | rfl | omega)))))
      repeat (refine step_ops ?_; ((try (refine g_yes rfl ?_ ?_; (· first | rfl | assumption))); (first | (refine m_mov (by conv => lhs; whnf) ?_) | (refine m_not rfl ?_) | (refine m_beq rfl rfl ?_) | (refine m_pick_f rfl ?_ (by conv => lhs; whnf) ?_; (· first | rfl | assumption)))))
      refine step_ops ?_; (refine g_yes rfl ?_ ?_; (· first | (rfl) | (fail)); (apply m_call (s2))); (· repeat (first | exact lends_nil | (refine lends_cons ?_ ?_; (· (refine lend_roM rfl; done)))))
      repeat (refine step_ops ?_; ((try (refine g_yes rfl ?_ ?_; (· rfl))); (first | (refine m_mov (by conv => lhs; whnf) ?_) | (refine m_not rfl ?_) | (refine m_beq rfl rfl ?_) | (refine m_pick_t rfl ?_ (by conv => lhs; whnf) ?_; (· rfl)) | (refine m_pick_f rfl ?_ (by conv => lhs; whnf) ?_; (· rfl)))))
      cases B
      · repeat (first | (refine step_ops ?_; (first | ((try (refine g_yes rfl ?_ ?_; (· rfl))); (refine m_pick_f rfl ?_ (by conv => lhs; whnf) ?_; (· rfl))) | (refine g_noT rfl ?_ ?_; (· rfl)))) | refine end_ops ?_ | (refine cond_f rfl ?_ ?_; (· rfl)) | refine skip_then ?_)
        refine AW_weak (weak_st ?_ ?_ rfl rfl) h11
        · (repeat' (first | exact trivial | refine And.intro ?_ ?_)) <;> (first | rfl | skip)
        · trivial
      · repeat (first | (refine step_ops ?_; ((try (refine g_yes rfl ?_ ?_; (· rfl))); (first | (refine m_mov (by conv => lhs; whnf) ?_) | (refine m_not rfl ?_) | (refine m_pick_t rfl ?_ (by conv => lhs; whnf) ?_; (· rfl)) | (refine m_pick_f rfl ?_ (by conv => lhs; whnf) ?_; (· rfl))))) | refine end_ops ?_ | (refine cond_f rfl ?_ ?_; (· rfl)) | refine skip_then ?_)
        refine AW_weak (weak_st ?_ ?_ rfl rfl) h11
        · (repeat' (first | exact trivial | refine And.intro ?_ ?_)) <;> (first | rfl | skip)
        · trivial
    · rw [decide_eq_true h1, decide_eq_false (fun hh : Givers F L ∧ apart F L => h2 hh.2)] at *
      generalize (nextG F L).isSome = B at *
      unfold gr10
      unfold ac4
      simp only [sndN, sndC, fstC]
      repeat (first | (refine step_ops ?_; ((try (refine g_yes rfl ?_ ?_; (· first | rfl | assumption))); (first | (refine m_mov (by conv => lhs; whnf) ?_) | (refine m_neq rfl rfl ?_) | (refine m_beq rfl rfl ?_) | (refine m_pick_f rfl ?_ (by conv => lhs; whnf) ?_; (· first | rfl | assumption))))) | refine seq_ops ?_ | refine AW_seq ?_)
      refine step_ops ?_; (refine g_yes rfl ?_ ?_; (· first | (assumption) | (fail)); (apply m_call (s1))); (· repeat (first | exact lends_nil | (refine lends_cons ?_ ?_; (· (refine lend_ints ?_; first | rfl | omega)))))
      repeat (refine step_ops ?_; ((try (refine g_yes rfl ?_ ?_; (· first | rfl | assumption))); (first | (refine m_mov (by conv => lhs; whnf) ?_) | (refine m_not rfl ?_) | (refine m_beq rfl rfl ?_) | (refine m_pick_f rfl ?_ (by conv => lhs; whnf) ?_; (· first | rfl | assumption)))))
      refine step_ops ?_; (refine g_yes rfl ?_ ?_; (· first | (rfl) | (fail)); (apply m_call (s2))); (· repeat (first | exact lends_nil | (refine lends_cons ?_ ?_; (· (refine lend_roM rfl; done)))))
      repeat (refine step_ops ?_; ((try (refine g_yes rfl ?_ ?_; (· rfl))); (first | (refine m_mov (by conv => lhs; whnf) ?_) | (refine m_not rfl ?_) | (refine m_beq rfl rfl ?_) | (refine m_pick_t rfl ?_ (by conv => lhs; whnf) ?_; (· rfl)) | (refine m_pick_f rfl ?_ (by conv => lhs; whnf) ?_; (· rfl)))))
      cases B
      · repeat (first | (refine step_ops ?_; (first | ((try (refine g_yes rfl ?_ ?_; (· rfl))); (refine m_pick_f rfl ?_ (by conv => lhs; whnf) ?_; (· rfl))) | (refine g_noT rfl ?_ ?_; (· rfl)))) | refine end_ops ?_ | (refine cond_f rfl ?_ ?_; (· rfl)) | refine skip_then ?_)
        refine AW_weak (weak_st ?_ ?_ rfl rfl) h11
        · (repeat' (first | exact trivial | refine And.intro ?_ ?_)) <;> (first | rfl | skip)
        · trivial
      · repeat (first | (refine step_ops ?_; ((try (refine g_yes rfl ?_ ?_; (· rfl))); (first | (refine m_mov (by conv => lhs; whnf) ?_) | (refine m_not rfl ?_) | (refine m_pick_t rfl ?_ (by conv => lhs; whnf) ?_; (· rfl)) | (refine m_pick_f rfl ?_ (by conv => lhs; whnf) ?_; (· rfl))))) | refine end_ops ?_ | (refine cond_f rfl ?_ ?_; (· rfl)) | refine skip_then ?_)
        refine AW_weak (weak_st ?_ ?_ rfl rfl) h11
        · (repeat' (first | exact trivial | refine And.intro ?_ ?_)) <;> (first | rfl | skip)
        · trivial
  · rw [hno h1] at *
    rw [decide_eq_false h1, decide_eq_false (fun hh : Givers F L ∧ apart F L => h1 hh.1)] at *
    unfold gr10
    unfold ac4
    simp only [sndN, sndC, fstC]
    repeat (first | (refine step_ops ?_; ((try (refine g_yes rfl ?_ ?_; (· first | rfl | assumption))); (first | (refine m_mov (by conv => lhs; whnf) ?_) | (refine m_neq rfl rfl ?_) | (refine m_beq rfl rfl ?_) | (refine m_pick_f rfl ?_ (by conv => lhs; whnf) ?_; (· first | rfl | assumption))))) | refine seq_ops ?_ | refine AW_seq ?_)
    refine step_ops ?_; (refine g_yes rfl ?_ ?_; (· first | (rfl) | (fail)); (apply m_call (s1))); (· repeat (first | exact lends_nil | (refine lends_cons ?_ ?_; (· (refine lend_ints ?_; first | rfl | omega)))))
    repeat (refine step_ops ?_; ((try (refine g_yes rfl ?_ ?_; (· rfl))); (first | (refine m_mov (by conv => lhs; whnf) ?_) | (refine m_not rfl ?_) | (refine m_beq rfl rfl ?_) | (refine m_pick_f rfl ?_ (by conv => lhs; whnf) ?_; (· rfl)))))
    refine step_ops ?_; (refine g_yes rfl ?_ ?_; (· first | (rfl) | (fail)); (apply m_call (s2))); (· repeat (first | exact lends_nil | (refine lends_cons ?_ ?_; (· (refine lend_roM rfl; done)))))
    repeat (first | ((first | (refine step_ops ?_; (first | ((try (refine g_yes rfl ?_ ?_; (· rfl))); (first | (refine m_mov (by conv => lhs; whnf) ?_) | (refine m_not rfl ?_) | (refine m_beq rfl rfl ?_) | (refine m_pick_f rfl ?_ (by conv => lhs; whnf) ?_; (· rfl)))) | (refine g_noT rfl ?_ ?_; (· rfl)))) | refine end_ops ?_ | (refine cond_f rfl ?_ ?_; (· rfl)) | refine skip_then ?_)) | (refine step_ops ?_; refine g_un rfl ?_))
    refine AW_weak (weak_st ?_ ?_ rfl rfl) h11
    · (repeat' (first | exact trivial | refine And.intro ?_ ?_)) <;> (first | rfl | skip)
    · trivial
end Go.Proofs.Ytbeflnnejofleaa
namespace Go.Am
variable [Go.Am.CodeBlk]
open Go.ChangeShapes Go.WideShapes Go.ChangeAt Go.RowKit Go.ChangeMaps
variable {P : Program} {H : Type} {enc : TypeId × Value → H}
theorem and_mk {a b : Bool} (h : a = true) (k : b = true) : (a && b) = true := by rw [h, k]; rfl
theorem More.below {w w' : World} (h : More w w') : Below w.heap.size w w' := ⟨h.os, h.tape, h.output, h.size, h.block⟩
theorem trodAll_stays (hl : laidOutB P = true) {W W' : World} (hb : Below W.heap.size W W') (sp : Nat → Bool) : ∀ {ts : List TypeId} {vs : List Value} {ds : List (DataW H)} {ps : List MemPlace},
    (∀ t ∈ ts, P.readableRec t = true ∧ t < P.types.size) → DataW.TrodAll enc P W 0 (fun _ => true) true ts vs ds ps → (∀ p ∈ ps, p.block < W.heap.size) → (∀ p ∈ ps, sp p.block = true) →
    DataW.TrodAll enc P W' 0 sp true ts vs ds ps
  | [], vs, ds, ps, _, h, _, _ => by
    obtain ⟨rfl, rfl, rfl⟩ := trodAll_nil h
    exact trodAll_mk0
  | t :: ts, vs, ds, ps, hr, h, hlt, hsp => by
    obtain ⟨v, vs', d, ds', p, q, rfl, rfl, rfl, h1, h2⟩ := trodAll_cons h
    refine ⟨p, q, ?_, trodAll_stays hl hb sp (fun t ht => hr t (List.mem_cons_of_mem _ ht)) h2 (fun x hx => hlt x (List.mem_append_right _ hx)) (fun x hx => hsp x (List.mem_append_right _ hx)), rfl⟩
    obtain ⟨h3, h4⟩ := hr t (List.mem_cons_self ..)
    exact WideElems.Trod_stays hl h3 h4 h1 (fun x hx => hb.same (hlt x (List.mem_append_left _ hx))) (fun x hx => hsp x (List.mem_append_left _ hx))
/-- What the row's last words ask of a law that says true. -/
theorem law_post (hl : laidOutB P = true) {f : Func} {s : ChangeSpec} {fresh handsOn again : Bool} {W W' : World} {args : Array Value} {ds gs : List (DataW H)} {before : List MemPlace} {bt : TypeId}
    (hW : DataW.Whole enc P f.params.toList s.vars false W args.toList ds gs before) (hvars : s.vars = []) (hfn : s.fn H (ds ++ gs) = { results := [.lit (.bool true)], args := ds })
    (hres : f.resultTypes = #[bt]) (hbt : P.underlying bt = some .bool) (hread : ∀ t ∈ f.params.toList, P.readableRec t = true ∧ t < P.types.size) (hm : More W W') :
    s.post enc P f false fresh handsOn again W args (.bool true) W' := by
  have hb := hm.below
  have hlt : ∀ p ∈ before, p.block < W.heap.size := fun p hp => hW.lt p hp
  obtain ⟨p, q, hA, hV, hpq, hz, hn⟩ := hW
  rw [hvars] at hV
  obtain ⟨rfl, rfl⟩ := trodVars_none hV
  rw [List.append_nil] at hpq
  subst hpq
  have hargs : ∀ sp : Nat → Bool, (∀ x ∈ before, sp x.block = true) → DataW.TrodAll enc P W' 0 sp true f.params.toList args.toList ds before := fun sp hsp => trodAll_stays hl hb sp hread hA hlt hsp
  have hresT : ∀ (b : Nat) (sp : Nat → Bool) (hd : Bool), DataW.TrodAll enc P W' b sp hd f.resultTypes.toList ((Value.bool true).resultList f.resultTypes.size) [.lit (.bool true)] [] := by
    intro b sp hd
    rw [hres]
    exact trodAll_mk1 (shut_bool hbt true)
  have hvarsT : ∀ sp : Nat → Bool, DataW.TrodVars enc P W' sp s.vars (s.fn H (ds ++ [])).vars [] := by
    intro sp
    rw [hvars, hfn]
    rfl
  have hfull : DataW.Whole enc P f.params.toList s.vars false W args.toList ds [] before := ⟨before, [], hA, by rw [hvars]; rfl, by simp, hz, by simp⟩
  refine ⟨ds, [], before, [], before, [], hfull, by rw [hfn]; exact hresT _ _ _, by rw [hfn]; exact hargs _ (fun x hx => by simpa using hlt x hx), hvarsT _, World.keptBut_mono (fun x hx => ⟨hx, .inr (.inl hx)⟩) (hb.frame (· ∈ before)), fun _ => ?_⟩
  refine ⟨ok_one hres rfl (okWide_bool_mk hbt true), _, _, ([] ++ before) ++ [], ⟨[] ++ before, [], trodAll_append (hargs _ (fun _ _ => rfl)) (hresT _ _ _), hvarsT _, rfl, ?_, by simp⟩, ?_⟩
  · intro b off hp
    have hin : MemPlace.cell b off ∈ before := by simpa using hp
    rw [hb.frozen (hlt _ hin)]
    exact hz b off hin
  · intro x hx _
    simpa using hx
abbrev Outer (w : World) : Ctx := { heap := w.heap, ro := fun b => b < w.heap.size, base := w.heap.size, phi := fun _ => none, live := fun _ => false, loc := false }
/-- A slice of integers that came in. -/
theorem arg_ints {W : World} {t e : TypeId} {v : Value} {d : DataW H} {ps : List MemPlace} (ht : P.underlying t = some (.slice e)) (he : P.underlying e = some (.int .i64)) (hc : P.cellsOf e = 1)
    (hval : Value.okWide P W .any 0 t v) (h : DataW.Trod enc P W 0 (fun _ => true) true t v d ps) : ∃ L : List Int, SimV (ints L) (Outer W) v ∧ L.length ≤ maxLen ∧ ∀ x ∈ L, -9223372036854775808 ≤ x ∧ x ≤ 9223372036854775807 := by
  obtain ⟨a0, len0, cap0, rfl⟩ := okWide_slice ht hval
  obtain ⟨fuel, hf⟩ := h
  rcases open_ints ht he hc hf with ⟨hcs, _⟩ | ⟨a, len, cap, zs, hcs, _, hl, hm, hz, hx, hcell, hwz⟩
  · simp [Value.cells] at hcs
    obtain ⟨rfl, rfl, rfl⟩ := hcs
    refine ⟨[], ?_, by simp, by simp⟩
    simp only [SimV]
    exact .inl ⟨rfl, rfl, none, 0, rfl, by simp⟩
  · simp [Value.cells] at hcs
    obtain ⟨rfl, rfl, rfl⟩ := hcs
    simp only [if_true] at hz
    have hlz : len0 ≤ zs.length := by omega
    refine ⟨zs.take len0, ?_, by simp; omega, fun x hx => ?_⟩
    · simp only [SimV]
      by_cases h0 : len0 = 0
      · subst h0
        exact .inl ⟨rfl, rfl, _, cap0, rfl, by simp⟩
      · have hc0 := hcell 0 (by omega)
        have hspot : a.spot = none ∧ ∃ cur e f, W.heap[a.block]? = some (.cells cur e f) := by
          unfold World.cell? at hc0
          rw [show a.add 0 = a from rfl] at hc0
          split at hc0
          · rename_i c e' f hb
            split at hc0
            · cases hc0
            · rename_i hs
              exact ⟨by simpa using hs, c, e', f, hb⟩
          · cases hc0
        obtain ⟨hs, cur, e', f, hb⟩ := hspot
        obtain ⟨b, o, sp⟩ := a
        simp only at hs hb
        subst hs
        have hlen : (zs.take len0).length = len0 := by simp; omega
        refine .inr ⟨b, o, cap0, cur, e', f, by rw [hlen], hb, lt_of_get hb, by simp, by rw [hlen]; exact hl, by simp, ?_⟩
        refine SimL.of_get fun i x hi => ?_
        rw [List.getElem?_map, Option.map_eq_some_iff] at hi
        obtain ⟨n, hn, rfl⟩ := hi
        rw [List.getElem?_take] at hn
        split at hn
        · rename_i hi0
          have hci := hcell i (by omega)
          rw [addr_add, cell_of_row W b (o + i) cur e' f hb] at hci
          refine ⟨_, by rw [List.getElem?_drop, Array.getElem?_toList]; exact hci, ?_⟩
          simp only [SimV]
          congr 1
          rw [List.getD_eq_getElem?_getD, hn]
          rfl
        · cases hn
    · have := hwz x (List.mem_of_mem_take hx)
      simp [Lit.wf, IntKind.min, IntKind.max, IntKind.signed, IntKind.bits] at this
      exact ⟨by omega, by omega⟩
/-- An integer that came in. -/
theorem arg_int {W : World} {t : TypeId} {v : Value} {d : DataW H} {ps : List MemPlace} (ht : P.underlying t = some (.int .i64))
    (hval : Value.okWide P W .any 0 t v) (h : DataW.Trod enc P W 0 (fun _ => true) true t v d ps) : ∃ n : Int, SimV (.i n) (Outer W) v ∧ -9223372036854775808 ≤ n ∧ n ≤ 9223372036854775807 := by
  obtain ⟨n, rfl, _, _, hw⟩ := open_int ht hval h
  simp [Lit.wf, IntKind.min, IntKind.max, IntKind.signed, IntKind.bits] at hw
  exact ⟨n, by simp [SimV], by omega, by omega⟩
/-- A law says true. -/
theorem law_calls {f : FuncId} {asx : List AV} {W : World} {args : Array Value} (hs : Sp P f asx (.b true)) (he : SimL asx (Outer W) args.toList) (hlen : args.size = asx.length) (hg : GoodW W := by exact goodW_none rfl) :
    Calls P f args W fun e W' => e = .returned (.bool true) ∧ More W W' := by
  refine (hs W args hg ⟨he, by simpa using hlen⟩).mono fun e W' ⟨v, h1, h2, h3⟩ => ?_
  simp only [SimV] at h3
  subst h3
  exact ⟨h1, h2⟩
end Go.Am
namespace Go.Proofs.Ytbeflnnejofleaa
open Go.ChangeShapes Go.WideShapes Go.ChangeAt Go.RowKit
theorem factMayEnter : Try.checked.prog.mayEnter = true := by kernel_rfl
end Go.Proofs.Ytbeflnnejofleaa
namespace Go.Proofs.Ytbeflnnejofleaa
open Go.ChangeShapes Go.WideShapes Go.ChangeAt Go.RowKit
theorem factLifts : Try.checked.prog.liftsFinal = false := by kernel_rfl
end Go.Proofs.Ytbeflnnejofleaa
namespace Go.Proofs.Ytbeflnnejofleaa
open Go.ChangeShapes Go.WideShapes Go.ChangeAt Go.RowKit
theorem factMake : Try.checked.prog.make = some (OpenClaim.make { program := "", sum := "", func := "", spec := "" }) := by kernel_rfl
end Go.Proofs.Ytbeflnnejofleaa
