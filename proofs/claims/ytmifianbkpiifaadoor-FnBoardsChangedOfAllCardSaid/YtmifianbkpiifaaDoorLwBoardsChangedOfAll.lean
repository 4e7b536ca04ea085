/- The law FnBoardsChangedOfAll says true for all texts and numbers: turned boards have as many rooks, rooks on joined boards multiply, other boards exchange places, and boards of own coats and of couples are counted. No condition. -/
import Derived.Test.YtmifianbkpiifaaDoorZs5
set_option linter.unusedSectionVars false
namespace Go.Proofs.YtmifianbkpiifaaDoor
variable [Go.Am.CodeBlk]
open Go.Am
attribute [local irreducible] AW Outs Weak Lends Lend Sp aops atree aop1 Then Round InBlock Done
attribute [local irreducible] SpM DoneM SpH DoneH

theorem lawBoardsChangedOfAll' (B A C : List UInt8) (n : Int) (D : List UInt8) (i j : Int) (hi : In64 i) (hj : In64 j) : Sp Tryd.prog 3 [str B, str A, str C, .i n, str D, .i i, .i j] (.b true) := by
  by_cases hB : (B.length : Int) ≤ 1048576
  · by_cases hA : (A.length : Int) ≤ 1048576
    · by_cases hC : (C.length : Int) ≤ 1048576
      · by_cases hD : (D.length : Int) ≤ 1048576
        · have h2 := bw2 (B := B) (A := A) (C := C) (D := D) (n := n) (by omega) (by omega) (by omega) (by omega) hi hj
          refine spec_of Tryd.func3 rfl cc3 rfl ?_
          unfold ac3
          have hp : ac3 = .seq (fstC ac3) (.seq (fstC (sndN 1 ac3)) bn2) := rfl
          unfold ac3 at hp
          rw [hp]
          clear hp
          generalize bn2 = c4 at *
          simp only [sndN, sndC, fstC]
          repeat (first | (refine step_ops ?_; ((try (refine g_yes rfl ?_ ?_; (· (simp [*]; done)))); (first | (refine m_mov (by conv => lhs; whnf) ?_) | (refine m_gtr rfl rfl ?_) | (refine m_slen rfl ?_) | (refine m_pick_f rfl ?_ (by conv => lhs; whnf) ?_; (· (refine decide_eq_false ?_; omega)))))) | refine end_ops ?_ | refine seq_ops ?_ | (refine cond_f rfl ?_ ?_; (· (refine decide_eq_false ?_; omega))) | refine skip_then ?_ | refine AW_seq ?_)
          refine AW_weak (weak_st ?_ ?_ rfl rfl) h2
          · (repeat' (first | exact trivial | refine And.intro ?_ ?_)) <;> (first | rfl | skip)
          · trivial
        · skip
          refine spec_of Tryd.func3 rfl cc3 rfl ?_
          unfold ac3
          repeat (first | (refine step_ops ?_; ((try (refine g_yes rfl ?_ ?_; (· (simp [*]; done)))); (first | (refine m_mov (by conv => lhs; whnf) ?_) | (refine m_gtr rfl rfl ?_) | (refine m_slen rfl ?_) | (refine m_pick_f rfl ?_ (by conv => lhs; whnf) ?_; (· (refine decide_eq_false ?_; omega)))))) | refine end_ops ?_ | refine seq_ops ?_ | (refine cond_t rfl ?_ ?_; (· (refine decide_eq_true ?_; omega))) | refine AW_seq ?_ | refine AW_ret ?_ | refine ret_done ?_ | refine ret_then ?_)
          exact outs_b rfl
      · skip
        refine spec_of Tryd.func3 rfl cc3 rfl ?_
        unfold ac3
        repeat (first | (refine step_ops ?_; (first | ((try (refine g_yes rfl ?_ ?_; (· (simp [*]; done)))); (first | (refine m_mov (by conv => lhs; whnf) ?_) | (refine m_gtr rfl rfl ?_) | (refine m_slen rfl ?_) | (refine m_pick_t rfl ?_ (by conv => lhs; whnf) ?_; (· (refine decide_eq_true ?_; omega))) | (refine m_pick_f rfl ?_ (by conv => lhs; whnf) ?_; (· (refine decide_eq_false ?_; omega))))) | (refine g_noF rfl ?_ ?_; (· (refine decide_eq_true ?_; omega))))) | refine end_ops ?_ | refine seq_ops ?_ | (refine cond_t rfl ?_ ?_; (· rfl)) | refine AW_seq ?_ | refine AW_ret ?_ | refine ret_done ?_ | refine ret_then ?_)
        exact outs_b rfl
    · skip
      refine spec_of Tryd.func3 rfl cc3 rfl ?_
      unfold ac3
      repeat (first | (refine step_ops ?_; (first | ((try (refine g_yes rfl ?_ ?_; (· (simp [*]; done)))); (first | (refine m_mov (by conv => lhs; whnf) ?_) | (refine m_gtr rfl rfl ?_) | (refine m_slen rfl ?_) | (refine m_pick_t rfl ?_ (by conv => lhs; whnf) ?_; (· first | rfl | (refine decide_eq_true ?_; omega))) | (refine m_pick_f rfl ?_ (by conv => lhs; whnf) ?_; (· (refine decide_eq_false ?_; omega))))) | (refine g_noF rfl ?_ ?_; (· first | rfl | (refine decide_eq_true ?_; omega))))) | refine end_ops ?_ | refine seq_ops ?_ | (refine cond_t rfl ?_ ?_; (· rfl)) | refine AW_seq ?_ | refine AW_ret ?_ | refine ret_done ?_ | refine ret_then ?_)
      exact outs_b rfl
  · skip
    refine spec_of Tryd.func3 rfl cc3 rfl ?_
    unfold ac3
    repeat (first | (refine step_ops ?_; (first | (first | (refine m_mov (by conv => lhs; whnf) ?_) | (refine m_gtr rfl rfl ?_) | (refine m_slen rfl ?_) | (refine m_pick_t rfl ?_ (by conv => lhs; whnf) ?_; (· first | rfl | (refine decide_eq_true ?_; omega)))) | (refine g_noF rfl ?_ ?_; (· first | rfl | (refine decide_eq_true ?_; omega))))) | refine end_ops ?_ | refine seq_ops ?_ | (refine cond_t rfl ?_ ?_; (· rfl)) | refine AW_seq ?_ | refine AW_ret ?_ | refine ret_done ?_ | refine ret_then ?_)
    exact outs_b rfl

theorem lawBoardsChangedOfAll (b a c : ByteArray) (n : Int) (d : ByteArray) (i j : Int) (hi : In64 i) (hj : In64 j) : Sp Tryd.prog 3 [.v (.string b), .v (.string a), .v (.string c), .i n, .v (.string d), .i i, .i j] (.b true) := by
  have e : b = ⟨b.data.toList.toArray⟩ := by cases b; simp
  have e2 : a = ⟨a.data.toList.toArray⟩ := by cases a; simp
  have e3 : c = ⟨c.data.toList.toArray⟩ := by cases c; simp
  have e4 : d = ⟨d.data.toList.toArray⟩ := by cases d; simp
  rw [e, e2, e3, e4]
  exact lawBoardsChangedOfAll' _ _ _ _ _ _ _ hi hj
end Go.Proofs.YtmifianbkpiifaaDoor
