/- Contract: lengths told from the greatest one down. -/
import Derived.Test.YteoogkiaacdmiaaSuG
import Derived.Test.YteoogkiaacdmiaaSuR
namespace Go.Proofs.Yteoogkiaacdmiaa
open Go.Am
attribute [local irreducible] AW Outs Weak Lends Lend Sp aops atree aop1 Then Round InBlock Done
attribute [local irreducible] SpM DoneM SpH DoneH

/-- Numbers from the greatest one down. -/
def dsc (L : List Int) : List Int := (srt L).reverse
theorem dsc_len (L : List Int) : (dsc L).length = L.length := by unfold dsc; rw [List.length_reverse, srt_len]
theorem dsc_of {L l : List Int} (hp : l.Perm L) (h : l.Pairwise (· ≥ ·)) : l = dsc L := desc_eq (hp.trans ((srt_perm L).symm.trans (List.reverse_perm _).symm)) h (asc_rev (srt_asc L))

theorem falling_spec (L : List Int) (h0 : 0 < L.length) (h12 : L.length ≤ 12) : SpH Try.prog 48 [.sl pbase 1 0 L.length] (Am.look (hS L)) (.sl pbase 1 0 L.length) (Am.look (hS (dsc L))) := by
  have hst := hS_static L (dsc L) (.sl pbase 1 0 L.length) (by simp [ownV, refsV, Am.look])
  have hp0 : pbase = 4000000 := rfl
  have hs1 := slicesSort_spec L h0 h12
  have hs2 := slicesReverse_spec (srt L) (by rw [srt_len]; omega) (by rw [srt_len]; omega)
  rw [srt_len] at hs2
  refine specH_of Try.func48 rfl cc48 rfl (by first | exact static_mat1 _ | exact static_mat2 _ _ | assumption) ?_
  unfold ac48
  repeat (first | (refine step_ops ?_; (first | (refine m_mov (by conv => lhs; whnf) ?_) | (refine m_nils ?_))) | refine end_ops ?_ | refine seq_ops ?_ | refine AW_ops ?_ | refine AW_seq ?_ | refine AW_ret ?_ | refine ret_done ?_ | refine norm_then ?_ | refine ret_then ?_ | refine exit_then ?_)
  refine step_ops ?_
  refine m_callR id hs1 (by rfl) ?_ ?_ ?_ ?_ ?_ ?_ ?_ ?_ ?_ ?_
  · simp [ownL, ownV, plainV]
  · simp [refsL, refsV, Am.look]
  · ((repeat' (first | exact trivial | refine And.intro ?_ ?_)) <;> (first | rfl | exact congrArg (fun c => some (true, c)) (renL_ints _ _).symm | skip))
  · simp
  · simp
  · simp
  · exact hS_ownR L
  · exact hS_own _ _
  · rfl
  repeat (first | (refine step_ops ?_; (first | (refine m_mov (by conv => lhs; whnf) ?_) | (refine m_nils ?_))) | refine end_ops ?_ | refine seq_ops ?_ | refine AW_ops ?_ | refine AW_seq ?_ | refine AW_ret ?_ | refine ret_done ?_ | refine norm_then ?_ | refine ret_then ?_ | refine exit_then ?_)
  refine step_ops ?_
  refine m_callR id hs2 (by rfl) ?_ ?_ ?_ ?_ ?_ ?_ ?_ ?_ ?_ ?_
  · simp [ownL, ownV, plainV]
  · simp [refsL, refsV, Am.look]
  · ((repeat' (first | exact trivial | refine And.intro ?_ ?_)) <;> (first | rfl | exact congrArg (fun c => some (true, c)) (renL_ints _ _).symm | skip))
  · simp
  · simp
  · simp
  · exact hS_ownR _
  · exact hS_own _ _
  · rfl
  repeat (first | (refine step_ops ?_; (first | (refine m_mov (by conv => lhs; whnf) ?_) | (refine m_nils ?_))) | refine end_ops ?_ | refine seq_ops ?_ | refine AW_ops ?_ | refine AW_seq ?_ | refine AW_ret ?_ | refine ret_done ?_ | refine norm_then ?_ | refine ret_then ?_ | refine exit_then ?_)
  refine ret_R id (by rfl) ?_ (by simp) (by simp) (by simp)
  (repeat' (first | exact trivial | refine And.intro ?_ ?_ | (refine ⟨_, rfl, .inl ?_⟩; first | rfl | exact congrArg (Prod.mk true) (renL_ints _ _).symm)))
end Go.Proofs.Yteoogkiaacdmiaa
