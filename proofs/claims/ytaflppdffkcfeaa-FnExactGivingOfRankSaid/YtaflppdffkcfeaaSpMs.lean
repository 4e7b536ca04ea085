/- Contracts: the program's sets of guests. -/
import Derived.Test.YtaflppdffkcfeaaSpMu
import Derived.Test.YtaflppdffkcfeaaSpTz
import Derived.Test.YtaflppdffkcfeaaSpKn
namespace Go.Am
theorem m_subk {P : Program} {own : Bool} {s : AS} {K : AS → Prop} {d : Option Nat} {x y : Opd} {q : IntKind} {a b c : Int} (hx : s.ev x = .v (.int q a)) (hy : s.ev y = .v (.int q b)) (hc : q.wrap (a - b) = c) (k : K (s.put d (.v (.int q c)))) : aop1 P own ⟨d, .bin .sub x y, none⟩ s K := ⟨_, _, .int q c, hx, hy, by simp [pbin, hc], k⟩
end Go.Am
namespace Go.Proofs.Ytaflppdffkcfeaa
open Go.Am
attribute [local irreducible] AW Outs Weak Lends Lend Sp aops atree aop1 Then Round InBlock Done

theorem gsHas_spec (S k : Nat) (hS : S < 65536) (hk : k < 16) : Sp Try.prog 24 [.u S, .i k] (.b (S.testBit k)) := by
  have hsh : S >>> k < 65536 := Nat.lt_of_le_of_lt (Nat.shiftRight_le S k) hS
  refine spec_of Try.func24 rfl cc24 rfl ?_
  unfold ac24
  repeat (first | ((first | (refine step_ops ?_; (first | (refine m_mov (by conv => lhs; whnf) ?_) | (refine m_eql rfl rfl ?_) | (refine m_eqk rfl rfl ?_) | (refine m_eqs rfl rfl ?_))) | refine end_ops ?_ | refine seq_ops ?_ | refine AW_ops ?_ | refine AW_seq ?_ | refine AW_ret ?_ | refine ret_done ?_ | refine norm_then ?_ | refine ret_then ?_ | refine exit_then ?_)) | (refine step_ops ?_; first | (refine m_shr16 (k := k) rfl rfl hk ?_) | (refine m_and16_1 (a := S >>> k) rfl rfl hsh ?_) | (refine m_eql16_1 rfl rfl ?_)))
  exact outs_b (by rw [← bit_and S k]; all_goals exact decide_eq_decide.2 (by omega))
theorem gsWith_spec (S k : Nat) (hS : S < 65536) (hk : k < 16) : Sp Try.prog 26 [.u S, .i k] (.u (S ||| 1 <<< k)) := by
  refine spec_of Try.func26 rfl cc26 rfl ?_
  unfold ac26
  repeat (first | ((first | (refine step_ops ?_; (first | (refine m_mov (by conv => lhs; whnf) ?_))) | refine end_ops ?_ | refine seq_ops ?_ | refine AW_ops ?_ | refine AW_seq ?_ | refine AW_ret ?_ | refine ret_done ?_ | refine norm_then ?_ | refine ret_then ?_ | refine exit_then ?_)) | (refine step_ops ?_; first | (refine m_shl16 (k := k) rfl rfl hk ?_) | (refine m_or16 rfl rfl hS (shl16_lt hk) ?_)))
  exact outs_v
theorem everyone_spec (F : List Int) (h9 : F.length ≤ 9) : Sp Try.prog 31 [.agg (kinV F)] (.u (2 ^ F.length - 1)) := by
  have hl := kinV_len h9
  have hp : 1 <<< F.length < 65536 := shl16_lt (by omega)
  have hpos : 0 < 1 <<< F.length := by rw [Nat.one_shiftLeft]; exact Nat.two_pow_pos _
  have hw : IntKind.u16.wrap (((1 <<< F.length : Nat) : Int) - 1) = ((2 ^ F.length - 1 : Nat) : Int) := by
    have e : ((1 <<< F.length : Nat) : Int) - 1 = ((1 <<< F.length - 1 : Nat) : Int) := (Int.natCast_sub hpos).symm
    refine (congrArg _ e).trans ?_
    rw [wrap16 (by omega), Nat.one_shiftLeft]
  refine spec_of Try.func31 rfl cc31 rfl ?_
  unfold ac31
  repeat (first | ((first | (refine step_ops ?_; (first | (refine m_mov (by conv => lhs; whnf) ?_) | (refine m_sub rfl rfl ?_ ?_ ?_; (· omega); (· omega)) | (refine m_ld_rpi rfl ?_ ?_; (· omega)) | (refine m_ld_pti rfl (by rfl) ?_ ?_; (· first | omega | (simp; omega))) | (apply m_ld_ptb; (· rfl); (· rfl); (· assumption)) | (apply m_ld_rp; (· rfl); (· rfl)) | (apply m_ld_pt; (· rfl); (· rfl); (· rfl)) | (refine m_fa rfl ?_) | (refine m_fa_rp rfl ?_) | (refine m_box rfl ?_ ?_; (· first | rfl | (simp [cellOk, Value.oneCell']; done))) | (refine m_box1 rfl rfl ?_))) | refine end_ops ?_ | refine seq_ops ?_ | refine AW_ops ?_ | refine AW_seq ?_ | refine AW_ret ?_ | refine ret_done ?_ | refine norm_then ?_ | refine ret_then ?_ | refine exit_then ?_)) | (refine step_ops ?_; first | (refine m_box rfl (kinV_ok F true) ?_) | (refine m_shl16 (k := F.length) rfl rfl (by omega) ?_) | (refine m_subk rfl rfl hw ?_)))
  exact outs_v
end Go.Proofs.Ytaflppdffkcfeaa
