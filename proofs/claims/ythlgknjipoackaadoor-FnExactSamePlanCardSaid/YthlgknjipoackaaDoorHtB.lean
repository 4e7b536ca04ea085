/- Contracts: the greatest number of right guests at least; what a guest in a row guesses. -/
import Derived.Test.YthlgknjipoackaaDoorHtA
namespace Go.Proofs.YthlgknjipoackaaDoor
open Go.Am
attribute [local irreducible] AW Outs Weak Lends Lend Sp aops atree aop1 Then Round InBlock Done

theorem guessInRow_spec (c : Nat) (s : Int) (A B : List UInt8) (h2 : 2 ≤ c) (h3 : c ≤ 3) (hs : 0 ≤ s ∧ s < c) (hA : A.length ≤ 30) (hB : B.length ≤ 30) (cA : IsCol c A) (cB : IsCol c B) :
    Sp Tryd.prog 58 [.i c, .i s, str A, str B] (.i ((s - hsum A - hsum B) % c)) := by
  have e1 := hsum_le h3 cA
  have e2 := hsum_le h3 cB
  refine spec_of Tryd.func58 rfl cc58 rfl ?_
  unfold ac58
  repeat (first | (refine step_ops ?_; (first | (refine m_mov (by conv => lhs; whnf) ?_) | (refine m_sub rfl rfl ?_ ?_ ?_; (· omega); (· omega)))) | refine end_ops ?_ | refine seq_ops ?_ | refine AW_ops ?_ | refine AW_seq ?_ | refine AW_ret ?_ | refine ret_done ?_ | refine norm_then ?_ | refine ret_then ?_ | refine exit_then ?_)
  (refine step_ops ?_); (apply m_call (sumOf_spec A c h3 (by omega) cA)); (· repeat (first | exact lends_nil | (refine lends_cons ?_ ?_; (· (first | exact lend_v | (refine lend_roM rfl; done) | (refine lend_mat rfl ?_; intro j hj; simp (disch := first | omega | assumption) only [hp_put, hp_mem_ne, hp_kill_ne]; first | exact stM_row rfl hj | (rw [stM_row rfl hj]; rfl)) | (refine lend_ints ?_; first | rfl | omega) | (refine lend_sli (by rfl) ?_; first | rfl | omega | (simp; done)) | (refine lend_pln rfl; done) | (refine lend_plns rfl rfl; done) | (refine lend_txr rfl; done) | (refine lend_txs rfl rfl; done) | exact lend_any | (refine lend_agg ?_; first | rfl | assumption | (simp [plainV]; done)))))))
  repeat (first | (refine step_ops ?_; (first | (refine m_mov (by conv => lhs; whnf) ?_) | (refine m_sub rfl rfl ?_ ?_ ?_; (· omega); (· omega)))) | refine end_ops ?_ | refine seq_ops ?_ | refine AW_ops ?_ | refine AW_seq ?_ | refine AW_ret ?_ | refine ret_done ?_ | refine norm_then ?_ | refine ret_then ?_ | refine exit_then ?_)
  (refine step_ops ?_); (apply m_call (sumOf_spec B c h3 (by omega) cB)); (· repeat (first | exact lends_nil | (refine lends_cons ?_ ?_; (· (first | exact lend_v | (refine lend_roM rfl; done) | (refine lend_mat rfl ?_; intro j hj; simp (disch := first | omega | assumption) only [hp_put, hp_mem_ne, hp_kill_ne]; first | exact stM_row rfl hj | (rw [stM_row rfl hj]; rfl)) | (refine lend_ints ?_; first | rfl | omega) | (refine lend_sli (by rfl) ?_; first | rfl | omega | (simp; done)) | (refine lend_pln rfl; done) | (refine lend_plns rfl rfl; done) | (refine lend_txr rfl; done) | (refine lend_txs rfl rfl; done) | exact lend_any | (refine lend_agg ?_; first | rfl | assumption | (simp [plainV]; done)))))))
  repeat (first | (refine step_ops ?_; (first | (refine m_mov (by conv => lhs; whnf) ?_) | (refine m_sub rfl rfl ?_ ?_ ?_; (· omega); (· omega)))) | refine end_ops ?_ | refine seq_ops ?_ | refine AW_ops ?_ | refine AW_seq ?_ | refine AW_ret ?_ | refine ret_done ?_ | refine norm_then ?_ | refine ret_then ?_ | refine exit_then ?_)
  (refine step_ops ?_); (apply m_call (leftBy_spec (s - hsum A - hsum B) c h2 h3 (by omega))); (· repeat (first | exact lends_nil | (refine lends_cons ?_ ?_; (· (first | exact lend_v | (refine lend_roM rfl; done) | (refine lend_mat rfl ?_; intro j hj; simp (disch := first | omega | assumption) only [hp_put, hp_mem_ne, hp_kill_ne]; first | exact stM_row rfl hj | (rw [stM_row rfl hj]; rfl)) | (refine lend_ints ?_; first | rfl | omega) | (refine lend_sli (by rfl) ?_; first | rfl | omega | (simp; done)) | (refine lend_pln rfl; done) | (refine lend_plns rfl rfl; done) | (refine lend_txr rfl; done) | (refine lend_txs rfl rfl; done) | exact lend_any | (refine lend_agg ?_; first | rfl | assumption | (simp [plainV]; done)))))))
  repeat (first | (refine step_ops ?_; (first | (refine m_mov (by conv => lhs; whnf) ?_) | (refine m_sub rfl rfl ?_ ?_ ?_; (· omega); (· omega)))) | refine end_ops ?_ | refine seq_ops ?_ | refine AW_ops ?_ | refine AW_seq ?_ | refine AW_ret ?_ | refine ret_done ?_ | refine norm_then ?_ | refine ret_then ?_ | refine exit_then ?_)
  exact outs_i rfl

/-- What HeardInRow asks for, and what it tells. -/
def HdOk (c s : Int) (A B : List UInt8) : Prop := (2 ≤ c ∧ c ≤ 3) ∧ (0 ≤ s ∧ s < c) ∧ (A.length ≤ 30 ∧ IsCol c.toNat A) ∧ B.length ≤ 30 ∧ IsCol c.toNat B
instance (c s : Int) (A B : List UInt8) : Decidable (HdOk c s A B) := inferInstanceAs (Decidable (_ ∧ _ ∧ _ ∧ _ ∧ _))
def hdN (c s : Int) (A B : List UInt8) : Int := if HdOk c s A B then (s - hsum A - hsum B) % c else 0
def hdR (c s : Int) (A B : List UInt8) : AV := .tup [.i (hdN c s A B), .b (decide (HdOk c s A B))]
theorem outs_hdno {s' : AS} {c s : Int} {A B : List UInt8} (h : ¬ HdOk c s A B) : Outs s' (.tup [.i 0, .b false]) (hdR c s A B) := by
  unfold hdR hdN
  rw [if_neg h, decide_eq_false h]
  exact outs_tup2 (outs_i rfl) (outs_b rfl)

end Go.Proofs.YthlgknjipoackaaDoor
