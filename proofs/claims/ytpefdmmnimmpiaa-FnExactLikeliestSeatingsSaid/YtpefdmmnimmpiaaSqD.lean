/- Contracts: CanSeat, ChanceOfSeating, DisplacedIn. -/
import Derived.Test.YtpefdmmnimmpiaaSqA
import Derived.Test.YtpefdmmnimmpiaaSqC
namespace Go.Proofs.Ytpefdmmnimmpiaa
open Go.Am
attribute [local irreducible] AW Outs Weak Lends Lend Sp aops atree aop1 Then Round InBlock Done

def SeatOk (l : Int) (L : List Int) : Prop := IsEx L ∧ 0 ≤ l ∧ l ≤ L.length
instance (l : Int) (L : List Int) : Decidable (SeatOk l L) := inferInstanceAs (Decidable (_ ∧ _))

def canR (l : Int) (L : List Int) : Bool := decide (SeatOk l L ∧ comeK l L L.length)
def canTup (l : Int) (L : List Int) : AV := .tup [.b (canR l L), .b (decide (SeatOk l L))]

def chcR (l : Int) (L : List Int) : Nat × Nat := if SeatOk l L then (if comeK l L L.length then (1, prodS l L L.length) else (0, 1)) else (0, 0)
def chcTup (l : Int) (L : List Int) : AV := .tup [.i (chcR l L).1, .i (chcR l L).2, .b (decide (SeatOk l L))]

theorem chanceOf_spec (l : Int) (L : List Int) (hL : L.length ≤ 12) : Sp Try.prog 36 [.i l, ints L] (.agg (fracV (1, prodS l L L.length))) := by
  have hb := prodS_bound l L hL L.length (by omega)
  have hp := partOf_spec 1 (prodS l L L.length) (by omega) (by omega) hb.1
  have e : low 1 (prodS l L L.length) = (1, prodS l L L.length) := by simp [low]
  rw [e] at hp
  have hp' : Sp Try.prog 34 [.i 1, .i (prodS l L L.length)] (.agg (fracV (1, prodS l L L.length))) := hp
  clear hp e
  unfold fracV at hp' ⊢
  refine specC_of Try.func36 rfl cc36 (by rfl) ?_
  unfold ac36
  repeat (first | (refine step_ops ?_; (first | (refine m_mov (by conv => lhs; whnf) ?_) | (refine m_alloc ?_) | (refine m_stall rfl rfl rfl ?_ ?_ ?_ ?_; (· first | rfl | (simp [*]; done)); (· first | rfl | (simp [*]; done)); (· first | rfl | (simp [cellOk, Value.oneCell']; done))))) | refine end_ops ?_ | refine seq_ops ?_ | refine AW_ops ?_ | refine AW_seq ?_ | refine AW_ret ?_ | refine ret_done ?_ | refine norm_then ?_ | refine ret_then ?_ | refine exit_then ?_)
  (refine step_ops ?_); (apply m_call (countChosen_spec l L hL)); (· repeat (first | exact lends_nil | (refine lends_cons ?_ ?_; (· first | exact lend_v | (refine lend_roM rfl; done) | (refine lend_mat rfl ?_; intro j hj; simp (disch := first | omega | assumption) only [hp_put, hp_mem_ne, hp_kill_ne]; first | exact stM_row rfl hj | (rw [stM_row rfl hj]; rfl)) | (refine lend_ints ?_; first | rfl | omega) | (refine lend_sli (by rfl) ?_; first | rfl | omega | (simp; done)) | exact lend_any | (refine lend_agg ?_; first | rfl | assumption | (simp [plainV]; done))))))
  repeat (first | (refine step_ops ?_; (first | (refine m_mov (by conv => lhs; whnf) ?_) | (refine m_alloc ?_) | (refine m_stall rfl rfl rfl ?_ ?_ ?_ ?_; (· first | rfl | (simp [*]; done)); (· first | rfl | (simp [*]; done)); (· first | rfl | (simp [cellOk, Value.oneCell']; done))))) | refine end_ops ?_ | refine seq_ops ?_ | refine AW_ops ?_ | refine AW_seq ?_ | refine AW_ret ?_ | refine ret_done ?_ | refine norm_then ?_ | refine ret_then ?_ | refine exit_then ?_)
  (refine step_ops ?_); (apply m_call (hp')); (· repeat (first | exact lends_nil | (refine lends_cons ?_ ?_; (· first | exact lend_v | (refine lend_roM rfl; done) | (refine lend_mat rfl ?_; intro j hj; simp (disch := first | omega | assumption) only [hp_put, hp_mem_ne, hp_kill_ne]; first | exact stM_row rfl hj | (rw [stM_row rfl hj]; rfl)) | (refine lend_ints ?_; first | rfl | omega) | (refine lend_sli (by rfl) ?_; first | rfl | omega | (simp; done)) | exact lend_any | (refine lend_agg ?_; first | rfl | assumption | (simp [plainV]; done))))))
  repeat (first | (refine step_ops ?_; (first | (refine m_mov (by conv => lhs; whnf) ?_) | (refine m_alloc ?_) | (refine m_stall rfl rfl rfl ?_ ?_ ?_ ?_; (· first | rfl | (simp [*]; done)); (· first | rfl | (simp [*]; done)); (· first | rfl | (simp [cellOk, Value.oneCell']; done))))) | refine end_ops ?_ | refine seq_ops ?_ | refine AW_ops ?_ | refine AW_seq ?_ | refine AW_ret ?_ | refine ret_done ?_ | refine norm_then ?_ | refine ret_then ?_ | refine exit_then ?_)
  exact ret_donec rfl rfl rfl (outs_agg rfl)

def dispR (L : List Int) : List Int := if IsEx L then disp L L.length else []
theorem dispR_le (L : List Int) : (dispR L).length ≤ L.length := by
  unfold dispR; split
  · exact disp_le L _
  · simp

end Go.Proofs.Ytpefdmmnimmpiaa
