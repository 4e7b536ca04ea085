/- Contracts: own coats. -/
import Derived.Test.YtgjlaajkakecpaaSpE
import Derived.Test.YtgjlaajkakecpaaSpB
namespace Go.Proofs.Ytgjlaajkakecpaa
open Go.Am
attribute [local irreducible] AW Outs Weak Lends Lend Sp aops atree aop1 Then Round InBlock Done

/-- Those of the first k guests who have their own coats. -/
def ownList (L : List Int) (k : Nat) : List Int := ((List.range k).filter fun (i : Nat) => decide (L.getD i 0 = i)).map fun (i : Nat) => (i : Int)
theorem ownList_yes {L : List Int} {k : Nat} (h : L.getD k 0 = k) : ownList L (k + 1) = ownList L k ++ [(k : Int)] := by
  unfold ownList; rw [List.range_succ, List.filter_append, List.map_append, List.filter_cons_of_pos (p := fun (i : Nat) => decide (L.getD i 0 = (i : Int))) (a := k) (decide_eq_true h)]; rfl
theorem ownList_no {L : List Int} {k : Nat} (h : ¬ L.getD k 0 = k) : ownList L (k + 1) = ownList L k := by
  unfold ownList; rw [List.range_succ, List.filter_append, List.map_append, List.filter_cons_of_neg (p := fun (i : Nat) => decide (L.getD i 0 = (i : Int))) (a := k) (fun e => h (of_decide_eq_true e))]; simp
theorem ownList_le (L : List Int) (k : Nat) : (ownList L k).length ≤ k := by
  unfold ownList; rw [List.length_map]; exact Nat.le_trans (List.length_filter_le ..) (by simp)

theorem exOwn_spec (L : List Int) (hL : L.length ≤ 1048576) : Sp Try.prog 34 [ints L] (newInts (ownList L L.length)) := by
  refine spec_of Try.func34 rfl cc34 rfl ?_
  unfold ac34
  repeat (first | (refine step_ops ?_; (first | (refine m_mov (by conv => lhs; whnf) ?_) | (refine m_len_ro rfl ?_) | (refine m_nils ?_))) | refine end_ops ?_ | refine seq_ops ?_ | refine AW_seq ?_ | refine AW_block ?_)
  refine AW_loop (α := Nat × Nat) (fun a => a.1 ≤ L.length ∧ (a.2 = 3 ∨ a.2 = 19)) (fun a => st [(6, ints L), (7, .i L.length), (8, .i a.1), (3, .sl a.2 1 0 (ownList L a.1).length)] [(a.2, (true, (ownList L a.1).map AV.i))]) (fun a => L.length - a.1) (0, 3) (by simp) (weak_st ?_ ?_ rfl rfl) ?_
  · (repeat' (first | exact trivial | refine And.intro ?_ ?_)) <;> (first | rfl | skip)
  · exact ⟨rfl, trivial⟩
  rintro ⟨k, r⟩ ⟨hk, hr⟩
  have hn := ownList_le L k
  simp only at hk hr
  rcases hr with rfl | rfl
  all_goals
    dsimp only
    by_cases h : k < L.length
    · by_cases hx : L.getD k 0 = k
      · repeat (first | (refine step_ops ?_; (first | (refine m_mov (by conv => lhs; whnf) ?_) | (refine m_lss rfl rfl ?_) | (refine m_eql rfl rfl ?_) | (refine m_add rfl rfl ?_ ?_ ?_; (· omega); (· omega)) | (refine m_idx1_ro rfl rfl ?_ ?_; (· omega)) | (refine m_ld_rpi rfl ?_ ?_; (· omega)) | (refine m_bsl1 rfl rfl ?_) | (refine m_app1i rfl (by decide) (by rfl) (by first | rfl | omega | (simp; done)) rfl rfl ?_ (by decide) ?_; (· first | omega | (simp; omega))))) | refine end_ops ?_ | refine seq_ops ?_ | refine AW_ops ?_ | (refine cond_t rfl ?_ ?_; (· first | rfl | assumption | (refine decide_eq_true ?_; first | assumption | omega) | (refine nt ?_; first | assumption | omega) | (simp [*]; done))) | refine skip_then ?_ | refine AW_seq ?_ | refine norm_then ?_ | refine AW_block ?_ | refine norm_block ?_)
        refine next_round (k + 1, 19) ⟨by omega, .inr rfl⟩ (weak_st ?_ ?_ rfl rfl) ?_
        · refine ⟨rfl, rfl, rfl, ?_, trivial⟩
          show AV.sl 19 1 0 (ownList L k ++ [(k : Int)]).length = AV.sl 19 1 0 (ownList L (k + 1)).length
          rw [ownList_yes hx]
        · refine ⟨?_, trivial⟩
          show some (true, (ownList L k ++ [(k : Int)]).map AV.i) = some (true, (ownList L (k + 1)).map AV.i)
          rw [ownList_yes hx]
        · omega
      · repeat (first | (refine step_ops ?_; (first | (refine m_mov (by conv => lhs; whnf) ?_) | (refine m_lss rfl rfl ?_) | (refine m_eql rfl rfl ?_) | (refine m_add rfl rfl ?_ ?_ ?_; (· omega); (· omega)) | (refine m_idx1_ro rfl rfl ?_ ?_; (· omega)) | (refine m_ld_rpi rfl ?_ ?_; (· omega)))) | refine end_ops ?_ | refine seq_ops ?_ | refine AW_ops ?_ | (refine cond_t rfl ?_ ?_; (· first | rfl | assumption | (refine decide_eq_true ?_; first | assumption | omega) | (refine nt ?_; first | assumption | omega) | (simp [*]; done))) | (refine cond_f rfl ?_ ?_; (· first | rfl | assumption | (refine decide_eq_false ?_; first | assumption | omega) | (refine nf ?_; first | assumption | omega) | (simp [*]; done))) | refine skip_then ?_ | refine AW_seq ?_ | refine norm_then ?_ | refine AW_block ?_ | refine norm_block ?_ | refine AW_skip ?_)
        first
        | (refine next_round (k + 1, 3) ⟨by omega, .inl rfl⟩ (weak_st ?_ ?_ rfl rfl) ?_
           · exact ⟨rfl, rfl, rfl, by show _ = AV.sl 3 1 0 (ownList L (k + 1)).length; rw [ownList_no hx]; rfl, trivial⟩
           · exact ⟨by show _ = some (true, (ownList L (k + 1)).map AV.i); rw [ownList_no hx]; rfl, trivial⟩
           · omega)
        | (refine next_round (k + 1, 19) ⟨by omega, .inr rfl⟩ (weak_st ?_ ?_ rfl rfl) ?_
           · exact ⟨rfl, rfl, rfl, by show _ = AV.sl 19 1 0 (ownList L (k + 1)).length; rw [ownList_no hx]; rfl, trivial⟩
           · exact ⟨by show _ = some (true, (ownList L (k + 1)).map AV.i); rw [ownList_no hx]; rfl, trivial⟩
           · omega)
    · repeat (first | (refine step_ops ?_; (first | (refine m_mov (by conv => lhs; whnf) ?_) | (refine m_lss rfl rfl ?_))) | refine end_ops ?_ | refine seq_ops ?_ | (refine cond_f rfl ?_ ?_; (· first | rfl | assumption | (refine decide_eq_false ?_; first | assumption | omega) | (refine nf ?_; first | assumption | omega) | (simp [*]; done))) | refine AW_seq ?_ | refine AW_ret ?_ | refine ret_done ?_ | refine norm_then ?_ | refine exit_then ?_ | refine exit_round ?_ | refine AW_exit ?_ | refine exit_block ?_)
      obtain rfl : k = L.length := by omega
      exact outs_ints rfl rfl rfl

/-- What OwnCoats tells. -/
def ownRes (L : List Int) : List Int := if IsEx L then ownList L L.length else []
theorem ownRes_le (L : List Int) : (ownRes L).length ≤ L.length := by
  unfold ownRes; split
  · exact ownList_le L _
  · simp

end Go.Proofs.Ytgjlaajkakecpaa
