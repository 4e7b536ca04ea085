/- The law FnExactParseHatPlan says true for every text: ParseHatPlan answers as its model does, and its answer is memory of its own. No condition but that the listed tables and the two errors of the library read as the program laid them. -/
import Derived.Test.YtfoecdaggmagaaaDoorHpV
import Derived.Test.YtfoecdaggmagaaaDoorHpW
namespace Go.Proofs.YtfoecdaggmagaaaDoor
open Go.Am
attribute [local irreducible] AW Outs Weak Lends Lend Sp aops atree aop1 Then Round InBlock Done
attribute [local irreducible] SpM SpH
theorem ren_one (c : Int) (q n : Nat) : renV (fun r => if r = nbase then q else r) (.tup [.agg [.i c, .sl nbase 1 1 n], .b true]) = .tup [.agg [.i c, .sl q 1 1 n], .b true] := by
  show AV.tup [.agg [.i c, .sl (if nbase = nbase then q else nbase) 1 1 n], .b true] = _
  rw [if_pos rfl]
theorem m_newO {P : Program} {s : AS} {K : AS → Prop} {d : Option Nat} {f : FuncId} {args : List Opd} {ags : List AV} {c : Int} {w : List UInt8} {G : List (List UInt8)} (q : Nat) (hs : SpH P f ags (Am.look []) (.tup [.agg [.i c, .sl nbase 1 1 G.length], .b true]) (Am.look (oneH (txs (w :: G))))) (hl : Lends s.hp (args.map s.ev) ags) (hq : s.hp q = none) (hqp : q < pbase)
    (k : K ((s.mem q (true, txs (w :: G))).put d (.tup [.agg [.i c, .sl q 1 1 G.length], .b true]))) : aop1 P true ⟨d, .call f args, none⟩ s K :=
  m_new1 q hs hl hq hqp (fun g => txs_ren g _) (txs_own _ _) rfl (by rw [ren_one]; exact k)
theorem lawYes (t : List UInt8) (h : PaOk t) (hb : t.length ≤ 1048576) : Sp Tryd.prog 3 [str t] (.b true) := by
  have hbi : (t.length : Int) ≤ 1048576 := by omega
  have s1 := specParseHatPlan_spec t hb
  have s2 := implParse_yes t hb h
  have hml := h.1.1.2
  unfold ppR ppC ppG at s1
  rw [if_pos h, if_pos h, decide_eq_true h] at s1
  generalize ((paC t : Nat) : Int) = e at *
  generalize hg (paC t) = x at *
  generalize paG t = M at *
  have heqM : (!decide (e = e ∧ M = M)) = false := by simp
  refine spec_of Tryd.func3 rfl cc3 rfl ?_
  unfold ac3
  repeat (first | (refine step_ops ?_; (first | (refine m_mov (by conv => lhs; whnf) ?_) | (refine m_gtr rfl rfl ?_) | (refine m_slen rfl ?_))) | refine end_ops ?_ | refine seq_ops ?_ | (refine cond_f rfl ?_ ?_; (· first | rfl | assumption | (refine decide_eq_false ?_; first | assumption | omega) | (refine nf ?_; first | assumption | omega) | (simp [*]; done))) | refine skip_then ?_ | refine AW_seq ?_)
  (refine step_ops ?_); (apply m_call (s1)); (· repeat (first | exact lends_nil | (refine lends_cons ?_ ?_; (· exact lend_v))))
  repeat (first | (refine step_ops ?_; (first | (refine m_mov (by conv => lhs; whnf) ?_) | (refine m_ext rfl rfl ?_) | (refine m_alloc ?_) | (refine m_stall rfl rfl rfl ?_ ?_ ?_ ?_; (· first | rfl | (simp [*]; done)); (· first | rfl | (simp [*]; done)); (· first | rfl | (simp [cellOk, Value.oneCell']; done))))) | refine end_ops ?_ | refine seq_ops ?_)
  refine step_ops ?_
  refine m_newO 1001 s2 (lends_cons lend_v lends_nil) rfl (by decide) ?_
  repeat (refine step_ops ?_; (first | (refine m_mov (by conv => lhs; whnf) ?_) | (refine m_ext rfl rfl ?_) | (refine m_alloc ?_)))
  refine step_opsW (weak_deep (r := 5) rfl (by simp) rfl) ?_
  refine m_stall (l := [.i e, .sl 1001 1 1 M.length]) rfl rfl rfl rfl rfl rfl ?_
  repeat (first | (refine step_ops ?_; (first | (refine m_mov (by conv => lhs; whnf) ?_) | (refine m_ldall rfl rfl ?_ ?_; (· first | rfl | (simp; done) | (simp [*]; done))))) | refine end_ops ?_ | refine seq_ops ?_ | refine AW_seq ?_)
  refine step_ops ?_
  refine m_call (eqHatPlan_spec e e M M (by omega)) (lends_cons (lend_plno rfl rfl) (lends_cons (lend_pln rfl) lends_nil)) ?_
  repeat (first | (refine step_ops ?_; ((try (refine g_yes rfl ?_ ?_; (· first | rfl | assumption | (refine decide_eq_true ?_; first | assumption | omega) | (refine nt ?_; first | assumption | omega) | (simp [*]; done) | (refine decide_eq_false ?_; first | assumption | omega) | (refine nf ?_; first | assumption | omega)))); (first | (refine m_mov (by conv => lhs; whnf) ?_) | (refine m_not rfl ?_) | (refine m_beq rfl rfl ?_) | (refine m_pick_f rfl ?_ (by conv => lhs; whnf) ?_; (· first | rfl | assumption | (refine decide_eq_false ?_; first | assumption | omega) | (refine nf ?_; first | assumption | omega) | (simp [*]; done))) | (refine m_ldall rfl rfl ?_ ?_; (· first | rfl | (simp; done) | (simp [*]; done)))))) | refine end_ops ?_ | refine seq_ops ?_ | (refine cond_f rfl ?_ ?_; (· first | rfl | assumption | (refine decide_eq_false ?_; first | assumption | omega) | (refine nf ?_; first | assumption | omega) | (simp [*]; done))) | refine skip_then ?_)
  refine step_ops ?_
  refine m_markO 1001 (markHatPlan_off e [x] M 1 (by omega) (by decide) (by decide)) rfl rfl ?_
  repeat (first | (refine step_ops ?_; (first | (refine m_mov (by conv => lhs; whnf) ?_) | (refine m_ldall rfl rfl ?_ ?_; (· first | rfl | (simp; done) | (simp [*]; done))))) | refine end_ops ?_ | refine seq_ops ?_)
  refine step_ops ?_
  refine m_call (heldHatPlan_spec e 1 M.length (by omega) (by decide) (by decide)) ?_ ?_
  · exact lends_cons (lend_plno rfl (marksT_len _ _).symm) (lends_cons lend_v lends_nil)
  repeat (first | (refine step_ops ?_; (first | (refine m_mov (by conv => lhs; whnf) ?_) | (refine m_lss rfl rfl ?_) | (refine m_neq rfl rfl ?_))) | refine end_ops ?_ | refine seq_ops ?_ | (refine cond_f rfl ?_ ?_; (· first | rfl | assumption | (refine decide_eq_false ?_; first | assumption | omega) | (refine nf ?_; first | assumption | omega) | (simp [*]; done))) | refine skip_then ?_ | refine AW_seq ?_)
  refine step_ops ?_
  refine m_newO 1002 s2 (lends_cons lend_v lends_nil) rfl (by decide) ?_
  repeat (refine step_ops ?_; (first | (refine m_mov (by conv => lhs; whnf) ?_) | (refine m_ext rfl rfl ?_) | (refine m_alloc ?_)))
  refine step_opsW (weak_deep (r := 9) rfl (by simp) rfl) ?_
  refine m_stall (l := [.i e, .sl 1002 1 1 M.length]) rfl rfl rfl rfl rfl rfl ?_
  repeat (first | (refine step_ops ?_; (first | (refine m_mov (by conv => lhs; whnf) ?_) | (refine m_ldall rfl rfl ?_ ?_; (· first | rfl | (simp; done) | (simp [*]; done))))) | refine end_ops ?_ | refine seq_ops ?_ | refine AW_seq ?_)
  refine step_ops ?_
  refine m_call (eqHatPlan_spec e e M M (by omega)) (lends_cons (lend_plno rfl rfl) (lends_cons (lend_pln rfl) lends_nil)) ?_
  repeat (first | (refine step_ops ?_; ((try (refine g_yes rfl ?_ ?_; (· first | rfl | assumption | (refine decide_eq_true ?_; first | assumption | omega) | (refine nt ?_; first | assumption | omega) | (simp [*]; done) | (refine decide_eq_false ?_; first | assumption | omega) | (refine nf ?_; first | assumption | omega)))); (first | (refine m_mov (by conv => lhs; whnf) ?_) | (refine m_not rfl ?_) | (refine m_beq rfl rfl ?_) | (refine m_pick_f rfl ?_ (by conv => lhs; whnf) ?_; (· first | rfl | assumption | (refine decide_eq_false ?_; first | assumption | omega) | (refine nf ?_; first | assumption | omega) | (simp [*]; done))) | (refine m_ldall rfl rfl ?_ ?_; (· first | rfl | (simp; done) | (simp [*]; done)))))) | refine end_ops ?_ | refine seq_ops ?_ | (refine cond_f rfl ?_ ?_; (· first | rfl | assumption | (refine decide_eq_false ?_; first | assumption | omega) | (refine nf ?_; first | assumption | omega) | (simp [*]; done))) | refine skip_then ?_)
  refine step_ops ?_
  refine m_call (heldHatPlan_spec e 1 M.length (by omega) (by decide) (by decide)) ?_ ?_
  · exact lends_cons (lend_plno rfl (marksT_len _ _).symm) (lends_cons lend_v lends_nil)
  repeat (first | (refine step_ops ?_; (first | (refine m_mov (by conv => lhs; whnf) ?_) | (refine m_lss rfl rfl ?_) | (refine m_neq rfl rfl ?_))) | refine end_ops ?_ | refine seq_ops ?_ | (refine cond_f rfl ?_ ?_; (· first | rfl | assumption | (refine decide_eq_false ?_; first | assumption | omega) | (refine nf ?_; first | assumption | omega) | (simp [*]; done))) | refine skip_then ?_ | refine AW_seq ?_ | refine AW_ret ?_ | refine ret_done ?_)
  exact outs_b rfl
theorem lawNo (t : List UInt8) (h : ¬ PaOk t) (hb : t.length ≤ 1048576) : Sp Tryd.prog 3 [str t] (.b true) := by
  have hbi : (t.length : Int) ≤ 1048576 := by omega
  have s1 := specParseHatPlan_spec t hb
  have s2 := implParse_no t hb h
  have hml := ppG_le t
  unfold ppR at s1 s2
  have hne : (true ^^ (decide (PaOk t) == decide (PaOk t))) = false := by simp
  generalize ppC t = e at *
  generalize ppG t = M at *
  have heqM : (!decide (e = e ∧ M = M)) = false := by simp
  refine spec_of Tryd.func3 rfl cc3 rfl ?_
  unfold ac3
  repeat (first | (refine step_ops ?_; (first | (refine m_mov (by conv => lhs; whnf) ?_) | (refine m_gtr rfl rfl ?_) | (refine m_slen rfl ?_))) | refine end_ops ?_ | refine seq_ops ?_ | (refine cond_f rfl ?_ ?_; (· first | rfl | assumption | (refine decide_eq_false ?_; first | assumption | omega) | (refine nf ?_; first | assumption | omega) | (simp [*]; done))) | refine skip_then ?_ | refine AW_seq ?_)
  (refine step_ops ?_); (apply m_call (s1)); (· repeat (first | exact lends_nil | (refine lends_cons ?_ ?_; (· exact lend_v))))
  repeat (first | (refine step_ops ?_; (first | (refine m_mov (by conv => lhs; whnf) ?_) | (refine m_ext rfl rfl ?_) | (refine m_alloc ?_) | (refine m_stall rfl rfl rfl ?_ ?_ ?_ ?_; (· first | rfl | (simp [*]; done)); (· first | rfl | (simp [*]; done)); (· first | rfl | (simp [cellOk, Value.oneCell']; done))))) | refine end_ops ?_ | refine seq_ops ?_)
  refine step_ops ?_
  refine m_newT 1001 s2 rfl ?_ rfl (by decide) ?_
  · exact lends_cons lend_v lends_nil
  repeat (refine step_ops ?_; (first | (refine m_mov (by conv => lhs; whnf) ?_) | (refine m_ext rfl rfl ?_) | (refine m_alloc ?_)))
  refine step_opsW (weak_deep (r := 5) rfl (by simp) rfl) ?_
  refine m_stall (l := [.i e, .sl 1001 1 0 M.length]) rfl rfl rfl rfl rfl rfl ?_
  repeat (first | (refine step_ops ?_; (first | (refine m_mov (by conv => lhs; whnf) ?_) | (refine m_ldall rfl rfl ?_ ?_; (· first | rfl | (simp; done) | (simp [*]; done))))) | refine end_ops ?_ | refine seq_ops ?_ | refine AW_seq ?_)
  (refine step_ops ?_); (apply m_call (eqHatPlan_spec e e M M (by omega))); (· repeat (first | exact lends_nil | (refine lends_cons ?_ ?_; (· (first | (refine lend_pln rfl; done) | (refine lend_plns rfl rfl; done))))))
  repeat (first | (refine step_ops ?_; ((try (refine g_yes rfl ?_ ?_; (· first | rfl | assumption | (refine decide_eq_true ?_; first | assumption | omega) | (refine nt ?_; first | assumption | omega) | (simp [*]; done) | (refine decide_eq_false ?_; first | assumption | omega) | (refine nf ?_; first | assumption | omega)))); (first | (refine m_mov (by conv => lhs; whnf) ?_) | (refine m_not rfl ?_) | (refine m_beq rfl rfl ?_) | (refine m_pick_f rfl ?_ (by conv => lhs; whnf) ?_; (· first | rfl | assumption | (refine decide_eq_false ?_; first | assumption | omega) | (refine nf ?_; first | assumption | omega) | (simp [*]; done))) | (refine m_ldall rfl rfl ?_ ?_; (· first | rfl | (simp; done) | (simp [*]; done)))))) | refine end_ops ?_ | refine seq_ops ?_ | (refine cond_f rfl ?_ ?_; (· first | rfl | assumption | (refine decide_eq_false ?_; first | assumption | omega) | (refine nf ?_; first | assumption | omega) | (simp [*]; done))) | refine skip_then ?_)
  refine step_ops ?_
  refine m_markP 1001 (markHatPlan_spec e M 1 (by omega) (by decide) (by decide)) rfl rfl ?_
  repeat (first | (refine step_ops ?_; (first | (refine m_mov (by conv => lhs; whnf) ?_) | (refine m_ldall rfl rfl ?_ ?_; (· first | rfl | (simp; done) | (simp [*]; done))))) | refine end_ops ?_ | refine seq_ops ?_)
  refine step_ops ?_
  refine m_call (heldHatPlan_spec e 1 M.length (by omega) (by decide) (by decide)) ?_ ?_
  · exact lends_cons (lend_plns rfl (marksT_len _ _).symm) (lends_cons lend_v lends_nil)
  repeat (first | (refine step_ops ?_; (first | (refine m_mov (by conv => lhs; whnf) ?_) | (refine m_lss rfl rfl ?_) | (refine m_neq rfl rfl ?_))) | refine end_ops ?_ | refine seq_ops ?_ | (refine cond_f rfl ?_ ?_; (· first | rfl | assumption | (refine decide_eq_false ?_; first | assumption | omega) | (refine nf ?_; first | assumption | omega) | (simp [*]; done))) | refine skip_then ?_ | refine AW_seq ?_)
  (refine step_ops ?_); (apply m_call (s2)); (· repeat (first | exact lends_nil | (refine lends_cons ?_ ?_; (· exact lend_v))))
  repeat (first | (refine step_ops ?_; (first | (refine m_mov (by conv => lhs; whnf) ?_) | (refine m_ext rfl rfl ?_) | (refine m_alloc ?_) | (refine m_ldall rfl rfl ?_ ?_; (· first | rfl | (simp; done) | (simp [*]; done))) | (refine m_stall rfl rfl rfl ?_ ?_ ?_ ?_; (· first | rfl | (simp [*]; done)); (· first | rfl | (simp [*]; done)); (· first | rfl | (simp [cellOk, Value.oneCell']; done))))) | refine end_ops ?_ | refine seq_ops ?_ | refine AW_seq ?_)
  (refine step_ops ?_); (apply m_call (eqHatPlan_spec e e M M (by omega))); (· repeat (first | exact lends_nil | (refine lends_cons ?_ ?_; (· (refine lend_pln rfl; done)))))
  repeat (first | (refine step_ops ?_; ((try (refine g_yes rfl ?_ ?_; (· first | rfl | assumption | (refine decide_eq_true ?_; first | assumption | omega) | (refine nt ?_; first | assumption | omega) | (simp [*]; done) | (refine decide_eq_false ?_; first | assumption | omega) | (refine nf ?_; first | assumption | omega)))); (first | (refine m_mov (by conv => lhs; whnf) ?_) | (refine m_not rfl ?_) | (refine m_beq rfl rfl ?_) | (refine m_pick_f rfl ?_ (by conv => lhs; whnf) ?_; (· first | rfl | assumption | (refine decide_eq_false ?_; first | assumption | omega) | (refine nf ?_; first | assumption | omega) | (simp [*]; done))) | (refine m_ldall rfl rfl ?_ ?_; (· first | rfl | (simp; done) | (simp [*]; done)))))) | refine end_ops ?_ | refine seq_ops ?_ | (refine cond_f rfl ?_ ?_; (· first | rfl | assumption | (refine decide_eq_false ?_; first | assumption | omega) | (refine nf ?_; first | assumption | omega) | (simp [*]; done))) | refine skip_then ?_)
  refine step_ops ?_
  refine m_call (heldHatPlan_spec e 1 M.length (by omega) (by decide) (by decide)) ?_ ?_
  · exact lends_cons (lend_plns rfl (marksT_len _ _).symm) (lends_cons lend_v lends_nil)
  repeat (first | (refine step_ops ?_; (first | (refine m_mov (by conv => lhs; whnf) ?_) | (refine m_lss rfl rfl ?_) | (refine m_neq rfl rfl ?_))) | refine end_ops ?_ | refine seq_ops ?_ | (refine cond_f rfl ?_ ?_; (· first | rfl | assumption | (refine decide_eq_false ?_; first | assumption | omega) | (refine nf ?_; first | assumption | omega) | (simp [*]; done))) | refine skip_then ?_ | refine AW_seq ?_ | refine AW_ret ?_ | refine ret_done ?_)
  exact outs_b rfl
theorem lawLong (t : List UInt8) (hb : ¬ t.length ≤ 1048576) : Sp Tryd.prog 3 [str t] (.b true) := by
  have hbi : ¬ (t.length : Int) ≤ 1048576 := by omega
  refine spec_of Tryd.func3 rfl cc3 rfl ?_
  unfold ac3
  repeat (first | (refine step_ops ?_; (first | (refine m_mov (by conv => lhs; whnf) ?_) | (refine m_gtr rfl rfl ?_) | (refine m_slen rfl ?_))) | refine end_ops ?_ | refine seq_ops ?_ | (refine cond_t rfl ?_ ?_; (· first | rfl | assumption | (refine decide_eq_true ?_; first | assumption | omega) | (refine nt ?_; first | assumption | omega) | (simp [*]; done))) | refine AW_seq ?_ | refine AW_ret ?_ | refine ret_done ?_ | refine ret_then ?_)
  exact outs_b rfl
theorem lawParseHatPlan (b : ByteArray) : Sp Tryd.prog 3 [.v (.string b)] (.b true) := by
  have e : b = ⟨b.data.toList.toArray⟩ := by cases b; simp
  rw [e]
  by_cases hb : b.data.toList.length ≤ 1048576
  · by_cases h : PaOk b.data.toList
    · exact lawYes _ h hb
    · exact lawNo _ h hb
  · exact lawLong _ hb
end Go.Proofs.YtfoecdaggmagaaaDoor
