/- The law FnExactFewestLines says true for every text: FewestLines answers as its model does, both lists and whether there are any, and its answers are memory of its own, each. No condition but what its card ties. -/
import Derived.Test.YtkphjdomdmpinaaDoorZs4
namespace Go.Proofs.YtkphjdomdmpinaaDoor
open Go.Am
attribute [local irreducible] AW Outs Weak Lends Lend Sp aops atree aop1 Then Round InBlock Done
attribute [local irreducible] SpM SpH
attribute [local simp] marks_len
theorem call_two {s : AS} {K : AS → Prop} {d : Option Nat} {f : FuncId} {args : List Opd} {av : List AV} {a b : List Int} {n m x y : Nat} {q : Bool} (hs : SpH Tryd.prog f av (Am.look []) (.tup [.sl nbase 1 0 n, .sl (nbase + 1) 1 0 m, .b q]) (Am.look (twoH a b)))
    (ha : args.map s.ev = renL (twoG x y) av) (hha : ownL true av = true) (hra : refsL (fun r => (Am.look ([] : List (Nat × (Bool × List AV))) r).isSome) av = true) (hx : s.hp x = none) (hy : s.hp y = none) (hne : x ≠ y) (hxp : x < pbase) (hyp : y < pbase)
    (k : K (AS.put ⟨s.tm, outR s (twoG x y) (twoH a b)⟩ d (.tup [.sl x 1 0 n, .sl y 1 0 m, .b q]))) : aop1 Tryd.prog true ⟨d, .call f args, none⟩ s K := by
  refine m_callR (hl := []) (twoG x y) hs ha hha hra trivial ?_ (by simp) ?_ (by simp) ?_ rfl k
  · show [x, y].Nodup
    simp [hne]
  · intro p hp
    refine .inr ?_
    rcases List.mem_cons.1 hp with rfl | hp
    · exact ⟨hx, hxp⟩
    · rw [List.mem_singleton] at hp; subst hp; exact ⟨hy, hyp⟩
  · intro p hp
    rcases List.mem_cons.1 hp with rfl | hp
    · exact fl_own _ _
    · rw [List.mem_singleton] at hp; subst hp; exact fl_own _ _
theorem lawFewestLines' (B : List UInt8) : Sp Tryd.prog 8 [str B] (.b true) := by
  refine spec_of Tryd.func8 rfl cc8 rfl ?_
  unfold ac8
  by_cases hB : (B.length : Int) ≤ 1048576
  · have hs := specFewestLines_spec B (by omega)
    have hi := implFewestLines_spec B (by omega)
    have hr := flRow_len B
    have hc := flCol_len B
    unfold flR at hi
    have hne : (decide (GoodBd B) ^^ decide (GoodBd B)) = false := by simp
    have hne2 : (true ^^ (decide (GoodBd B) == decide (GoodBd B))) = false := by simp
    generalize flRow B = R at *
    generalize flCol B = C at *
    generalize decide (GoodBd B) = ok at *
    repeat (first | (refine step_ops ?_; (first | (refine m_mov (by conv => lhs; whnf) ?_) | (refine m_gtr rfl rfl ?_) | (refine m_slen rfl ?_))) | refine end_ops ?_ | refine seq_ops ?_ | (refine cond_f rfl ?_ ?_; (· first | rfl | assumption | (refine decide_eq_false ?_; first | assumption | omega) | (refine nf ?_; first | assumption | omega) | (simp [*]; done))) | refine skip_then ?_ | refine AW_seq ?_)
    (refine step_ops ?_); (apply m_call (hs)); (· repeat (first | exact lends_nil | (refine lends_cons ?_ ?_; (· exact lend_v))))
    repeat (first | (refine step_ops ?_; (first | (refine m_mov (by conv => lhs; whnf) ?_) | (refine m_ext rfl rfl ?_))) | refine end_ops ?_ | refine seq_ops ?_)
    refine step_ops ?_
    refine call_two (x := 1000) (y := 1001) hi rfl rfl rfl rfl rfl (by decide) (by decide) (by decide) ?_
    refine step_opsW (weak_st (l := [(0, str B), (3, newInts R), (4, newInts C), (5, .b ok), (25, .tup [.sl 1000 1 0 R.length, .sl 1001 1 0 C.length, .b ok])]) (h := [(1000, (true, R.map AV.i)), (1001, (true, C.map AV.i))]) ?_ ?_ rfl rfl) ?_
    · (repeat' (first | exact trivial | refine And.intro ?_ ?_)) <;> (first | rfl | exact congrArg (fun c => some (true, c)) (renL_ints _ _) | exact congrArg (fun c => some (true, c)) (txs_ren _ _) | skip)
    · (repeat' (first | exact trivial | refine And.intro ?_ ?_)) <;> (first | rfl | exact congrArg (fun c => some (true, c)) (renL_ints _ _) | exact congrArg (fun c => some (true, c)) (txs_ren _ _) | skip)
    refine m_mov rfl ?_
    repeat (first | (refine step_ops ?_; (first | (refine m_mov (by conv => lhs; whnf) ?_) | (refine m_ext rfl rfl ?_))) | refine end_ops ?_ | refine seq_ops ?_ | refine AW_seq ?_)
    (refine step_ops ?_); (apply m_call (eqIntS_spec R R hr)); (· repeat (first | exact lends_nil | (refine lends_cons ?_ ?_; (· (first | (refine lend_ints ?_; first | rfl | omega) | (refine lend_sli (by rfl) ?_; first | rfl | omega | (simp; done)))))))
    repeat (refine step_ops ?_; ((try (refine g_yes rfl ?_ ?_; (· first | rfl | assumption | (refine decide_eq_true ?_; first | assumption | omega) | (refine nt ?_; first | assumption | omega) | (simp [*]; done) | (refine decide_eq_false ?_; first | assumption | omega) | (refine nf ?_; first | assumption | omega)))); (first | (refine m_mov (by conv => lhs; whnf) ?_) | (refine m_not rfl ?_))))
    (refine step_ops ?_); (refine g_yes rfl ?_ ?_; (· first | (first | rfl | assumption | (refine decide_eq_true ?_; first | assumption | omega) | (refine nt ?_; first | assumption | omega) | (simp [*]; done)) | (first | rfl | assumption | (refine decide_eq_false ?_; first | assumption | omega) | (refine nf ?_; first | assumption | omega) | (simp [*]; done))); (apply m_call (eqIntS_spec C C hc))); (· repeat (first | exact lends_nil | (refine lends_cons ?_ ?_; (· (first | (refine lend_ints ?_; first | rfl | omega) | (refine lend_sli (by rfl) ?_; first | rfl | omega | (simp; done)))))))
    repeat (first | (refine step_ops ?_; ((try (refine g_yes rfl ?_ ?_; (· first | rfl | assumption | (refine decide_eq_true ?_; first | assumption | omega) | (refine nt ?_; first | assumption | omega) | (simp [*]; done) | (refine decide_eq_false ?_; first | assumption | omega) | (refine nf ?_; first | assumption | omega)))); (first | (refine m_mov (by conv => lhs; whnf) ?_) | (refine m_not rfl ?_) | (refine m_beq rfl rfl ?_) | (refine m_pick_f rfl ?_ (by conv => lhs; whnf) ?_; (· first | rfl | assumption | (refine decide_eq_false ?_; first | assumption | omega) | (refine nf ?_; first | assumption | omega) | (simp [*]; done)))))) | refine end_ops ?_ | refine seq_ops ?_ | (refine cond_f rfl ?_ ?_; (· first | rfl | assumption | (refine decide_eq_false ?_; first | assumption | omega) | (refine nf ?_; first | assumption | omega) | (simp [*]; done))) | refine skip_then ?_)
    (refine step_ops ?_); (apply m_callm (markIntS_spec R 1 hr (by decide) (by decide))); (· first | rfl | (simp; done)); (· rfl); (· rfl); (· exact allv_ints _); (· exact allv_ints _); (· rfl)
    repeat (first | (refine step_ops ?_; (refine m_mov (by conv => lhs; whnf) ?_)) | refine end_ops ?_ | refine seq_ops ?_)
    (refine step_ops ?_); (apply m_callm (markIntS_spec C (1 + R.length) hc (by omega) (by omega))); (· first | rfl | (simp; done)); (· rfl); (· rfl); (· exact allv_ints _); (· exact allv_ints _); (· rfl)
    repeat (first | (refine step_ops ?_; (refine m_mov (by conv => lhs; whnf) ?_)) | refine end_ops ?_ | refine seq_ops ?_)
    (refine step_ops ?_); (apply m_call (heldMarks_spec 1 R.length hr (by decide) (by decide))); (· repeat (first | exact lends_nil | (refine lends_cons ?_ ?_; (· (first | exact lend_v | (refine lend_sli (by rfl) ?_; first | rfl | omega | (simp; done)))))))
    repeat (first | (refine step_ops ?_; (first | (refine m_mov (by conv => lhs; whnf) ?_) | (refine m_lss rfl rfl ?_))) | refine end_ops ?_ | refine seq_ops ?_ | (refine cond_f rfl ?_ ?_; (· first | rfl | assumption | (refine decide_eq_false ?_; first | assumption | omega) | (refine nf ?_; first | assumption | omega) | (simp [*]; done))) | refine skip_then ?_ | refine AW_seq ?_)
    (refine step_ops ?_); (apply m_call (heldMarks_spec (1 + R.length) C.length hc (by omega) (by omega))); (· repeat (first | exact lends_nil | (refine lends_cons ?_ ?_; (· (first | exact lend_v | (refine lend_sli (by rfl) ?_; first | rfl | omega | (simp; done)))))))
    repeat (first | (refine step_ops ?_; (first | (refine m_mov (by conv => lhs; whnf) ?_) | (refine m_lss rfl rfl ?_) | (refine m_neq rfl rfl ?_))) | refine end_ops ?_ | refine seq_ops ?_ | (refine cond_f rfl ?_ ?_; (· first | rfl | assumption | (refine decide_eq_false ?_; first | assumption | omega) | (refine nf ?_; first | assumption | omega) | (simp [*]; done))) | refine skip_then ?_ | refine AW_seq ?_)
    refine step_ops ?_
    refine call_two (x := 1002) (y := 1003) hi rfl rfl rfl rfl rfl (by decide) (by decide) (by decide) ?_
    refine step_opsW (weak_st (l := [(3, newInts R), (4, newInts C), (5, .b ok), (6, .sl 1000 1 0 R.length), (7, .sl 1001 1 0 C.length), (9, .i (1 + R.length + C.length)), (65, .tup [.sl 1002 1 0 R.length, .sl 1003 1 0 C.length, .b ok])])
      (h := [(1000, (true, (marks 1 R.length).map AV.i)), (1001, (true, (marks (1 + R.length) C.length).map AV.i)), (1002, (true, R.map AV.i)), (1003, (true, C.map AV.i))]) ?_ ?_ rfl rfl) ?_
    · (repeat' (first | exact trivial | refine And.intro ?_ ?_)) <;> (first | rfl | exact congrArg (fun c => some (true, c)) (renL_ints _ _) | exact congrArg (fun c => some (true, c)) (txs_ren _ _) | skip)
    · (repeat' (first | exact trivial | refine And.intro ?_ ?_)) <;> (first | rfl | exact congrArg (fun c => some (true, c)) (renL_ints _ _) | exact congrArg (fun c => some (true, c)) (txs_ren _ _) | skip)
    refine m_mov rfl ?_
    repeat (first | (refine step_ops ?_; (first | (refine m_mov (by conv => lhs; whnf) ?_) | (refine m_ext rfl rfl ?_))) | refine end_ops ?_ | refine seq_ops ?_ | refine AW_seq ?_)
    (refine step_ops ?_); (apply m_call (eqIntS_spec R R hr)); (· repeat (first | exact lends_nil | (refine lends_cons ?_ ?_; (· (first | (refine lend_ints ?_; first | rfl | omega) | (refine lend_sli (by rfl) ?_; first | rfl | omega | (simp; done)))))))
    repeat (refine step_ops ?_; ((try (refine g_yes rfl ?_ ?_; (· first | rfl | assumption | (refine decide_eq_true ?_; first | assumption | omega) | (refine nt ?_; first | assumption | omega) | (simp [*]; done) | (refine decide_eq_false ?_; first | assumption | omega) | (refine nf ?_; first | assumption | omega)))); (first | (refine m_mov (by conv => lhs; whnf) ?_) | (refine m_not rfl ?_))))
    (refine step_ops ?_); (refine g_yes rfl ?_ ?_; (· first | (first | rfl | assumption | (refine decide_eq_true ?_; first | assumption | omega) | (refine nt ?_; first | assumption | omega) | (simp [*]; done)) | (first | rfl | assumption | (refine decide_eq_false ?_; first | assumption | omega) | (refine nf ?_; first | assumption | omega) | (simp [*]; done))); (apply m_call (eqIntS_spec C C hc))); (· repeat (first | exact lends_nil | (refine lends_cons ?_ ?_; (· (first | (refine lend_ints ?_; first | rfl | omega) | (refine lend_sli (by rfl) ?_; first | rfl | omega | (simp; done)))))))
    repeat (first | (refine step_ops ?_; ((try (refine g_yes rfl ?_ ?_; (· first | rfl | assumption | (refine decide_eq_true ?_; first | assumption | omega) | (refine nt ?_; first | assumption | omega) | (simp [*]; done) | (refine decide_eq_false ?_; first | assumption | omega) | (refine nf ?_; first | assumption | omega)))); (first | (refine m_mov (by conv => lhs; whnf) ?_) | (refine m_not rfl ?_) | (refine m_beq rfl rfl ?_) | (refine m_pick_f rfl ?_ (by conv => lhs; whnf) ?_; (· first | rfl | assumption | (refine decide_eq_false ?_; first | assumption | omega) | (refine nf ?_; first | assumption | omega) | (simp [*]; done)))))) | refine end_ops ?_ | refine seq_ops ?_ | (refine cond_f rfl ?_ ?_; (· first | rfl | assumption | (refine decide_eq_false ?_; first | assumption | omega) | (refine nf ?_; first | assumption | omega) | (simp [*]; done))) | refine skip_then ?_)
    (refine step_ops ?_); (apply m_call (heldMarks_spec 1 R.length hr (by decide) (by decide))); (· repeat (first | exact lends_nil | (refine lends_cons ?_ ?_; (· (first | exact lend_v | (refine lend_sli (by rfl) ?_; first | rfl | omega | (simp; done)))))))
    repeat (first | (refine step_ops ?_; (first | (refine m_mov (by conv => lhs; whnf) ?_) | (refine m_lss rfl rfl ?_))) | refine end_ops ?_ | refine seq_ops ?_ | (refine cond_f rfl ?_ ?_; (· first | rfl | assumption | (refine decide_eq_false ?_; first | assumption | omega) | (refine nf ?_; first | assumption | omega) | (simp [*]; done))) | refine skip_then ?_ | refine AW_seq ?_)
    (refine step_ops ?_); (apply m_call (heldMarks_spec (1 + R.length) C.length hc (by omega) (by omega))); (· repeat (first | exact lends_nil | (refine lends_cons ?_ ?_; (· (first | exact lend_v | (refine lend_sli (by rfl) ?_; first | rfl | omega | (simp; done)))))))
    repeat (first | (refine step_ops ?_; (first | (refine m_mov (by conv => lhs; whnf) ?_) | (refine m_lss rfl rfl ?_) | (refine m_neq rfl rfl ?_))) | refine end_ops ?_ | refine seq_ops ?_ | (refine cond_f rfl ?_ ?_; (· first | rfl | assumption | (refine decide_eq_false ?_; first | assumption | omega) | (refine nf ?_; first | assumption | omega) | (simp [*]; done))) | refine skip_then ?_ | refine AW_seq ?_ | refine AW_ret ?_ | refine ret_done ?_)
    exact outs_b rfl
  · repeat (first | (refine step_ops ?_; (first | (refine m_mov (by conv => lhs; whnf) ?_) | (refine m_gtr rfl rfl ?_) | (refine m_slen rfl ?_))) | refine end_ops ?_ | refine seq_ops ?_ | (refine cond_t rfl ?_ ?_; (· first | rfl | assumption | (refine decide_eq_true ?_; first | assumption | omega) | (refine nt ?_; first | assumption | omega) | (simp [*]; done))) | refine AW_seq ?_ | refine AW_ret ?_ | refine ret_done ?_ | refine ret_then ?_)
    exact outs_b rfl
theorem lawFewestLines (b : ByteArray) : Sp Tryd.prog 8 [.v (.string b)] (.b true) := by
  have e : b = ⟨b.data.toList.toArray⟩ := by cases b; simp
  rw [e]
  exact lawFewestLines' _
end Go.Proofs.YtkphjdomdmpinaaDoor
