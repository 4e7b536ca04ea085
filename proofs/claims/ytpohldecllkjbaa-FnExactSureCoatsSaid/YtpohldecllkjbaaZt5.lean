/- The abstract machine, contracts: part 5 of what this claim needs. -/
import Derived.Test.YtpohldecllkjbaaZt4
namespace Go.Proofs.Ytpohldecllkjbaa
open Go.Am
attribute [local irreducible] AW Outs Weak Lends Lend Sp aops atree aop1 Then Round InBlock Done
attribute [local irreducible] SpM DoneM DoneH SpP
abbrev Sv0 (n : Int) (C : List Clu) : AS := st [(1, .pt 1 0), (2, .pt 2 0), (3, .pt 3 0)] [(1, (true, [.i n, .ro false 3 (cls C) C.length])), (2, (false, [.v (.slice none 0 0)])), (3, (true, [.v (.bool false)]))]
abbrev Sv1 (n : Int) (C : List Clu) : AS := st [(1, .rp [.i n, .ro false 3 (cls C) C.length]), (2, .pt pbase 0), (3, .pt (pbase + 1) 0)] (hpD (.v (.slice none 0 0)) (.v (.bool false)))
set_option maxRecDepth 8000 in
theorem solve_code : ∃ A B o0 o1 i3 i4 p4 i5 p5 i6 p6, Try.f57.body = some (.seq A (.seq B (.seq (.region i3 #[o0, o1] false) (.seq (.region i4 p4 false) (.seq (.region i5 p5 false) (.seq (.region i6 p6 false) .ret)))))) ∧
    ccode Try.prog (min Try.f57.ntmps pbase) A = some (sqa ac57) ∧ ccode Try.prog (min Try.f57.ntmps pbase) B = some (sqa (sqb ac57)) ∧
    (o0.op = .makeFunc (.func 74) #[] #[.tmp 2, .tmp 3] ∧ o0.guard = none ∧ o0.dst = some 20 ∧ o1.op = .defer { callee := .value (.tmp 20), args := #[], argTypes := #[] } ∧ o1.guard = none ∧ o1.dst = none) ∧
    ccode Try.prog (min Try.f57.ntmps pbase) (.region i4 p4 false) = some (sqa (sqb (sqb (sqb ac57)))) ∧
    ccode Try.prog (min Try.f57.ntmps pbase) (.region i5 p5 false) = some (sqa (sqb (sqb (sqb (sqb ac57))))) ∧
    ccode Try.prog (min Try.f57.ntmps pbase) (.region i6 p6 false) = some (sqa (sqb (sqb (sqb (sqb (sqb ac57)))))) :=
  ⟨_, _, _, _, _, _, _, _, _, _, _, rfl, by kernel_rfl, by kernel_rfl, ⟨rfl, rfl, rfl, rfl, rfl, rfl⟩, by kernel_rfl, by kernel_rfl, by kernel_rfl⟩
/-- The first part: variables are made. -/
theorem solve_A (g : Int) (C : List Clu) : AW Try.prog (min Try.f57.ntmps pbase) (sqa ac57) (enterH [pzl g C] (fun _ => none)) (fun e s' => e = .normal ∧ Weak s' (Sv0 g C)) := by
  simp only [sqa, ac57]
  refine AW_ops ?_
  refine step_ops ?_
  refine m_box (l := [.i g, .ro false 3 (cls C) C.length]) rfl rfl ?_
  refine step_ops ?_
  refine m_allocd ?_
  refine step_ops ?_
  refine m_alloc ?_
  refine end_ops ⟨rfl, ?_⟩
  refine weak_st ?_ ?_ rfl rfl
  · (repeat' (first | exact trivial | refine And.intro ?_ ?_)) <;> (first | rfl | skip)
  · (repeat' (first | exact trivial | refine And.intro ?_ ?_)) <;> (first | rfl | skip)
theorem solve_B (n : Nat) (C : List Clu) (h1 : 1 ≤ n) (h5 : n ≤ 5) (hC : C.length ≤ 6) : AW Try.prog (min Try.f57.ntmps pbase) (sqa (sqb ac57)) (Sv0 n C) (fun e s' => e = .normal ∧ Weak s' (Sv0 n C)) := by
  simp only [sqa, sqb, ac57]
  repeat (first | (refine step_ops ?_; ((try (refine g_yes rfl ?_ ?_; (· first | rfl | assumption | (refine decide_eq_true ?_; first | assumption | omega) | (refine nt ?_; first | assumption | omega) | (simp [*]; done) | (refine decide_eq_false ?_; first | assumption | omega) | (refine nf ?_; first | assumption | omega)))); (first | (refine m_mov (by conv => lhs; whnf) ?_) | (refine m_lss rfl rfl ?_) | (refine m_gtr rfl rfl ?_) | (refine m_len_ro rfl ?_) | (apply m_ld_pt; (· rfl); (· rfl); (· rfl)) | (refine m_pick_f rfl ?_ (by conv => lhs; whnf) ?_; (· first | rfl | assumption | (refine decide_eq_false ?_; first | assumption | omega) | (refine nf ?_; first | assumption | omega) | (simp [*]; done))) | (refine m_fa rfl ?_)))) | refine end_ops ?_ | refine seq_ops ?_ | (refine cond_f rfl ?_ ?_; (· first | rfl | assumption | (refine decide_eq_false ?_; first | assumption | omega) | (refine nf ?_; first | assumption | omega) | (simp [*]; done))) | refine AW_skip ?_)
  refine ⟨rfl, ?_⟩
  refine weak_st ?_ ?_ rfl rfl
  · (repeat' (first | exact trivial | refine And.intro ?_ ?_)) <;> (first | rfl | skip)
  · (repeat' (first | exact trivial | refine And.intro ?_ ?_)) <;> (first | rfl | skip)
/-- What stands where the door is left with all solutions. -/
def EndY (R : List (List Int)) : Exit → AS → Prop := fun e s => e = .ret ∧ s.tm 2 = .pt pbase 0 ∧ s.tm 3 = .pt (pbase + 1) 0 ∧ s.hp pbase = some (false, [.sl 900 1 0 R.length]) ∧ s.hp (pbase + 1) = some (true, [.b true]) ∧ s.hp 900 = some (false, rowsC 1000 R) ∧ ∀ j, j < R.length → s.hp (1000 + j) = some (true, (R.getD j []).map AV.i)
def EndN : Exit → AS → Prop := fun e s => (∃ v, e = pan v ∧ NoV v) ∧ s.tm 2 = .pt pbase 0 ∧ s.tm 3 = .pt (pbase + 1) 0 ∧ s.hp pbase = some (false, [.v (.slice none 0 0)]) ∧ s.hp (pbase + 1) = some (true, [.b false])
theorem solve_yes (n : Nat) (C : List Clu) (h1 : 1 ≤ n) (h5 : n ≤ 5) (hC : C.length ≤ 6) (hcl : ∀ c ∈ C, IsClu n c) {D : List Deferred} {i4 i5 i6 : Nat} {p4 p5 p6 : Array Oper}
    (c4 : ccode Try.prog (min Try.f57.ntmps pbase) (.region i4 p4 false) = some (sqa (sqb (sqb (sqb ac57))))) (c5 : ccode Try.prog (min Try.f57.ntmps pbase) (.region i5 p5 false) = some (sqa (sqb (sqb (sqb (sqb ac57))))))
    (c6 : ccode Try.prog (min Try.f57.ntmps pbase) (.region i6 p6 false) = some (sqa (sqb (sqb (sqb (sqb (sqb ac57))))))) :
    CWD Try.prog (min Try.f57.ntmps pbase) D (.seq (.region i4 p4 false) (.seq (.region i5 p5 false) (.seq (.region i6 p6 false) .ret))) (Sv1 n C) (EndY (sol n C)) := by
  have hpb : pbase = 4000000 := rfl
  have hfa := findAll_spec n C h1 h5 hC hcl
  have hRl := sol_len (n := n) (C := C) h5
  simp only [sqa, sqb, ac57] at c4 c5 c6
  generalize sol n C = R at *
  have hrl := rowsC_len 1000 R
  refine CWD_seq (CWD_ops c4 ?_)
  repeat (first | (refine step_ops ?_; (refine m_mov (by conv => lhs; whnf) ?_)) | refine end_ops ?_ | refine norm_then ?_)
  refine CWD_seq (CWD_ops c5 ?_)
  repeat (first | (refine step_ops ?_; (first | (refine m_mov (by conv => lhs; whnf) ?_) | (refine m_mkf ?_))) | refine end_ops ?_ | refine norm_then ?_)
  refine CWD_seq (CWD_ops c6 ?_)
  repeat (refine step_ops ?_; (first | (refine m_mov (by conv => lhs; whnf) ?_) | (apply m_ld_rp; (· rfl); (· rfl)) | (refine m_fa_rp rfl ?_)))
  refine step_ops ?_
  refine m_callM 900 1000 hfa ?_ rfl (by omega) (by omega) (by omega) rfl ?_ ?_
  · refine lends_cons lend_v (lends_cons lend_fnc (lends_cons (lend_fn ?_) lends_nil))
    exact lends_self (bears_read (by
      show readL [.rp [.i n, .ro false 3 (cls C) C.length]] = true
      simp [readL, readV, readL_plain (cls_plain C)])) _
  · intro j hj
    simp (disch := omega) only [hp_put]
    exact look2_none (by omega) (by omega)
  refine step_ops ?_
  refine m_st (r := pbase) (off := 0) (fl := false) (cs := [.v (.slice none 0 0)]) rfl (by rfl) rfl (by decide) rfl ?_
  refine step_ops ?_
  refine m_st (r := pbase + 1) (off := 0) (fl := true) (cs := [.v (.bool false)]) rfl (by rfl) rfl (by decide) rfl ?_
  refine end_ops ?_
  simp only [Then]
  refine CWD_ret ?_
  refine ⟨rfl, rfl, rfl, rfl, rfl, rfl, fun j hj => ?_⟩
  simp (disch := omega) only [hp_put, hp_mem_ne]
  refine addM_row (by omega) ?_ hj
  simp (disch := omega) only [hp_put]
  exact look2_none (by omega) (by omega)
theorem solve_no (n : Nat) (C : List Clu) (h1 : 1 ≤ n) (h5 : n ≤ 5) (hC : C.length ≤ 6) (hbad : ∃ c ∈ C, ¬ IsClu n c) {D : List Deferred} {i4 i5 i6 : Nat} {p4 p5 p6 : Array Oper}
    (c4 : ccode Try.prog (min Try.f57.ntmps pbase) (.region i4 p4 false) = some (sqa (sqb (sqb (sqb ac57))))) (c5 : ccode Try.prog (min Try.f57.ntmps pbase) (.region i5 p5 false) = some (sqa (sqb (sqb (sqb (sqb ac57))))))
    (c6 : ccode Try.prog (min Try.f57.ntmps pbase) (.region i6 p6 false) = some (sqa (sqb (sqb (sqb (sqb (sqb ac57))))))) :
    CWD Try.prog (min Try.f57.ntmps pbase) D (.seq (.region i4 p4 false) (.seq (.region i5 p5 false) (.seq (.region i6 p6 false) .ret))) (Sv1 n C) EndN := by
  have hpb : pbase = 4000000 := rfl
  have hfa := findAll_throws n C h1 h5 hC hbad
  simp only [sqa, sqb, ac57] at c4 c5 c6
  refine CWD_seq (CWD_ops c4 ?_)
  repeat (first | (refine step_ops ?_; (refine m_mov (by conv => lhs; whnf) ?_)) | refine end_ops ?_ | refine norm_then ?_)
  refine CWD_seq (CWD_ops c5 ?_)
  repeat (first | (refine step_ops ?_; (first | (refine m_mov (by conv => lhs; whnf) ?_) | (refine m_mkf ?_))) | refine end_ops ?_ | refine norm_then ?_)
  refine CWD_seq (CWD_panic 4 (ok := NoV) c6 ?_)
  simp only [List.take_succ_cons, List.take_zero]
  repeat (first | (refine step_ops ?_; (first | (refine m_mov (by conv => lhs; whnf) ?_) | (apply m_ld_rp; (· rfl); (· rfl)) | (refine m_fa_rp rfl ?_))) | refine end_ops ?_)
  refine ⟨_, rfl, ⟨rfl, .inl ⟨_, _, _, rfl, hfa, ?_⟩⟩, fun v hv => ?_⟩
  · refine lends_cons lend_v (lends_cons lend_fnc (lends_cons (lend_fn ?_) lends_nil))
    exact lends_self (bears_read (by
      show readL [.rp [.i n, .ro false 3 (cls C) C.length]] = true
      simp [readL, readV, readL_plain (cls_plain C)])) _
  · simp only [Then]
    exact ⟨⟨v, rfl, hv⟩, rfl, rfl, rfl, rfl⟩
/-- Where there are no such numbers of guests or clues. -/
theorem solve_G (g : Int) (C : List Clu) (h : ¬ (PzN g ∧ C.length ≤ 6)) : AW Try.prog (min Try.f57.ntmps pbase) (sqa (sqb ac57)) (Sv0 g C) (fun e s' => e = .ret ∧ s'.tm 2 = .pt 2 0 ∧ s'.tm 3 = .pt 3 0 ∧ s'.hp 2 = some (false, [.v (.slice none 0 0)]) ∧ s'.hp 3 = some (true, [.v (.bool false)])) := by
  simp only [sqa, sqb, ac57]
  by_cases h1 : g < 1
  · repeat (first | (refine step_ops ?_; (first | (first | (refine m_mov (by conv => lhs; whnf) ?_) | (refine m_lss rfl rfl ?_) | (apply m_ld_pt; (· rfl); (· rfl); (· rfl)) | (apply m_st; (· rfl); (· rfl); (· rfl); (· first | omega | (simp; done) | (simp; omega)); (· rfl)) | (refine m_pick_t rfl ?_ (by conv => lhs; whnf) ?_; (· first | rfl | assumption | (refine decide_eq_true ?_; first | assumption | omega) | (refine nt ?_; first | assumption | omega) | (simp [*]; done))) | (refine m_fa rfl ?_)) | (refine g_noF rfl ?_ ?_; (· first | rfl | assumption | (refine decide_eq_true ?_; first | assumption | omega) | (refine nt ?_; first | assumption | omega) | (simp [*]; done))))) | refine end_ops ?_ | refine seq_ops ?_ | (refine cond_t rfl ?_ ?_; (· first | rfl | assumption | (refine decide_eq_true ?_; first | assumption | omega) | (refine nt ?_; first | assumption | omega) | (simp [*]; done))) | refine AW_ret ?_)
    exact ⟨rfl, rfl, rfl, rfl, rfl⟩
  by_cases h5 : g > 5
  · repeat (first | (refine step_ops ?_; (first | ((try (refine g_yes rfl ?_ ?_; (· first | rfl | assumption | (refine decide_eq_true ?_; first | assumption | omega) | (refine nt ?_; first | assumption | omega) | (simp [*]; done) | (refine decide_eq_false ?_; first | assumption | omega) | (refine nf ?_; first | assumption | omega)))); (first | (refine m_mov (by conv => lhs; whnf) ?_) | (refine m_lss rfl rfl ?_) | (refine m_gtr rfl rfl ?_) | (apply m_ld_pt; (· rfl); (· rfl); (· rfl)) | (apply m_st; (· rfl); (· rfl); (· rfl); (· first | omega | (simp; done) | (simp; omega)); (· rfl)) | (refine m_pick_t rfl ?_ (by conv => lhs; whnf) ?_; (· first | rfl | assumption | (refine decide_eq_true ?_; first | assumption | omega) | (refine nt ?_; first | assumption | omega) | (simp [*]; done))) | (refine m_pick_f rfl ?_ (by conv => lhs; whnf) ?_; (· first | rfl | assumption | (refine decide_eq_false ?_; first | assumption | omega) | (refine nf ?_; first | assumption | omega) | (simp [*]; done))) | (refine m_fa rfl ?_))) | (refine g_noF rfl ?_ ?_; (· first | rfl | assumption | (refine decide_eq_true ?_; first | assumption | omega) | (refine nt ?_; first | assumption | omega) | (simp [*]; done))))) | refine end_ops ?_ | refine seq_ops ?_ | (refine cond_t rfl ?_ ?_; (· first | rfl | assumption | (refine decide_eq_true ?_; first | assumption | omega) | (refine nt ?_; first | assumption | omega) | (simp [*]; done))) | refine AW_ret ?_)
    exact ⟨rfl, rfl, rfl, rfl, rfl⟩
  have h6 : 6 < C.length := by
    apply Classical.byContradiction
    intro h6
    exact h ⟨⟨by omega, by omega⟩, by omega⟩
  repeat (first | (refine step_ops ?_; ((try (refine g_yes rfl ?_ ?_; (· first | rfl | assumption | (refine decide_eq_true ?_; first | assumption | omega) | (refine nt ?_; first | assumption | omega) | (simp [*]; done) | (refine decide_eq_false ?_; first | assumption | omega) | (refine nf ?_; first | assumption | omega)))); (first | (refine m_mov (by conv => lhs; whnf) ?_) | (refine m_lss rfl rfl ?_) | (refine m_gtr rfl rfl ?_) | (refine m_len_ro rfl ?_) | (apply m_ld_pt; (· rfl); (· rfl); (· rfl)) | (apply m_st; (· rfl); (· rfl); (· rfl); (· first | omega | (simp; done) | (simp; omega)); (· rfl)) | (refine m_pick_f rfl ?_ (by conv => lhs; whnf) ?_; (· first | rfl | assumption | (refine decide_eq_false ?_; first | assumption | omega) | (refine nf ?_; first | assumption | omega) | (simp [*]; done))) | (refine m_fa rfl ?_)))) | refine end_ops ?_ | refine seq_ops ?_ | (refine cond_t rfl ?_ ?_; (· first | rfl | assumption | (refine decide_eq_true ?_; first | assumption | omega) | (refine nt ?_; first | assumption | omega) | (simp [*]; done))) | refine AW_ret ?_)
  exact ⟨rfl, rfl, rfl, rfl, rfl⟩
end Go.Proofs.Ytpohldecllkjbaa
namespace Go.Am
/-- What is owed where a call ends with nothing. -/
theorem nil_post {w w' : World} {phi : Nat → Option Nat} (hm : More w w') : ∃ v phi', Ending.returned (.tuple #[.slice none 0 0, .bool false]) = .returned v ∧ w'.os = w.os ∧ w'.tape = w.tape ∧ w'.output = w.output ∧ w.heap.size ≤ w'.heap.size ∧
      (∀ r, ((fun _ => none : Hp) r).isSome = true → phi' r = phi r) ∧ (∀ b, b < w.heap.size → (∀ r, ((fun _ => none : Hp) r).isSome = true → phi r ≠ some b) → w'.heap[b]? = w.heap[b]?) ∧
      (∀ (b : Nat) (cur : Array Value) (e : TypeId) (f : Nat × Nat), w.heap[b]? = some (.cells cur e f) → ∃ cur' : Array Value, w'.heap[b]? = some (.cells cur' e f) ∧ cur'.size = cur.size) ∧
      Inj (matO []) phi' ∧ (∀ r b, (matO [] r).isSome = true → (fun _ => none : Hp) r = none → phi' r = some b → w.heap.size ≤ b) ∧ Regs (ctxX w w' phi' (matO [])) (matO []) ∧ SimV (.tup [.sl nbase 1 0 ([] : List (List Int)).length, .b false]) (ctxX w w' phi' (matO [])) v := by
  refine ⟨_, fun _ => none, rfl, hm.os, hm.tape, hm.output, hm.size, fun r h => by simp at h, fun b hb _ => hm.block b hb, fun b cur e f hc => ⟨cur, (hm.block b (lt_of_get hc)).trans hc, rfl⟩, fun r r' b _ _ h => by simp at h, fun r b _ _ h => by simp at h, fun r c hc => ?_, ?_⟩
  · rcases matH_some hc with ⟨_, rfl⟩ | ⟨j, hj, _⟩
    · exact .inl ⟨rfl, rfl⟩
    · simp at hj
  · simp only [SimV]
    refine ⟨_, rfl, rfl, ?_⟩
    simp [SimL, SimV, ctxX, matO, matH_outer]
theorem run_cell_at {P : Program} {t : TypeId} {d : TypeDesc} {w : World} {p : Addr} {y : Value} (ht : P.underlying t = some d) (hd : ∀ fs, d ≠ .struct fs) (hd' : ∀ n e, d ≠ .array n e) (hcell : w.cell? p = some y) : (loadVar t p).run P w = .ok y w := by
  have hag : (isAgg t).run P w = .ok false w := by
    unfold isAgg
    rw [Sem.run_bind, run_underlying ht]
    cases d <;> simp_all
  simp [loadVar, hag, hcell]
theorem res_cell_at {P : Program} {t : TypeId} {w : World} {p : Addr} {y : Value} {tm : Array Value} {a : Nat} (ht : shapeT P t = some none) (ha : tm.getD a undef = .pointer (some p)) (hcell : w.cell? p = some y) : (resOne tm (.cell a t)).run P w = .ok y w := by
  obtain ⟨d, hd, hd1, hd2⟩ := shapeT_none ht
  simp only [resOne, ha, asAddr]
  exact run_cell_at hd hd1 hd2 hcell
/-- A caller's variable with one plain value: its block. -/
theorem door_cells {w w' : World} {mu : Nat → Option Nat} {N : Nat} {s : AS} {tm : Array Value} {phi : Nat → Option Nat} {ro : Nat → Prop} (hS : Sim w mu N s tm w' phi ro) {r b x : Nat} {fl : Bool} {v : Value} (hr : pbase ≤ r) (hmu : mu r = some b) (ht : s.tm x = .pt r 0) (hg : s.hp r = some (fl, [.v v])) :
    tm.getD x undef = .pointer (some ⟨b, 0, none⟩) ∧ ∃ cur e, w'.heap[b]? = some (.cells cur e (0, 0)) ∧ 0 < cur.size := by
  have hv := hS.tms x
  rw [ht] at hv
  simp only [SimV] at hv
  obtain ⟨_, _, b', p1, p2, cur0, e0, p3⟩ := hv
  have p1' : phi r = some b' := p1
  rcases hS.liv r _ hg with ⟨_, h2, _⟩ | ⟨b2, cur, e, h1, h2, _, h4, h5⟩ | ⟨b2, o, h1, _⟩
  · cases h2
  · rcases h4 with h4 | h4
    · omega
    · have e1 : b2 = b := by have := h4.2; rw [hmu] at this; cases this; rfl
      subst e1
      rw [h1] at p1'
      cases p1'
      refine ⟨p2, cur, e, h2, ?_⟩
      have hl : 0 < cur.toList.length := by
        cases hc : cur.toList with
        | nil => rw [hc] at h5; simp [SimR, SimL] at h5
        | cons y ys => simp
      simpa using hl
  · cases h1
end Go.Am
namespace Go.Proofs.Ytpohldecllkjbaa
open Go.Am
theorem solve_results : Try.f57.results = #[.cell 2 41, .cell 3 4] := rfl
theorem shape_mat : shapeT Try.prog 41 = some none := by kernel_rfl
theorem shape_bool : shapeT Try.prog 4 = some none := by kernel_rfl
theorem door_invoke (w : World) (p q : Value) : (invoke (.fn (.func 74) #[p, q]) #[]).run Try.prog w = .ok (.enter 74 #[p, q]) w := by
  have h1 : ¬ Try.f74.name = "runtime.NumGoroutine" := by decide
  have h2 : Try.f74.body ≠ none := by intro e; cases e
  simp [invoke, callFunc, Try.func74, h1, h2]
set_option maxHeartbeats 400000 in
theorem solve_spec (g : Int) (C : List Clu) : SpH Try.prog 57 [pzl g C] (fun _ => none) (.tup [.sl nbase 1 0 (solS g C).length, .b (decide (IsPz g C))]) (matO (solS g C)) := by
  have hpb : pbase = 4000000 := rfl
  unfold SpH
  intro w vs phi hg hgb hinj hregs hs hl
  obtain ⟨A, B, o0, o1, i3, i4, p4, i5, p5, i6, p6, hb, hA, hB, ⟨k0, k0g, k0d, k1, k1g, k1d⟩, c4, c5, c6⟩ := solve_code
  have hsim := enterH_sim (n := Try.f57.ntmps) hg hgb (fun r h => by simp at h) hinj hregs hs hl
  have hS0 : Simw w (fun r => if ((fun _ => none : Hp) r).isSome = true then phi r else none) (min Try.f57.ntmps pbase) (enterH [pzl g C] (fun _ => none)) { tmps := vs ++ Array.replicate (Try.f57.ntmps - vs.size) undef, defers := [] } w := ⟨rfl, _, _, hsim⟩
  have hmu : ∀ r, (fun r => if ((fun _ => none : Hp) r).isSome = true then phi r else none) r = none := fun r => by simp
  generalize (fun r => if ((fun _ => none : Hp) r).isSome = true then phi r else none) = mu at hS0 hmu
  refine calls_of_wp_defers Try.func57 hb ?_
  refine wp_seq (wp_mono (AW.toC (solve_A g C) hA w mu _ w hS0) fun e a1 w1 hA1 => ?_)
  obtain ⟨s1, ⟨rfl, hwk1⟩, hS1⟩ := hA1
  have hS1 := hwk1 _ _ _ _ _ hS1
  by_cases hok : PzN g ∧ C.length ≤ 6
  · obtain ⟨hpn, hC⟩ := hok
    obtain ⟨n, rfl⟩ := Int.eq_ofNat_of_zero_le (show 0 ≤ g by have := hpn.1; omega)
    have h1 : 1 ≤ n := by have := hpn.1; omega
    have h5 : n ≤ 5 := by have := hpn.2; omega
    refine wp_seq (wp_mono (AW.toC (solve_B n C h1 h5 hC) hB w mu a1 w1 hS1) fun e a2 w2 hA2 => ?_)
    obtain ⟨s2, ⟨rfl, hwk2⟩, hS2⟩ := hA2
    have hS2 := hwk2 _ _ _ _ _ hS2
    refine wp_seq (wp_defer k0 k0g k0d k1 k1g k1d hS2 (by decide) (by decide) (by decide) rfl fun a3 hS3 e2 e3 => ?_)
    obtain ⟨b, c, hb2, hc2, hne, hwb, hwc, hm, hS4⟩ := door_enter (x := 1) (y := 2) (z := 3) (r1 := 1) (r2 := 2) (r3 := 3) hmu hS3 rfl rfl rfl rfl rfl rfl (by simp [readL, readV, readL_plain (cls_plain C)]) (by decide) (by decide) (by decide) (by decide) (by decide) (by decide)
    rw [← e2, ← e3, hb2, hc2]
    have hmuD : ∀ r b', muD b c r = some b' → r < gvb := by
      intro r b' hr
      unfold muD at hr
      split at hr
      · subst_vars; decide
      · split at hr
        · subst_vars; decide
        · cases hr
    have hmuE : ∀ b', b' < w.heap.size → ∀ r, muD b c r ≠ some b' := by
      intro b' hb' r hr
      unfold muD at hr
      split at hr
      · cases hr; omega
      · split at hr
        · cases hr; omega
        · cases hr
    by_cases hcl : ∀ x ∈ C, IsClu n x
    · have hz : IsPz n C := ⟨hpn, hC, hcl⟩
      have hst : Static (fun _ => none) (.tup [.sl nbase 1 0 (solS n C).length, .b (decide (IsPz n C))]) (matO (solS n C)) := static_mat2 _ _
      have e0 : solS n C = sol n C := by unfold solS; rw [if_pos hz, Int.toNat_natCast]
      rw [e0, decide_eq_true hz] at hst ⊢
      have hRl := sol_len (n := n) (C := C) h5
      refine wp_mono (solve_yes n C h1 h5 hC hcl (D := [doorD 74 (.pointer (some ⟨b, 0, none⟩)) (.pointer (some ⟨c, 0, none⟩))]) c4 c5 c6 w2 (muD b c) a3 w2 hS4) fun e a5 w5 hA5 => ?_
      generalize sol n C = R at *
      obtain ⟨a0, rfl, s5, ⟨rfl, t2, t3, g2, g3, g4, g5⟩, hf5, phi5, ro5, hS5⟩ := hA5
      show Leaves _ _ a0.tmps _ (a0.defers ++ _) .returning w5
      rw [hf5, List.nil_append]
      refine leaves_cons (by simp) (door_invoke w5 _ _) ?_
      refine (door_idle _ _ w5).mono ?_
      rintro e u' w6 ⟨rfl, rfl, hm6⟩
      have hS6 := hS5.more_same hm6
      obtain ⟨y1, q1, q2⟩ := rv1_run hS6 shape_mat t2 g2 rfl
      obtain ⟨y2, q3, q4⟩ := rv1_run hS6 shape_bool t3 g3 rfl
      obtain ⟨f1, f2, f3, f4⟩ := finD w hS6 hst hmuD (gnm 900 1000) (fun r c hc => ⟨_, gnm_hp g4 g5 r c hc, .inl rfl⟩) (fun r hr => by
        obtain ⟨c, hc⟩ := Option.isSome_iff_exists.1 hr
        rcases matH_some hc with ⟨rfl, _⟩ | ⟨j, hj, rfl, _⟩
        · rw [gnm_outer]; decide
        · rw [gnm_row]; omega) (fun r r' h2 h3 e => gnm_inj (by decide) h2 h3 e)
      refine ⟨.tuple #[y1, y2], run_two solve_results q1 q3, .tuple #[y1, y2], fun r => phi5 (gnm 900 1000 r), rfl, (hS6.os.trans hm.os), hS6.tape.trans hm.tape, hS6.output.trans hm.output, Nat.le_trans hm.size hS6.size, fun r hr => by simp at hr, fun b' hb' _ => (hS6.kept b' (Nat.lt_of_lt_of_le hb' hm.size) (hmuE b' hb')).trans (hm.block b' hb'), ?_, f1, fun r b' hr _ hb' => Nat.le_trans hm.size (f2 r b' hr hb'), f3, f4 _ ?_⟩
      · intro b' cur e f hc
        exact hS6.shp b' cur e f ((hm.block b' (lt_of_get hc)).trans hc)
      · simp only [renV, renL, gnm_outer, SimV]
        exact ⟨_, rfl, rfl, by simpa [SimV] using q2, by simpa [SimV, SimL] using q4⟩
    · have hbad : ∃ x ∈ C, ¬ IsClu n x := by
        apply Classical.byContradiction
        intro hno
        exact hcl fun x hx => Classical.byContradiction fun hx2 => hno ⟨x, hx, hx2⟩
      have hz : ¬ IsPz n C := fun h => hcl h.2.2
      have e0 : solS n C = [] := by unfold solS; rw [if_neg hz]
      rw [e0, decide_eq_false hz]
      refine wp_mono (solve_no n C h1 h5 hC hbad (D := [doorD 74 (.pointer (some ⟨b, 0, none⟩)) (.pointer (some ⟨c, 0, none⟩))]) c4 c5 c6 w2 (muD b c) a3 w2 hS4) fun e a5 w5 hA5 => ?_
      obtain ⟨a0, rfl, s5, ⟨⟨v, rfl, ⟨⟨ck, ca, cb⟩, rfl⟩⟩, t2, t3, g2, g3⟩, hf5, phi5, ro5, hS5⟩ := hA5
      show Leaves _ _ a0.tmps _ (a0.defers ++ _) (.panicking _) w5
      rw [hf5, List.nil_append]
      refine leaves_cons (by simp) (door_invoke w5 _ _) ?_
      obtain ⟨x1, cur1, e1, x2, x3⟩ := door_cells hS5 (Nat.le_refl _) (show muD b c pbase = some b by simp [muD]) t2 g2
      obtain ⟨z1, cur2, e2', z2, z3⟩ := door_cells hS5 (Nat.le_succ _) (show muD b c (pbase + 1) = some c by simp [muD]) t3 g3
      refine (door_catches b c ck ca cb w5 cur1 cur2 e1 e2' x2 z2 x3 z3 hne).mono ?_
      rintro e u' w6 ⟨rfl, rfl, hca⟩
      refine ⟨_, run_two solve_results (res_cell_at shape_mat x1 hca.cellp) (res_cell_at shape_bool z1 hca.cellq), ?_⟩
      have hm6 : More w w6 := ⟨hca.os.trans (hS5.os.trans hm.os), hca.tape.trans (hS5.tape.trans hm.tape), hca.output.trans (hS5.output.trans hm.output), Nat.le_trans hm.size (Nat.le_trans hS5.size hca.size), fun b' hb' => by
        have hb2' : b' < w2.heap.size := Nat.lt_of_lt_of_le hb' hm.size
        rw [hca.block b' (Nat.lt_of_lt_of_le hb2' hS5.size) (by omega) (by omega), hS5.kept b' hb2' (hmuE b' hb')]
        exact hm.block b' hb'⟩
      exact nil_post hm6
  · have hz : ¬ IsPz g C := fun h => hok ⟨h.1, h.2.1⟩
    have e0 : solS g C = [] := by unfold solS; rw [if_neg hz]
    rw [e0, decide_eq_false hz]
    refine wp_seq (wp_mono (AW.toC (solve_G g C hok) hB w mu a1 w1 hS1) fun e a2 w2 hA2 => ?_)
    obtain ⟨s2, ⟨rfl, t2, t3, g2, g3⟩, hf2, phi2, ro2, hS2⟩ := hA2
    show Leaves _ _ a2.tmps _ a2.defers .returning w2
    rw [hf2]
    obtain ⟨y1, q1, q2⟩ := rv1_run hS2 shape_mat t2 g2 rfl
    obtain ⟨y2, q3, q4⟩ := rv1_run hS2 shape_bool t3 g3 rfl
    simp only [SimV] at q2 q4
    subst q2
    subst q4
    exact ⟨_, run_two solve_results q1 q3, nil_post ⟨hS2.os, hS2.tape, hS2.output, hS2.size, fun b hb => hS2.kept b hb fun r hr => by rw [hmu] at hr; cases hr⟩⟩
end Go.Proofs.Ytpohldecllkjbaa
namespace Go.Proofs.Ytpohldecllkjbaa
open Go.Am
attribute [local irreducible] AW Outs Weak Lends Lend Sp aops atree aop1 Then Round InBlock Done
attribute [local irreducible] SpM DoneM SpH DoneH SpG DoneT
def Hid (L : List Int) : Prop := IsEx L ∧ PzN L.length
instance (L : List Int) : Decidable (Hid L) := inferInstanceAs (Decidable (_ ∧ _))
def DoOk (c : Clu) (L : List Int) : Prop := Hid L ∧ IsClu L.length c
instance (c : Clu) (L : List Int) : Decidable (DoOk c L) := inferInstanceAs (Decidable (_ ∧ _))
end Go.Proofs.Ytpohldecllkjbaa
namespace Go.Am
/-- What is left of a list when another one is held against it. -/
def surT (L O : List Int) (i : Nat) : Int := if L.getD i 0 = O.getD i 0 then O.getD i 0 else -1
def sur1 (L O : List Int) : List Int := (List.range O.length).map (surT L O)
def surP (L O : List Int) (i : Nat) : List Int := (List.range i).map (surT L O) ++ O.drop i
theorem surP_zero (L O : List Int) : surP L O 0 = O := by simp [surP]
theorem surP_all (L O : List Int) : surP L O O.length = sur1 L O := by simp [surP, sur1]
theorem surP_len (L O : List Int) {i : Nat} (h : i ≤ O.length) : (surP L O i).length = O.length := by simp [surP]; omega
theorem surP_get (L O : List Int) {i : Nat} (_h : i < O.length) : (surP L O i).getD i 0 = O.getD i 0 := by
  unfold surP
  rw [List.getD_eq_getElem?_getD, List.getElem?_append_right (by simp)]
  simp
theorem surP_succ (L O : List Int) {i : Nat} (h : i < O.length) : surP L O (i + 1) = (surP L O i).set i (surT L O i) := by
  unfold surP
  rw [List.set_append_right _ _ (by simp), List.length_map, List.length_range, Nat.sub_self, List.drop_eq_getElem_cons h, List.set_cons_zero, List.range_succ, List.map_append]
  simp
theorem surP_keep (L O : List Int) {i : Nat} (h : i < O.length) (e : L.getD i 0 = O.getD i 0) : surP L O (i + 1) = surP L O i := by
  rw [surP_succ L O h]
  have : surT L O i = (surP L O i).getD i 0 := by rw [surP_get L O h]; exact if_pos e
  rw [this]
  have hl := surP_len L O (Nat.le_of_lt h)
  rw [List.getD_eq_getElem?_getD, List.getElem?_eq_getElem (by omega), Option.getD_some, List.set_getElem_self]
theorem sur1_len (L O : List Int) : (sur1 L O).length = O.length := by simp [sur1]
def surK (R : List (List Int)) : Nat → List Int
  | 0 => R.getD 0 []
  | k + 1 => sur1 (R.getD k []) (surK R k)
theorem surK_len {R : List (List Int)} {n : Nat} (h : ∀ m ∈ R, m.length = n) (h0 : 0 < R.length) : ∀ k, (surK R k).length = n
  | 0 => h _ (getD_memL h0)
  | k + 1 => by rw [surK, sur1_len, surK_len h h0 k]
end Go.Am
namespace Go.Proofs.Ytpohldecllkjbaa
open Go.Am
attribute [local irreducible] AW Outs Weak Lends Lend Sp aops atree aop1 Then Round InBlock Done
attribute [local irreducible] SpM DoneM SpH DoneH SpG DoneT
theorem sol_ok {n : Nat} {C : List Clu} : ∀ m ∈ sol n C, m.length = n := fun m hm => by
  have := (goOn_pm newN_new n [] List.nodup_nil (by simp) m (List.mem_filter.1 hm).1).2.2
  simpa using this
def sureS (g : Int) (C : List Clu) : Option (List Int) := if solS g C = [] then none else some (surK (solS g C) (solS g C).length)
theorem specSureCoats_spec (g : Int) (C : List Clu) : Sp Try.prog 36 [pzl g C] (.tup [newInts ((sureS g C).getD []), .b (sureS g C).isSome]) := by
  have hgo := pzGood_spec g C
  unfold sureS solS
  by_cases h : IsPz g C
  · obtain ⟨n, rfl, h1, h5⟩ := pz_nat h
    have hall := sp_mat1 (pzAll_spec n h1 h5 C h.2.1 h.2.2)
    have hrl := sol_ok (n := n) (C := C)
    have hln := sol_len (n := n) (C := C) h5
    rw [if_pos h, Int.toNat_natCast]
    rw [decide_eq_true h] at hgo
    generalize sol n C = R at *
    by_cases hR : R = []
    · subst hR
      rw [if_pos rfl]
      refine spec_of Try.func36 rfl cc36 rfl ?_
      unfold ac36
      repeat (first | (refine step_ops ?_; (first | (refine m_mov (by conv => lhs; whnf) ?_) | (refine m_nils ?_) | (refine m_box rfl ?_ ?_; (· first | rfl | (simp [cellOk, Value.oneCell']; done))) | (refine m_ldall rfl rfl ?_ ?_; (· first | rfl | (simp; done) | (simp [*]; done))))) | refine end_ops ?_ | refine seq_ops ?_ | refine AW_seq ?_)
      refine step_ops ?_
      refine m_call hgo (lends_cons lend_pzl lends_nil) ?_
      repeat (first | (refine step_ops ?_; (first | (refine m_not rfl ?_) | (apply m_ld_pt; (· rfl); (· rfl); (· rfl)) | (refine m_fa rfl ?_))) | refine end_ops ?_ | refine seq_ops ?_ | (refine cond_f rfl ?_ ?_; (· first | rfl | assumption | (refine decide_eq_false ?_; first | assumption | omega) | (refine nf ?_; first | assumption | omega) | (simp [*]; done))) | refine skip_then ?_)
      refine step_ops ?_
      refine m_call hall (lends_cons lend_v (lends_cons lend_cls lends_nil)) ?_
      repeat (first | (refine step_ops ?_; (first | (refine m_mov (by conv => lhs; whnf) ?_) | (refine m_eql rfl rfl ?_) | (refine m_len_ro rfl ?_) | (refine m_nils ?_))) | refine end_ops ?_ | refine seq_ops ?_ | (refine cond_t rfl ?_ ?_; (· first | rfl | assumption | (refine decide_eq_true ?_; first | assumption | omega) | (refine nt ?_; first | assumption | omega) | (simp [*]; done))) | refine AW_seq ?_ | refine AW_ret ?_ | refine ret_done ?_ | refine ret_then ?_)
      exact outs_tup2 (outs_ints rfl rfl rfl) (outs_b rfl)
    · have h0 := List.length_pos_iff.2 hR
      have hl0 : ¬ ((R.length : Nat) : Int) = 0 := by omega
      have hat := fun k (hk : k < R.length) => (show ((R.map newInts).drop k)[0]? = some (newInts (R.getD k [])) by simp [hk])
      have hsl := surK_len hrl h0
      have hown := l1Own_spec (R.getD 0 []) (by rw [hrl _ (getD_memL h0)]; omega)
      rw [if_neg hR]
      refine spec_of Try.func36 rfl cc36 rfl ?_
      unfold ac36
      repeat (first | (refine step_ops ?_; (first | (refine m_mov (by conv => lhs; whnf) ?_) | (refine m_nils ?_) | (refine m_box rfl ?_ ?_; (· first | rfl | (simp [cellOk, Value.oneCell']; done))) | (refine m_ldall rfl rfl ?_ ?_; (· first | rfl | (simp; done) | (simp [*]; done))))) | refine end_ops ?_ | refine seq_ops ?_ | refine AW_seq ?_)
      refine step_ops ?_
      refine m_call hgo (lends_cons lend_pzl lends_nil) ?_
      repeat (first | (refine step_ops ?_; (first | (refine m_not rfl ?_) | (apply m_ld_pt; (· rfl); (· rfl); (· rfl)) | (refine m_fa rfl ?_))) | refine end_ops ?_ | refine seq_ops ?_ | (refine cond_f rfl ?_ ?_; (· first | rfl | assumption | (refine decide_eq_false ?_; first | assumption | omega) | (refine nf ?_; first | assumption | omega) | (simp [*]; done))) | refine skip_then ?_)
      refine step_ops ?_
      refine m_call hall (lends_cons lend_v (lends_cons lend_cls lends_nil)) ?_
      repeat (first | (refine step_ops ?_; (first | (refine m_mov (by conv => lhs; whnf) ?_) | (refine m_eql rfl rfl ?_) | (refine m_len_ro rfl ?_) | (refine m_idx1_ro rfl rfl ?_ ?_; (· omega)))) | refine end_ops ?_ | refine seq_ops ?_ | (refine cond_f rfl ?_ ?_; (· first | rfl | assumption | (refine decide_eq_false ?_; first | assumption | omega) | (refine nf ?_; first | assumption | omega) | (simp [*]; done))) | refine skip_then ?_ | refine AW_seq ?_)
      refine step_ops ?_
      refine m_ld_rp rfl (hat 0 h0) ?_
      skip
      refine step_ops ?_; (apply m_callo (hown)); (· repeat (first | exact lends_nil | (refine lends_cons ?_ ?_; (· (refine lend_ints ?_; first | rfl | omega))))); (· first | exact allv_ints _ | rfl | (simp; done))
      repeat (first | (refine step_ops ?_; (first | (refine m_mov (by conv => lhs; whnf) ?_) | (refine m_len_ro rfl ?_))) | refine end_ops ?_ | refine seq_ops ?_ | refine AW_seq ?_ | refine AW_block ?_)
      refine AW_loop (α := Nat) (fun k => k ≤ R.length) (fun k => st [(1, .pt 1 0), (5, .sl 5 1 0 (surK R k).length), (24, .ro true 1 (R.map newInts) R.length), (25, .i R.length), (26, .i k)] [(1, (true, [.i n, .ro false 3 (cls C) C.length])), (5, (true, (surK R k).map AV.i))]) (fun k => R.length - k) 0 (Nat.zero_le _) (Weak.trans (weak_move (r := 23) (q := 5) rfl (by decide) (by decide)) (weak_st ?_ ?_ rfl rfl)) ?_
      · (repeat' (first | exact trivial | refine And.intro ?_ ?_)) <;> (first | rfl | skip)
      · exact ⟨rfl, rfl, trivial⟩
      intro k hk
      have hOl := hsl k
      by_cases hc : k < R.length
      · have hLl := hrl _ (getD_memL (d := []) hc)
        have hatk := hat k hc
        have hnext : surK R (k + 1) = sur1 (R.getD k []) (surK R k) := rfl
        generalize R.getD k [] = L at *
        generalize surK R k = O at *
        repeat (first | (refine step_ops ?_; (first | (refine m_lss rfl rfl ?_) | (refine m_idx1_ro rfl rfl ?_ ?_; (· omega)))) | refine end_ops ?_ | refine seq_ops ?_ | (refine cond_t rfl ?_ ?_; (· first | rfl | assumption | (refine decide_eq_true ?_; first | assumption | omega) | (refine nt ?_; first | assumption | omega) | (simp [*]; done))) | refine skip_then ?_ | refine AW_seq ?_ | refine AW_block ?_)
        refine step_ops ?_
        refine m_ld_rp rfl hatk ?_
        repeat (first | (refine step_ops ?_; (first | (refine m_mov (by conv => lhs; whnf) ?_) | (refine m_len_sl rfl ?_))) | refine end_ops ?_ | refine seq_ops ?_ | refine AW_block ?_)
        refine AW_loop (α := Nat) (fun i => i ≤ O.length) (fun i => st [(1, .pt 1 0), (5, .sl 5 1 0 (surP L O i).length), (7, newInts L), (24, .ro true 1 (R.map newInts) R.length), (25, .i R.length), (26, .i k), (31, .i O.length), (32, .i i)] [(1, (true, [.i n, .ro false 3 (cls C) C.length])), (5, (true, (surP L O i).map AV.i))]) (fun i => O.length - i) 0 (Nat.zero_le _) (weak_st ?_ ?_ rfl rfl) ?_
        · rw [surP_zero]
          (repeat' (first | exact trivial | refine And.intro ?_ ?_)) <;> (first | rfl | skip)
        · rw [surP_zero]
          exact ⟨rfl, rfl, trivial⟩
        intro i hi
        have hpl := surP_len L O hi
        by_cases hci : i < O.length
        · have hg := surP_get L O hci
          have hset := surP_succ L O hci
          have hkeep := surP_keep L O hci
          have hiL : i < L.length := by omega
          have hpl1 := surP_len L O (show i + 1 ≤ O.length by omega)
          generalize hS : surP L O i = S at *
          have hiS : i < S.length := by omega
          by_cases hx : L.getD i 0 = O.getD i 0
          · have hx' : L.getD i 0 = S.getD i 0 := by rw [hg]; exact hx
            have hk2 := hkeep hx
            repeat (first | ((first | refine step_ops ?_ | refine step_tree ?_); (first | (refine m_mov (by conv => lhs; whnf) ?_) | (refine m_lss rfl rfl ?_) | (refine m_neq rfl rfl ?_) | (refine m_add rfl rfl ?_ ?_ ?_; (· omega); (· omega)) | (refine m_idx1_ro rfl rfl ?_ ?_; (· omega)) | (refine m_idx1_sl rfl rfl ?_ ?_; (· omega)) | (refine m_ld_rpi rfl ?_ ?_; (· omega)) | (refine m_ld_pti rfl (by rfl) ?_ ?_; (· first | omega | (simp; omega))))) | refine end_ops ?_ | refine seq_ops ?_ | refine AW_ops ?_ | refine end_tree ?_ | refine seq_tree ?_ | (refine cond_t rfl ?_ ?_; (· first | rfl | assumption | (refine decide_eq_true ?_; first | assumption | omega) | (refine nt ?_; first | assumption | omega) | (simp [*]; done))) | (refine cond_f rfl ?_ ?_; (· first | rfl | assumption | (refine decide_eq_false ?_; first | assumption | omega) | (refine nf ?_; first | assumption | omega) | (simp [*]; done))) | refine skip_then ?_ | refine AW_seq ?_ | refine norm_then ?_ | refine AW_block ?_ | refine norm_block ?_ | refine AW_skip ?_)
            refine next_round (i + 1) hci (weak_st ?_ ?_ rfl rfl) (by omega)
            · rw [hk2]
              (repeat' (first | exact trivial | refine And.intro ?_ ?_)) <;> (first | rfl | skip)
            · rw [hk2]
              exact ⟨rfl, rfl, trivial⟩
          · have hx' : ¬ L.getD i 0 = S.getD i 0 := by rw [hg]; exact hx
            have hsv : surT L O i = -1 := if_neg hx
            rw [hsv] at hset
            repeat (first | ((first | refine step_ops ?_ | refine step_tree ?_); (first | (refine m_mov (by conv => lhs; whnf) ?_) | (refine m_lss rfl rfl ?_) | (refine m_neq rfl rfl ?_) | (refine m_add rfl rfl ?_ ?_ ?_; (· omega); (· omega)) | (refine m_idx1_ro rfl rfl ?_ ?_; (· omega)) | (refine m_idx1_sl rfl rfl ?_ ?_; (· omega)) | (refine m_ld_rpi rfl ?_ ?_; (· omega)) | (refine m_ld_pti rfl (by rfl) ?_ ?_; (· first | omega | (simp; omega))) | (apply m_st; (· rfl); (· rfl); (· rfl); (· first | omega | (simp; done) | (simp; omega)); (· rfl)))) | refine end_ops ?_ | refine seq_ops ?_ | refine AW_ops ?_ | refine end_tree ?_ | refine seq_tree ?_ | (refine cond_t rfl ?_ ?_; (· first | rfl | assumption | (refine decide_eq_true ?_; first | assumption | omega) | (refine nt ?_; first | assumption | omega) | (simp [*]; done))) | refine skip_then ?_ | refine AW_seq ?_ | refine norm_then ?_ | refine AW_block ?_ | refine norm_block ?_)
            refine next_round (i + 1) hci (weak_st ?_ ?_ rfl rfl) (by omega)
            · rw [hset, List.length_set]
              (repeat' (first | exact trivial | refine And.intro ?_ ?_)) <;> (first | rfl | skip)
            · rw [hset, List.map_set]
              exact ⟨rfl, rfl, trivial⟩
        · obtain rfl : i = O.length := by omega
          rw [surP_all]
          have hsl1 := sur1_len L O
          repeat (first | (refine step_ops ?_; (first | (refine m_mov (by conv => lhs; whnf) ?_) | (refine m_lss rfl rfl ?_) | (refine m_add rfl rfl ?_ ?_ ?_; (· omega); (· omega)))) | refine end_ops ?_ | refine seq_ops ?_ | refine AW_ops ?_ | (refine cond_f rfl ?_ ?_; (· first | rfl | assumption | (refine decide_eq_false ?_; first | assumption | omega) | (refine nf ?_; first | assumption | omega) | (simp [*]; done))) | refine AW_seq ?_ | refine norm_then ?_ | refine exit_then ?_ | refine norm_block ?_ | refine exit_round ?_ | refine AW_exit ?_ | refine exit_block ?_)
          refine next_round (k + 1) hc (weak_st ?_ ?_ rfl rfl) (by omega)
          · rw [hnext]
            (repeat' (first | exact trivial | refine And.intro ?_ ?_)) <;> (first | rfl | skip)
          · rw [hnext]
            exact ⟨rfl, rfl, trivial⟩
      · obtain rfl : k = R.length := by omega
        repeat (first | (refine step_ops ?_; (first | (refine m_mov (by conv => lhs; whnf) ?_) | (refine m_lss rfl rfl ?_))) | refine end_ops ?_ | refine seq_ops ?_ | (refine cond_f rfl ?_ ?_; (· first | rfl | assumption | (refine decide_eq_false ?_; first | assumption | omega) | (refine nf ?_; first | assumption | omega) | (simp [*]; done))) | refine AW_seq ?_ | refine AW_ret ?_ | refine ret_done ?_ | refine norm_then ?_ | refine exit_then ?_ | refine exit_round ?_ | refine AW_exit ?_ | refine exit_block ?_)
        exact outs_tup2 (outs_ints rfl rfl rfl) (outs_b rfl)
  · rw [if_neg h]
    rw [decide_eq_false h] at hgo
    refine spec_of Try.func36 rfl cc36 rfl ?_
    unfold ac36
    repeat (first | (refine step_ops ?_; (first | (refine m_mov (by conv => lhs; whnf) ?_) | (refine m_nils ?_) | (refine m_box rfl ?_ ?_; (· first | rfl | (simp [cellOk, Value.oneCell']; done))) | (refine m_ldall rfl rfl ?_ ?_; (· first | rfl | (simp; done) | (simp [*]; done))))) | refine end_ops ?_ | refine seq_ops ?_ | refine AW_seq ?_)
    refine step_ops ?_
    refine m_call hgo (lends_cons lend_pzl lends_nil) ?_
    repeat (first | (refine step_ops ?_; (first | (refine m_mov (by conv => lhs; whnf) ?_) | (refine m_not rfl ?_) | (refine m_nils ?_))) | refine end_ops ?_ | refine seq_ops ?_ | (refine cond_t rfl ?_ ?_; (· first | rfl | assumption | (refine decide_eq_true ?_; first | assumption | omega) | (refine nt ?_; first | assumption | omega) | (simp [*]; done))) | refine AW_ret ?_ | refine ret_done ?_ | refine ret_then ?_)
    exact outs_tup2 (outs_ints rfl rfl rfl) (outs_b rfl)
end Go.Proofs.Ytpohldecllkjbaa
namespace Go.Am
theorem stG_row {l : List (Nat × AV)} {h : List (Nat × (Bool × List AV))} {b : Nat} {rows : List (List Int)} {j : Nat} (hn : look h (b + j) = none) (hj : j < rows.length) : (stG l h b rows).hp (b + j) = some (true, (rows.getD j []).map AV.i) := famH_row hn hj
theorem sur1_self (O : List Int) : sur1 O O = O := by
  unfold sur1 surT
  apply List.ext_getElem?
  intro i
  by_cases hi : i < O.length
  · simp [hi]
  · simp [hi]
def hSu (R : List (List Int)) (S : List Int) : List (Nat × (Bool × List AV)) := [(900, (false, rowsC 1000 R)), (1000, (true, S.map AV.i))]
abbrev stS (l : List (Nat × AV)) (R : List (List Int)) (S : List Int) : AS := stG l (hSu R S) 1001 R.tail
theorem stS_row {l : List (Nat × AV)} {R : List (List Int)} {S : List Int} {j : Nat} (h1 : 1 ≤ j) (hj : j < R.length) : (stS l R S).hp (1000 + j) = some (true, (R.getD j []).map AV.i) := by
  obtain ⟨i, rfl⟩ : ∃ i, j = i + 1 := ⟨j - 1, by omega⟩
  have e : R.getD (i + 1) [] = R.tail.getD i [] := by cases R <;> simp
  rw [e, show 1000 + (i + 1) = 1001 + i by omega]
  exact stG_row (look2_none (by omega) (by omega)) (by rw [List.length_tail]; omega)
theorem famS_row {R : List (List Int)} {S : List Int} {j : Nat} (hj : j < R.length) : (famH (look (hSu R S)) 1001 R.tail (1000 + j)).isSome = true := by
  cases j with
  | zero => rfl
  | succ j =>
    have e := famH_row (h := look (hSu R S)) (b := 1001) (rows := R.tail) (j := j) (look2_none (by omega) (by omega)) (by rw [List.length_tail]; omega)
    rw [show 1000 + (j + 1) = 1001 + j by omega, e]
    rfl
theorem weak_sure {s : AS} {l : List (Nat × AV)} {S : List Int} {R : List (List Int)} (hR : 0 < R.length) (hb : R.length ≤ 120) (h900 : s.hp 900 = some (false, rowsC 1000 R)) (h1000 : s.hp 1000 = some (true, S.map AV.i))
    (hrow : ∀ j, 1 ≤ j → j < R.length → s.hp (1000 + j) = some (true, (R.getD j []).map AV.i)) (hl : HasF s id l) (hr : refsT (fun r => (famH (look (hSu R S)) 1001 R.tail r).isSome) l = true) : Weak s (stS l R S) := by
  have hpb : pbase = 4000000 := rfl
  have ht : R.tail.length = R.length - 1 := List.length_tail
  refine weak_G id hl ?_ ?_ ?_ ?_ ?_ ?_ ?_ hr ?_
  · exact ⟨by show s.hp 900 = some (false, renL id (rowsC 1000 R)); rw [rowsC_ren id 1000 1000 R fun _ _ => rfl]; exact h900, h1000, trivial⟩
  · intro j hj
    have e : R.tail.getD j [] = R.getD (j + 1) [] := by cases R <;> simp
    rw [e]
    have := hrow (j + 1) (by omega) (by omega)
    rw [show 1000 + (j + 1) = 1001 + j by omega] at this
    exact this
  · simp [hSu]
  · intro j j' _ _ e
    have : 1001 + j = 1001 + j' := e
    omega
  · intro p hp j hj e
    have e' : p.1 = 1001 + j := e
    simp only [hSu, List.mem_cons, List.not_mem_nil, or_false] at hp
    rcases hp with rfl | rfl <;> simp at e' <;> omega
  · intro p hp
    simp only [hSu, List.mem_cons, List.not_mem_nil, or_false] at hp
    rcases hp with rfl | rfl
    · exact .inl ⟨by show 900 < pbase; omega, by show 900 < pbase; omega⟩
    · exact .inl ⟨by show 1000 < pbase; omega, by show 1000 < pbase; omega⟩
  · intro j hj
    exact .inl ⟨by omega, by show 1001 + j < pbase; omega⟩
  · intro p hp hf
    simp only [hSu, List.mem_cons, List.not_mem_nil, or_false] at hp
    rcases hp with rfl | rfl
    · exact rowsC_refs _ 1000 R fun j hj => famS_row hj
    · cases hf
end Go.Am
namespace Go.Proofs.Ytpohldecllkjbaa
open Go.Am
attribute [local irreducible] AW Outs Weak Lends Lend Sp aops atree aop1 Then Round InBlock Done
attribute [local irreducible] SpM DoneM SpH DoneH SpP SpR
theorem implSureCoats_spec (g : Int) (C : List Clu) : Sp Try.prog 37 [pzl g C] (.tup [newInts ((sureS g C).getD []), .b (sureS g C).isSome]) := by
  have hpb : pbase = 4000000 := rfl
  have hs := solve_spec g C
  have hok : (solS g C).length ≤ 120 ∧ ∃ n, n ≤ 5 ∧ ∀ m ∈ solS g C, m.length = n := by
    unfold solS
    split
    · rename_i h
      obtain ⟨n, rfl, h1, h5⟩ := pz_nat h
      exact ⟨sol_len (by omega), n, h5, by rw [Int.toNat_natCast]; exact sol_ok⟩
    · exact ⟨by simp, 0, by omega, by simp⟩
  unfold sureS
  generalize solS g C = R at *
  obtain ⟨hR, n, hn5, hrl⟩ := hok
  have hrc := rowsC_len 1000 R
  by_cases hR0 : R = []
  · subst hR0
    rw [if_pos rfl]
    refine spec_of Try.func37 rfl cc37 rfl ?_
    unfold ac37
    repeat (first | (refine step_ops ?_; (first | (refine m_mov (by conv => lhs; whnf) ?_) | (refine m_nils ?_) | (refine m_box rfl ?_ ?_; (· first | rfl | (simp [cellOk, Value.oneCell']; done))) | (refine m_ldall rfl rfl ?_ ?_; (· first | rfl | (simp; done) | (simp [*]; done))))) | refine end_ops ?_ | refine seq_ops ?_)
    refine step_ops ?_
    refine m_call (sp_mat2 hs) (lends_cons lend_pzl lends_nil) ?_
    repeat (first | (refine step_ops ?_; (first | (refine m_mov (by conv => lhs; whnf) ?_) | (refine m_eql rfl rfl ?_) | (refine m_len_ro rfl ?_) | (refine m_nils ?_) | (refine m_ext rfl rfl ?_))) | refine end_ops ?_ | refine seq_ops ?_ | (refine cond_t rfl ?_ ?_; (· first | rfl | assumption | (refine decide_eq_true ?_; first | assumption | omega) | (refine nt ?_; first | assumption | omega) | (simp [*]; done))) | refine AW_seq ?_ | refine AW_ret ?_ | refine ret_done ?_ | refine ret_then ?_)
    exact outs_tup2 (outs_ints rfl rfl rfl) (outs_b rfl)
  · have h0 := List.length_pos_iff.2 hR0
    have hl0 : ¬ ((R.length : Nat) : Int) = 0 := by omega
    have hsl := surK_len hrl h0
    rw [if_neg hR0]
    have h1 : surK R 1 = R.getD 0 [] := sur1_self _
    obtain ⟨m, hm⟩ : ∃ m, R.length = m + 1 := ⟨R.length - 1, by omega⟩
    have hc0 := rowsC_get 1000 R 0 h0
    refine spec_of Try.func37 rfl cc37 rfl ?_
    unfold ac37
    repeat (first | (refine step_ops ?_; (first | (refine m_mov (by conv => lhs; whnf) ?_) | (refine m_nils ?_) | (refine m_box rfl ?_ ?_; (· first | rfl | (simp [cellOk, Value.oneCell']; done))) | (refine m_ldall rfl rfl ?_ ?_; (· first | rfl | (simp; done) | (simp [*]; done))))) | refine end_ops ?_ | refine seq_ops ?_)
    refine step_ops ?_
    refine m_callM 900 1000 hs (lends_cons lend_pzl lends_nil) rfl (by omega) (by omega) (by omega) rfl ?_ ?_
    · intro j hj
      simp (disch := omega) only [hp_put, hp_mem_ne, hp_kill_ne]
      rfl
    repeat (first | (refine step_ops ?_; (first | (refine m_mov (by conv => lhs; whnf) ?_) | (refine m_eql rfl rfl ?_) | (refine m_len_sl rfl ?_) | (refine m_idx1_sl rfl rfl ?_ ?_; (· omega)) | (refine m_ext rfl rfl ?_))) | refine end_ops ?_ | refine seq_ops ?_ | (refine cond_f rfl ?_ ?_; (· first | rfl | assumption | (refine decide_eq_false ?_; first | assumption | omega) | (refine nf ?_; first | assumption | omega) | (simp [*]; done))) | refine skip_then ?_ | refine AW_seq ?_)
    refine step_ops ?_
    refine m_ld_pt (fl := false) (cs := rowsC 1000 R) rfl (by rfl) hc0 ?_
    repeat (first | (refine step_ops ?_; (refine m_mov (by conv => lhs; whnf) ?_)) | refine end_ops ?_ | refine seq_ops ?_ | refine AW_seq ?_)
    refine step_ops ?_
    refine m_cut_sl (l := 1) (h := R.length) rfl ⟨_, rfl⟩ rfl (by omega) (Nat.le_refl _) ?_
    repeat (first | (refine step_ops ?_; (first | (refine m_mov (by conv => lhs; whnf) ?_) | (refine m_len_sl rfl ?_))) | refine end_ops ?_ | refine AW_block ?_)
    have hg0 : (R.getD 0 []).length = n := by rw [← h1]; exact hsl 1
    refine AW_loop (α := Nat) (fun k => k ≤ m) (fun k => stS [(6, .sl 1000 1 0 n), (23, .sl 900 1 1 m), (24, .i m), (25, .i k)] R (surK R (k + 1))) (fun k => m - k) 0 (Nat.zero_le _) (weak_sure h0 hR rfl ?_ ?_ ?_ rfl) ?_
    · rw [h1]
      simp only [hp_put]
      refine addM_row (j := 0) (by omega) ?_ h0
      simp (disch := omega) only [hp_put, hp_mem_ne, hp_kill_ne]
      rfl
    · intro j _ hj
      simp only [hp_put]
      refine addM_row (by omega) ?_ hj
      simp (disch := omega) only [hp_put, hp_mem_ne, hp_kill_ne]
      rfl
    · have e : R.length - 1 = m := by omega
      refine ⟨?_, ?_, ?_, rfl, trivial⟩
      · show AV.sl 1000 1 0 (R.getD 0 []).length = .sl 1000 1 0 n
        rw [hg0]
      · show AV.sl 900 1 1 (R.length - 1) = .sl 900 1 1 m
        rw [e]
      · show AV.i ((R.length - 1 : Nat) : Int) = .i m
        rw [e]
    intro k hk
    by_cases hc : k < m
    · have hkc := rowsC_get 1000 R (k + 1) (by omega)
      have hLl : (R.getD (k + 1) []).length = n := hrl _ (getD_memL (d := []) (by omega))
      have hOl := hsl (k + 1)
      have hnext : surK R (k + 1 + 1) = sur1 (R.getD (k + 1) []) (surK R (k + 1)) := rfl
      rw [hLl] at hkc
      have hrows := fun (l : List (Nat × AV)) (S : List Int) => stS_row (l := l) (R := R) (S := S) (j := k + 1) (by omega) (by omega)
      generalize hLg : R.getD (k + 1) [] = L at *
      generalize surK R (k + 1) = O at *
      repeat (first | (refine step_ops ?_; (first | (refine m_lss rfl rfl ?_) | (refine m_idx_sl rfl rfl ?_ ?_ ?_; (· omega); (· omega)))) | refine end_ops ?_ | refine seq_ops ?_ | (refine cond_t rfl ?_ ?_; (· first | rfl | assumption | (refine decide_eq_true ?_; first | assumption | omega) | (refine nt ?_; first | assumption | omega) | (simp [*]; done))) | refine skip_then ?_ | refine AW_seq ?_ | refine AW_block ?_)
      refine step_ops ?_
      refine m_ld_pt (fl := false) (cs := rowsC 1000 R) (off := 1 + ((k : Nat) : Int).toNat * 1) rfl (by rfl) (c := .sl (1000 + (k + 1)) 1 0 n) ?_ ?_
      · rw [Int.toNat_natCast, Nat.mul_one, Nat.add_comm]
        exact hkc
      repeat (first | (refine step_ops ?_; (first | (refine m_mov (by conv => lhs; whnf) ?_) | (refine m_len_sl rfl ?_))) | refine end_ops ?_ | refine seq_ops ?_ | refine AW_block ?_)
      refine AW_loop (α := Nat) (fun i => i ≤ n) (fun i => stS [(6, .sl 1000 1 0 n), (23, .sl 900 1 1 m), (24, .i m), (25, .i k), (29, .sl (1000 + (k + 1)) 1 0 n), (30, .i n), (31, .i i)] R (surP L O i)) (fun i => n - i) 0 (Nat.zero_le _) (weak_sure h0 hR rfl ?_ ?_ ?_ ?_) ?_
      · rw [surP_zero]
        rfl
      · intro j h1 hj
        simp only [hp_put]
        exact stS_row h1 hj
      · exact ⟨rfl, rfl, rfl, rfl, rfl, rfl, rfl, trivial⟩
      · have e1 := famS_row (R := R) (S := surP L O 0) (j := k + 1) (by omega)
        have e2 := famS_row (R := R) (S := surP L O 0) (j := 0) (by omega)
        simp only [refsT, refsV, e1, e2, Bool.and_true, Bool.true_and]
        rfl
      intro i hi
      by_cases hin : i < n
      · repeat (first | (refine step_ops ?_; (first | (refine m_mov (by conv => lhs; whnf) ?_) | (refine m_lss rfl rfl ?_) | (refine m_idx1_sl rfl rfl ?_ ?_; (· omega)))) | refine end_ops ?_ | refine seq_ops ?_ | (refine cond_t rfl ?_ ?_; (· first | rfl | assumption | (refine decide_eq_true ?_; first | assumption | omega) | (refine nt ?_; first | assumption | omega) | (simp [*]; done))) | refine skip_then ?_ | refine AW_seq ?_ | refine AW_block ?_)
        refine step_ops ?_
        refine m_ld_pti (k := i) (L := L) rfl (by simp only [hp_put]; rw [← hLg]; exact stS_row (by omega) (by omega)) (by omega) ?_
        repeat (first | (refine step_ops ?_; (first | (refine m_mov (by conv => lhs; whnf) ?_) | (refine m_idx1_sl rfl rfl ?_ ?_; (· omega)))) | refine end_ops ?_ | refine seq_ops ?_)
        refine step_ops ?_
        refine m_ld_pti (k := i) (L := surP L O i) rfl (by rfl) (by rw [surP_len L O (by omega)]; omega) ?_
        rw [surP_get L O (by omega)]
        by_cases he : L.getD i 0 = O.getD i 0
        · rw [he]
          have hk2 := surP_keep L O (by omega : i < O.length) he
          repeat (first | (refine step_ops ?_; (first | (refine m_mov (by conv => lhs; whnf) ?_) | (refine m_neq rfl rfl ?_) | (refine m_add rfl rfl ?_ ?_ ?_; (· omega); (· omega)))) | refine end_ops ?_ | refine AW_ops ?_ | (refine cond_f rfl ?_ ?_; (· first | rfl | assumption | (refine decide_eq_false ?_; first | assumption | omega) | (refine nf ?_; first | assumption | omega) | (simp [*]; done))) | refine norm_then ?_ | refine norm_block ?_ | refine AW_skip ?_)
          refine next_round (i + 1) (by omega) (weak_sure h0 hR rfl ?_ ?_ ?_ ?_) (by omega)
          · rw [hk2]
            rfl
          · intro j h1 hj
            simp (disch := omega) only [hp_put]
            exact stS_row h1 hj
          · refine ⟨rfl, rfl, rfl, rfl, rfl, rfl, ?_, trivial⟩
            show AV.i ((i : Int) + 1) = .i ((i + 1 : Nat) : Int)
            rw [Int.natCast_add]
            rfl
          · have e1 := famS_row (R := R) (S := surP L O (i + 1)) (j := k + 1) (by omega)
            have e2 := famS_row (R := R) (S := surP L O (i + 1)) (j := 0) (by omega)
            simp only [refsT, refsV, e1, e2, Bool.and_true, Bool.true_and]
            rfl
        · have hk2 := surP_succ L O (by omega : i < O.length)
          repeat (first | (refine step_ops ?_; (first | (refine m_mov (by conv => lhs; whnf) ?_) | (refine m_neq rfl rfl ?_) | (refine m_idx1_sl rfl rfl ?_ ?_; (· omega)))) | refine end_ops ?_ | refine AW_ops ?_ | (refine cond_t rfl ?_ ?_; (· first | rfl | assumption | (refine decide_eq_true ?_; first | assumption | omega) | (refine nt ?_; first | assumption | omega) | (simp [*]; done))))
          refine step_ops ?_
          refine m_st (r := 1000) (off := i) (fl := true) (cs := (surP L O i).map AV.i) rfl (by rfl) rfl (by rw [List.length_map, surP_len L O (by omega)]; omega) rfl ?_
          repeat (first | (refine step_ops ?_; (first | (refine m_mov (by conv => lhs; whnf) ?_) | (refine m_add rfl rfl ?_ ?_ ?_; (· omega); (· omega)))) | refine end_ops ?_ | refine AW_ops ?_ | refine norm_then ?_ | refine norm_block ?_)
          refine next_round (i + 1) (by omega) (weak_sure h0 hR rfl ?_ ?_ ?_ ?_) (by omega)
          · rw [hk2, show surT L O i = -1 from if_neg he, List.map_set]
            rfl
          · intro j h1 hj
            simp (disch := omega) only [hp_put, hp_mem_ne]
            exact stS_row h1 hj
          · refine ⟨rfl, rfl, rfl, rfl, rfl, rfl, ?_, trivial⟩
            show AV.i ((i : Int) + 1) = .i ((i + 1 : Nat) : Int)
            rw [Int.natCast_add]
            rfl
          · have e1 := famS_row (R := R) (S := surP L O (i + 1)) (j := k + 1) (by omega)
            have e2 := famS_row (R := R) (S := surP L O (i + 1)) (j := 0) (by omega)
            simp only [refsT, refsV, e1, e2, Bool.and_true, Bool.true_and]
            rfl
      · obtain rfl : i = n := by omega
        repeat (first | (refine step_ops ?_; (first | (refine m_mov (by conv => lhs; whnf) ?_) | (refine m_lss rfl rfl ?_) | (refine m_add rfl rfl ?_ ?_ ?_; (· omega); (· omega)))) | refine end_ops ?_ | refine seq_ops ?_ | refine AW_ops ?_ | (refine cond_f rfl ?_ ?_; (· first | rfl | assumption | (refine decide_eq_false ?_; first | assumption | omega) | (refine nf ?_; first | assumption | omega) | (simp [*]; done))) | refine AW_seq ?_ | refine norm_then ?_ | refine exit_then ?_ | refine norm_block ?_ | refine exit_round ?_ | refine AW_exit ?_ | refine exit_block ?_)
        refine next_round (k + 1) (by omega) (weak_sure h0 hR rfl ?_ ?_ ?_ rfl) (by omega)
        · rw [hnext, ← surP_all L O, hOl]
          rfl
        · intro j h1 hj
          simp only [hp_put]
          exact stS_row h1 hj
        · refine ⟨rfl, rfl, rfl, ?_, trivial⟩
          show AV.i ((k : Int) + 1) = .i ((k + 1 : Nat) : Int)
          rw [Int.natCast_add]
          rfl
    · obtain rfl : k = m := by omega
      have hn2 := hsl (k + 1)
      rw [hm]
      repeat (first | (refine step_ops ?_; (first | (refine m_mov (by conv => lhs; whnf) ?_) | (refine m_lss rfl rfl ?_))) | refine end_ops ?_ | refine seq_ops ?_ | (refine cond_f rfl ?_ ?_; (· first | rfl | assumption | (refine decide_eq_false ?_; first | assumption | omega) | (refine nf ?_; first | assumption | omega) | (simp [*]; done))) | refine AW_seq ?_ | refine AW_ret ?_ | refine ret_done ?_ | refine norm_then ?_ | refine exit_then ?_ | refine exit_round ?_ | refine AW_exit ?_ | refine exit_block ?_)
      exact outs_tup2 (outs_ints rfl rfl hn2.symm) (outs_b rfl)
end Go.Proofs.Ytpohldecllkjbaa
namespace Go.Am
open Go.ChangeShapes Go.WideShapes Go.ChangeAt Go.RowKit Go.ChangeMaps
variable {P : Program} {H : Type} {enc : TypeId × Value → H}
theorem and_mk {a b : Bool} (h : a = true) (k : b = true) : (a && b) = true := by rw [h, k]; rfl
theorem More.below {w w' : World} (h : More w w') : Below w.heap.size w w' := ⟨h.os, h.tape, h.output, h.size, h.block⟩
theorem trodAll_stays (hl : laidOutB P = true) {W W' : World} (hb : Below W.heap.size W W') (sp : Nat → Bool) : ∀ {ts : List TypeId} {vs : List Value} {ds : List (DataW H)} {ps : List MemPlace},
    (∀ t ∈ ts, P.readableRec t = true ∧ t < P.types.size) → DataW.TrodAll enc P W 0 (fun _ => true) true ts vs ds ps → (∀ p ∈ ps, p.block < W.heap.size) → (∀ p ∈ ps, sp p.block = true) →
    DataW.TrodAll enc P W' 0 sp true ts vs ds ps
  | [], vs, ds, ps, _, h, _, _ => by
    obtain ⟨rfl, rfl, rfl⟩ := trodAll_nil h
    exact trodAll_mk0
  | t :: ts, vs, ds, ps, hr, h, hlt, hsp => by
    obtain ⟨v, vs', d, ds', p, q, rfl, rfl, rfl, h1, h2⟩ := trodAll_cons h
    refine ⟨p, q, ?_, trodAll_stays hl hb sp (fun t ht => hr t (List.mem_cons_of_mem _ ht)) h2 (fun x hx => hlt x (List.mem_append_right _ hx)) (fun x hx => hsp x (List.mem_append_right _ hx)), rfl⟩
    obtain ⟨h3, h4⟩ := hr t (List.mem_cons_self ..)
    exact WideElems.Trod_stays hl h3 h4 h1 (fun x hx => hb.same (hlt x (List.mem_append_left _ hx))) (fun x hx => hsp x (List.mem_append_left _ hx))
/-- What the row's last words ask of a law that says true. -/
theorem law_post (hl : laidOutB P = true) {f : Func} {s : ChangeSpec} {fresh handsOn again : Bool} {W W' : World} {args : Array Value} {ds gs : List (DataW H)} {before : List MemPlace} {bt : TypeId}
    (hW : DataW.Whole enc P f.params.toList s.vars false W args.toList ds gs before) (hvars : s.vars = []) (hfn : s.fn H (ds ++ gs) = { results := [.lit (.bool true)], args := ds })
    (hres : f.resultTypes = #[bt]) (hbt : P.underlying bt = some .bool) (hread : ∀ t ∈ f.params.toList, P.readableRec t = true ∧ t < P.types.size) (hm : More W W') :
    s.post enc P f false fresh handsOn again W args (.bool true) W' := by
  have hb := hm.below
  have hlt : ∀ p ∈ before, p.block < W.heap.size := fun p hp => hW.lt p hp
  obtain ⟨p, q, hA, hV, hpq, hz, hn⟩ := hW
  rw [hvars] at hV
  obtain ⟨rfl, rfl⟩ := trodVars_none hV
  rw [List.append_nil] at hpq
  subst hpq
  have hargs : ∀ sp : Nat → Bool, (∀ x ∈ before, sp x.block = true) → DataW.TrodAll enc P W' 0 sp true f.params.toList args.toList ds before := fun sp hsp => trodAll_stays hl hb sp hread hA hlt hsp
  have hresT : ∀ (b : Nat) (sp : Nat → Bool) (hd : Bool), DataW.TrodAll enc P W' b sp hd f.resultTypes.toList ((Value.bool true).resultList f.resultTypes.size) [.lit (.bool true)] [] := by
    intro b sp hd
    rw [hres]
    exact trodAll_mk1 (shut_bool hbt true)
  have hvarsT : ∀ sp : Nat → Bool, DataW.TrodVars enc P W' sp s.vars (s.fn H (ds ++ [])).vars [] := by
    intro sp
    rw [hvars, hfn]
    rfl
  have hfull : DataW.Whole enc P f.params.toList s.vars false W args.toList ds [] before := ⟨before, [], hA, by rw [hvars]; rfl, by simp, hz, by simp⟩
  refine ⟨ds, [], before, [], before, [], hfull, by rw [hfn]; exact hresT _ _ _, by rw [hfn]; exact hargs _ (fun x hx => by simpa using hlt x hx), hvarsT _, World.keptBut_mono (fun x hx => ⟨hx, .inr (.inl hx)⟩) (hb.frame (· ∈ before)), fun _ => ?_⟩
  refine ⟨ok_one hres rfl (okWide_bool_mk hbt true), _, _, ([] ++ before) ++ [], ⟨[] ++ before, [], trodAll_append (hargs _ (fun _ _ => rfl)) (hresT _ _ _), hvarsT _, rfl, ?_, by simp⟩, ?_⟩
  · intro b off hp
    have hin : MemPlace.cell b off ∈ before := by simpa using hp
    rw [hb.frozen (hlt _ hin)]
    exact hz b off hin
  · intro x hx _
    simpa using hx
abbrev Outer (w : World) : Ctx := { heap := w.heap, ro := fun b => b < w.heap.size, base := w.heap.size, phi := fun _ => none, live := fun _ => false, loc := false }
/-- A law says true. -/
theorem law_calls {f : FuncId} {asx : List AV} {W : World} {args : Array Value} (hs : Sp P f asx (.b true)) (he : SimL asx (Outer W) args.toList) (hlen : args.size = asx.length) (hg : GoodW W := by exact goodW_none rfl) :
    Calls P f args W fun e W' => e = .returned (.bool true) ∧ More W W' := by
  refine (hs W args hg ⟨he, by simpa using hlen⟩).mono fun e W' ⟨v, h1, h2, h3⟩ => ?_
  simp only [SimV] at h3
  subst h3
  exact ⟨h1, h2⟩
end Go.Am
namespace Go.Am
open Go.ChangeShapes Go.WideShapes Go.ChangeAt Go.RowKit Go.ChangeMaps
variable {P : Program} {H : Type} {enc : TypeId × Value → H}
/-- A cell of a list of rows of one length. -/
theorem flat_get {α : Type} (z : Nat) (hz : 0 < z) : ∀ (rs : List (List α)) (_ : ∀ r ∈ rs, r.length = z) (p : Nat), rs.flatten[p]? = (rs[p / z]?).bind (·[p % z]?)
  | [], _, p => by simp
  | r :: rs, h, p => by
    have hr := h r (List.mem_cons_self ..)
    rw [List.flatten_cons]
    by_cases hp : p < z
    · rw [List.getElem?_append_left (by omega), Nat.div_eq_of_lt hp, Nat.mod_eq_of_lt hp]; rfl
    · have h1 : p / z = (p - z) / z + 1 := by rw [Nat.div_eq_sub_div hz (by omega)]
      have h2 : p % z = (p - z) % z := Nat.mod_eq_sub_mod (by omega)
      rw [List.getElem?_append_right (by omega), hr, flat_get z hz rs (fun x hx => h x (List.mem_cons_of_mem _ hx)), h1, h2]; rfl
/-- A slice whose elements are read asx Q says. -/
theorem read_slice {W : World} {t e : TypeId} {z : Nat} (ht : P.underlying t = some (.slice e)) (hc : P.cellsOf e = z) (hz : 0 < z) (Q : List AV → Prop)
    (hQ : ∀ fuel cs (x : DataW H × List MemPlace), DataW.trod enc P W 0 (fun _ => true) true fuel e cs = some x → ∃ l, Q l ∧ l.length = z ∧ SimL l (Outer W) cs)
    {fuel : Nat} {cs : List Value} {x : DataW H × List MemPlace} (h : DataW.trod enc P W 0 (fun _ => true) true fuel t cs = some x) :
    ∃ ls : List (List AV), (∀ l ∈ ls, Q l ∧ l.length = z) ∧ ls.length ≤ maxLen ∧ SimL [.ro false z ls.flatten ls.length] (Outer W) cs := by
  rcases Go.Deep.open_slice ht h with ⟨rfl, _⟩ | ⟨a, len, cap, m, n, D, Pl, rfl, hb, hl, hm, hmm, rfl, hx⟩
  · refine ⟨[], by simp, by simp, ?_⟩
    simp only [SimL, SimV, and_true]
    exact .inl ⟨rfl, rfl, none, 0, rfl, by simp⟩
  · rw [hc] at hx
    simp only [if_true] at hmm
    have each : ∀ i, i < len → ∃ l : List AV, Q l ∧ l.length = z ∧ ∃ cs', W.cells? 0 (a.add (i * z)) z = some cs' ∧ SimL l (Outer W) cs' := fun i hi => by
      obtain ⟨cs', h1, h2⟩ := hx i (by omega)
      obtain ⟨l, h3, h4, h5⟩ := hQ n cs' _ h2
      exact ⟨l, h3, h4, cs', h1, h5⟩
    obtain ⟨f, hf⟩ := Go.Deep.choose_lt each
    have hll : ((List.range len).map f).length = len := by simp
    have hrow : ∀ l ∈ (List.range len).map f, Q l ∧ l.length = z := fun l hl' => by
      simp only [List.mem_map, List.mem_range] at hl'
      obtain ⟨i, hi, rfl⟩ := hl'
      exact ⟨(hf i hi).1, (hf i hi).2.1⟩
    refine ⟨(List.range len).map f, hrow, by rw [hll]; omega, ?_⟩
    simp only [SimL, SimV, and_true]
    rw [hll]
    by_cases h0 : len = 0
    · subst h0
      exact .inl ⟨rfl, rfl, _, cap, rfl, by simp⟩
    · obtain ⟨cs0, hcs0, _⟩ := (hf 0 (by omega)).2.2
      rw [Nat.zero_mul] at hcs0
      obtain ⟨_, hlen0, hcell0⟩ := World.cells?_some hcs0
      have hc0 := hcell0 0 hz
      rw [show (a.add 0).add 0 = a from rfl, List.getElem?_eq_getElem (by omega)] at hc0
      have hspot : a.spot = none ∧ ∃ cur e f, W.heap[a.block]? = some (.cells cur e f) := by
        unfold World.cell? at hc0
        split at hc0
        · rename_i c e' f hb
          split at hc0
          · cases hc0
          · rename_i hs
            exact ⟨by simpa using hs, c, e', f, hb⟩
        · cases hc0
      obtain ⟨hs, cur, e', fz, hbk⟩ := hspot
      obtain ⟨b, o, sp⟩ := a
      simp only at hs hbk
      subst hs
      have hflen : ((List.range len).map f).flatten.length = len * z := by
        rw [List.length_flatten]
        have : ((List.range len).map f).map List.length = List.replicate len z := by
          apply List.ext_getElem?
          intro i
          by_cases hi : i < len
          · simp [hi, (hf i hi).2.1]
          · simp [hi]
        rw [this, List.sum_replicate_nat]
      refine .inr ⟨b, o, cap, cur, e', fz, rfl, hbk, lt_of_get hbk, by rw [hflen], hl, by simp, ?_⟩
      refine SimL.of_get fun p x hp => ?_
      have hp1 := (List.getElem?_eq_some_iff.1 hp).1
      rw [hflen] at hp1
      rw [flat_get z hz _ fun l hl' => (hrow l hl').2] at hp
      have hi : p / z < len := Nat.div_lt_of_lt_mul (by rw [Nat.mul_comm]; exact hp1)
      have hj : p % z < z := Nat.mod_lt _ hz
      rw [List.getElem?_map, List.getElem?_range hi] at hp
      obtain ⟨_, _, cs', h1, h2⟩ := hf (p / z) hi
      obtain ⟨y, h3, h4⟩ := SimL.get h2 hp
      obtain ⟨_, hlen', hcell'⟩ := World.cells?_some h1
      have h5 := hcell' (p % z) hj
      rw [h3, Go.Deep.add_add, show p / z * z + p % z = p by rw [Nat.mul_comm]; exact Nat.div_add_mod p z] at h5
      refine ⟨y, ?_, h4⟩
      rw [addr_add, cell_of_row W b (o + p) cur e' fz hbk] at h5
      rw [List.getElem?_drop, Array.getElem?_toList]
      exact h5
/-- An integer's cell. -/
theorem read_int {W : World} {t : TypeId} (ht : P.underlying t = some (.int .i64)) {fuel : Nat} {cs : List Value} {x : DataW H × List MemPlace} (h : DataW.trod enc P W 0 (fun _ => true) true fuel t cs = some x) :
    ∃ n : Int, (-9223372036854775808 ≤ n ∧ n ≤ 9223372036854775807) ∧ SimL [AV.i n] (Outer W) cs := by
  obtain ⟨n, rfl, _, hw⟩ := DataW.trod_int ht h
  simp [Lit.wf, IntKind.min, IntKind.max, IntKind.signed, IntKind.bits] at hw
  exact ⟨n, by omega, by simp [SimL, SimV]⟩
end Go.Am
namespace Go.Am
open Go.ChangeShapes Go.WideShapes Go.ChangeAt Go.RowKit Go.ChangeMaps
variable {P : Program} {H : Type} {enc : TypeId × Value → H}
/-- What a struct of three integers is to the program. -/
structure IsC3 (P : Program) (t : TypeId) (f0 f1 f2 : Field) : Prop where
  ht : P.underlying t = some (.struct #[f0, f1, f2])
  h0 : P.underlying f0.type = some (.int .i64)
  h1 : P.underlying f1.type = some (.int .i64)
  h2 : P.underlying f2.type = some (.int .i64)
  o0 : f0.offset = 0
  o1 : f1.offset = 1
  o2 : f2.offset = 2
  c0 : P.cellsOf f0.type = 1
  c1 : P.cellsOf f1.type = 1
  c2 : P.cellsOf f2.type = 1
  hsz : P.cellsOf t = 3
theorem read_clu {W : World} {t : TypeId} {f0 f1 f2 : Field} (hc : IsC3 P t f0 f1 f2) {fuel : Nat} {cs : List Value} {x : DataW H × List MemPlace} (h : DataW.trod enc P W 0 (fun _ => true) true fuel t cs = some x) :
    ∃ c : Clu, SimL (cC c) (Outer W) cs ∧ cs.length = 3 := by
  obtain ⟨xs, n, _, rfl, hl, hlen, hf⟩ := DataW.trod_struct hc.ht h
  rw [hc.hsz] at hl
  have g0 := hf 0 f0 rfl
  have g1 := hf 1 f1 rfl
  have g2 := hf 2 f2 rfl
  have hlen' : xs.length = 3 := by simpa using hlen
  match xs, hlen' with
  | [y0, y1, y2], _ =>
    simp only [hc.o0, hc.o1, hc.o2, hc.c0, hc.c1, hc.c2] at g0 g1 g2
    match cs, hl with
    | [p, q, r], _ =>
      obtain ⟨a, _, s0⟩ := read_int hc.h0 (by simpa using g0)
      obtain ⟨b, _, s1⟩ := read_int hc.h1 (by simpa using g1)
      obtain ⟨c, _, s2⟩ := read_int hc.h2 (by simpa using g2)
      simp only [SimL, and_true] at s0 s1 s2
      exact ⟨(a, b, c), by simp only [cC, SimL, and_true]; exact ⟨s0, s1, s2⟩, rfl⟩
theorem rows_clu : ∀ {ls : List (List AV)}, (∀ l ∈ ls, ∃ c : Clu, l = cC c) → ∃ C : List Clu, ls.flatten = cls C ∧ ls.length = C.length
  | [], _ => ⟨[], rfl, rfl⟩
  | l :: ls, h => by
    obtain ⟨a, rfl⟩ := h l (List.mem_cons_self ..)
    obtain ⟨L, h1, h2⟩ := rows_clu (ls := ls) fun x hx => h x (List.mem_cons_of_mem _ hx)
    exact ⟨a :: L, by rw [List.flatten_cons, h1]; rfl, by simp [h2]⟩
theorem read_clus {W : World} {t e : TypeId} {f0 f1 f2 : Field} (ht : P.underlying t = some (.slice e)) (hc : IsC3 P e f0 f1 f2) {fuel : Nat} {cs : List Value} {x : DataW H × List MemPlace}
    (h : DataW.trod enc P W 0 (fun _ => true) true fuel t cs = some x) : ∃ C : List Clu, C.length ≤ maxLen ∧ SimL [.ro false 3 (cls C) C.length] (Outer W) cs := by
  obtain ⟨ls, h1, h2, h3⟩ := read_slice ht hc.hsz (by decide) (fun l => ∃ c : Clu, l = cC c) (fun fuel cs x hx => by
    obtain ⟨c, h4, h5⟩ := read_clu hc hx
    exact ⟨_, ⟨c, rfl⟩, rfl, h4⟩) h
  obtain ⟨C, h4, h5⟩ := rows_clu fun l hl => (h1 l hl).1
  rw [h4, h5] at h3
  exact ⟨C, by omega, h3⟩
theorem arg_pzl {W : World} {t e : TypeId} {f0 f1 g0 g1 g2 : Field} {v : Value} {d : DataW H} {ps : List MemPlace} (ht : P.underlying t = some (.struct #[f0, f1])) (h0 : P.underlying f0.type = some (.int .i64)) (h1 : P.underlying f1.type = some (.slice e)) (he : IsC3 P e g0 g1 g2)
    (hsz : P.cellsOf t = 2) (ho : f0.offset = 0 ∧ P.cellsOf f0.type = 1 ∧ f1.offset = 1 ∧ P.cellsOf f1.type = 1) (hval : Value.okWide P W .any 0 t v) (h : DataW.Trod enc P W 0 (fun _ => true) true t v d ps) :
    ∃ x : Int × List Clu, SimV (pzl x.1 x.2) (Outer W) v ∧ x.2.length ≤ 9223372036854775807 ∧ (-9223372036854775808 ≤ x.1 ∧ x.1 ≤ 9223372036854775807) := by
  obtain ⟨cs, rfl, hcs⟩ := okWide_struct ht hval
  obtain ⟨fuel, hf⟩ := h
  obtain ⟨y0, y1, n, _, hl, hd0, hd1⟩ := trod_struct2 ht hf
  obtain ⟨e1, e2, e3, e4⟩ := ho
  rw [e1, e2] at hd0
  rw [e3, e4] at hd1
  obtain ⟨c, hb, s0⟩ := read_int h0 hd0
  obtain ⟨C, hM, s1⟩ := read_clus h1 he hd1
  rw [hsz] at hcs
  refine ⟨(c, C), ?_, Nat.le_trans hM (by decide), hb⟩
  simp only [SimV]
  refine ⟨cs, rfl, hcs, ?_⟩
  obtain ⟨l⟩ := cs
  match l with
  | [] => simp at hcs
  | [_] => simp at hcs
  | _ :: _ :: _ :: _ => simp at hcs
  | [p, q] =>
    simp only [Value.cells, List.drop_zero, List.take_succ_cons, List.take_zero, List.drop_succ_cons, SimL, and_true] at s0 s1 ⊢
    exact ⟨s0, s1⟩
end Go.Am
namespace Go.Proofs.Ytpohldecllkjbaa
open Go.ChangeShapes Go.WideShapes Go.ChangeAt Go.RowKit
theorem factMayEnter : Try.checked.prog.mayEnter = true := by kernel_rfl
end Go.Proofs.Ytpohldecllkjbaa
namespace Go.Proofs.Ytpohldecllkjbaa
open Go.ChangeShapes Go.WideShapes Go.ChangeAt Go.RowKit
theorem factLifts : Try.checked.prog.liftsFinal = false := by kernel_rfl
end Go.Proofs.Ytpohldecllkjbaa
namespace Go.Proofs.Ytpohldecllkjbaa
open Go.ChangeShapes Go.WideShapes Go.ChangeAt Go.RowKit
theorem factMake : Try.checked.prog.make = some (OpenClaim.make { program := "", sum := "", func := "", spec := "" }) := by kernel_rfl
end Go.Proofs.Ytpohldecllkjbaa
