/- Contracts: a search whose question is asked of some lists alone. -/
import Derived.Test.YtlcjipgnflncfaaSpFg
namespace Go.Am
/-- A function value that is asked of lists of which something is known. -/
structure AsksI (P : Program) (f : FuncId) (fl : List AV) (n : Nat) (fits : List Int → Nat → Bool) (Inv : List Int → Prop) : Prop where
  call : Callable P f
  bears : Bears fl
  norefs : ∀ keep, refsL keep fl = true
  nokill : ∀ r, killL r fl = fl
  nil : Inv []
  take : ∀ M q, Inv M → Inv (M.take q)
  snoc : ∀ (M : List Int) (y : Nat), Inv M → M.length < n → y < n → fits M y = true → Inv (M ++ [(y : Int)])
  spec : ∀ (M : List Int) (y : Nat), Inv M → M.length < n → (∀ x ∈ M, 0 ≤ x ∧ x < n) → y < n → Sp P f (fl ++ [ints M, .i y]) (.b (fits M y))
end Go.Am
namespace Go.Proofs.Ytlcjipgnflncfaa
open Go.Am
attribute [local irreducible] AW Outs Weak Lends Lend Sp aops atree aop1 Then Round InBlock Done

theorem fittingFromI_spec {f : FuncId} {fl : List AV} {n : Nat} {fits : List Int → Nat → Bool} {Inv : List Int → Prop} (A : AsksI Try.prog f fl n fits Inv) (l : List Int) (g : Nat) (hn : n ≤ 1000) (hl : l.length < n) (hb : ∀ x ∈ l, 0 ≤ x ∧ x < n) (hg : g ≤ n) (hI : Inv l) :
    Sp Try.prog 24 [.i n, ints l, .i g, .fn f fl fl.length] (srchR (goAt fits n l g).head?) := by
  unfold srchR
  refine spec_of Try.func24 rfl cc24 rfl ?_
  unfold ac24
  repeat (first | (refine step_ops ?_; (first | (refine m_mov (by conv => lhs; whnf) ?_) | (refine m_nils ?_))) | refine end_ops ?_ | refine seq_ops ?_)
  refine AW_scope (α := Unit) 0 (fun _ => False) (fun _ => st [] []) (fun _ => 0) rfl ?_ (fun _ hf => hf.elim)
  repeat (first | (refine step_ops ?_; (refine m_mov (by conv => lhs; whnf) ?_)) | refine seq_ops ?_)
  (refine step_ops ?_); (apply m_callo (slicesClone0_spec l (by omega))); (· repeat (first | exact lends_nil | (refine lends_cons ?_ ?_; (· (refine lend_ints ?_; first | rfl | omega))))); (· first | exact allv_ints _ | rfl | (simp; done))
  repeat (first | (refine step_ops ?_; (refine m_mov (by conv => lhs; whnf) ?_)) | refine end_ops ?_ | refine seq_ops ?_ | refine AW_seq ?_)
  refine AW_label ?_
  refine norm_then ?_
  repeat (first | refine AW_seq ?_ | refine AW_block ?_)
  refine AW_loop (α := List Int × Nat) (fun a => a.1.length ≤ n ∧ (∀ x ∈ a.1, 0 ≤ x ∧ x < n) ∧ a.2 ≤ n ∧ (goAt fits n a.1 a.2).head? = (goAt fits n l g).head? ∧ Inv a.1)
    (fun a => st [(0, .i n), (3, .fn f fl fl.length), (10, .sl 10 1 0 a.1.length), (11, .i a.2)] [(10, (true, a.1.map AV.i))]) (fun a => goMeas n a.1 a.2) (l, g) ⟨by show l.length ≤ n; omega, hb, hg, rfl, hI⟩
    (Weak.trans (weak_move (r := 14) (q := 10) rfl (by decide) (by decide)) (weak_st ?_ ?_ ?_ rfl)) ?_
  · (repeat' (first | exact trivial | refine And.intro ?_ ?_)) <;> (first | rfl | skip)
    all_goals (simp (disch := decide) [tm_put_ne', tm_put_none, tm_mem, tm_kill, tm_mv, tm_st, tm_en0, tm_en1, tm_en2, tm_en3, tm_en4, Am.look, kill_fn A.nokill, mv_fn A.nokill])
  · exact ⟨rfl, trivial⟩
  · simp [refsT, refsV, A.norefs, Am.look]
  rintro ⟨M, y⟩ ⟨hM, hMb, hy, hres, hMI⟩
  dsimp only at hM hMb hy hres hMI ⊢
  by_cases hfull : M.length = n
  · have hr1 : (goAt fits n l g).head? = some M := by rw [← hres]; exact goAt_full _ _ hfull
    repeat (first | (refine step_ops ?_; (first | (refine m_mov (by conv => lhs; whnf) ?_) | (refine m_eql rfl rfl ?_) | (refine m_len_sl rfl ?_))) | refine end_ops ?_ | refine seq_ops ?_ | (refine cond_t rfl ?_ ?_; (· first | rfl | assumption | (refine decide_eq_true ?_; first | assumption | omega) | (refine nt ?_; first | assumption | omega) | (simp [*]; done))) | refine AW_ret ?_ | refine ret_done ?_ | refine norm_then ?_ | refine AW_block ?_ | refine exit_round ?_ | refine AW_exit ?_ | refine exit_block ?_ | (refine exit_other ?_ ?_; (· decide)))
    rw [hr1]
    exact outs_tup2 (outs_ints rfl rfl rfl) (outs_b rfl)
  · have hMl : M.length < n := by omega
    by_cases hy2 : y < n
    · by_cases hf : fits M y = true
      · repeat (first | (refine step_ops ?_; ((try (refine g_yes rfl ?_ ?_; (· first | rfl | assumption | (refine decide_eq_true ?_; first | assumption | omega) | (refine nt ?_; first | assumption | omega) | (simp [*]; done) | (refine decide_eq_false ?_; first | assumption | omega) | (refine nf ?_; first | assumption | omega)))); (first | (refine m_mov (by conv => lhs; whnf) ?_) | (refine m_lss rfl rfl ?_) | (refine m_eql rfl rfl ?_) | (refine m_len_sl rfl ?_)))) | refine end_ops ?_ | refine seq_ops ?_ | (refine cond_f rfl ?_ ?_; (· first | rfl | assumption | (refine decide_eq_false ?_; first | assumption | omega) | (refine nf ?_; first | assumption | omega) | (simp [*]; done))) | refine AW_block ?_)
        refine step_ops ?_
        refine g_yes rfl ?_ ?_
        · first | rfl | assumption | (refine decide_eq_true ?_; first | assumption | omega) | (refine nt ?_; first | assumption | omega) | (simp [*]; done)
        refine m_callf rfl A.call (A.spec M y hMI (by omega) hMb hy2) ?_ ?_
        · exact asks_lend A.bears rfl (lends_cons (lend_sli (by rfl) rfl) (lends_cons lend_v lends_nil))
        repeat (first | (refine step_ops ?_; (first | (refine m_mov (by conv => lhs; whnf) ?_) | (refine m_pick_t rfl ?_ (by conv => lhs; whnf) ?_; (· first | rfl | assumption | (refine decide_eq_true ?_; first | assumption | omega) | (refine nt ?_; first | assumption | omega) | (simp [*]; done))) | (refine m_bsl1 rfl rfl ?_) | (refine m_app1i rfl (by decide) (by rfl) (by first | rfl | omega | (simp; done)) rfl rfl ?_ (by decide) ?_; (· first | omega | (simp; omega))))) | refine end_ops ?_ | refine seq_ops ?_ | refine AW_ops ?_ | (refine cond_t rfl ?_ ?_; (· first | rfl | assumption | (refine decide_eq_true ?_; first | assumption | omega) | (refine nt ?_; first | assumption | omega) | (simp [*]; done))) | refine norm_block ?_)
        refine next_round (M ++ [(y : Int)], 0) ⟨by simp; omega, fun x hx => ?_, Nat.zero_le _, by rw [← hres]; exact congrArg _ (goAt_take _ _ hMl hy2 hf), A.snoc M y hMI hMl hy2 hf⟩ (Weak.trans (weak_move (r := 45) (q := 10) rfl (by decide) (by decide)) (weak_st ?_ ?_ ?_ rfl)) ?_
        · rcases List.mem_append.1 hx with hx | hx
          · exact hMb x hx
          · rw [List.mem_singleton.1 hx]; omega
        · (repeat' (first | exact trivial | refine And.intro ?_ ?_)) <;> (first | rfl | skip)
          all_goals (simp (disch := decide) [tm_put_ne', tm_put_none, tm_mem, tm_kill, tm_mv, tm_st, tm_en0, tm_en1, tm_en2, tm_en3, tm_en4, Am.look, kill_fn A.nokill, mv_fn A.nokill])
        · exact ⟨rfl, trivial⟩
        · simp [refsT, refsV, A.norefs, Am.look]
        · exact goMeas_take hMl hy2
      · have hf : fits M y = false := by simpa using hf
        repeat (first | (refine step_ops ?_; ((try (refine g_yes rfl ?_ ?_; (· first | rfl | assumption | (refine decide_eq_true ?_; first | assumption | omega) | (refine nt ?_; first | assumption | omega) | (simp [*]; done) | (refine decide_eq_false ?_; first | assumption | omega) | (refine nf ?_; first | assumption | omega)))); (first | (refine m_mov (by conv => lhs; whnf) ?_) | (refine m_lss rfl rfl ?_) | (refine m_eql rfl rfl ?_) | (refine m_len_sl rfl ?_)))) | refine end_ops ?_ | refine seq_ops ?_ | (refine cond_f rfl ?_ ?_; (· first | rfl | assumption | (refine decide_eq_false ?_; first | assumption | omega) | (refine nf ?_; first | assumption | omega) | (simp [*]; done))) | refine AW_block ?_)
        refine step_ops ?_
        refine g_yes rfl ?_ ?_
        · first | rfl | assumption | (refine decide_eq_true ?_; first | assumption | omega) | (refine nt ?_; first | assumption | omega) | (simp [*]; done)
        refine m_callf rfl A.call (A.spec M y hMI (by omega) hMb hy2) ?_ ?_
        · exact asks_lend A.bears rfl (lends_cons (lend_sli (by rfl) rfl) (lends_cons lend_v lends_nil))
        repeat (first | (refine step_ops ?_; (first | (refine m_mov (by conv => lhs; whnf) ?_) | (refine m_lss rfl rfl ?_) | (refine m_add rfl rfl ?_ ?_ ?_; (· omega); (· omega)) | (refine m_pick_t rfl ?_ (by conv => lhs; whnf) ?_; (· first | rfl | assumption | (refine decide_eq_true ?_; first | assumption | omega) | (refine nt ?_; first | assumption | omega) | (simp [*]; done))))) | refine end_ops ?_ | refine seq_ops ?_ | refine AW_ops ?_ | (refine cond_t rfl ?_ ?_; (· first | rfl | assumption | (refine decide_eq_true ?_; first | assumption | omega) | (refine nt ?_; first | assumption | omega) | (simp [*]; done))) | (refine cond_f rfl ?_ ?_; (· first | rfl | assumption | (refine decide_eq_false ?_; first | assumption | omega) | (refine nf ?_; first | assumption | omega) | (simp [*]; done))) | refine norm_block ?_)
        refine next_round (M, y + 1) ⟨hM, hMb, hy2, by rw [← hres]; exact congrArg _ (goAt_skip _ _ hMl hy2 hf), hMI⟩ (weak_st ?_ ?_ ?_ rfl) ?_
        · (repeat' (first | exact trivial | refine And.intro ?_ ?_)) <;> (first | rfl | skip)
          all_goals (simp (disch := decide) [tm_put_ne', tm_put_none, tm_mem, tm_kill, tm_mv, tm_st, tm_en0, tm_en1, tm_en2, tm_en3, tm_en4, Am.look, kill_fn A.nokill, mv_fn A.nokill])
        · exact ⟨rfl, trivial⟩
        · simp [refsT, refsV, A.norefs, Am.look]
        · exact goMeas_skip hMl hy2
    · by_cases hM0 : M.length = 0
      · have hr1 : (goAt fits n l g).head? = none := by
          rw [← hres, List.length_eq_zero_iff.1 hM0, goAt_none _ _ (by omega) (by omega)]; rfl
        repeat (first | (refine step_ops ?_; (first | (first | (refine m_mov (by conv => lhs; whnf) ?_) | (refine m_lss rfl rfl ?_) | (refine m_eql rfl rfl ?_) | (refine m_len_sl rfl ?_) | (refine m_pick_f rfl ?_ (by conv => lhs; whnf) ?_; (· first | rfl | assumption | (refine decide_eq_false ?_; first | assumption | omega) | (refine nf ?_; first | assumption | omega) | (simp [*]; done))) | (refine m_nils ?_)) | (refine g_noT rfl ?_ ?_; (· first | rfl | assumption | (refine decide_eq_false ?_; first | assumption | omega) | (refine nf ?_; first | assumption | omega) | (simp [*]; done))))) | refine end_ops ?_ | refine seq_ops ?_ | (refine cond_t rfl ?_ ?_; (· first | rfl | assumption | (refine decide_eq_true ?_; first | assumption | omega) | (refine nt ?_; first | assumption | omega) | (simp [*]; done))) | (refine cond_f rfl ?_ ?_; (· first | rfl | assumption | (refine decide_eq_false ?_; first | assumption | omega) | (refine nf ?_; first | assumption | omega) | (simp [*]; done))) | refine AW_ret ?_ | refine ret_done ?_ | refine ret_then ?_ | refine AW_block ?_ | refine ret_block ?_ | refine ret_round ?_)
        rw [hr1]
        exact outs_tup2 (outs_ints rfl rfl rfl) (outs_b rfl)
      · obtain ⟨q, hq⟩ : ∃ q, M.length = q + 1 := ⟨M.length - 1, by omega⟩
        have hx := hMb _ (getD_mem (show q < M.length by omega))
        obtain ⟨k, hk⟩ := Int.eq_ofNat_of_zero_le hx.1
        have hlen : (M.take q).length = q := List.length_take_of_le (by omega)
        have hsp : M = M.take q ++ [(k : Int)] := by
          have h1 := take_snoc M q 0 (by omega)
          rw [List.take_of_length_le (by omega), hk] at h1
          exact h1
        have hgo : goAt fits n M y = goAt fits n (M.take q) (k + 1) := by
          conv => lhs; rw [hsp]
          rw [goAt_back _ _ (by omega) (by omega), Int.toNat_natCast]
        have hms : goMeas n (M.take q) (k + 1) < goMeas n M y := by
          have := goMeas_back (n := n) (l := M.take q) (x := (k : Int)) (g := y) (by omega)
          rw [← hsp, Int.toNat_natCast] at this
          exact this
        clear hsp
        repeat (first | (refine step_ops ?_; (first | (first | (refine m_mov (by conv => lhs; whnf) ?_) | (refine m_lss rfl rfl ?_) | (refine m_eql rfl rfl ?_) | (refine m_sub rfl rfl ?_ ?_ ?_; (· omega); (· omega)) | (refine m_len_sl rfl ?_) | (refine m_idx_sl rfl rfl ?_ ?_ ?_; (· omega); (· omega)) | (refine m_ld_pti rfl (by rfl) ?_ ?_; (· first | omega | (simp; omega))) | (refine m_pick_f rfl ?_ (by conv => lhs; whnf) ?_; (· first | rfl | assumption | (refine decide_eq_false ?_; first | assumption | omega) | (refine nf ?_; first | assumption | omega) | (simp [*]; done)))) | (refine g_noT rfl ?_ ?_; (· first | rfl | assumption | (refine decide_eq_false ?_; first | assumption | omega) | (refine nf ?_; first | assumption | omega) | (simp [*]; done))))) | refine end_ops ?_ | refine seq_ops ?_ | (refine cond_f rfl ?_ ?_; (· first | rfl | assumption | (refine decide_eq_false ?_; first | assumption | omega) | (refine nf ?_; first | assumption | omega) | (simp [*]; done))) | refine AW_block ?_)
        rw [show (M.length : Int) - 1 = (q : Int) by omega]
        skip
        rw [show M.getD (0 + (q : Int).toNat * 1) 0 = (k : Int) by rw [Int.toNat_natCast, Nat.zero_add, Nat.mul_one]; exact hk]
        repeat (first | (refine step_ops ?_; (first | (refine m_mov (by conv => lhs; whnf) ?_) | (refine m_add rfl rfl ?_ ?_ ?_; (· omega); (· omega)))) | refine end_ops ?_ | refine AW_ops ?_)
        refine step_ops ?_
        refine m_cut_sl (l := 0) (h := q) rfl rfl ⟨_, rfl⟩ (Nat.zero_le _) (by omega) ?_
        repeat (first | (refine step_ops ?_; (refine m_mov (by conv => lhs; whnf) ?_)) | refine end_ops ?_ | refine norm_block ?_)
        refine next_round (M.take q, k + 1) ⟨by show (M.take q).length ≤ _; omega, fun x hx => hMb x (List.mem_of_mem_take hx), by show k + 1 ≤ n; omega, by rw [← hres]; exact congrArg _ hgo.symm, A.take M q hMI⟩ (Weak.trans (weak_shrink 10 q rfl (allv_ints _)) (weak_st ?_ ?_ ?_ rfl)) hms
        · rw [hlen]
          (repeat' (first | exact trivial | refine And.intro ?_ ?_)) <;> (first | rfl | skip)
          all_goals (simp (disch := decide) [tm_put_ne', tm_put_none, tm_mem, tm_kill, tm_mv, tm_st, tm_en0, tm_en1, tm_en2, tm_en3, tm_en4, Am.look, kill_fn A.nokill, mv_fn A.nokill])
        · rw [List.map_take]
          exact ⟨rfl, trivial⟩
        · simp [refsT, refsV, A.norefs, Am.look]
theorem firstFittingI_spec {f : FuncId} {fl : List AV} {n : Nat} {fits : List Int → Nat → Bool} {Inv : List Int → Prop} (A : AsksI Try.prog f fl n fits Inv) (hn : n ≤ 1000) (h1 : 1 ≤ n) :
    Sp Try.prog 17 [.i n, .fn f fl fl.length] (srchR (goOn fits n n []).head?) := by
  have hs := fittingFromI_spec A [] 0 hn h1 (fun x hx => by simp at hx) (Nat.zero_le _) A.nil
  rw [goAt_start _ _ h1] at hs
  unfold srchR at hs ⊢
  generalize hsr : (goOn fits n n []).head? = sr at hs ⊢
  refine spec_of Try.func17 rfl cc17 rfl ?_
  unfold ac17
  repeat (first | (refine step_ops ?_; (first | (refine m_mov (by conv => lhs; whnf) ?_) | (refine m_nils ?_))) | refine end_ops ?_ | refine seq_ops ?_)
  refine step_ops ?_
  refine m_callt hs ?_ (allv_ints _) rfl ?_
  · refine lends_cons lend_v (lends_cons lend_nil (lends_cons lend_v (lends_cons ?_ lends_nil)))
    rw [show AS.ev _ (.t 7) = AV.fn f fl fl.length by (show killV 4 (AV.fn f fl fl.length) = _; exact kill_fn A.nokill)]
    exact lend_bears A.bears
  repeat (first | (refine step_ops ?_; (first | (refine m_mov (by conv => lhs; whnf) ?_) | (refine m_ext rfl rfl ?_))) | refine end_ops ?_ | refine AW_ret ?_ | refine ret_done ?_)
  exact outs_tup2 (outs_ints rfl rfl rfl) (outs_b rfl)

end Go.Proofs.Ytlcjipgnflncfaa
