/- Contracts: the code's search for a list that fits. -/
import Derived.Test.YtlcjipgnflncfaaSpFx2
import Derived.Test.YtlcjipgnflncfaaSpFd
import Derived.Test.YtlcjipgnflncfaaMaL2
import Derived.Test.YtlcjipgnflncfaaAmU
namespace Go.Proofs.Ytlcjipgnflncfaa
open Go.Am
attribute [local irreducible] AW Outs Weak Lends Lend Sp aops atree aop1 Then Round InBlock Done

/-- May the guest behind those of l get the gift of x? -/
def fitsG (F : List Int) (l : List Int) (x : Nat) : Bool := decide (F.getD l.length 0 ≠ F.getD x 0) && !decide ((x : Int) ∈ l)

theorem canTakeGift_spec (F l : List Int) (g : Nat) (h : IsFam F) (hl : l.length < F.length) (hg : g < F.length) : Sp Try.prog 25 [.agg (kinV F), ints l, .i g] (.b (fitsG F l g)) := by
  have h9 := h.2.1
  have hkl := kinV_len h9
  have hpl := kinV_plain F
  refine spec_of Try.func25 rfl cc25 rfl ?_
  unfold ac25
  by_cases h1 : F.getD l.length 0 = F.getD g 0
  · repeat refine seq_ops ?_
    refine step_ops ?_
    refine m_box rfl (kinV_ok F true) ?_
    repeat (first | (refine step_ops ?_; (first | (refine m_mov (by conv => lhs; whnf) ?_) | (refine m_len_ro rfl ?_) | (refine m_ldall rfl rfl ?_ ?_; (· first | rfl | (simp; done) | (simp [*]; done))))) | refine end_ops ?_ | refine seq_ops ?_)
    (refine step_ops ?_); (apply m_call (areApart_spec F l.length g h9 hl hg)); (· repeat (first | exact lends_nil | (refine lends_cons ?_ ?_; (· (first | exact lend_v | (refine lend_agg ?_; first | rfl | assumption | (simp [plainV]; done)))))))
    repeat (first | (refine step_ops ?_; (first | (first | (refine m_mov (by conv => lhs; whnf) ?_) | (refine m_pick_f rfl ?_ (by conv => lhs; whnf) ?_; (· first | rfl | assumption | (refine decide_eq_false ?_; first | assumption | omega) | (refine nf ?_; first | assumption | omega) | (simp [*]; done)))) | (refine g_noT rfl ?_ ?_; (· first | rfl | assumption | (refine decide_eq_false ?_; first | assumption | omega) | (refine nf ?_; first | assumption | omega) | (simp [*]; done))))) | refine end_ops ?_ | refine AW_ret ?_ | refine ret_done ?_)
    refine outs_b ?_
    unfold fitsG
    rw [show decide (F.getD l.length 0 ≠ F.getD g 0) = false from decide_eq_false fun hh => hh h1]
    simp
  · repeat refine seq_ops ?_
    refine step_ops ?_
    refine m_box rfl (kinV_ok F true) ?_
    repeat (first | (refine step_ops ?_; (first | (refine m_mov (by conv => lhs; whnf) ?_) | (refine m_len_ro rfl ?_) | (refine m_ldall rfl rfl ?_ ?_; (· first | rfl | (simp; done) | (simp [*]; done))))) | refine end_ops ?_ | refine seq_ops ?_)
    (refine step_ops ?_); (apply m_call (areApart_spec F l.length g h9 hl hg)); (· repeat (first | exact lends_nil | (refine lends_cons ?_ ?_; (· (first | exact lend_v | (refine lend_agg ?_; first | rfl | assumption | (simp [plainV]; done)))))))
    repeat (refine step_ops ?_; ((try (refine g_yes rfl ?_ ?_; (· first | rfl | assumption | (refine decide_eq_true ?_; first | assumption | omega) | (refine nt ?_; first | assumption | omega) | (simp [*]; done) | (refine decide_eq_false ?_; first | assumption | omega) | (refine nf ?_; first | assumption | omega)))); (refine m_mov (by conv => lhs; whnf) ?_)))
    (refine step_ops ?_); (refine g_yes rfl ?_ ?_; (· first | (first | rfl | assumption | (refine decide_eq_true ?_; first | assumption | omega) | (refine nt ?_; first | assumption | omega) | (simp [*]; done)) | (first | rfl | assumption | (refine decide_eq_false ?_; first | assumption | omega) | (refine nf ?_; first | assumption | omega) | (simp [*]; done))); (apply m_call (slicesContains_spec l g (by omega)))); (· repeat (first | exact lends_nil | (refine lends_cons ?_ ?_; (· (first | exact lend_v | (refine lend_ints ?_; first | rfl | omega))))))
    repeat (first | (refine step_ops ?_; ((try (refine g_yes rfl ?_ ?_; (· first | rfl | assumption | (refine decide_eq_true ?_; first | assumption | omega) | (refine nt ?_; first | assumption | omega) | (simp [*]; done) | (refine decide_eq_false ?_; first | assumption | omega) | (refine nf ?_; first | assumption | omega)))); (first | (refine m_mov (by conv => lhs; whnf) ?_) | (refine m_not rfl ?_) | (refine m_pick_t rfl ?_ (by conv => lhs; whnf) ?_; (· first | rfl | assumption | (refine decide_eq_true ?_; first | assumption | omega) | (refine nt ?_; first | assumption | omega) | (simp [*]; done)))))) | refine end_ops ?_ | refine AW_ret ?_ | refine ret_done ?_)
    refine outs_b ?_
    unfold fitsG
    rw [show decide (F.getD l.length 0 ≠ F.getD g 0) = true from decide_eq_true h1]
    simp
theorem slicesClone_nil_spec : Sp Try.prog 33 [ints []] (newInts []) := by
  refine spec_of Try.func33 rfl cc33 rfl ?_
  unfold ac33
  repeat (first | (refine step_ops ?_; (first | (refine m_mov (by conv => lhs; whnf) ?_) | (refine m_nils ?_))) | refine end_ops ?_ | refine seq_ops ?_ | refine AW_seq ?_)
  refine step_ops ?_
  refine m_isnil_ro0 rfl fun b => ?_
  cases b
  · repeat (first | (refine step_ops ?_; (first | (refine m_mov (by conv => lhs; whnf) ?_) | (refine m_bsl0 ?_))) | refine end_ops ?_ | refine seq_ops ?_ | (refine cond_f rfl ?_ ?_; (· first | rfl | assumption | (refine decide_eq_false ?_; first | assumption | omega) | (refine nf ?_; first | assumption | omega) | (simp [*]; done))) | refine skip_then ?_)
    refine step_ops ?_
    refine m_appro (ys := []) (cs := []) (m := 0) (n := 0) rfl (by decide) rfl rfl rfl rfl (by decide) (by decide) ?_
    repeat (first | (refine step_ops ?_; (refine m_mov (by conv => lhs; whnf) ?_)) | refine end_ops ?_ | refine AW_ret ?_ | refine ret_done ?_)
    exact outs_ints (cs := []) rfl rfl rfl
  · repeat (first | (refine step_ops ?_; (refine m_nils ?_)) | refine end_ops ?_ | refine seq_ops ?_ | (refine cond_t rfl ?_ ?_; (· first | rfl | assumption | (refine decide_eq_true ?_; first | assumption | omega) | (refine nt ?_; first | assumption | omega) | (simp [*]; done))) | refine AW_ret ?_ | refine ret_done ?_ | refine ret_then ?_)
    exact outs_ints (cs := []) rfl rfl rfl

theorem slicesClone0_spec (L : List Int) (hL : L.length ≤ 1048576) : Sp Try.prog 33 [ints L] (newInts L) := by
  by_cases h1 : 1 ≤ L.length
  · exact slicesClone_spec L hL h1
  · obtain rfl : L = [] := by
      cases L with
      | nil => rfl
      | cons a l => simp at h1
    exact slicesClone_nil_spec

/-- What a search finds. -/
def srchR (o : Option (List Int)) : AV := .tup [newInts (o.getD []), .b o.isSome]

theorem fittingFrom_spec {f : FuncId} {fl : List AV} {n : Nat} {fits : List Int → Nat → Bool} (A : Asks Try.prog f fl n fits) (l : List Int) (g : Nat) (hn : n ≤ 1000) (hl : l.length < n) (hb : ∀ x ∈ l, 0 ≤ x ∧ x < n) (hg : g ≤ n) :
    Sp Try.prog 24 [.i n, ints l, .i g, .fn f fl fl.length] (srchR (goAt fits n l g).head?) := by
  unfold srchR
  refine spec_of Try.func24 rfl cc24 rfl ?_
  unfold ac24
  repeat (first | (refine step_ops ?_; (first | (refine m_mov (by conv => lhs; whnf) ?_) | (refine m_nils ?_))) | refine end_ops ?_ | refine seq_ops ?_)
  refine AW_scope (α := Unit) 0 (fun _ => False) (fun _ => st [] []) (fun _ => 0) rfl ?_ (fun _ hf => hf.elim)
  repeat (first | (refine step_ops ?_; (refine m_mov (by conv => lhs; whnf) ?_)) | refine seq_ops ?_)
  (refine step_ops ?_); (apply m_callo (slicesClone0_spec l (by omega))); (· repeat (first | exact lends_nil | (refine lends_cons ?_ ?_; (· (refine lend_ints ?_; first | rfl | omega))))); (· first | exact allv_ints _ | rfl | (simp; done))
  repeat (first | (refine step_ops ?_; (refine m_mov (by conv => lhs; whnf) ?_)) | refine end_ops ?_ | refine seq_ops ?_ | refine AW_seq ?_)
  refine AW_label ?_
  refine norm_then ?_
  repeat (first | refine AW_seq ?_ | refine AW_block ?_)
  refine AW_loop (α := List Int × Nat) (fun a => a.1.length ≤ n ∧ (∀ x ∈ a.1, 0 ≤ x ∧ x < n) ∧ a.2 ≤ n ∧ (goAt fits n a.1 a.2).head? = (goAt fits n l g).head?)
    (fun a => st [(0, .i n), (3, .fn f fl fl.length), (10, .sl 10 1 0 a.1.length), (11, .i a.2)] [(10, (true, a.1.map AV.i))]) (fun a => goMeas n a.1 a.2) (l, g) ⟨by show l.length ≤ n; omega, hb, hg, rfl⟩
    (Weak.trans (weak_move (r := 14) (q := 10) rfl (by decide) (by decide)) (weak_st ?_ ?_ ?_ rfl)) ?_
  · (repeat' (first | exact trivial | refine And.intro ?_ ?_)) <;> (first | rfl | skip)
    all_goals (simp (disch := decide) [tm_put_ne', tm_put_none, tm_mem, tm_kill, tm_mv, tm_st, tm_en0, tm_en1, tm_en2, tm_en3, tm_en4, Am.look, kill_fn A.nokill, mv_fn A.nokill])
  · exact ⟨rfl, trivial⟩
  · simp [refsT, refsV, A.norefs, Am.look]
  rintro ⟨M, y⟩ ⟨hM, hMb, hy, hres⟩
  dsimp only at hM hMb hy hres ⊢
  by_cases hfull : M.length = n
  · have hr1 : (goAt fits n l g).head? = some M := by rw [← hres]; exact goAt_full _ _ hfull
    repeat (first | (refine step_ops ?_; (first | (refine m_mov (by conv => lhs; whnf) ?_) | (refine m_eql rfl rfl ?_) | (refine m_len_sl rfl ?_))) | refine end_ops ?_ | refine seq_ops ?_ | (refine cond_t rfl ?_ ?_; (· first | rfl | assumption | (refine decide_eq_true ?_; first | assumption | omega) | (refine nt ?_; first | assumption | omega) | (simp [*]; done))) | refine AW_ret ?_ | refine ret_done ?_ | refine norm_then ?_ | refine AW_block ?_ | refine exit_round ?_ | refine AW_exit ?_ | refine exit_block ?_ | (refine exit_other ?_ ?_; (· decide)))
    rw [hr1]
    exact outs_tup2 (outs_ints rfl rfl rfl) (outs_b rfl)
  · have hMl : M.length < n := by omega
    by_cases hy2 : y < n
    · by_cases hf : fits M y = true
      · repeat (first | (refine step_ops ?_; ((try (refine g_yes rfl ?_ ?_; (· first | rfl | assumption | (refine decide_eq_true ?_; first | assumption | omega) | (refine nt ?_; first | assumption | omega) | (simp [*]; done) | (refine decide_eq_false ?_; first | assumption | omega) | (refine nf ?_; first | assumption | omega)))); (first | (refine m_mov (by conv => lhs; whnf) ?_) | (refine m_lss rfl rfl ?_) | (refine m_eql rfl rfl ?_) | (refine m_len_sl rfl ?_)))) | refine end_ops ?_ | refine seq_ops ?_ | (refine cond_f rfl ?_ ?_; (· first | rfl | assumption | (refine decide_eq_false ?_; first | assumption | omega) | (refine nf ?_; first | assumption | omega) | (simp [*]; done))) | refine AW_block ?_)
        refine step_ops ?_
        refine g_yes rfl ?_ ?_
        · first | rfl | assumption | (refine decide_eq_true ?_; first | assumption | omega) | (refine nt ?_; first | assumption | omega) | (simp [*]; done)
        refine m_callf rfl A.call (A.spec M y (by omega) hMb hy2) ?_ ?_
        · exact asks_lend A.bears rfl (lends_cons (lend_sli (by rfl) rfl) (lends_cons lend_v lends_nil))
        repeat (first | (refine step_ops ?_; (first | (refine m_mov (by conv => lhs; whnf) ?_) | (refine m_pick_t rfl ?_ (by conv => lhs; whnf) ?_; (· first | rfl | assumption | (refine decide_eq_true ?_; first | assumption | omega) | (refine nt ?_; first | assumption | omega) | (simp [*]; done))) | (refine m_bsl1 rfl rfl ?_) | (refine m_app1i rfl (by decide) (by rfl) (by first | rfl | omega | (simp; done)) rfl rfl ?_ (by decide) ?_; (· first | omega | (simp; omega))))) | refine end_ops ?_ | refine seq_ops ?_ | refine AW_ops ?_ | (refine cond_t rfl ?_ ?_; (· first | rfl | assumption | (refine decide_eq_true ?_; first | assumption | omega) | (refine nt ?_; first | assumption | omega) | (simp [*]; done))) | refine norm_block ?_)
        refine next_round (M ++ [(y : Int)], 0) ⟨by simp; omega, fun x hx => ?_, Nat.zero_le _, by rw [← hres]; exact congrArg _ (goAt_take _ _ hMl hy2 hf)⟩ (Weak.trans (weak_move (r := 45) (q := 10) rfl (by decide) (by decide)) (weak_st ?_ ?_ ?_ rfl)) ?_
        · rcases List.mem_append.1 hx with hx | hx
          · exact hMb x hx
          · rw [List.mem_singleton.1 hx]; omega
        · (repeat' (first | exact trivial | refine And.intro ?_ ?_)) <;> (first | rfl | skip)
          all_goals (simp (disch := decide) [tm_put_ne', tm_put_none, tm_mem, tm_kill, tm_mv, tm_st, tm_en0, tm_en1, tm_en2, tm_en3, tm_en4, Am.look, kill_fn A.nokill, mv_fn A.nokill])
        · exact ⟨rfl, trivial⟩
        · simp [refsT, refsV, A.norefs, Am.look]
        · exact goMeas_take hMl hy2
      · have hf : fits M y = false := by simpa using hf
        repeat (first | (refine step_ops ?_; ((try (refine g_yes rfl ?_ ?_; (· first | rfl | assumption | (refine decide_eq_true ?_; first | assumption | omega) | (refine nt ?_; first | assumption | omega) | (simp [*]; done) | (refine decide_eq_false ?_; first | assumption | omega) | (refine nf ?_; first | assumption | omega)))); (first | (refine m_mov (by conv => lhs; whnf) ?_) | (refine m_lss rfl rfl ?_) | (refine m_eql rfl rfl ?_) | (refine m_len_sl rfl ?_)))) | refine end_ops ?_ | refine seq_ops ?_ | (refine cond_f rfl ?_ ?_; (· first | rfl | assumption | (refine decide_eq_false ?_; first | assumption | omega) | (refine nf ?_; first | assumption | omega) | (simp [*]; done))) | refine AW_block ?_)
        refine step_ops ?_
        refine g_yes rfl ?_ ?_
        · first | rfl | assumption | (refine decide_eq_true ?_; first | assumption | omega) | (refine nt ?_; first | assumption | omega) | (simp [*]; done)
        refine m_callf rfl A.call (A.spec M y (by omega) hMb hy2) ?_ ?_
        · exact asks_lend A.bears rfl (lends_cons (lend_sli (by rfl) rfl) (lends_cons lend_v lends_nil))
        repeat (first | (refine step_ops ?_; (first | (refine m_mov (by conv => lhs; whnf) ?_) | (refine m_lss rfl rfl ?_) | (refine m_add rfl rfl ?_ ?_ ?_; (· omega); (· omega)) | (refine m_pick_t rfl ?_ (by conv => lhs; whnf) ?_; (· first | rfl | assumption | (refine decide_eq_true ?_; first | assumption | omega) | (refine nt ?_; first | assumption | omega) | (simp [*]; done))))) | refine end_ops ?_ | refine seq_ops ?_ | refine AW_ops ?_ | (refine cond_t rfl ?_ ?_; (· first | rfl | assumption | (refine decide_eq_true ?_; first | assumption | omega) | (refine nt ?_; first | assumption | omega) | (simp [*]; done))) | (refine cond_f rfl ?_ ?_; (· first | rfl | assumption | (refine decide_eq_false ?_; first | assumption | omega) | (refine nf ?_; first | assumption | omega) | (simp [*]; done))) | refine norm_block ?_)
        refine next_round (M, y + 1) ⟨hM, hMb, hy2, by rw [← hres]; exact congrArg _ (goAt_skip _ _ hMl hy2 hf)⟩ (weak_st ?_ ?_ ?_ rfl) ?_
        · (repeat' (first | exact trivial | refine And.intro ?_ ?_)) <;> (first | rfl | skip)
          all_goals (simp (disch := decide) [tm_put_ne', tm_put_none, tm_mem, tm_kill, tm_mv, tm_st, tm_en0, tm_en1, tm_en2, tm_en3, tm_en4, Am.look, kill_fn A.nokill, mv_fn A.nokill])
        · exact ⟨rfl, trivial⟩
        · simp [refsT, refsV, A.norefs, Am.look]
        · exact goMeas_skip hMl hy2
    · by_cases hM0 : M.length = 0
      · have hr1 : (goAt fits n l g).head? = none := by
          rw [← hres, List.length_eq_zero_iff.1 hM0, goAt_none _ _ (by omega) (by omega)]; rfl
        repeat (first | (refine step_ops ?_; (first | (first | (refine m_mov (by conv => lhs; whnf) ?_) | (refine m_lss rfl rfl ?_) | (refine m_eql rfl rfl ?_) | (refine m_len_sl rfl ?_) | (refine m_pick_f rfl ?_ (by conv => lhs; whnf) ?_; (· first | rfl | assumption | (refine decide_eq_false ?_; first | assumption | omega) | (refine nf ?_; first | assumption | omega) | (simp [*]; done))) | (refine m_nils ?_)) | (refine g_noT rfl ?_ ?_; (· first | rfl | assumption | (refine decide_eq_false ?_; first | assumption | omega) | (refine nf ?_; first | assumption | omega) | (simp [*]; done))))) | refine end_ops ?_ | refine seq_ops ?_ | (refine cond_t rfl ?_ ?_; (· first | rfl | assumption | (refine decide_eq_true ?_; first | assumption | omega) | (refine nt ?_; first | assumption | omega) | (simp [*]; done))) | (refine cond_f rfl ?_ ?_; (· first | rfl | assumption | (refine decide_eq_false ?_; first | assumption | omega) | (refine nf ?_; first | assumption | omega) | (simp [*]; done))) | refine AW_ret ?_ | refine ret_done ?_ | refine ret_then ?_ | refine AW_block ?_ | refine ret_block ?_ | refine ret_round ?_)
        rw [hr1]
        exact outs_tup2 (outs_ints rfl rfl rfl) (outs_b rfl)
      · obtain ⟨q, hq⟩ : ∃ q, M.length = q + 1 := ⟨M.length - 1, by omega⟩
        have hx := hMb _ (getD_mem (show q < M.length by omega))
        obtain ⟨k, hk⟩ := Int.eq_ofNat_of_zero_le hx.1
        have hlen : (M.take q).length = q := List.length_take_of_le (by omega)
        have hsp : M = M.take q ++ [(k : Int)] := by
          have h1 := take_snoc M q 0 (by omega)
          rw [List.take_of_length_le (by omega), hk] at h1
          exact h1
        have hgo : goAt fits n M y = goAt fits n (M.take q) (k + 1) := by
          conv => lhs; rw [hsp]
          rw [goAt_back _ _ (by omega) (by omega), Int.toNat_natCast]
        have hms : goMeas n (M.take q) (k + 1) < goMeas n M y := by
          have := goMeas_back (n := n) (l := M.take q) (x := (k : Int)) (g := y) (by omega)
          rw [← hsp, Int.toNat_natCast] at this
          exact this
        clear hsp
        repeat (first | (refine step_ops ?_; (first | (first | (refine m_mov (by conv => lhs; whnf) ?_) | (refine m_lss rfl rfl ?_) | (refine m_eql rfl rfl ?_) | (refine m_sub rfl rfl ?_ ?_ ?_; (· omega); (· omega)) | (refine m_len_sl rfl ?_) | (refine m_idx_sl rfl rfl ?_ ?_ ?_; (· omega); (· omega)) | (refine m_ld_pti rfl (by rfl) ?_ ?_; (· first | omega | (simp; omega))) | (refine m_pick_f rfl ?_ (by conv => lhs; whnf) ?_; (· first | rfl | assumption | (refine decide_eq_false ?_; first | assumption | omega) | (refine nf ?_; first | assumption | omega) | (simp [*]; done)))) | (refine g_noT rfl ?_ ?_; (· first | rfl | assumption | (refine decide_eq_false ?_; first | assumption | omega) | (refine nf ?_; first | assumption | omega) | (simp [*]; done))))) | refine end_ops ?_ | refine seq_ops ?_ | (refine cond_f rfl ?_ ?_; (· first | rfl | assumption | (refine decide_eq_false ?_; first | assumption | omega) | (refine nf ?_; first | assumption | omega) | (simp [*]; done))) | refine AW_block ?_)
        rw [show (M.length : Int) - 1 = (q : Int) by omega]
        skip
        rw [show M.getD (0 + (q : Int).toNat * 1) 0 = (k : Int) by rw [Int.toNat_natCast, Nat.zero_add, Nat.mul_one]; exact hk]
        repeat (first | (refine step_ops ?_; (first | (refine m_mov (by conv => lhs; whnf) ?_) | (refine m_add rfl rfl ?_ ?_ ?_; (· omega); (· omega)))) | refine end_ops ?_ | refine AW_ops ?_)
        refine step_ops ?_
        refine m_cut_sl (l := 0) (h := q) rfl rfl ⟨_, rfl⟩ (Nat.zero_le _) (by omega) ?_
        repeat (first | (refine step_ops ?_; (refine m_mov (by conv => lhs; whnf) ?_)) | refine end_ops ?_ | refine norm_block ?_)
        refine next_round (M.take q, k + 1) ⟨by show (M.take q).length ≤ _; omega, fun x hx => hMb x (List.mem_of_mem_take hx), by show k + 1 ≤ n; omega, by rw [← hres]; exact congrArg _ hgo.symm⟩ (Weak.trans (weak_shrink 10 q rfl (allv_ints _)) (weak_st ?_ ?_ ?_ rfl)) hms
        · rw [hlen]
          (repeat' (first | exact trivial | refine And.intro ?_ ?_)) <;> (first | rfl | skip)
          all_goals (simp (disch := decide) [tm_put_ne', tm_put_none, tm_mem, tm_kill, tm_mv, tm_st, tm_en0, tm_en1, tm_en2, tm_en3, tm_en4, Am.look, kill_fn A.nokill, mv_fn A.nokill])
        · rw [List.map_take]
          exact ⟨rfl, trivial⟩
        · simp [refsT, refsV, A.norefs, Am.look]
end Go.Proofs.Ytlcjipgnflncfaa
