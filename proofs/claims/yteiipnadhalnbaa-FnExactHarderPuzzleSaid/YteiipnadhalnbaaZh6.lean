/- The abstract machine, contracts: part 6 of what this claim needs. -/
import Derived.Test.YteiipnadhalnbaaZh5
namespace Go.Am
theorem lend_nil {hp : Hp} : Lend hp (.v (.slice none 0 0)) (ints []) := by
  intro w0 mu N tm w phi ro v hS hv
  simp only [SimV] at hv ⊢
  exact .inl ⟨rfl, rfl, none, 0, hv, by simp⟩
/-- New memory that a callee made is handed on. -/
theorem outs_ro {s : AS} {z n : Nat} {cs : List AV} (hall : cs.all plainV = true) : Outs s (.ro true z cs n) (.ro true z cs n) := by
  intro w0 N tm w phi ro y hS h
  simp only [SimV] at h ⊢
  rcases h with h | ⟨b, o, cap, cur, e, fz, h1, h2, h3, h4, h5, h6, h7⟩
  · exact .inl h
  · obtain ⟨k1, k2⟩ := h6 trivial
    exact .inr ⟨b, o, cap, cur, e, fz, h1, h2, ⟨k1, lt_of_get h2⟩, h4, h5, fun _ => ⟨k1, k2⟩, simL_allv hall h7⟩
end Go.Am
namespace Go.Proofs.Yteiipnadhalnbaa
open Go.Am
attribute [local irreducible] AW Outs Weak Lends Lend Sp aops atree aop1 Then Round InBlock Done
theorem slicesContains_spec (L : List Int) (c : Int) (hL : L.length ≤ 1048576) : Sp Try.prog 55 [ints L, .i c] (.b (decide (c ∈ L))) := by
  refine spec_of Try.func55 rfl cc55 rfl ?_
  unfold ac55
  repeat (first | (refine step_ops ?_; (refine m_mov (by conv => lhs; whnf) ?_)) | refine end_ops ?_ | refine seq_ops ?_)
  (refine step_ops ?_); (apply m_call (slicesIndex_spec _ _ hL)); (· repeat (first | exact lends_nil | (refine lends_cons ?_ ?_; (· (first | exact lend_v | (refine lend_ints ?_; first | rfl | omega))))))
  repeat (first | (refine step_ops ?_; (first | (refine m_mov (by conv => lhs; whnf) ?_) | (refine m_geq rfl rfl ?_))) | refine end_ops ?_ | refine AW_ret ?_ | refine ret_done ?_)
  refine outs_b ?_
  refine decide_eq_decide.2 ?_
  unfold whoIs
  by_cases h : c ∈ L
  · simp [h]
  · simp [h]
theorem slicesClone_nil_spec : Sp Try.prog 85 [ints []] (newInts []) := by
  refine spec_of Try.func85 rfl cc85 rfl ?_
  unfold ac85
  repeat (first | (refine step_ops ?_; (first | (refine m_mov (by conv => lhs; whnf) ?_) | (refine m_nils ?_))) | refine end_ops ?_ | refine seq_ops ?_ | refine AW_seq ?_)
  refine step_ops ?_
  refine m_isnil_ro0 rfl fun b => ?_
  cases b
  · repeat (first | (refine step_ops ?_; (first | (refine m_mov (by conv => lhs; whnf) ?_) | (refine m_bsl0 ?_))) | refine end_ops ?_ | refine seq_ops ?_ | (refine cond_f rfl ?_ ?_; (· first | rfl | assumption | (refine decide_eq_false ?_; first | assumption | omega) | (refine nf ?_; first | assumption | omega) | (simp [*]; done))) | refine skip_then ?_)
    refine step_ops ?_
    refine m_appro (ys := []) (cs := []) (m := 0) (n := 0) rfl (by decide) rfl rfl rfl rfl (by decide) (by decide) ?_
    repeat (first | (refine step_ops ?_; (refine m_mov (by conv => lhs; whnf) ?_)) | refine end_ops ?_ | refine AW_ret ?_ | refine ret_done ?_)
    exact outs_ints (cs := []) rfl rfl rfl
  · repeat (first | (refine step_ops ?_; (refine m_nils ?_)) | refine end_ops ?_ | refine seq_ops ?_ | (refine cond_t rfl ?_ ?_; (· first | rfl | assumption | (refine decide_eq_true ?_; first | assumption | omega) | (refine nt ?_; first | assumption | omega) | (simp [*]; done))) | refine AW_ret ?_ | refine ret_done ?_ | refine ret_then ?_)
    exact outs_ints (cs := []) rfl rfl rfl
theorem slicesClone0_spec (L : List Int) (hL : L.length ≤ 1048576) : Sp Try.prog 85 [ints L] (newInts L) := by
  by_cases h1 : 1 ≤ L.length
  · exact slicesClone_spec L hL h1
  · obtain rfl : L = [] := by
      cases L with
      | nil => rfl
      | cons a l => simp at h1
    exact slicesClone_nil_spec
/-- What a search finds. -/
def srchR (o : Option (List Int)) : AV := .tup [newInts (o.getD []), .b o.isSome]
theorem fittingFrom_spec {f : FuncId} {fl : List AV} {kk : Nat} {n : Nat} {fits : List Int → Nat → Bool} (A : AsksK Try.prog f fl kk n fits) (l : List Int) (g : Nat) (hn : n ≤ 1000) (hl : l.length < n) (hb : ∀ x ∈ l, 0 ≤ x ∧ x < n) (hg : g ≤ n) :
    Sp Try.prog 83 [.i n, ints l, .i g, .fn f fl kk] (srchR (goAt fits n l g).head?) := by
  unfold srchR
  refine spec_of Try.func83 rfl cc83 rfl ?_
  unfold ac83
  repeat (first | (refine step_ops ?_; (first | (refine m_mov (by conv => lhs; whnf) ?_) | (refine m_nils ?_))) | refine end_ops ?_ | refine seq_ops ?_)
  refine AW_scope (α := Unit) 0 (fun _ => False) (fun _ => st [] []) (fun _ => 0) rfl ?_ (fun _ hf => hf.elim)
  repeat (first | (refine step_ops ?_; (refine m_mov (by conv => lhs; whnf) ?_)) | refine seq_ops ?_)
  (refine step_ops ?_); (apply m_callo (slicesClone0_spec l (by omega))); (· repeat (first | exact lends_nil | (refine lends_cons ?_ ?_; (· (refine lend_ints ?_; first | rfl | omega))))); (· first | exact allv_ints _ | rfl | (simp; done))
  repeat (first | (refine step_ops ?_; (refine m_mov (by conv => lhs; whnf) ?_)) | refine end_ops ?_ | refine seq_ops ?_ | refine AW_seq ?_)
  refine AW_label ?_
  refine norm_then ?_
  repeat (first | refine AW_seq ?_ | refine AW_block ?_)
  refine AW_loop (α := List Int × Nat) (fun a => a.1.length ≤ n ∧ (∀ x ∈ a.1, 0 ≤ x ∧ x < n) ∧ a.2 ≤ n ∧ (goAt fits n a.1 a.2).head? = (goAt fits n l g).head?)
    (fun a => st [(0, .i n), (3, .fn f fl kk), (10, .sl 10 1 0 a.1.length), (11, .i a.2)] [(10, (true, a.1.map AV.i))]) (fun a => goMeas n a.1 a.2) (l, g) ⟨by show l.length ≤ n; omega, hb, hg, rfl⟩
    (Weak.trans (weak_move (r := 14) (q := 10) rfl (by decide) (by decide)) (weak_st ?_ ?_ ?_ rfl)) ?_
  · (repeat' (first | exact trivial | refine And.intro ?_ ?_)) <;> (first | rfl | skip)
    all_goals (simp (disch := decide) [tm_put_ne', tm_put_none, tm_mem, tm_kill, tm_mv, tm_st, tm_en0, tm_en1, tm_en2, tm_en3, tm_en4, Am.look, kill_fn A.nokill, mv_fn A.nokill])
  · exact ⟨rfl, trivial⟩
  · simp [refsT, refsV, A.norefs, Am.look]
  rintro ⟨M, y⟩ ⟨hM, hMb, hy, hres⟩
  dsimp only at hM hMb hy hres ⊢
  by_cases hfull : M.length = n
  · have hr1 : (goAt fits n l g).head? = some M := by rw [← hres]; exact goAt_full _ _ hfull
    repeat (first | (refine step_ops ?_; (first | (refine m_mov (by conv => lhs; whnf) ?_) | (refine m_eql rfl rfl ?_) | (refine m_len_sl rfl ?_))) | refine end_ops ?_ | refine seq_ops ?_ | (refine cond_t rfl ?_ ?_; (· first | rfl | assumption | (refine decide_eq_true ?_; first | assumption | omega) | (refine nt ?_; first | assumption | omega) | (simp [*]; done))) | refine AW_ret ?_ | refine ret_done ?_ | refine norm_then ?_ | refine AW_block ?_ | refine exit_round ?_ | refine AW_exit ?_ | refine exit_block ?_ | (refine exit_other ?_ ?_; (· decide)))
    rw [hr1]
    exact outs_tup2 (outs_ints rfl rfl rfl) (outs_b rfl)
  · have hMl : M.length < n := by omega
    by_cases hy2 : y < n
    · by_cases hf : fits M y = true
      · repeat (first | (refine step_ops ?_; ((try (refine g_yes rfl ?_ ?_; (· first | rfl | assumption | (refine decide_eq_true ?_; first | assumption | omega) | (refine nt ?_; first | assumption | omega) | (simp [*]; done) | (refine decide_eq_false ?_; first | assumption | omega) | (refine nf ?_; first | assumption | omega)))); (first | (refine m_mov (by conv => lhs; whnf) ?_) | (refine m_lss rfl rfl ?_) | (refine m_eql rfl rfl ?_) | (refine m_len_sl rfl ?_)))) | refine end_ops ?_ | refine seq_ops ?_ | (refine cond_f rfl ?_ ?_; (· first | rfl | assumption | (refine decide_eq_false ?_; first | assumption | omega) | (refine nf ?_; first | assumption | omega) | (simp [*]; done))) | refine AW_block ?_)
        refine step_ops ?_
        refine g_yes rfl ?_ ?_
        · first | rfl | assumption | (refine decide_eq_true ?_; first | assumption | omega) | (refine nt ?_; first | assumption | omega) | (simp [*]; done)
        refine m_callf rfl A.call (A.spec M y (by omega) hMb hy2) ?_ ?_
        · exact asksK_lend A.bears rfl rfl (lends_cons (lend_sli (by rfl) rfl) (lends_cons lend_v lends_nil))
        repeat (first | (refine step_ops ?_; (first | (refine m_mov (by conv => lhs; whnf) ?_) | (refine m_pick_t rfl ?_ (by conv => lhs; whnf) ?_; (· first | rfl | assumption | (refine decide_eq_true ?_; first | assumption | omega) | (refine nt ?_; first | assumption | omega) | (simp [*]; done))) | (refine m_bsl1 rfl rfl ?_) | (refine m_app1i rfl (by decide) (by rfl) (by first | rfl | omega | (simp; done)) rfl rfl ?_ (by decide) ?_; (· first | omega | (simp; omega))))) | refine end_ops ?_ | refine seq_ops ?_ | refine AW_ops ?_ | (refine cond_t rfl ?_ ?_; (· first | rfl | assumption | (refine decide_eq_true ?_; first | assumption | omega) | (refine nt ?_; first | assumption | omega) | (simp [*]; done))) | refine norm_block ?_)
        refine next_round (M ++ [(y : Int)], 0) ⟨by simp; omega, fun x hx => ?_, Nat.zero_le _, by rw [← hres]; exact congrArg _ (goAt_take _ _ hMl hy2 hf)⟩ (Weak.trans (weak_move (r := 45) (q := 10) rfl (by decide) (by decide)) (weak_st ?_ ?_ ?_ rfl)) ?_
        · rcases List.mem_append.1 hx with hx | hx
          · exact hMb x hx
          · rw [List.mem_singleton.1 hx]; omega
        · (repeat' (first | exact trivial | refine And.intro ?_ ?_)) <;> (first | rfl | skip)
          all_goals (simp (disch := decide) [tm_put_ne', tm_put_none, tm_mem, tm_kill, tm_mv, tm_st, tm_en0, tm_en1, tm_en2, tm_en3, tm_en4, Am.look, kill_fn A.nokill, mv_fn A.nokill])
        · exact ⟨rfl, trivial⟩
        · simp [refsT, refsV, A.norefs, Am.look]
        · exact goMeas_take hMl hy2
      · have hf : fits M y = false := by simpa using hf
        repeat (first | (refine step_ops ?_; ((try (refine g_yes rfl ?_ ?_; (· first | rfl | assumption | (refine decide_eq_true ?_; first | assumption | omega) | (refine nt ?_; first | assumption | omega) | (simp [*]; done) | (refine decide_eq_false ?_; first | assumption | omega) | (refine nf ?_; first | assumption | omega)))); (first | (refine m_mov (by conv => lhs; whnf) ?_) | (refine m_lss rfl rfl ?_) | (refine m_eql rfl rfl ?_) | (refine m_len_sl rfl ?_)))) | refine end_ops ?_ | refine seq_ops ?_ | (refine cond_f rfl ?_ ?_; (· first | rfl | assumption | (refine decide_eq_false ?_; first | assumption | omega) | (refine nf ?_; first | assumption | omega) | (simp [*]; done))) | refine AW_block ?_)
        refine step_ops ?_
        refine g_yes rfl ?_ ?_
        · first | rfl | assumption | (refine decide_eq_true ?_; first | assumption | omega) | (refine nt ?_; first | assumption | omega) | (simp [*]; done)
        refine m_callf rfl A.call (A.spec M y (by omega) hMb hy2) ?_ ?_
        · exact asksK_lend A.bears rfl rfl (lends_cons (lend_sli (by rfl) rfl) (lends_cons lend_v lends_nil))
        repeat (first | (refine step_ops ?_; (first | (refine m_mov (by conv => lhs; whnf) ?_) | (refine m_lss rfl rfl ?_) | (refine m_add rfl rfl ?_ ?_ ?_; (· omega); (· omega)) | (refine m_pick_t rfl ?_ (by conv => lhs; whnf) ?_; (· first | rfl | assumption | (refine decide_eq_true ?_; first | assumption | omega) | (refine nt ?_; first | assumption | omega) | (simp [*]; done))))) | refine end_ops ?_ | refine seq_ops ?_ | refine AW_ops ?_ | (refine cond_t rfl ?_ ?_; (· first | rfl | assumption | (refine decide_eq_true ?_; first | assumption | omega) | (refine nt ?_; first | assumption | omega) | (simp [*]; done))) | (refine cond_f rfl ?_ ?_; (· first | rfl | assumption | (refine decide_eq_false ?_; first | assumption | omega) | (refine nf ?_; first | assumption | omega) | (simp [*]; done))) | refine norm_block ?_)
        refine next_round (M, y + 1) ⟨hM, hMb, hy2, by rw [← hres]; exact congrArg _ (goAt_skip _ _ hMl hy2 hf)⟩ (weak_st ?_ ?_ ?_ rfl) ?_
        · (repeat' (first | exact trivial | refine And.intro ?_ ?_)) <;> (first | rfl | skip)
          all_goals (simp (disch := decide) [tm_put_ne', tm_put_none, tm_mem, tm_kill, tm_mv, tm_st, tm_en0, tm_en1, tm_en2, tm_en3, tm_en4, Am.look, kill_fn A.nokill, mv_fn A.nokill])
        · exact ⟨rfl, trivial⟩
        · simp [refsT, refsV, A.norefs, Am.look]
        · exact goMeas_skip hMl hy2
    · by_cases hM0 : M.length = 0
      · have hr1 : (goAt fits n l g).head? = none := by
          rw [← hres, List.length_eq_zero_iff.1 hM0, goAt_none _ _ (by omega) (by omega)]; rfl
        repeat (first | (refine step_ops ?_; (first | (first | (refine m_mov (by conv => lhs; whnf) ?_) | (refine m_lss rfl rfl ?_) | (refine m_eql rfl rfl ?_) | (refine m_len_sl rfl ?_) | (refine m_pick_f rfl ?_ (by conv => lhs; whnf) ?_; (· first | rfl | assumption | (refine decide_eq_false ?_; first | assumption | omega) | (refine nf ?_; first | assumption | omega) | (simp [*]; done))) | (refine m_nils ?_)) | (refine g_noT rfl ?_ ?_; (· first | rfl | assumption | (refine decide_eq_false ?_; first | assumption | omega) | (refine nf ?_; first | assumption | omega) | (simp [*]; done))))) | refine end_ops ?_ | refine seq_ops ?_ | (refine cond_t rfl ?_ ?_; (· first | rfl | assumption | (refine decide_eq_true ?_; first | assumption | omega) | (refine nt ?_; first | assumption | omega) | (simp [*]; done))) | (refine cond_f rfl ?_ ?_; (· first | rfl | assumption | (refine decide_eq_false ?_; first | assumption | omega) | (refine nf ?_; first | assumption | omega) | (simp [*]; done))) | refine AW_ret ?_ | refine ret_done ?_ | refine ret_then ?_ | refine AW_block ?_ | refine ret_block ?_ | refine ret_round ?_)
        rw [hr1]
        exact outs_tup2 (outs_ints rfl rfl rfl) (outs_b rfl)
      · obtain ⟨q, hq⟩ : ∃ q, M.length = q + 1 := ⟨M.length - 1, by omega⟩
        have hx := hMb _ (getD_mem (show q < M.length by omega))
        obtain ⟨k, hk⟩ := Int.eq_ofNat_of_zero_le hx.1
        have hlen : (M.take q).length = q := List.length_take_of_le (by omega)
        have hsp : M = M.take q ++ [(k : Int)] := by
          have h1 := take_snoc M q 0 (by omega)
          rw [List.take_of_length_le (by omega), hk] at h1
          exact h1
        have hgo : goAt fits n M y = goAt fits n (M.take q) (k + 1) := by
          conv => lhs; rw [hsp]
          rw [goAt_back _ _ (by omega) (by omega), Int.toNat_natCast]
        have hms : goMeas n (M.take q) (k + 1) < goMeas n M y := by
          have := goMeas_back (n := n) (l := M.take q) (x := (k : Int)) (g := y) (by omega)
          rw [← hsp, Int.toNat_natCast] at this
          exact this
        clear hsp
        repeat (first | (refine step_ops ?_; (first | (first | (refine m_mov (by conv => lhs; whnf) ?_) | (refine m_lss rfl rfl ?_) | (refine m_eql rfl rfl ?_) | (refine m_sub rfl rfl ?_ ?_ ?_; (· omega); (· omega)) | (refine m_len_sl rfl ?_) | (refine m_idx_sl rfl rfl ?_ ?_ ?_; (· omega); (· omega)) | (refine m_ld_pti rfl (by rfl) ?_ ?_; (· first | omega | (simp; omega))) | (refine m_pick_f rfl ?_ (by conv => lhs; whnf) ?_; (· first | rfl | assumption | (refine decide_eq_false ?_; first | assumption | omega) | (refine nf ?_; first | assumption | omega) | (simp [*]; done)))) | (refine g_noT rfl ?_ ?_; (· first | rfl | assumption | (refine decide_eq_false ?_; first | assumption | omega) | (refine nf ?_; first | assumption | omega) | (simp [*]; done))))) | refine end_ops ?_ | refine seq_ops ?_ | (refine cond_f rfl ?_ ?_; (· first | rfl | assumption | (refine decide_eq_false ?_; first | assumption | omega) | (refine nf ?_; first | assumption | omega) | (simp [*]; done))) | refine AW_block ?_)
        rw [show (M.length : Int) - 1 = (q : Int) by omega]
        skip
        rw [show M.getD (0 + (q : Int).toNat * 1) 0 = (k : Int) by rw [Int.toNat_natCast, Nat.zero_add, Nat.mul_one]; exact hk]
        repeat (first | (refine step_ops ?_; (first | (refine m_mov (by conv => lhs; whnf) ?_) | (refine m_add rfl rfl ?_ ?_ ?_; (· omega); (· omega)))) | refine end_ops ?_ | refine AW_ops ?_)
        refine step_ops ?_
        refine m_cut_sl (l := 0) (h := q) rfl rfl ⟨_, rfl⟩ (Nat.zero_le _) (by omega) ?_
        repeat (first | (refine step_ops ?_; (refine m_mov (by conv => lhs; whnf) ?_)) | refine end_ops ?_ | refine norm_block ?_)
        refine next_round (M.take q, k + 1) ⟨by show (M.take q).length ≤ _; omega, fun x hx => hMb x (List.mem_of_mem_take hx), by show k + 1 ≤ n; omega, by rw [← hres]; exact congrArg _ hgo.symm⟩ (Weak.trans (weak_shrink 10 q rfl (allv_ints _)) (weak_st ?_ ?_ ?_ rfl)) hms
        · rw [hlen]
          (repeat' (first | exact trivial | refine And.intro ?_ ?_)) <;> (first | rfl | skip)
          all_goals (simp (disch := decide) [tm_put_ne', tm_put_none, tm_mem, tm_kill, tm_mv, tm_st, tm_en0, tm_en1, tm_en2, tm_en3, tm_en4, Am.look, kill_fn A.nokill, mv_fn A.nokill])
        · rw [List.map_take]
          exact ⟨rfl, trivial⟩
        · simp [refsT, refsV, A.norefs, Am.look]
theorem firstFitting_spec {f : FuncId} {fl : List AV} {kk : Nat} {n : Nat} {fits : List Int → Nat → Bool} (A : AsksK Try.prog f fl kk n fits) (hn : n ≤ 1000) (h1 : 1 ≤ n) :
    Sp Try.prog 72 [.i n, .fn f fl kk] (srchR (goOn fits n n []).head?) := by
  have hs := fittingFrom_spec A [] 0 hn h1 (fun x hx => by simp at hx) (Nat.zero_le _)
  rw [goAt_start _ _ h1] at hs
  unfold srchR at hs ⊢
  generalize hsr : (goOn fits n n []).head? = sr at hs ⊢
  refine spec_of Try.func72 rfl cc72 rfl ?_
  unfold ac72
  repeat (first | (refine step_ops ?_; (first | (refine m_mov (by conv => lhs; whnf) ?_) | (refine m_nils ?_))) | refine end_ops ?_ | refine seq_ops ?_)
  refine step_ops ?_
  refine m_callt hs ?_ (allv_ints _) rfl ?_
  · refine lends_cons lend_v (lends_cons lend_nil (lends_cons lend_v (lends_cons ?_ lends_nil)))
    rw [show AS.ev _ (.t 7) = AV.fn f fl kk by (show killV 4 (AV.fn f fl kk) = _; exact kill_fn A.nokill)]
    exact lend_bears A.bears
  repeat (first | (refine step_ops ?_; (first | (refine m_mov (by conv => lhs; whnf) ?_) | (refine m_ext rfl rfl ?_))) | refine end_ops ?_ | refine AW_ret ?_ | refine ret_done ?_)
  exact outs_tup2 (outs_ints rfl rfl rfl) (outs_b rfl)
theorem nextFitting_spec {f : FuncId} {fl : List AV} {kk : Nat} {n : Nat} {fits : List Int → Nat → Bool} (A : AsksK Try.prog f fl kk n fits) (hn : n ≤ 1000) (h1 : 1 ≤ n) (L : List Int) (hL : L.length = n) (hb : ∀ x ∈ L, 0 ≤ x ∧ x < n) :
    Sp Try.prog 73 [ints L, .fn f fl kk] (srchR ((goOn fits n n []).find? (fun m => comesB L m))) := by
  have hbb : ∀ i < n, ∃ g : Nat, L.getD i 0 = g ∧ g < n := fun i hi => by
    have hr := hb _ (getD_mem (show i < L.length by omega))
    obtain ⟨q, hq⟩ := Int.eq_ofNat_of_zero_le hr.1
    exact ⟨q, hq, by omega⟩
  unfold srchR
  refine spec_of Try.func73 rfl cc73 rfl ?_
  unfold ac73
  repeat (first | (refine step_ops ?_; (first | (refine m_mov (by conv => lhs; whnf) ?_) | (refine m_nils ?_))) | refine end_ops ?_ | refine seq_ops ?_ | refine AW_seq ?_ | refine AW_block ?_)
  refine AW_loop (α := Nat) (fun k => k < n ∧ ∀ i < k, fits (L.take i) (L.getD i 0).toNat = true) (fun k => st [(0, ints L), (1, .fn f fl kk), (6, .i k)] []) (fun k => n - k) 0 ⟨by omega, fun i hi => by omega⟩ (weak_st ?_ ?_ ?_ rfl) ?_
  · (repeat' (first | exact trivial | refine And.intro ?_ ?_)) <;> (first | rfl | skip)
    all_goals (simp (disch := decide) [tm_put_ne', tm_put_none, tm_mem, tm_kill, tm_mv, tm_st, tm_en0, tm_en1, tm_en2, tm_en3, tm_en4, Am.look, kill_fn A.nokill, mv_fn A.nokill])
  · exact trivial
  · simp [refsT, refsV, A.norefs, Am.look]
  rintro k ⟨hk, ha⟩
  obtain ⟨j, hj, hjn⟩ := hbb k hk
  have hlt : (L.take k).length = k := List.length_take_of_le (by omega)
  have hend : fits (L.take k) (L.getD k 0).toNat = false ∨ k + 1 = n → Sp Try.prog 83 [.i n, ints (L.take k), .i (j + 1), .fn f fl kk] (srchR ((goOn fits n n []).find? (fun m => comesB L m))) := by
    intro he
    rw [find_behind fits n hL hbb hk ha he, hj, Int.toNat_natCast]
    exact fittingFrom_spec A (L.take k) (j + 1) hn (by omega) (fun x hx => hb x (List.mem_of_mem_take hx)) (by omega)
  unfold srchR at hend
  generalize hsr : (goOn fits n n []).find? (fun m => comesB L m) = sr at hend ⊢
  by_cases hc : (k : Int) < L.length - 1
  · have hsp := A.spec (L.take k) j (by omega) (fun x hx => hb x (List.mem_of_mem_take hx)) hjn
    by_cases hf : fits (L.take k) j = true
    · repeat (first | (refine step_tree ?_; ((try (refine g_yes rfl ?_ ?_; (· first | rfl | assumption | (refine decide_eq_true ?_; first | assumption | omega) | (refine nt ?_; first | assumption | omega) | (simp [*]; done) | (refine decide_eq_false ?_; first | assumption | omega) | (refine nf ?_; first | assumption | omega)))); (first | (refine m_mov (by conv => lhs; whnf) ?_) | (refine m_lss rfl rfl ?_) | (refine m_sub rfl rfl ?_ ?_ ?_; (· omega); (· omega)) | (refine m_len_ro rfl ?_) | (refine m_idx1_ro rfl rfl ?_ ?_; (· omega)) | (refine m_ld_rpi rfl ?_ ?_; (· omega)) | (refine m_cut_hi rfl rfl ?_ ?_ ?_; (· first | rfl | omega | simp); (· first | omega | (simp; omega)))))) | refine seq_tree ?_ | refine AW_seq ?_)
      rw [hj]
      skip
      refine step_tree ?_
      refine g_yes rfl ?_ ?_
      · first | rfl | assumption | (refine decide_eq_true ?_; first | assumption | omega) | (refine nt ?_; first | assumption | omega) | (simp [*]; done)
      refine m_callf rfl A.call hsp ?_ ?_
      · exact asksK_lend A.bears rfl rfl (lends_cons (lend_ints rfl) (lends_cons lend_v lends_nil))
      repeat (first | ((first | refine step_ops ?_ | refine step_tree ?_); (first | (refine m_mov (by conv => lhs; whnf) ?_) | (refine m_add rfl rfl ?_ ?_ ?_; (· omega); (· omega)) | (refine m_pick_t rfl ?_ (by conv => lhs; whnf) ?_; (· first | rfl | assumption | (refine decide_eq_true ?_; first | assumption | omega) | (refine nt ?_; first | assumption | omega) | (simp [*]; done))))) | refine end_ops ?_ | refine AW_ops ?_ | refine end_tree ?_ | (refine cond_t rfl ?_ ?_; (· first | rfl | assumption | (refine decide_eq_true ?_; first | assumption | omega) | (refine nt ?_; first | assumption | omega) | (simp [*]; done))) | refine skip_then ?_ | refine AW_block ?_ | refine norm_block ?_)
      refine next_round (k + 1) ⟨by omega, fun i hi => ?_⟩ (weak_st ?_ ?_ ?_ rfl) ?_
      · by_cases hik : i = k
        · subst hik; rw [hj, Int.toNat_natCast]; exact hf
        · exact ha i (by omega)
      · (repeat' (first | exact trivial | refine And.intro ?_ ?_)) <;> (first | rfl | skip)
        all_goals (simp (disch := decide) [tm_put_ne', tm_put_none, tm_mem, tm_kill, tm_mv, tm_st, tm_en0, tm_en1, tm_en2, tm_en3, tm_en4, Am.look, kill_fn A.nokill, mv_fn A.nokill])
      · exact trivial
      · simp [refsT, refsV, A.norefs, Am.look]
      · omega
    · have hf : fits (L.take k) j = false := by simpa using hf
      have hs := hend (.inl (by rw [hj, Int.toNat_natCast]; exact hf))
      repeat (first | (refine step_tree ?_; ((try (refine g_yes rfl ?_ ?_; (· first | rfl | assumption | (refine decide_eq_true ?_; first | assumption | omega) | (refine nt ?_; first | assumption | omega) | (simp [*]; done) | (refine decide_eq_false ?_; first | assumption | omega) | (refine nf ?_; first | assumption | omega)))); (first | (refine m_mov (by conv => lhs; whnf) ?_) | (refine m_lss rfl rfl ?_) | (refine m_sub rfl rfl ?_ ?_ ?_; (· omega); (· omega)) | (refine m_len_ro rfl ?_) | (refine m_idx1_ro rfl rfl ?_ ?_; (· omega)) | (refine m_ld_rpi rfl ?_ ?_; (· omega)) | (refine m_cut_hi rfl rfl ?_ ?_ ?_; (· first | rfl | omega | simp); (· first | omega | (simp; omega)))))) | refine seq_tree ?_ | refine AW_seq ?_)
      rw [hj]
      skip
      refine step_tree ?_
      refine g_yes rfl ?_ ?_
      · first | rfl | assumption | (refine decide_eq_true ?_; first | assumption | omega) | (refine nt ?_; first | assumption | omega) | (simp [*]; done)
      refine m_callf rfl A.call hsp ?_ ?_
      · exact asksK_lend A.bears rfl rfl (lends_cons (lend_ints rfl) (lends_cons lend_v lends_nil))
      repeat (first | (refine step_tree ?_; (first | (refine m_mov (by conv => lhs; whnf) ?_) | (refine m_add rfl rfl ?_ ?_ ?_; (· omega); (· omega)) | (refine m_len_ro rfl ?_) | (refine m_idx1_ro rfl rfl ?_ ?_; (· omega)) | (refine m_ld_rpi rfl ?_ ?_; (· omega)) | (refine m_pick_t rfl ?_ (by conv => lhs; whnf) ?_; (· first | rfl | assumption | (refine decide_eq_true ?_; first | assumption | omega) | (refine nt ?_; first | assumption | omega) | (simp [*]; done))) | (refine m_cut_hi rfl rfl ?_ ?_ ?_; (· first | rfl | omega | simp); (· first | omega | (simp; omega))))) | refine end_tree ?_ | refine seq_tree ?_ | (refine cond_f rfl ?_ ?_; (· first | rfl | assumption | (refine decide_eq_false ?_; first | assumption | omega) | (refine nf ?_; first | assumption | omega) | (simp [*]; done))) | refine norm_then ?_ | refine exit_then ?_ | refine exit_round ?_ | refine AW_exit ?_ | refine exit_block ?_)
      rw [hj]
      skip
      refine step_tree ?_
      refine m_call hs ?_ ?_
      · rw [← hL]
        exact lends_cons lend_v (lends_cons (lend_ints rfl) (lends_cons lend_v (lends_cons (lend_bears A.bears) lends_nil)))
      repeat (first | (refine step_tree ?_; (first | (refine m_mov (by conv => lhs; whnf) ?_) | (refine m_ext rfl rfl ?_))) | refine end_tree ?_ | refine AW_ret ?_ | refine ret_done ?_)
      exact outs_tup2 (outs_ro (allv_ints _)) (outs_b rfl)
  · have hs := hend (.inr (by omega))
    repeat (first | (refine step_tree ?_; (first | (first | (refine m_mov (by conv => lhs; whnf) ?_) | (refine m_lss rfl rfl ?_) | (refine m_add rfl rfl ?_ ?_ ?_; (· omega); (· omega)) | (refine m_sub rfl rfl ?_ ?_ ?_; (· omega); (· omega)) | (refine m_len_ro rfl ?_) | (refine m_idx1_ro rfl rfl ?_ ?_; (· omega)) | (refine m_ld_rpi rfl ?_ ?_; (· omega)) | (refine m_pick_f rfl ?_ (by conv => lhs; whnf) ?_; (· first | rfl | assumption | (refine decide_eq_false ?_; first | assumption | omega) | (refine nf ?_; first | assumption | omega) | (simp [*]; done))) | (refine m_cut_hi rfl rfl ?_ ?_ ?_; (· first | rfl | omega | simp); (· first | omega | (simp; omega)))) | (refine g_noT rfl ?_ ?_; (· first | rfl | assumption | (refine decide_eq_false ?_; first | assumption | omega) | (refine nf ?_; first | assumption | omega) | (simp [*]; done))))) | refine end_tree ?_ | refine seq_tree ?_ | (refine cond_f rfl ?_ ?_; (· first | rfl | assumption | (refine decide_eq_false ?_; first | assumption | omega) | (refine nf ?_; first | assumption | omega) | (simp [*]; done))) | refine AW_seq ?_ | refine norm_then ?_ | refine exit_then ?_ | refine exit_round ?_ | refine AW_exit ?_ | refine exit_block ?_)
    rw [hj]
    skip
    refine step_tree ?_
    refine m_call hs ?_ ?_
    · rw [← hL]
      exact lends_cons lend_v (lends_cons (lend_ints rfl) (lends_cons lend_v (lends_cons (lend_bears A.bears) lends_nil)))
    repeat (first | (refine step_tree ?_; (first | (refine m_mov (by conv => lhs; whnf) ?_) | (refine m_ext rfl rfl ?_))) | refine end_tree ?_ | refine AW_ret ?_ | refine ret_done ?_)
    exact outs_tup2 (outs_ro (allv_ints _)) (outs_b rfl)
end Go.Proofs.Yteiipnadhalnbaa
namespace Go.Am
theorem comesB_asymm : ∀ a b : List Int, comesB a b = true → comesB b a = false
  | [], _, h => by simp [comesB] at h
  | _ :: _, [], h => by simp [comesB] at h
  | a :: l, b :: m, h => by
    simp only [comesB] at h ⊢
    by_cases e : a = b
    · subst e
      simp only [if_true] at h ⊢
      exact comesB_asymm l m h
    · rw [if_neg e] at h
      rw [if_neg fun hh => e hh.symm]
      have := of_decide_eq_true h
      exact decide_eq_false (by omega)
theorem goOn_sorted (fits : List Int → Nat → Bool) (n : Nat) : ∀ (k : Nat) (l : List Int), (goOn fits n k l).Pairwise fun a b => comesB a b = true
  | 0, l => by simp [goOn]
  | k + 1, l => by
    rw [goOn, List.pairwise_flatMap]
    refine ⟨fun x _ => goOn_sorted fits n k _, ?_⟩
    refine List.Pairwise.filter _ (List.Pairwise.imp ?_ List.pairwise_lt_range)
    intro a b hab x hx y hy
    obtain ⟨r, rfl, _⟩ := goOn_shape fits n _ _ _ hx
    obtain ⟨t, rfl, _⟩ := goOn_shape fits n _ _ _ hy
    rw [List.append_assoc, List.append_assoc, comesB_append]
    have h1 : ¬ (a : Int) = (b : Int) := by omega
    simp only [List.singleton_append, comesB, if_neg h1]
    exact decide_eq_true (by omega)
/-- In a sorted list the first behind the one at j is the next one. -/
theorem find_sorted {A : List (List Int)} (h : A.Pairwise fun a b => comesB a b = true) {j : Nat} (hj : j < A.length) : A.find? (fun m => comesB (A.getD j []) m) = A[j + 1]? := by
  have hs : A = A.take (j + 1) ++ A.drop (j + 1) := (List.take_append_drop _ _).symm
  have hg : A.getD j [] = A[j] := by simp [hj]
  have hpw := List.pairwise_iff_getElem.1 h
  have h1 : (A.take (j + 1)).find? (fun m => comesB (A.getD j []) m) = none := by
    rw [List.find?_eq_none]
    intro m hm
    obtain ⟨i, hi, rfl⟩ := List.mem_iff_getElem.1 hm
    rw [List.length_take] at hi
    rw [List.getElem_take, hg]
    by_cases e : i = j
    · subst e; rw [comesB_self]; simp
    · rw [comesB_asymm _ _ (hpw i j (by omega) hj (by omega))]; simp
  have h2 : (A.drop (j + 1)).find? (fun m => comesB (A.getD j []) m) = A[j + 1]? := by
    by_cases e : j + 1 < A.length
    · rw [List.drop_eq_getElem_cons e, List.find?_cons_of_pos (by rw [hg]; exact hpw j (j + 1) hj e (by omega))]
      simp [e]
    · rw [List.drop_eq_nil_of_le (by omega), List.getElem?_eq_none (by omega)]; rfl
  generalize A.getD j [] = B at h1 h2 ⊢
  have h3 : (A.take (j + 1) ++ A.drop (j + 1)).find? (fun m => comesB B m) = A[j + 1]? := by rw [List.find?_append, h1, Option.none_or, h2]
  rw [← hs] at h3
  exact h3
end Go.Am
namespace Go.Am
mutual
theorem renV_none (f : Nat → Nat) : ∀ x : AV, refsV (fun _ => false) x = true → renV f x = x
  | .any, _ => rfl
  | .v _, _ => rfl
  | .ro _ _ _ _, _ => rfl
  | .rp _, _ => rfl
  | .sl _ _ _ _, h => by simp [refsV] at h
  | .pt _ _, h => by simp [refsV] at h
  | .mp _, h => by simp [refsV] at h
  | .itr _, h => by simp [refsV] at h
  | .ob _, _ => rfl
  | .fn _ l _, h => by simp only [refsV] at h; simp only [renV, renL_none f l h]
  | .rmp _ _ _, _ => rfl
  | .fu _ _ _, _ => rfl
  | .agg l, h => by simp only [refsV] at h; simp only [renV, renL_none f l h]
  | .tup l, h => by simp only [refsV] at h; simp only [renV, renL_none f l h]
theorem renL_none (f : Nat → Nat) : ∀ l : List AV, refsL (fun _ => false) l = true → renL f l = l
  | [], _ => rfl
  | a :: l, h => by
    simp only [refsL, Bool.and_eq_true] at h
    simp only [renL, renV_none f a h.1, renL_none f l h.2]
end
theorem ren_fn {f : Nat → Nat} {g : FuncId} {fl : List AV} {k : Nat} (h : ∀ keep, refsL keep fl = true) : renV f (.fn g fl k) = .fn g fl k := by simp only [renV, renL_none f fl (h _)]
theorem tm_stM {l : List (Nat × AV)} {h : List (Nat × (Bool × List AV))} {r0 b t : Nat} {rows : List (List Int)} : (stM l h r0 b rows).tm t = (look l t).getD .any := rfl
theorem tm_eh2 {a b c : AV} {l : List AV} {hp : Hp} : (enterH (a :: b :: c :: l) hp).tm 2 = c := rfl
theorem srchA (A : List (List Int)) (j : Nat) : (AV.tup [newInts ((A[j]?).getD []), .b (A[j]?).isSome]) = .tup [newInts (A.getD j []), .b (decide (j < A.length))] := by
  have e : (A[j]?).isSome = decide (j < A.length) := by
    by_cases h : j < A.length
    · simp [h]
    · simp [h]
  rw [e, List.getD_eq_getElem?_getD]
end Go.Am
namespace Go.Am
/-- May a function value be asked of each of some lists? -/
structure KeepsX (P : Program) (f : FuncId) (fl : List AV) (k : Nat) (A : List (List Int)) (keep : List Int → Bool) : Prop where
  call : Callable P f
  bears : Bears fl
  norefs : ∀ keep, refsL keep fl = true
  nokill : ∀ r, killL r fl = fl
  spec : ∀ M ∈ A, Sp P f (fl.take k ++ [ints M] ++ fl.drop k) (.b (keep M))
theorem tm_eh1 {a b : AV} {l : List AV} {hp : Hp} : (enterH (a :: b :: l) hp).tm 1 = b := rfl
theorem tm_eh0 {a : AV} {l : List AV} {hp : Hp} : (enterH (a :: l) hp).tm 0 = a := rfl
end Go.Am
namespace Go.Proofs.Yteiipnadhalnbaa
open Go.Am
attribute [local irreducible] AW Outs Weak Lends Lend Sp aops atree aop1 Then Round InBlock Done
attribute [local irreducible] SpH DoneH
theorem fittingWhere_spec {f g : FuncId} {fl gl : List AV} {kk gk n : Nat} {fits : List Int → Nat → Bool} {keep : List Int → Bool} (hAs : AsksK Try.prog f fl kk n fits) (A : List (List Int)) (hA : goOn fits n n [] = A) (F : KeepsX Try.prog g gl gk A keep) (hn : n ≤ 12) (h1 : 1 ≤ n) (hal : A.length ≤ 5040) (hmem : ∀ x ∈ A, x.length = n ∧ ∀ y ∈ x, 0 ≤ y ∧ y < n) :
    SpH Try.prog 58 [.i n, .fn f fl kk, .fn g gl gk] (fun _ => none) (.sl nbase 1 0 (A.filter keep).length) (matO (A.filter keep)) := by
  have hpb : pbase = 4000000 := rfl
  have hf := firstFitting_spec hAs (by omega) h1
  have hsort : A.Pairwise fun a b => comesB a b = true := hA ▸ goOn_sorted _ _ _ _
  have hnx : ∀ j, j < A.length → Sp Try.prog 73 [ints (A.getD j []), .fn f fl kk] (.tup [newInts (A.getD (j + 1) []), .b (decide (j + 1 < A.length))]) := by
    intro j hj
    have hm := hmem _ (show A.getD j [] ∈ A by simp [hj])
    have := nextFitting_spec hAs (by omega) h1 _ hm.1 hm.2
    rw [hA, find_sorted hsort hj] at this
    unfold srchR at this
    rw [srchA] at this
    exact this
  rw [hA, List.head?_eq_getElem?] at hf
  unfold srchR at hf
  rw [srchA] at hf
  have hstat : Static (fun _ => none) (.sl nbase 1 0 (A.filter keep).length) (matO (A.filter keep)) := static_mat1 _
  clear hsort hA
  refine specH_of Try.func58 rfl cc58 rfl (by first | exact static_mat1 _ | exact static_mat2 _ _ | assumption) ?_
  unfold ac58
  repeat (first | (refine step_ops ?_; (first | (refine m_mov (by conv => lhs; whnf) ?_) | (refine m_nils ?_))) | refine end_ops ?_ | refine seq_ops ?_ | refine AW_seq ?_)
  refine step_ops ?_
  refine m_callt hf ?_ (allv_ints _) rfl ?_
  · refine lends_cons lend_v (lends_cons (lend_fn ?_) lends_nil)
    rw [hAs.nokill, hAs.nokill]
    exact lends_self hAs.bears _
  repeat (first | (refine step_ops ?_; (first | (refine m_mov (by conv => lhs; whnf) ?_) | (refine m_ext rfl rfl ?_))) | refine end_ops ?_ | refine AW_block ?_)
  refine AW_loop (α := Nat) (fun j => j ≤ A.length) (fun j => stM [(0, .i n), (1, .fn f fl kk), (2, .fn g gl gk), (7, .sl 7 1 0 ((A.take j).filter keep).length), (8, .sl 13 1 0 (A.getD j []).length), (9, .b (decide (j < A.length)))] [(13, (true, (A.getD j []).map AV.i))] 7 1000 ((A.take j).filter keep)) (fun j => A.length - j) 0 (by omega)
    (weak_keep id ?_ ?_ rfl rfl rfl (.inl (by simp [pbase])) ?_ rfl rfl (.inr ⟨rfl, rfl⟩) (fun j hj => by simp at hj)) ?_
  · (repeat' (first | exact trivial | refine And.intro ?_ ?_)) <;> (first | rfl | skip)
    all_goals simp (disch := decide) [tm_put_ne', tm_put_none, tm_mem, tm_kill, tm_stM, tm_eh0, tm_eh1, tm_eh2, Am.look, kill_fn F.nokill, ren_fn F.norefs, kill_fn hAs.nokill, ren_fn hAs.norefs]
  · (repeat' (first | exact trivial | refine And.intro ?_ ?_)) <;> (first | rfl | skip)
  · simp [refsT, refsV, refsL, F.norefs, hAs.norefs, Am.look]
  intro j hj
  have hrl := rowsC_len 1000 ((A.take j).filter keep)
  have hle : ((A.take j).filter keep).length ≤ j := Nat.le_trans (List.length_filter_le ..) (List.length_take_le _ _)
  by_cases hc : j < A.length
  · have hin : A.getD j [] ∈ A := by simp [hc]
    have hm := hmem _ hin
    have hnj := hnx j hc
    have hks := F.spec (A.getD j []) hin
    have hml : (A.getD j []).length ≤ 1048576 := by omega
    by_cases hk : keep (A.getD j []) = true
    · have es : (A.take (j + 1)).filter keep = (A.take j).filter keep ++ [A.getD j []] := by
        rw [take_snoc A j [] hc, List.filter_append, List.filter_cons_of_pos hk]; rfl
      rw [hk] at hks
      repeat (first | (refine step_ops ?_; (refine m_mov (by conv => lhs; whnf) ?_)) | refine end_ops ?_ | refine seq_ops ?_ | (refine cond_t rfl ?_ ?_; (· first | rfl | assumption | (refine decide_eq_true ?_; first | assumption | omega) | (refine nt ?_; first | assumption | omega) | (simp [*]; done))) | refine skip_then ?_ | refine AW_seq ?_ | refine AW_block ?_)
      refine step_ops ?_
      refine m_callf rfl F.call hks ?_ ?_
      · exact asksK_lend F.bears rfl rfl (lends_cons (lend_sli (by rfl) rfl) lends_nil)
      repeat (first | (refine step_ops ?_; (refine m_mov (by conv => lhs; whnf) ?_)) | refine end_ops ?_ | refine AW_ops ?_ | (refine cond_t rfl ?_ ?_; (· first | rfl | assumption | (refine decide_eq_true ?_; first | assumption | omega) | (refine nt ?_; first | assumption | omega) | (simp [*]; done))))
      refine step_ops ?_
      refine m_bsl1d rfl rfl ?_
      refine step_ops ?_
      refine m_app1d rfl (by decide) rfl ?_ rfl rfl rfl ?_ (by decide) ?_
      · simp [rowsC_kill, rowsC_len]
      · omega
      repeat (first | (refine step_ops ?_; (refine m_mov (by conv => lhs; whnf) ?_)) | refine end_ops ?_ | refine AW_ops ?_ | refine norm_then ?_ | refine norm_block ?_)
      refine step_ops ?_
      refine m_callt hnj ?_ (allv_ints _) rfl ?_
      · refine lends_cons (lend_sli (by rfl) rfl) (lends_cons (lend_fn ?_) lends_nil)
        simp only [hAs.nokill]
        exact lends_self hAs.bears _
      repeat (first | (refine step_ops ?_; (first | (refine m_mov (by conv => lhs; whnf) ?_) | (refine m_ext rfl rfl ?_))) | refine end_ops ?_)
      refine next_round (j + 1) (by omega) ?_ ?_
      · rw [es, List.length_append]
        refine weak_push (row := A.getD j []) (fun r => if r = 7 then 29 else if r = 13 then 20 else r) 13 ?_ ?_ rfl rfl rfl (by omega) ?_ rfl (by decide) rfl rfl ?_ ?_ ?_
        · (repeat' (first | exact trivial | refine And.intro ?_ ?_)) <;> (first | rfl | skip)
          all_goals simp (disch := decide) [tm_put_ne', tm_put_none, tm_mem, tm_kill, tm_stM, tm_eh0, tm_eh1, tm_eh2, Am.look, kill_fn F.nokill, ren_fn F.norefs, kill_fn hAs.nokill, ren_fn hAs.norefs]
        · (repeat' (first | exact trivial | refine And.intro ?_ ?_)) <;> (first | rfl | skip)
        · simp [refsT, refsV, refsL, F.norefs, hAs.norefs, Am.look]
        · simp [rowsC_kill, killL_append, killL]
          rfl
        · rfl
        · (intro j hj; simp (disch := first | omega | assumption) only [hp_put, hp_mem_ne, hp_kill_ne]; first | exact stM_row rfl hj | (rw [stM_row rfl hj]; rfl))
      · omega
    · have hkf : keep (A.getD j []) = false := by simpa using hk
      have es : (A.take (j + 1)).filter keep = (A.take j).filter keep := by
        rw [take_snoc A j [] hc, List.filter_append, List.filter_cons_of_neg hk]; simp
      rw [hkf] at hks
      repeat (first | (refine step_ops ?_; (refine m_mov (by conv => lhs; whnf) ?_)) | refine end_ops ?_ | refine seq_ops ?_ | (refine cond_t rfl ?_ ?_; (· first | rfl | assumption | (refine decide_eq_true ?_; first | assumption | omega) | (refine nt ?_; first | assumption | omega) | (simp [*]; done))) | refine skip_then ?_ | refine AW_seq ?_ | refine AW_block ?_)
      refine step_ops ?_
      refine m_callf rfl F.call hks ?_ ?_
      · exact asksK_lend F.bears rfl rfl (lends_cons (lend_sli (by rfl) rfl) lends_nil)
      repeat (first | (refine step_ops ?_; (refine m_mov (by conv => lhs; whnf) ?_)) | refine end_ops ?_ | refine AW_ops ?_ | (refine cond_f rfl ?_ ?_; (· first | rfl | assumption | (refine decide_eq_false ?_; first | assumption | omega) | (refine nf ?_; first | assumption | omega) | (simp [*]; done))) | refine norm_then ?_ | refine norm_block ?_ | refine AW_skip ?_)
      refine step_ops ?_
      refine m_callt hnj ?_ (allv_ints _) rfl ?_
      · refine lends_cons (lend_sli (by rfl) rfl) (lends_cons ?_ lends_nil)
        exact lend_bears hAs.bears
      repeat (first | (refine step_ops ?_; (first | (refine m_mov (by conv => lhs; whnf) ?_) | (refine m_ext rfl rfl ?_))) | refine end_ops ?_)
      refine next_round (j + 1) (by omega) ?_ ?_
      · rw [es]
        refine weak_keep (fun r => if r = 13 then 20 else r) ?_ ?_ rfl rfl rfl (.inl (by omega)) ?_ rfl rfl ?_ ?_
        · (repeat' (first | exact trivial | refine And.intro ?_ ?_)) <;> (first | rfl | skip)
          all_goals simp (disch := decide) [tm_put_ne', tm_put_none, tm_mem, tm_kill, tm_stM, tm_eh0, tm_eh1, tm_eh2, Am.look, kill_fn F.nokill, ren_fn F.norefs, kill_fn hAs.nokill, ren_fn hAs.norefs]
        · (repeat' (first | exact trivial | refine And.intro ?_ ?_)) <;> (first | rfl | skip)
        · simp [refsT, refsV, refsL, F.norefs, hAs.norefs, Am.look]
        · refine .inl ⟨rfl, ?_⟩
          simp [rowsC_kill]
        · (intro j hj; simp (disch := first | omega | assumption) only [hp_put, hp_mem_ne, hp_kill_ne]; first | exact stM_row rfl hj | (rw [stM_row rfl hj]; rfl))
      · omega
  · obtain rfl : j = A.length := by omega
    rw [List.take_length]
    rw [List.take_length] at hle hrl
    repeat (first | (refine step_ops ?_; (refine m_mov (by conv => lhs; whnf) ?_)) | refine end_ops ?_ | refine seq_ops ?_ | (refine cond_f rfl ?_ ?_; (· first | rfl | assumption | (refine decide_eq_false ?_; first | assumption | omega) | (refine nf ?_; first | assumption | omega) | (simp [*]; done))) | refine AW_seq ?_ | refine AW_ret ?_ | refine norm_then ?_ | refine exit_then ?_ | refine exit_round ?_ | refine AW_exit ?_ | refine exit_block ?_)
    refine ret_mat (r0 := 7) (b := 1000) (by omega) (by omega) (by omega) rfl rfl ?_
    (intro j hj; simp (disch := first | omega | assumption) only [hp_put, hp_mem_ne, hp_kill_ne]; first | exact stM_row rfl hj | (rw [stM_row rfl hj]; rfl))
end Go.Proofs.Yteiipnadhalnbaa
namespace Go.Am
theorem tm_e02 {a b c : AV} {l : List AV} : (enter0 (a :: b :: c :: l)).tm 2 = c := rfl
end Go.Am
namespace Go.Proofs.Yteiipnadhalnbaa
open Go.Am
attribute [local irreducible] AW Outs Weak Lends Lend Sp aops atree aop1 Then Round InBlock Done
attribute [local irreducible] SpH DoneH SpP
theorem fittingWhere_throws {f g : FuncId} {fl gl : List AV} {kk gk n : Nat} {fits : List Int → Nat → Bool} {ok : Value → Prop} (hAs : AsksK Try.prog f fl kk n fits) (A : List (List Int)) (hA : goOn fits n n [] = A) (h0 : 0 < A.length) (hn : n ≤ 12) (h1 : 1 ≤ n) (hlen : (A.getD 0 []).length ≤ 12)
    (hcall : Callable Try.prog g) (hbears : Bears gl) (hnokill : ∀ r, killL r gl = gl) (hnorefs : ∀ keep, refsL keep gl = true) (hth : SpP Try.prog g (gl.take gk ++ [ints (A.getD 0 [])] ++ gl.drop gk) ok) :
    SpP Try.prog 58 [.i n, .fn f fl kk, .fn g gl gk] ok := by
  have hf := firstFitting_spec hAs (by omega) h1
  rw [hA, List.head?_eq_getElem?] at hf
  unfold srchR at hf
  rw [srchA, decide_eq_true h0] at hf
  clear hA
  refine specP_of Try.func58 rfl cc58 ?_
  unfold ac58
  repeat (first | (refine step_ops ?_; (first | (refine m_mov (by conv => lhs; whnf) ?_) | (refine m_nils ?_))) | refine end_ops ?_ | refine seq_ops ?_ | refine AW_seq ?_)
  refine step_ops ?_
  refine m_callt hf ?_ (allv_ints _) rfl ?_
  · refine lends_cons lend_v (lends_cons (lend_fn ?_) lends_nil)
    rw [hAs.nokill, hAs.nokill]
    exact lends_self hAs.bears _
  repeat (first | (refine step_ops ?_; (first | (refine m_mov (by conv => lhs; whnf) ?_) | (refine m_ext rfl rfl ?_))) | refine end_ops ?_ | refine AW_block ?_)
  refine AW_loop (α := Unit) (fun _ => True) (fun _ => st [(2, .fn g gl gk), (8, .sl 13 1 0 (A.getD 0 []).length), (9, .b true)] [(13, (true, (A.getD 0 []).map AV.i))]) (fun _ => 0) () trivial (weak_st ?_ ?_ ?_ rfl) ?_
  · (repeat' (first | exact trivial | refine And.intro ?_ ?_)) <;> (first | rfl | skip)
    all_goals simp (disch := decide) [tm_put_ne', tm_put_none, tm_mem, tm_kill, tm_stM, tm_eh2, tm_e02, Am.look, kill_fn hnokill]
  · (repeat' (first | exact trivial | refine And.intro ?_ ?_)) <;> (first | rfl | skip)
  · simp [refsT, refsV, refsL, hnorefs, Am.look]
  intro _ _
  generalize hB : ACode.block 1 _ = B
  repeat (first | (refine step_ops ?_; (refine m_mov (by conv => lhs; whnf) ?_)) | refine end_ops ?_ | refine seq_ops ?_ | (refine cond_t rfl ?_ ?_; (· first | rfl | assumption | (refine decide_eq_true ?_; first | assumption | omega) | (refine nt ?_; first | assumption | omega) | (simp [*]; done))) | refine skip_then ?_ | refine AW_seq ?_)
  subst hB
  refine AW_block (AW_seq (AW_panic 2 (ok := ok) ?_))
  simp only [List.take_succ_cons, List.take_zero]
  repeat (first | (refine step_ops ?_; (refine m_mov (by conv => lhs; whnf) ?_)) | refine end_ops ?_)
  refine ⟨_, rfl, ⟨rfl, .inr ⟨_, _, g, gl, gk, _, rfl, rfl, hcall, hth, ?_⟩⟩, fun v hv => ?_⟩
  · refine asksK_lend hbears rfl rfl (lends_cons (lend_sli (by rfl) rfl) lends_nil)
  · simp only [Then, InBlock, Round]
    exact ⟨v, rfl, hv⟩
end Go.Proofs.Yteiipnadhalnbaa
namespace Go.Am
variable {P : Program} {N : Nat} {s : AS} {Q : Exit → AS → Prop} {w0 : World} {mu : Nat → Option Nat}
abbrev addD (D : List Deferred) (a : Act) : Act := { a with defers := a.defers ++ D }
theorem put_addD (D : List Deferred) (a : Act) (d : Option Nat) (v : Value) : (addD D a).put d v = addD D (a.put d v) := by cases d <;> rfl
theorem eval_addD (D : List Deferred) (a : Act) : (addD D a).eval = a.eval := by
  funext x
  cases x <;> rfl
theorem wpOps_D {ops : Array Oper} {Q0 Q1 : Exit → Act → World → Prop} (D : List Deferred) (hQ : ∀ e a w, Q0 e a w → Q1 e (addD D a) w) : ∀ (is : List Nat) (a : Act) (w : World), wpOps P ops Q0 is a w → wpOps P ops Q1 is (addD D a) w
  | [], a, w, h => hQ _ _ _ h
  | i :: is, a, w, h => by
    rw [wpOps_cons] at h ⊢
    unfold wpOp at h ⊢
    cases ho : ops[i]? with
    | none =>
      rw [ho] at h
      exact wpOps_D D hQ is a w h
    | some o =>
      rw [ho] at h
      simp only at h ⊢
      split at h
      · rename_i hw
        rw [if_pos hw]
        rcases h with h | ⟨h1, a', w', h2⟩
        · refine .inl ?_
          unfold Oper.wp at h ⊢
          rw [eval_addD]
          generalize (execOp a.eval o).run P w = r at h ⊢
          unfold Oper.upon at h ⊢
          split
          · rw [put_addD]; exact wpOps_D D hQ is _ _ h
          · rw [put_addD]; exact wpOps_D D hQ is _ _ h
          · rename_i d w'
            have e : ({ addD D a with defers := d :: (addD D a).defers } : Act) = addD D { a with defers := d :: a.defers } := rfl
            rw [e, put_addD]; exact wpOps_D D hQ is _ _ h
          · refine Calls.mono h fun e w'' hp => ?_
            cases e with
            | returned v => simp only at hp ⊢; rw [put_addD]; exact wpOps_D D hQ is _ _ hp
            | panicked c => exact hQ _ _ _ hp
            | outgrown =>
              obtain ⟨a', w', h2⟩ := hp
              exact ⟨_, _, hQ _ _ _ h2⟩
          · refine Rows.mono h fun v w'' hp => ?_
            rw [put_addD]; exact wpOps_D D hQ is _ _ hp
          · exact hQ _ _ _ h
          · split at h
            all_goals first | exact h.elim | (rename_i x4 x3 x2 x1 x0; first | exact (x4 _ rfl).elim | exact (x4 _ _ rfl).elim | exact (x4 _ _ _ rfl).elim | exact (x3 _ rfl).elim | exact (x3 _ _ rfl).elim | exact (x3 _ _ _ rfl).elim | exact (x2 _ rfl).elim | exact (x2 _ _ rfl).elim | exact (x2 _ _ _ rfl).elim | exact (x1 _ rfl).elim | exact (x1 _ _ rfl).elim | exact (x1 _ _ _ rfl).elim | exact (x0 _ rfl).elim | exact (x0 _ _ rfl).elim | exact (x0 _ _ _ rfl).elim) | (rename_i x4 x3 x2 x1 x0 _; first | exact (x4 _ rfl).elim | exact (x4 _ _ rfl).elim | exact (x4 _ _ _ rfl).elim | exact (x3 _ rfl).elim | exact (x3 _ _ rfl).elim | exact (x3 _ _ _ rfl).elim | exact (x2 _ rfl).elim | exact (x2 _ _ rfl).elim | exact (x2 _ _ _ rfl).elim | exact (x1 _ rfl).elim | exact (x1 _ _ rfl).elim | exact (x1 _ _ _ rfl).elim | exact (x0 _ rfl).elim | exact (x0 _ _ rfl).elim | exact (x0 _ _ _ rfl).elim)
        · refine .inr ⟨?_, _, _, hQ _ _ _ h2⟩
          unfold Oper.asks at h1 ⊢
          rw [eval_addD]
          exact h1
      · rename_i hw
        rw [if_neg hw, put_addD]
        exact wpOps_D D hQ is _ _ h
/-- The rule on code behind a deferred call. -/
def CWD (P : Program) (N : Nat) (D : List Deferred) (code : Code) (s : AS) (Q : Exit → AS → Prop) : Prop :=
  ∀ w0 mu a w, Simw w0 mu N s a w → code.wp P (fun e a' w' => ∃ a0, a' = addD D a0 ∧ After w0 mu N (Q e) a0 w') (addD D a) w
theorem CWD_seq {x y : Code} {D : List Deferred} (h : CWD P N D x s (Then (fun s' => CWD P N D y s' Q) Q)) : CWD P N D (.seq x y) s Q := by
  intro w0 mu a w hS
  refine wp_seq (wp_mono (h w0 mu a w hS) fun e a' w' hA => ?_)
  obtain ⟨a0, rfl, s', h1, h2⟩ := hA
  cases e with
  | normal => exact h1 w0 mu a0 w' h2
  | _ => exact ⟨a0, rfl, s', h1, h2⟩
theorem CWD_ret {D : List Deferred} (h : Q .ret s) : CWD P N D .ret s Q := fun _ _ a _ hS => wp_ret ⟨a, rfl, s, h, hS⟩
theorem region_inv {id : Nat} {ops : Array Oper} {l : List AOper} (hc : ccode P N (.region id ops false) = some (.ops l)) : ops.toList.mapM (cop P N ops) = some l := by
  simp only [ccode] at hc
  rw [Option.bind_eq_some_iff] at hc
  obtain ⟨l', hl, hc⟩ := hc
  simp only [Bool.false_eq_true, if_false, Option.some.injEq, ACode.ops.injEq] at hc
  rw [hl, hc]
theorem CWD_ops {id : Nat} {ops : Array Oper} {l : List AOper} {D : List Deferred} (hc : ccode P N (.region id ops false) = some (.ops l)) (h : aops P true l s (Q .normal)) : CWD P N D (.region id ops false) s Q := by
  intro w0 mu a w hS
  refine wp_region ?_
  have hcomp := comp_of_mapM ops ops.toList 0 l (fun j => by simp) (region_inv hc)
  rw [Array.length_toList, ← List.range_eq_range'] at hcomp
  exact wpOps_D D (Q0 := fun e a w => e = .normal ∧ After w0 mu N (Q .normal) a w) (fun e a w h => ⟨a, rfl, by rw [h.1]; exact h.2⟩) _ a w (aops_sound (fun a w h => ⟨rfl, h⟩) hcomp hS h)
theorem CWD_panic {id : Nat} {ops : Array Oper} {l : List AOper} {D : List Deferred} (k : Nat) {ok : Value → Prop} (hc : ccode P N (.region id ops false) = some (.ops l))
    (h : aops P true (l.take k) s fun s' => ∃ o, l[k]? = some o ∧ APan P o s' ok ∧ ∀ v, ok v → Q (pan v) s') : CWD P N D (.region id ops false) s Q := by
  intro w0 mu a w hS
  refine wp_region ?_
  have hcomp := comp_of_mapM ops ops.toList 0 l (fun j => by simp) (region_inv hc)
  rw [Array.length_toList, ← List.range_eq_range'] at hcomp
  exact wpOps_D D (Q0 := fun e a w => After w0 mu N (Q e) a w) (fun e a w h => ⟨a, rfl, h⟩) _ a w (aops_panic (Q := Q) (fun s' a w v h1 h2 => ⟨s', h2, h1⟩) hcomp k hS h)
/-- A closure that captured two variables is made, and its call is deferred. -/
def doorD (f : FuncId) (p q : Value) : Deferred := { target := .fn (.func f) #[p, q], args := #[] }
theorem wp_defer {id : Nat} {o0 o1 : Oper} {f t x y : Nat} {a : Act} {w : World} {Q1 : Exit → Act → World → Prop} (h0 : o0.op = .makeFunc (.func f) #[] #[.tmp x, .tmp y]) (h0g : o0.guard = none) (h0d : o0.dst = some t) (h1 : o1.op = .defer { callee := .value (.tmp t), args := #[], argTypes := #[] }) (h1g : o1.guard = none) (h1d : o1.dst = none)
    (hS : Simw w0 mu N s a w) (hxt : x ≠ t) (hyt : y ≠ t) (htN : t < N) (ht1 : s.tm t = .any)
    (hK : ∀ a' : Act, Simw w0 mu N s a' w → a'.tmps.getD x undef = a.tmps.getD x undef → a'.tmps.getD y undef = a.tmps.getD y undef → Q1 .normal (addD [doorD f (a.tmps.getD x undef) (a.tmps.getD y undef)] a') w) :
    (Code.region id #[o0, o1] false).wp P Q1 a w := by
  obtain ⟨hf, phi, ro, hS⟩ := hS
  refine wp_region ?_
  show wpOps P _ _ [0, 1] a w
  rw [wpOps_cons]
  unfold wpOp
  simp only [show (#[o0, o1] : Array Oper)[0]? = some o0 from rfl, Region.wanted, h0g, if_true]
  refine .inl ?_
  unfold Oper.wp
  have r0 : (execOp a.eval o0).run P w = .ok (.value (.func (.func f) #[] #[a.tmps.getD x undef, a.tmps.getD y undef])) w := by
    simp [execOp, h0, Instr.makeFunc, Act.eval]
  rw [r0, Oper.upon_value, h0d]
  rw [wpOps_cons]
  unfold wpOp
  simp only [show (#[o0, o1] : Array Oper)[1]? = some o1 from rfl, Region.wanted, h1g, if_true]
  refine .inl ?_
  unfold Oper.wp
  have hlt : t < a.tmps.size := Nat.lt_of_lt_of_le htN hS.slots
  have e1 : (a.put (some t) (.func (.func f) #[] #[a.tmps.getD x undef, a.tmps.getD y undef])).eval (.tmp t) = .func (.func f) #[] #[a.tmps.getD x undef, a.tmps.getD y undef] := by
    simp [Act.eval, Act.put, hlt]
  have r1 : (execOp (a.put (some t) (.func (.func f) #[] #[a.tmps.getD x undef, a.tmps.getD y undef])).eval o1).run P w = .ok (.defer (doorD f (a.tmps.getD x undef) (a.tmps.getD y undef))) w := by
    simp only [execOp, h1, resolve, e1]
    simp [Deferred.ofValue, doorD]
  rw [r1, Oper.upon_defer, h1d]
  simp only [wpOps]
  have e2 : s.put (some t) .any = s := by
    obtain ⟨tm, hp⟩ := s
    simp only [AS.put, AS.mk.injEq, and_true] at ht1 ⊢
    funext k
    by_cases hk : k = t
    · rw [if_pos hk, hk, ht1]
    · rw [if_neg hk]
  have hS2 := hS.put (d := some t) (fun k hk => by cases hk; exact htN) (x := .any) (v := .func (.func f) #[] #[a.tmps.getD x undef, a.tmps.getD y undef]) (by simp [SimV])
  rw [e2] at hS2
  have e3 : ∀ z, z ≠ t → (a.put (some t) (.func (.func f) #[] #[a.tmps.getD x undef, a.tmps.getD y undef])).tmps.getD z undef = a.tmps.getD z undef := by
    intro z hz
    simp [Act.put, Array.getElem?_setIfInBounds_ne (Ne.symm hz)]
  have hfin := hK (a.put (some t) (.func (.func f) #[] #[a.tmps.getD x undef, a.tmps.getD y undef])) ⟨by rw [put_defers]; exact hf, phi, ro, hS2⟩ (e3 x hxt) (e3 y hyt)
  have e4 : addD [doorD f (a.tmps.getD x undef) (a.tmps.getD y undef)] (a.put (some t) (.func (.func f) #[] #[a.tmps.getD x undef, a.tmps.getD y undef])) =
      ({ a.put (some t) (.func (.func f) #[] #[a.tmps.getD x undef, a.tmps.getD y undef]) with defers := doorD f (a.tmps.getD x undef) (a.tmps.getD y undef) :: (a.put (some t) (.func (.func f) #[] #[a.tmps.getD x undef, a.tmps.getD y undef])).defers } : Act) := by
    simp [addD, put_defers, hf]
  rw [e4] at hfin
  exact hfin
/-- Two variables of the call's own, from now on held to be a caller's: their blocks are told. -/
def muD (b c : Nat) : Nat → Option Nat := fun r => if r = pbase then some b else if r = pbase + 1 then some c else none
def hpD (x y : AV) : List (Nat × (Bool × List AV)) := [(pbase, (false, [x])), (pbase + 1, (true, [y]))]
theorem door_enter {a : Act} {w : World} {r1 r2 r3 x y z : Nat} {cs : List AV} {u v : Value} (hmu : ∀ r, mu r = none) (hS : Simw w0 mu N s a w) (h1 : s.tm x = .pt r1 0) (h2 : s.tm y = .pt r2 0) (h3 : s.tm z = .pt r3 0) (g1 : s.hp r1 = some (true, cs)) (g2 : s.hp r2 = some (false, [.v u])) (g3 : s.hp r3 = some (true, [.v v])) (hr : readL cs = true) (hxy : x ≠ y) (hxz : x ≠ z) (hyz : y ≠ z) (hne : r2 ≠ r3) (hn2 : r2 ≠ r1) (hn3 : r3 ≠ r1) :
    ∃ b c, a.tmps.getD y undef = .pointer (some ⟨b, 0, none⟩) ∧ a.tmps.getD z undef = .pointer (some ⟨c, 0, none⟩) ∧ b ≠ c ∧ w0.heap.size ≤ b ∧ w0.heap.size ≤ c ∧ More w0 w ∧
      Simw w (muD b c) N (st [(x, .rp cs), (y, .pt pbase 0), (z, .pt (pbase + 1) 0)] (hpD (.v u) (.v v))) a w := by
  obtain ⟨hf, phi, ro, h⟩ := hS
  have v1 := h.tms x
  have v2 := h.tms y
  have v3 := h.tms z
  rw [h1] at v1
  rw [h2] at v2
  rw [h3] at v3
  simp only [SimV] at v1 v2 v3
  obtain ⟨_, _, b1, p1, e1, cur1, t1, c1⟩ := v1
  obtain ⟨_, _, b2, p2, e2, cur2, t2, c2⟩ := v2
  obtain ⟨_, _, b3, p3, e3, cur3, t3, c3⟩ := v3
  obtain ⟨cur1, t1, c1, k1, n1, m1⟩ := h.cell g1 p1 c1
  obtain ⟨cur2, t2, c2, k2, n2, m2⟩ := h.cell g2 p2 c2
  obtain ⟨cur3, t3, c3, k3, n3, m3⟩ := h.cell g3 p3 c3
  have hmine : ∀ {r b : Nat}, (r < pbase ∧ Mine w0 mu b ∨ pbase ≤ r ∧ mu r = some b) → w0.heap.size ≤ b := by
    rintro r b (⟨_, h1 | ⟨r', _, h1⟩⟩ | ⟨_, h1⟩)
    · exact h1
    · rw [hmu] at h1; cases h1
    · rw [hmu] at h1; cases h1
  have hb12 : b1 ≠ b2 := fun e => hn2 (h.inj r2 r1 b2 (by rw [g2]; rfl) (by rw [g1]; rfl) p2 (e ▸ p1))
  have hb13 : b1 ≠ b3 := fun e => hn3 (h.inj r3 r1 b3 (by rw [g3]; rfl) (by rw [g1]; rfl) p3 (e ▸ p1))
  have hb23 : b2 ≠ b3 := fun e => hne (h.inj r2 r3 b2 (by rw [g2]; rfl) (by rw [g3]; rfl) p2 (e ▸ p3))
  refine ⟨b2, b3, e2, e3, hb23, hmine m2, hmine m3, ⟨h.os, h.tape, h.output, h.size, fun b hb => h.kept b hb fun r hr => by rw [hmu] at hr; cases hr⟩, hf, muD b2 b3, fun q => q < w.heap.size ∧ q ≠ b2 ∧ q ≠ b3, ?_⟩
  have hm0 : muD b2 b3 pbase = some b2 := by simp [muD]
  have hm1 : muD b2 b3 (pbase + 1) = some b3 := by simp [muD]
  have hmm : ∀ r b, muD b2 b3 r = some b → (r = pbase ∧ b = b2) ∨ (r = pbase + 1 ∧ b = b3) := by
    intro r b hr
    unfold muD at hr
    split at hr
    · cases hr; exact .inl ⟨‹_›, rfl⟩
    · split at hr
      · cases hr; exact .inr ⟨‹_›, rfl⟩
      · cases hr
  have hl0 : (st [(x, .rp cs), (y, .pt pbase 0), (z, .pt (pbase + 1) 0)] (hpD (.v u) (.v v))).hp pbase = some (false, [.v u]) := by simp [st, hpD, look]
  have hl1 : (st [(x, .rp cs), (y, .pt pbase 0), (z, .pt (pbase + 1) 0)] (hpD (.v u) (.v v))).hp (pbase + 1) = some (true, [.v v]) := by simp [st, hpD, look]
  have hll : ∀ r c, (st [(x, .rp cs), (y, .pt pbase 0), (z, .pt (pbase + 1) 0)] (hpD (.v u) (.v v))).hp r = some c → (r = pbase ∧ c = (false, [.v u])) ∨ (r = pbase + 1 ∧ c = (true, [.v v])) := by
    intro r c hr
    simp only [st, hpD, look] at hr
    split at hr
    · cases hr; exact .inl ⟨by simp_all, rfl⟩
    · split at hr
      · cases hr; exact .inr ⟨by simp_all, rfl⟩
      · cases hr
  have hex : ∀ {fl : Bool} {x : Value} {cur : Array Value} {C D : Ctx}, SimR (fl, [.v x]) C cur.toList → SimR (fl, [.v x]) D cur.toList := by
    intro fl x cur C D hs
    unfold SimR at hs ⊢
    cases hl : cur.toList with
    | nil => rw [hl] at hs; simp [SimL] at hs
    | cons q qs => rw [hl] at hs; simpa [SimL, SimV] using hs
  refine ⟨rfl, rfl, rfl, Nat.le_refl _, fun _ _ _ => rfl, fun b cur e f hb => ⟨cur, hb, rfl⟩, h.npb, ⟨h.goodW, fun r b hr => ?_⟩, fun b hb => hb.1, fun r r' b q1 q2 q3 q4 => ?_, fun r c hr => ?_, fun t => ?_, h.slots⟩
  · rcases hmm r b hr with ⟨_, rfl⟩ | ⟨_, rfl⟩
    · exact h.regGood g2 p2
    · exact h.regGood g3 p3
  · rcases hmm r b q3 with ⟨rfl, rfl⟩ | ⟨rfl, rfl⟩ <;> rcases hmm r' _ q4 with ⟨rfl, e⟩ | ⟨rfl, e⟩
    · rfl
    · exact absurd e hb23
    · exact absurd e.symm hb23
    · rfl
  · rcases hll r c hr with ⟨rfl, rfl⟩ | ⟨rfl, rfl⟩
    · exact .inr (.inl ⟨b2, cur2, t2, hm0, c2, fun e => e.2.1 rfl, .inr ⟨Nat.le_refl _, hm0⟩, hex k2⟩)
    · exact .inr (.inl ⟨b3, cur3, t3, hm1, c3, fun e => e.2.2 rfl, .inr ⟨Nat.le_succ _, hm1⟩, hex k3⟩)
  · by_cases htx : t = x
    · subst htx
      have : (st [(t, .rp cs), (y, .pt pbase 0), (z, .pt (pbase + 1) 0)] (hpD (.v u) (.v v))).tm t = .rp cs := by simp [st, look]
      rw [this]
      simp only [SimV]
      refine ⟨b1, 0, cur1, t1, (0, 0), e1, c1, ⟨lt_of_get c1, hb12, hb13⟩, ?_⟩
      rw [List.drop_zero]
      simp only [SimR, if_true] at k1
      exact SimL.read cs (ctx w0 w ro phi s).out _ _ hr rfl (fun b hb => ⟨h.rob b hb, fun e => n2 (e ▸ hb), fun e => n3 (e ▸ hb)⟩) k1
    by_cases hty : t = y
    · subst hty
      have : (st [(x, .rp cs), (t, .pt pbase 0), (z, .pt (pbase + 1) 0)] (hpD (.v u) (.v v))).tm t = .pt pbase 0 := by simp [st, look, htx]
      rw [this]
      simp only [SimV]
      exact ⟨rfl, by simp only [ctx]; rw [hl0]; rfl, b2, hm0, e2, cur2, t2, c2⟩
    by_cases htz : t = z
    · subst htz
      have : (st [(x, .rp cs), (y, .pt pbase 0), (t, .pt (pbase + 1) 0)] (hpD (.v u) (.v v))).tm t = .pt (pbase + 1) 0 := by simp [st, look, htx, hty]
      rw [this]
      simp only [SimV]
      exact ⟨rfl, by simp only [ctx]; rw [hl1]; rfl, b3, hm1, e3, cur3, t3, c3⟩
    have : (st [(x, .rp cs), (y, .pt pbase 0), (z, .pt (pbase + 1) 0)] (hpD (.v u) (.v v))).tm t = .any := by simp [st, look, htx, hty, htz]
    rw [this]
    simp [SimV]
/-- A result that lies in a single cell. -/
theorem rv1_run {w w' : World} {tm : Array Value} {phi : Nat → Option Nat} {ro : Nat → Prop} (hS : Sim w mu N s tm w' phi ro) {a r : Nat} {t : TypeId} {fl : Bool} {cs : List AV} {x : AV} (ht : shapeT P t = some none) (h1 : s.tm a = .pt r 0) (h2 : s.hp r = some (fl, cs)) (h3 : cs[0]? = some x) :
    ∃ y, (resOne tm (.cell a t)).run P w' = .ok y w' ∧ SimV x (ctx w w' ro phi s) y := by
  have hS' : Sim w mu N s ({ tmps := tm, defers := [] } : Act).tmps w' phi ro := hS
  obtain ⟨d, hd, hd1, hd2⟩ := shapeT_none ht
  have hv := hS.tms a
  rw [h1] at hv
  simp only [SimV] at hv
  obtain ⟨_, _, b, hb, hy, cur0, e0, hcell0⟩ := hv
  obtain ⟨cur, e, hcell, hsim, _⟩ := hS'.cell h2 hb hcell0
  obtain ⟨y, hy1, hy2⟩ := hsim.get h3
  refine ⟨y, ?_, hy2⟩
  have hrun := run_load_one (P := P) hd hd1 hd2 hcell (off := 0) (by simpa using hy1)
  have hld : (loadVar t ⟨b, 0, none⟩).run P w' = .ok y w' := by
    simpa [Instr.loadAt, Instr.sureAddr] using hrun
  simp [resOne, hy, asAddr, hld]
theorem run_two {fn : Func} {tm : Array Value} {w : World} {r1 r2 : ResultVar} {y1 y2 : Value} (hr : fn.results = #[r1, r2]) (h1 : (resOne tm r1).run P w = .ok y1 w) (h2 : (resOne tm r2).run P w = .ok y2 w) : (results fn tm).run P w = .ok (.tuple #[y1, y2]) w := by
  have hr0 : results fn tm = (do let vs ← fn.results.mapM (resOne tm); pure (if h : vs.size = 1 then vs[0] else .tuple vs)) := rfl
  have hl : (fn.results.toList.mapM (m := Sem) (resOne tm)).run P w = .ok [y1, y2] w := by
    rw [hr]
    simp only [List.mapM_cons, List.mapM_nil, Sem.run_bind, h1, h2, Result.andThen_ok, Sem.run_pure]
  have hm : (fn.results.mapM (m := Sem) (resOne tm)).run P w = .ok #[y1, y2] w := by
    rw [Array.mapM_eq_mapM_toList, Sem.run_map, hl]
    rfl
  rw [hr0, Sem.run_bind, hm]
  simp
/-- What is handed out where a call ends. -/
theorem finD {w w' : World} {tm : Array Value} {phi : Nat → Option Nat} {ro : Nat → Prop} {hout : Hp} {res : AV} (w1 : World) (hS : Sim w mu N s tm w' phi ro) (hst : Static (fun _ => none) res hout) (hmu : ∀ r b, mu r = some b → r < gvb) (g : Nat → Nat)
    (hhas : ∀ r c, hout r = some c → ∃ c0, s.hp (g r) = some c0 ∧ (c0 = renR g c ∨ (c.2 = [] ∧ c0.2 = []))) (hfresh : ∀ r, (hout r).isSome = true → g r < pbase) (hgi : ∀ r r', (hout r).isSome = true → (hout r').isSome = true → g r = g r' → r = r') :
    Inj hout (fun r => phi (g r)) ∧ (∀ r b, (hout r).isSome = true → phi (g r) = some b → w.heap.size ≤ b) ∧ Regs (ctxX w1 w' (fun r => phi (g r)) hout) hout ∧
      ∀ v, SimV (renV g res) (ctx w w' ro phi s) v → SimV res (ctxX w1 w' (fun r => phi (g r)) hout) v := by
  have hlv : ∀ r, (hout r).isSome = true → (s.hp (g r)).isSome = true := by
    intro r hr
    obtain ⟨c, hc⟩ := Option.isSome_iff_exists.1 hr
    obtain ⟨c0, h1, _⟩ := hhas r c hc
    rw [h1]; rfl
  have hmine : ∀ {b : Nat}, Mine w mu b → w.heap.size ≤ b := by
    rintro b (h1 | ⟨r, h1, h2⟩)
    · exact h1
    · have := hmu r b h2; omega
  refine ⟨fun r r' b h1 h2 h3 h4 => hgi r r' h1 h2 (hS.inj _ _ b (hlv r h1) (hlv r' h2) h3 h4), fun r b h1 h3 => ?_, fun r c hc => ?_, fun v hv => ?_⟩
  · obtain ⟨c, hc⟩ := Option.isSome_iff_exists.1 h1
    have hlt := hfresh r h1
    obtain ⟨c0, hh0, _⟩ := hhas r c hc
    rcases hS.liv _ _ hh0 with ⟨k1, _⟩ | ⟨b', _, _, k1, _, _, k4, _⟩ | ⟨b', _, _, k1, _, _, _, k4⟩
    · rw [k1] at h3; cases h3
    · rw [k1] at h3; cases h3
      rcases k4 with k4 | k4
      · exact hmine k4.2
      · omega
    · rw [k1] at h3; cases h3
      rcases k4 with k4 | k4
      · exact hmine k4.2
      · omega
  · obtain ⟨ho, hrf⟩ := hst.own r c hc
    obtain ⟨c0, hh0, hc0⟩ := hhas r c hc
    rcases hS.liv _ _ hh0 with ⟨k1, k2, _⟩ | ⟨b, cur, e', k1, k2, _, _, k5⟩ | ⟨b, o, h0, k1, k2, k3, _⟩
    · refine .inl ⟨k1, ?_⟩
      rcases hc0 with rfl | hc0
      · obtain ⟨fl, cs⟩ := c
        simp only [renR, renL_map] at k2
        exact List.map_eq_nil_iff.1 k2
      · exact hc0.1
    · rcases hc0 with rfl | hc0
      case inr => exact .inr (.inl ⟨b, cur, e', k1, k2, by unfold SimR; rw [hc0.1]; simp [SimL]⟩)
      refine .inr (.inl ?_)
      exact ⟨b, cur, e', k1, k2, simR_in (q := false) (C := ctxX w1 w' (fun r => phi (g r)) hout) (D := ctx w w' ro phi s) rfl (fun e => by cases e) (fun _ => rfl) (fun _ r _ => rfl) ho hrf k5⟩
    · rcases hc0 with rfl | hc0
      · exact .inr (.inr ⟨b, o, renR_ob h0, k1, k2, k3⟩)
      · rw [h0] at hc0; simp at hc0
  · exact simV_in false g (ctxX w1 w' (fun r => phi (g r)) hout) (ctx w w' ro phi s) rfl (fun e => by cases e) (fun _ => rfl) (fun _ r _ => rfl) res _ hst.res.1 hst.res.2 hv
end Go.Am
namespace Go.Am
theorem readL_plain : ∀ {l : List AV}, l.all plainV = true → readL l = true
  | [], _ => rfl
  | x :: l, h => by
    rw [List.all_cons, Bool.and_eq_true] at h
    have hl := readL_plain h.2
    cases x <;> first | (simp [plainV] at h; done) | (simp only [readL, readV, hl, Bool.and_self])
end Go.Am
namespace Go.Proofs.Yteiipnadhalnbaa
open Go.Am
attribute [local irreducible] AW Outs Weak Lends Lend Sp aops atree aop1 Then Round InBlock Done
attribute [local irreducible] SpM DoneM SpH DoneH SpP
theorem solve2_spec (M : List Int) (y : Nat) (hM : M.length ≤ 1048576) : Sp Try.prog 54 [ints M, .i y] (.b (newN M y)) := by
  unfold newN
  refine spec_of Try.func54 rfl cc54 rfl ?_
  unfold ac54
  repeat (first | (refine step_ops ?_; (first | (refine m_mov (by conv => lhs; whnf) ?_) | (refine m_not rfl ?_))) | refine end_ops ?_ | refine seq_ops ?_ | refine AW_ops ?_ | refine AW_seq ?_ | refine AW_ret ?_ | refine ret_done ?_ | refine norm_then ?_ | refine ret_then ?_ | refine exit_then ?_)
  (refine step_ops ?_); (apply m_call (slicesContains_spec M y hM)); (· repeat (first | exact lends_nil | (refine lends_cons ?_ ?_; (· (first | exact lend_v | (refine lend_roM rfl; done) | (refine lend_mat rfl ?_; intro j hj; simp (disch := first | omega | assumption) only [hp_put, hp_mem_ne, hp_kill_ne]; first | exact stM_row rfl hj | (rw [stM_row rfl hj]; rfl)) | (refine lend_ints ?_; first | rfl | omega) | (refine lend_sli (by rfl) ?_; first | rfl | omega | (simp; done)) | (refine lend_pln rfl; done) | (refine lend_plns rfl rfl; done) | (refine lend_txr rfl; done) | (refine lend_txs rfl rfl; done) | exact lend_any | (refine lend_agg ?_; first | rfl | assumption | (simp [plainV]; done)))))))
  repeat (first | (refine step_ops ?_; (first | (refine m_mov (by conv => lhs; whnf) ?_) | (refine m_not rfl ?_))) | refine end_ops ?_ | refine seq_ops ?_ | refine AW_ops ?_ | refine AW_seq ?_ | refine AW_ret ?_ | refine ret_done ?_ | refine norm_then ?_ | refine ret_then ?_ | refine exit_then ?_)
  exact outs_b rfl
theorem leftAsks (n : Nat) (hn : n ≤ 12) : AsksK Try.prog 54 [] 0 n newN where
  call := ⟨_, Try.func54, by rfl, by rfl⟩
  bears := fun hp x hx => by cases hx
  norefs := fun _ => rfl
  nokill := fun _ => rfl
  spec := fun M y h1 _ _ => solve2_spec M y (by omega)
/-- What the closure that asks all clues bears. -/
abbrev pzR (n : Nat) (C : List Clu) : List AV := [.rp [.i n, .ro false 3 (cls C) C.length]]
theorem solve3_spec (n : Nat) (C : List Clu) (M : List Int) (hC : C.length ≤ 6) (h : IsEx M) (hn : M.length = n) (hcl : ∀ c ∈ C, IsClu n c) : Sp Try.prog 56 ([ints M] ++ pzR n C) (.b (allFit C M)) := by
  have hL : M.length ≤ 1048576 := by have := h.2.1; omega
  have hf := fitsAll_spec n C M hC h hn hcl
  unfold allFit
  show Sp _ _ [ints M, .rp [.i n, .ro false 3 (cls C) C.length]] _
  refine spec_of Try.func56 rfl cc56 rfl ?_
  unfold ac56
  repeat (first | (refine step_ops ?_; (first | (refine m_mov (by conv => lhs; whnf) ?_) | (refine m_ld_rpi rfl ?_ ?_; (· omega)) | (refine m_ld_pti rfl (by rfl) ?_ ?_; (· first | omega | (simp; omega))) | (apply m_ld_ptb; (· rfl); (· rfl); (· assumption)) | (apply m_ld_rp; (· rfl); (· rfl)) | (apply m_ld_pt; (· rfl); (· rfl); (· rfl)) | (refine m_fa rfl ?_) | (refine m_fa_rp rfl ?_))) | refine end_ops ?_ | refine seq_ops ?_ | refine AW_ops ?_ | refine AW_seq ?_ | refine AW_ret ?_ | refine ret_done ?_ | refine norm_then ?_ | refine ret_then ?_ | refine exit_then ?_)
  refine step_ops ?_
  refine m_call hf (lends_cons lend_cls (lends_cons (lend_ints ?_) lends_nil)) ?_
  · rfl
  repeat (first | (refine step_ops ?_; (first | (refine m_mov (by conv => lhs; whnf) ?_) | (refine m_ld_rpi rfl ?_ ?_; (· omega)) | (refine m_ld_pti rfl (by rfl) ?_ ?_; (· first | omega | (simp; omega))) | (apply m_ld_ptb; (· rfl); (· rfl); (· assumption)) | (apply m_ld_rp; (· rfl); (· rfl)) | (apply m_ld_pt; (· rfl); (· rfl); (· rfl)) | (refine m_fa rfl ?_) | (refine m_fa_rp rfl ?_))) | refine end_ops ?_ | refine seq_ops ?_ | refine AW_ops ?_ | refine AW_seq ?_ | refine AW_ret ?_ | refine ret_done ?_ | refine norm_then ?_ | refine ret_then ?_ | refine exit_then ?_)
  exact outs_b rfl
theorem solve3_throws (n : Nat) (C : List Clu) (M : List Int) (hC : C.length ≤ 6) (h : IsEx M) (hn : M.length = n) (hbad : ∃ c ∈ C, ¬ IsClu n c) : SpP Try.prog 56 ([ints M] ++ pzR n C) NoV := by
  have hth := fitsAll_throws n C M hC h hn hbad
  show SpP _ _ [ints M, .rp [.i n, .ro false 3 (cls C) C.length]] _
  refine specP_of Try.func56 rfl cc56 ?_
  unfold ac56
  refine seq_ops ?_
  ((first | (refine step_ops ?_; (first | (refine m_mov (by conv => lhs; whnf) ?_) | (refine m_ld_rpi rfl ?_ ?_; (· omega)) | (refine m_ld_pti rfl (by rfl) ?_ ?_; (· first | omega | (simp; omega))) | (apply m_ld_ptb; (· rfl); (· rfl); (· assumption)) | (apply m_ld_rp; (· rfl); (· rfl)) | (apply m_ld_pt; (· rfl); (· rfl); (· rfl)) | (refine m_fa rfl ?_) | (refine m_fa_rp rfl ?_))) | refine end_ops ?_ | refine seq_ops ?_ | refine AW_ops ?_ | refine AW_seq ?_ | refine AW_ret ?_ | refine ret_done ?_ | refine norm_then ?_ | refine ret_then ?_ | refine exit_then ?_))
  refine end_ops ?_
  refine AW_seq (AW_panic 3 (ok := NoV) ?_)
  simp only [List.take_succ_cons, List.take_zero]
  repeat (first | (refine step_ops ?_; (first | (refine m_mov (by conv => lhs; whnf) ?_) | (refine m_ld_rpi rfl ?_ ?_; (· omega)) | (refine m_ld_pti rfl (by rfl) ?_ ?_; (· first | omega | (simp; omega))) | (apply m_ld_ptb; (· rfl); (· rfl); (· assumption)) | (apply m_ld_rp; (· rfl); (· rfl)) | (apply m_ld_pt; (· rfl); (· rfl); (· rfl)) | (refine m_fa rfl ?_) | (refine m_fa_rp rfl ?_))) | refine end_ops ?_ | refine seq_ops ?_ | refine AW_ops ?_ | refine AW_seq ?_ | refine AW_ret ?_ | refine ret_done ?_ | refine norm_then ?_ | refine ret_then ?_ | refine exit_then ?_)
  refine ⟨_, rfl, ⟨rfl, .inl ⟨_, _, _, rfl, hth, ?_⟩⟩, fun v hv => ?_⟩
  · refine lends_cons lend_cls (lends_cons (lend_ints ?_) lends_nil)
    rfl
  · simp only [Then]
    exact ⟨v, rfl, hv⟩
theorem allN_mem {n : Nat} (h1 : 1 ≤ n) (h5 : n ≤ 5) {x : List Int} (hx : x ∈ goOn newN n n []) : IsEx x ∧ x.length = n ∧ ∀ y ∈ x, 0 ≤ y ∧ y < (n : Int) := by
  obtain ⟨k1, k2, k3⟩ := goOn_pm newN_new n [] List.nodup_nil (by simp) x hx
  simp only [List.length_nil, Nat.zero_add] at k3
  exact ⟨ex_of h1 h5 k3 k1 k2, k3, k2⟩
theorem allN_len {n : Nat} (h5 : n ≤ 5) : (goOn newN n n []).length ≤ 120 := by
  have h1 := goOn_fac (n := n) newN_new n [] (by simp) List.nodup_nil (by simp)
  have h3 : ∀ k < 6, facR k ≤ 120 := by decide
  have := h3 n (by omega)
  omega
theorem allN_pos : ∀ n < 6, 0 < (goOn newN n n []).length := by decide +kernel
theorem allKeeps (n : Nat) (C : List Clu) (h1 : 1 ≤ n) (h5 : n ≤ 5) (hC : C.length ≤ 6) (hcl : ∀ c ∈ C, IsClu n c) : KeepsX Try.prog 56 (pzR n C) 0 (goOn newN n n []) (allFit C) where
  call := ⟨_, Try.func56, by rfl, by rfl⟩
  bears := bears_read (by
    show readL [.rp [.i n, .ro false 3 (cls C) C.length]] = true
    simp [readL, readV, readL_plain (cls_plain C)])
  norefs := fun _ => rfl
  nokill := fun _ => rfl
  spec := fun M hM => by
    obtain ⟨k1, k2, _⟩ := allN_mem h1 h5 hM
    exact solve3_spec n C M hC k1 k2 hcl
/-- All solutions, asx the code finds them. -/
theorem findAll_spec (n : Nat) (C : List Clu) (h1 : 1 ≤ n) (h5 : n ≤ 5) (hC : C.length ≤ 6) (hcl : ∀ c ∈ C, IsClu n c) :
    SpH Try.prog 58 [.i n, .fn 54 [] 0, .fn 56 (pzR n C) 0] (fun _ => none) (.sl nbase 1 0 (sol n C).length) (matO (sol n C)) := by
  have hl := allN_len h5
  exact fittingWhere_spec (leftAsks n (by omega)) _ rfl (allKeeps n C h1 h5 hC hcl) (by omega) h1 (by omega) fun x hx => (allN_mem h1 h5 hx).2
theorem findAll_throws (n : Nat) (C : List Clu) (h1 : 1 ≤ n) (h5 : n ≤ 5) (hC : C.length ≤ 6) (hbad : ∃ c ∈ C, ¬ IsClu n c) :
    SpP Try.prog 58 [.i n, .fn 54 [] 0, .fn 56 (pzR n C) 0] NoV := by
  have h0 := allN_pos n (by omega)
  have hm : (goOn newN n n []).getD 0 [] ∈ goOn newN n n [] := by
    rw [List.getD_eq_getElem?_getD, List.getElem?_eq_getElem h0]
    exact List.getElem_mem h0
  obtain ⟨k1, k2, _⟩ := allN_mem h1 h5 hm
  exact fittingWhere_throws (leftAsks n (by omega)) _ rfl h0 (by omega) h1 (by omega) ⟨_, Try.func56, by rfl, by rfl⟩ (bears_read (by
    show readL [.rp [.i n, .ro false 3 (cls C) C.length]] = true
    simp [readL, readV, readL_plain (cls_plain C)])) (fun _ => rfl) (fun _ => rfl) (solve3_throws n C _ hC k1 k2 hbad)
end Go.Proofs.Yteiipnadhalnbaa
namespace Go.Proofs.Yteiipnadhalnbaa
open Go.Am
attribute [local irreducible] AW Outs Weak Lends Lend Sp aops atree aop1 Then Round InBlock Done
attribute [local irreducible] SpM DoneM DoneH SpP
abbrev Sv0 (n : Int) (C : List Clu) : AS := st [(1, .pt 1 0), (2, .pt 2 0), (3, .pt 3 0)] [(1, (true, [.i n, .ro false 3 (cls C) C.length])), (2, (false, [.v (.slice none 0 0)])), (3, (true, [.v (.bool false)]))]
abbrev Sv1 (n : Int) (C : List Clu) : AS := st [(1, .rp [.i n, .ro false 3 (cls C) C.length]), (2, .pt pbase 0), (3, .pt (pbase + 1) 0)] (hpD (.v (.slice none 0 0)) (.v (.bool false)))
set_option maxRecDepth 8000 in
theorem solve_code : ∃ A B o0 o1 i3 i4 p4 i5 p5 i6 p6, Try.f43.body = some (.seq A (.seq B (.seq (.region i3 #[o0, o1] false) (.seq (.region i4 p4 false) (.seq (.region i5 p5 false) (.seq (.region i6 p6 false) .ret)))))) ∧
    ccode Try.prog (min Try.f43.ntmps pbase) A = some (sqa ac43) ∧ ccode Try.prog (min Try.f43.ntmps pbase) B = some (sqa (sqb ac43)) ∧
    (o0.op = .makeFunc (.func 53) #[] #[.tmp 2, .tmp 3] ∧ o0.guard = none ∧ o0.dst = some 20 ∧ o1.op = .defer { callee := .value (.tmp 20), args := #[], argTypes := #[] } ∧ o1.guard = none ∧ o1.dst = none) ∧
    ccode Try.prog (min Try.f43.ntmps pbase) (.region i4 p4 false) = some (sqa (sqb (sqb (sqb ac43)))) ∧
    ccode Try.prog (min Try.f43.ntmps pbase) (.region i5 p5 false) = some (sqa (sqb (sqb (sqb (sqb ac43))))) ∧
    ccode Try.prog (min Try.f43.ntmps pbase) (.region i6 p6 false) = some (sqa (sqb (sqb (sqb (sqb (sqb ac43)))))) :=
  ⟨_, _, _, _, _, _, _, _, _, _, _, rfl, by kernel_rfl, by kernel_rfl, ⟨rfl, rfl, rfl, rfl, rfl, rfl⟩, by kernel_rfl, by kernel_rfl, by kernel_rfl⟩
/-- The first part: variables are made. -/
theorem solve_A (g : Int) (C : List Clu) : AW Try.prog (min Try.f43.ntmps pbase) (sqa ac43) (enterH [pzl g C] (fun _ => none)) (fun e s' => e = .normal ∧ Weak s' (Sv0 g C)) := by
  simp only [sqa, ac43]
  refine AW_ops ?_
  refine step_ops ?_
  refine m_box (l := [.i g, .ro false 3 (cls C) C.length]) rfl rfl ?_
  refine step_ops ?_
  refine m_allocd ?_
  refine step_ops ?_
  refine m_alloc ?_
  refine end_ops ⟨rfl, ?_⟩
  refine weak_st ?_ ?_ rfl rfl
  · (repeat' (first | exact trivial | refine And.intro ?_ ?_)) <;> (first | rfl | skip)
  · (repeat' (first | exact trivial | refine And.intro ?_ ?_)) <;> (first | rfl | skip)
theorem solve_B (n : Nat) (C : List Clu) (h1 : 1 ≤ n) (h5 : n ≤ 5) (hC : C.length ≤ 6) : AW Try.prog (min Try.f43.ntmps pbase) (sqa (sqb ac43)) (Sv0 n C) (fun e s' => e = .normal ∧ Weak s' (Sv0 n C)) := by
  simp only [sqa, sqb, ac43]
  repeat (first | (refine step_ops ?_; ((try (refine g_yes rfl ?_ ?_; (· first | rfl | assumption | (refine decide_eq_true ?_; first | assumption | omega) | (refine nt ?_; first | assumption | omega) | (simp [*]; done) | (refine decide_eq_false ?_; first | assumption | omega) | (refine nf ?_; first | assumption | omega)))); (first | (refine m_mov (by conv => lhs; whnf) ?_) | (refine m_lss rfl rfl ?_) | (refine m_gtr rfl rfl ?_) | (refine m_len_ro rfl ?_) | (apply m_ld_pt; (· rfl); (· rfl); (· rfl)) | (refine m_pick_f rfl ?_ (by conv => lhs; whnf) ?_; (· first | rfl | assumption | (refine decide_eq_false ?_; first | assumption | omega) | (refine nf ?_; first | assumption | omega) | (simp [*]; done))) | (refine m_fa rfl ?_)))) | refine end_ops ?_ | refine seq_ops ?_ | (refine cond_f rfl ?_ ?_; (· first | rfl | assumption | (refine decide_eq_false ?_; first | assumption | omega) | (refine nf ?_; first | assumption | omega) | (simp [*]; done))) | refine AW_skip ?_)
  refine ⟨rfl, ?_⟩
  refine weak_st ?_ ?_ rfl rfl
  · (repeat' (first | exact trivial | refine And.intro ?_ ?_)) <;> (first | rfl | skip)
  · (repeat' (first | exact trivial | refine And.intro ?_ ?_)) <;> (first | rfl | skip)
/-- What stands where the door is left with all solutions. -/
def EndY (R : List (List Int)) : Exit → AS → Prop := fun e s => e = .ret ∧ s.tm 2 = .pt pbase 0 ∧ s.tm 3 = .pt (pbase + 1) 0 ∧ s.hp pbase = some (false, [.sl 900 1 0 R.length]) ∧ s.hp (pbase + 1) = some (true, [.b true]) ∧ s.hp 900 = some (false, rowsC 1000 R) ∧ ∀ j, j < R.length → s.hp (1000 + j) = some (true, (R.getD j []).map AV.i)
def EndN : Exit → AS → Prop := fun e s => (∃ v, e = pan v ∧ NoV v) ∧ s.tm 2 = .pt pbase 0 ∧ s.tm 3 = .pt (pbase + 1) 0 ∧ s.hp pbase = some (false, [.v (.slice none 0 0)]) ∧ s.hp (pbase + 1) = some (true, [.b false])
theorem solve_yes (n : Nat) (C : List Clu) (h1 : 1 ≤ n) (h5 : n ≤ 5) (hC : C.length ≤ 6) (hcl : ∀ c ∈ C, IsClu n c) {D : List Deferred} {i4 i5 i6 : Nat} {p4 p5 p6 : Array Oper}
    (c4 : ccode Try.prog (min Try.f43.ntmps pbase) (.region i4 p4 false) = some (sqa (sqb (sqb (sqb ac43))))) (c5 : ccode Try.prog (min Try.f43.ntmps pbase) (.region i5 p5 false) = some (sqa (sqb (sqb (sqb (sqb ac43))))))
    (c6 : ccode Try.prog (min Try.f43.ntmps pbase) (.region i6 p6 false) = some (sqa (sqb (sqb (sqb (sqb (sqb ac43))))))) :
    CWD Try.prog (min Try.f43.ntmps pbase) D (.seq (.region i4 p4 false) (.seq (.region i5 p5 false) (.seq (.region i6 p6 false) .ret))) (Sv1 n C) (EndY (sol n C)) := by
  have hpb : pbase = 4000000 := rfl
  have hfa := findAll_spec n C h1 h5 hC hcl
  have hRl := sol_len (n := n) (C := C) h5
  simp only [sqa, sqb, ac43] at c4 c5 c6
  generalize sol n C = R at *
  have hrl := rowsC_len 1000 R
  refine CWD_seq (CWD_ops c4 ?_)
  repeat (first | (refine step_ops ?_; (refine m_mov (by conv => lhs; whnf) ?_)) | refine end_ops ?_ | refine norm_then ?_)
  refine CWD_seq (CWD_ops c5 ?_)
  repeat (first | (refine step_ops ?_; (first | (refine m_mov (by conv => lhs; whnf) ?_) | (refine m_mkf ?_))) | refine end_ops ?_ | refine norm_then ?_)
  refine CWD_seq (CWD_ops c6 ?_)
  repeat (refine step_ops ?_; (first | (refine m_mov (by conv => lhs; whnf) ?_) | (apply m_ld_rp; (· rfl); (· rfl)) | (refine m_fa_rp rfl ?_)))
  refine step_ops ?_
  refine m_callM 900 1000 hfa ?_ rfl (by omega) (by omega) (by omega) rfl ?_ ?_
  · refine lends_cons lend_v (lends_cons lend_fnc (lends_cons (lend_fn ?_) lends_nil))
    exact lends_self (bears_read (by
      show readL [.rp [.i n, .ro false 3 (cls C) C.length]] = true
      simp [readL, readV, readL_plain (cls_plain C)])) _
  · intro j hj
    simp (disch := omega) only [hp_put, hp_mem_ne, hp_kill_ne]
    exact look2_none (by omega) (by omega)
  refine step_ops ?_
  refine m_st (r := pbase) (off := 0) (fl := false) (cs := [.v (.slice none 0 0)]) rfl (by rfl) rfl (by decide) rfl ?_
  refine step_ops ?_
  refine m_st (r := pbase + 1) (off := 0) (fl := true) (cs := [.v (.bool false)]) rfl (by rfl) rfl (by decide) rfl ?_
  refine end_ops ?_
  simp only [Then]
  refine CWD_ret ?_
  refine ⟨rfl, rfl, rfl, rfl, rfl, rfl, fun j hj => ?_⟩
  simp (disch := omega) only [hp_put, hp_mem_ne]
  refine addM_row (by omega) ?_ hj
  simp (disch := omega) only [hp_put, hp_mem_ne]
  exact look2_none (by omega) (by omega)
theorem solve_no (n : Nat) (C : List Clu) (h1 : 1 ≤ n) (h5 : n ≤ 5) (hC : C.length ≤ 6) (hbad : ∃ c ∈ C, ¬ IsClu n c) {D : List Deferred} {i4 i5 i6 : Nat} {p4 p5 p6 : Array Oper}
    (c4 : ccode Try.prog (min Try.f43.ntmps pbase) (.region i4 p4 false) = some (sqa (sqb (sqb (sqb ac43))))) (c5 : ccode Try.prog (min Try.f43.ntmps pbase) (.region i5 p5 false) = some (sqa (sqb (sqb (sqb (sqb ac43))))))
    (c6 : ccode Try.prog (min Try.f43.ntmps pbase) (.region i6 p6 false) = some (sqa (sqb (sqb (sqb (sqb (sqb ac43))))))) :
    CWD Try.prog (min Try.f43.ntmps pbase) D (.seq (.region i4 p4 false) (.seq (.region i5 p5 false) (.seq (.region i6 p6 false) .ret))) (Sv1 n C) EndN := by
  have hpb : pbase = 4000000 := rfl
  have hfa := findAll_throws n C h1 h5 hC hbad
  simp only [sqa, sqb, ac43] at c4 c5 c6
  refine CWD_seq (CWD_ops c4 ?_)
  repeat (first | (refine step_ops ?_; (refine m_mov (by conv => lhs; whnf) ?_)) | refine end_ops ?_ | refine norm_then ?_)
  refine CWD_seq (CWD_ops c5 ?_)
  repeat (first | (refine step_ops ?_; (first | (refine m_mov (by conv => lhs; whnf) ?_) | (refine m_mkf ?_))) | refine end_ops ?_ | refine norm_then ?_)
  refine CWD_seq (CWD_panic 4 (ok := NoV) c6 ?_)
  simp only [List.take_succ_cons, List.take_zero]
  repeat (first | (refine step_ops ?_; (first | (refine m_mov (by conv => lhs; whnf) ?_) | (apply m_ld_rp; (· rfl); (· rfl)) | (refine m_fa_rp rfl ?_))) | refine end_ops ?_)
  refine ⟨_, rfl, ⟨rfl, .inl ⟨_, _, _, rfl, hfa, ?_⟩⟩, fun v hv => ?_⟩
  · refine lends_cons lend_v (lends_cons lend_fnc (lends_cons (lend_fn ?_) lends_nil))
    exact lends_self (bears_read (by
      show readL [.rp [.i n, .ro false 3 (cls C) C.length]] = true
      simp [readL, readV, readL_plain (cls_plain C)])) _
  · simp only [Then]
    exact ⟨⟨v, rfl, hv⟩, rfl, rfl, rfl, rfl⟩
/-- Where there are no such numbers of guests or clues. -/
theorem solve_G (g : Int) (C : List Clu) (h : ¬ (PzN g ∧ C.length ≤ 6)) : AW Try.prog (min Try.f43.ntmps pbase) (sqa (sqb ac43)) (Sv0 g C) (fun e s' => e = .ret ∧ s'.tm 2 = .pt 2 0 ∧ s'.tm 3 = .pt 3 0 ∧ s'.hp 2 = some (false, [.v (.slice none 0 0)]) ∧ s'.hp 3 = some (true, [.v (.bool false)])) := by
  simp only [sqa, sqb, ac43]
  by_cases h1 : g < 1
  · repeat (first | (refine step_ops ?_; (first | (first | (refine m_mov (by conv => lhs; whnf) ?_) | (refine m_lss rfl rfl ?_) | (apply m_ld_pt; (· rfl); (· rfl); (· rfl)) | (apply m_st; (· rfl); (· rfl); (· rfl); (· first | omega | (simp; done) | (simp; omega)); (· rfl)) | (refine m_pick_t rfl ?_ (by conv => lhs; whnf) ?_; (· first | rfl | assumption | (refine decide_eq_true ?_; first | assumption | omega) | (refine nt ?_; first | assumption | omega) | (simp [*]; done))) | (refine m_fa rfl ?_)) | (refine g_noF rfl ?_ ?_; (· first | rfl | assumption | (refine decide_eq_true ?_; first | assumption | omega) | (refine nt ?_; first | assumption | omega) | (simp [*]; done))))) | refine end_ops ?_ | refine seq_ops ?_ | (refine cond_t rfl ?_ ?_; (· first | rfl | assumption | (refine decide_eq_true ?_; first | assumption | omega) | (refine nt ?_; first | assumption | omega) | (simp [*]; done))) | refine AW_ret ?_)
    exact ⟨rfl, rfl, rfl, rfl, rfl⟩
  by_cases h5 : g > 5
  · repeat (first | (refine step_ops ?_; (first | ((try (refine g_yes rfl ?_ ?_; (· first | rfl | assumption | (refine decide_eq_true ?_; first | assumption | omega) | (refine nt ?_; first | assumption | omega) | (simp [*]; done) | (refine decide_eq_false ?_; first | assumption | omega) | (refine nf ?_; first | assumption | omega)))); (first | (refine m_mov (by conv => lhs; whnf) ?_) | (refine m_lss rfl rfl ?_) | (refine m_gtr rfl rfl ?_) | (apply m_ld_pt; (· rfl); (· rfl); (· rfl)) | (apply m_st; (· rfl); (· rfl); (· rfl); (· first | omega | (simp; done) | (simp; omega)); (· rfl)) | (refine m_pick_t rfl ?_ (by conv => lhs; whnf) ?_; (· first | rfl | assumption | (refine decide_eq_true ?_; first | assumption | omega) | (refine nt ?_; first | assumption | omega) | (simp [*]; done))) | (refine m_pick_f rfl ?_ (by conv => lhs; whnf) ?_; (· first | rfl | assumption | (refine decide_eq_false ?_; first | assumption | omega) | (refine nf ?_; first | assumption | omega) | (simp [*]; done))) | (refine m_fa rfl ?_))) | (refine g_noF rfl ?_ ?_; (· first | rfl | assumption | (refine decide_eq_true ?_; first | assumption | omega) | (refine nt ?_; first | assumption | omega) | (simp [*]; done))))) | refine end_ops ?_ | refine seq_ops ?_ | (refine cond_t rfl ?_ ?_; (· first | rfl | assumption | (refine decide_eq_true ?_; first | assumption | omega) | (refine nt ?_; first | assumption | omega) | (simp [*]; done))) | refine AW_ret ?_)
    exact ⟨rfl, rfl, rfl, rfl, rfl⟩
  have h6 : 6 < C.length := by
    apply Classical.byContradiction
    intro h6
    exact h ⟨⟨by omega, by omega⟩, by omega⟩
  repeat (first | (refine step_ops ?_; ((try (refine g_yes rfl ?_ ?_; (· first | rfl | assumption | (refine decide_eq_true ?_; first | assumption | omega) | (refine nt ?_; first | assumption | omega) | (simp [*]; done) | (refine decide_eq_false ?_; first | assumption | omega) | (refine nf ?_; first | assumption | omega)))); (first | (refine m_mov (by conv => lhs; whnf) ?_) | (refine m_lss rfl rfl ?_) | (refine m_gtr rfl rfl ?_) | (refine m_len_ro rfl ?_) | (apply m_ld_pt; (· rfl); (· rfl); (· rfl)) | (apply m_st; (· rfl); (· rfl); (· rfl); (· first | omega | (simp; done) | (simp; omega)); (· rfl)) | (refine m_pick_f rfl ?_ (by conv => lhs; whnf) ?_; (· first | rfl | assumption | (refine decide_eq_false ?_; first | assumption | omega) | (refine nf ?_; first | assumption | omega) | (simp [*]; done))) | (refine m_fa rfl ?_)))) | refine end_ops ?_ | refine seq_ops ?_ | (refine cond_t rfl ?_ ?_; (· first | rfl | assumption | (refine decide_eq_true ?_; first | assumption | omega) | (refine nt ?_; first | assumption | omega) | (simp [*]; done))) | refine AW_ret ?_)
  exact ⟨rfl, rfl, rfl, rfl, rfl⟩
end Go.Proofs.Yteiipnadhalnbaa
namespace Go.Am
/-- What is owed where a call ends with nothing. -/
theorem nil_post {w w' : World} {phi : Nat → Option Nat} (hm : More w w') : ∃ v phi', Ending.returned (.tuple #[.slice none 0 0, .bool false]) = .returned v ∧ w'.os = w.os ∧ w'.tape = w.tape ∧ w'.output = w.output ∧ w.heap.size ≤ w'.heap.size ∧
      (∀ r, ((fun _ => none : Hp) r).isSome = true → phi' r = phi r) ∧ (∀ b, b < w.heap.size → (∀ r, ((fun _ => none : Hp) r).isSome = true → phi r ≠ some b) → w'.heap[b]? = w.heap[b]?) ∧
      (∀ (b : Nat) (cur : Array Value) (e : TypeId) (f : Nat × Nat), w.heap[b]? = some (.cells cur e f) → ∃ cur' : Array Value, w'.heap[b]? = some (.cells cur' e f) ∧ cur'.size = cur.size) ∧
      Inj (matO []) phi' ∧ (∀ r b, (matO [] r).isSome = true → (fun _ => none : Hp) r = none → phi' r = some b → w.heap.size ≤ b) ∧ Regs (ctxX w w' phi' (matO [])) (matO []) ∧ SimV (.tup [.sl nbase 1 0 ([] : List (List Int)).length, .b false]) (ctxX w w' phi' (matO [])) v := by
  refine ⟨_, fun _ => none, rfl, hm.os, hm.tape, hm.output, hm.size, fun r h => by simp at h, fun b hb _ => hm.block b hb, fun b cur e f hc => ⟨cur, (hm.block b (lt_of_get hc)).trans hc, rfl⟩, fun r r' b _ _ h => by simp at h, fun r b _ _ h => by simp at h, fun r c hc => ?_, ?_⟩
  · rcases matH_some hc with ⟨_, rfl⟩ | ⟨j, hj, _⟩
    · exact .inl ⟨rfl, rfl⟩
    · simp at hj
  · simp only [SimV]
    refine ⟨_, rfl, rfl, ?_⟩
    simp [SimL, SimV, ctxX, matO, matH_outer]
theorem run_cell_at {P : Program} {t : TypeId} {d : TypeDesc} {w : World} {p : Addr} {y : Value} (ht : P.underlying t = some d) (hd : ∀ fs, d ≠ .struct fs) (hd' : ∀ n e, d ≠ .array n e) (hcell : w.cell? p = some y) : (loadVar t p).run P w = .ok y w := by
  have hag : (isAgg t).run P w = .ok false w := by
    unfold isAgg
    rw [Sem.run_bind, run_underlying ht]
    cases d <;> simp_all
  simp [loadVar, hag, hcell]
theorem res_cell_at {P : Program} {t : TypeId} {w : World} {p : Addr} {y : Value} {tm : Array Value} {a : Nat} (ht : shapeT P t = some none) (ha : tm.getD a undef = .pointer (some p)) (hcell : w.cell? p = some y) : (resOne tm (.cell a t)).run P w = .ok y w := by
  obtain ⟨d, hd, hd1, hd2⟩ := shapeT_none ht
  simp only [resOne, ha, asAddr]
  exact run_cell_at hd hd1 hd2 hcell
/-- A caller's variable with one plain value: its block. -/
theorem door_cells {w w' : World} {mu : Nat → Option Nat} {N : Nat} {s : AS} {tm : Array Value} {phi : Nat → Option Nat} {ro : Nat → Prop} (hS : Sim w mu N s tm w' phi ro) {r b x : Nat} {fl : Bool} {v : Value} (hr : pbase ≤ r) (hmu : mu r = some b) (ht : s.tm x = .pt r 0) (hg : s.hp r = some (fl, [.v v])) :
    tm.getD x undef = .pointer (some ⟨b, 0, none⟩) ∧ ∃ cur e, w'.heap[b]? = some (.cells cur e (0, 0)) ∧ 0 < cur.size := by
  have hv := hS.tms x
  rw [ht] at hv
  simp only [SimV] at hv
  obtain ⟨_, _, b', p1, p2, cur0, e0, p3⟩ := hv
  have p1' : phi r = some b' := p1
  rcases hS.liv r _ hg with ⟨_, h2, _⟩ | ⟨b2, cur, e, h1, h2, _, h4, h5⟩ | ⟨b2, o, h1, _⟩
  · cases h2
  · rcases h4 with h4 | h4
    · omega
    · have e1 : b2 = b := by have := h4.2; rw [hmu] at this; cases this; rfl
      subst e1
      rw [h1] at p1'
      cases p1'
      refine ⟨p2, cur, e, h2, ?_⟩
      have hl : 0 < cur.toList.length := by
        cases hc : cur.toList with
        | nil => rw [hc] at h5; simp [SimR, SimL] at h5
        | cons y ys => simp
      simpa using hl
  · cases h1
end Go.Am
namespace Go.Proofs.Yteiipnadhalnbaa
open Go.Am
theorem solve_results : Try.f43.results = #[.cell 2 66, .cell 3 4] := rfl
theorem shape_mat : shapeT Try.prog 66 = some none := by kernel_rfl
theorem shape_bool : shapeT Try.prog 4 = some none := by kernel_rfl
theorem door_invoke (w : World) (p q : Value) : (invoke (.fn (.func 53) #[p, q]) #[]).run Try.prog w = .ok (.enter 53 #[p, q]) w := by
  have h1 : ¬ Try.f53.name = "runtime.NumGoroutine" := by decide
  have h2 : Try.f53.body ≠ none := by intro e; cases e
  simp [invoke, callFunc, Try.func53, h1, h2]
set_option maxHeartbeats 400000 in
theorem solve_spec (g : Int) (C : List Clu) : SpH Try.prog 43 [pzl g C] (fun _ => none) (.tup [.sl nbase 1 0 (solS g C).length, .b (decide (IsPz g C))]) (matO (solS g C)) := by
  have hpb : pbase = 4000000 := rfl
  unfold SpH
  intro w vs phi hg hgb hinj hregs hs hl
  obtain ⟨A, B, o0, o1, i3, i4, p4, i5, p5, i6, p6, hb, hA, hB, ⟨k0, k0g, k0d, k1, k1g, k1d⟩, c4, c5, c6⟩ := solve_code
  have hsim := enterH_sim (n := Try.f43.ntmps) hg hgb (fun r h => by simp at h) hinj hregs hs hl
  have hS0 : Simw w (fun r => if ((fun _ => none : Hp) r).isSome = true then phi r else none) (min Try.f43.ntmps pbase) (enterH [pzl g C] (fun _ => none)) { tmps := vs ++ Array.replicate (Try.f43.ntmps - vs.size) undef, defers := [] } w := ⟨rfl, _, _, hsim⟩
  have hmu : ∀ r, (fun r => if ((fun _ => none : Hp) r).isSome = true then phi r else none) r = none := fun r => by simp
  generalize (fun r => if ((fun _ => none : Hp) r).isSome = true then phi r else none) = mu at hS0 hmu
  refine calls_of_wp_defers Try.func43 hb ?_
  refine wp_seq (wp_mono (AW.toC (solve_A g C) hA w mu _ w hS0) fun e a1 w1 hA1 => ?_)
  obtain ⟨s1, ⟨rfl, hwk1⟩, hS1⟩ := hA1
  have hS1 := hwk1 _ _ _ _ _ hS1
  by_cases hok : PzN g ∧ C.length ≤ 6
  · obtain ⟨hpn, hC⟩ := hok
    obtain ⟨n, rfl⟩ := Int.eq_ofNat_of_zero_le (show 0 ≤ g by have := hpn.1; omega)
    have h1 : 1 ≤ n := by have := hpn.1; omega
    have h5 : n ≤ 5 := by have := hpn.2; omega
    refine wp_seq (wp_mono (AW.toC (solve_B n C h1 h5 hC) hB w mu a1 w1 hS1) fun e a2 w2 hA2 => ?_)
    obtain ⟨s2, ⟨rfl, hwk2⟩, hS2⟩ := hA2
    have hS2 := hwk2 _ _ _ _ _ hS2
    refine wp_seq (wp_defer k0 k0g k0d k1 k1g k1d hS2 (by decide) (by decide) (by decide) rfl fun a3 hS3 e2 e3 => ?_)
    obtain ⟨b, c, hb2, hc2, hne, hwb, hwc, hm, hS4⟩ := door_enter (x := 1) (y := 2) (z := 3) (r1 := 1) (r2 := 2) (r3 := 3) hmu hS3 rfl rfl rfl rfl rfl rfl (by simp [readL, readV, readL_plain (cls_plain C)]) (by decide) (by decide) (by decide) (by decide) (by decide) (by decide)
    rw [← e2, ← e3, hb2, hc2]
    have hmuD : ∀ r b', muD b c r = some b' → r < gvb := by
      intro r b' hr
      unfold muD at hr
      split at hr
      · subst_vars; decide
      · split at hr
        · subst_vars; decide
        · cases hr
    have hmuE : ∀ b', b' < w.heap.size → ∀ r, muD b c r ≠ some b' := by
      intro b' hb' r hr
      unfold muD at hr
      split at hr
      · cases hr; omega
      · split at hr
        · cases hr; omega
        · cases hr
    by_cases hcl : ∀ x ∈ C, IsClu n x
    · have hz : IsPz n C := ⟨hpn, hC, hcl⟩
      have hst : Static (fun _ => none) (.tup [.sl nbase 1 0 (solS n C).length, .b (decide (IsPz n C))]) (matO (solS n C)) := static_mat2 _ _
      have e0 : solS n C = sol n C := by unfold solS; rw [if_pos hz, Int.toNat_natCast]
      rw [e0, decide_eq_true hz] at hst ⊢
      have hRl := sol_len (n := n) (C := C) h5
      refine wp_mono (solve_yes n C h1 h5 hC hcl (D := [doorD 53 (.pointer (some ⟨b, 0, none⟩)) (.pointer (some ⟨c, 0, none⟩))]) c4 c5 c6 w2 (muD b c) a3 w2 hS4) fun e a5 w5 hA5 => ?_
      generalize sol n C = R at *
      obtain ⟨a0, rfl, s5, ⟨rfl, t2, t3, g2, g3, g4, g5⟩, hf5, phi5, ro5, hS5⟩ := hA5
      show Leaves _ _ a0.tmps _ (a0.defers ++ _) .returning w5
      rw [hf5, List.nil_append]
      refine leaves_cons (by simp) (door_invoke w5 _ _) ?_
      refine (door_idle _ _ w5).mono ?_
      rintro e u' w6 ⟨rfl, rfl, hm6⟩
      have hS6 := hS5.more_same hm6
      obtain ⟨y1, q1, q2⟩ := rv1_run hS6 shape_mat t2 g2 rfl
      obtain ⟨y2, q3, q4⟩ := rv1_run hS6 shape_bool t3 g3 rfl
      obtain ⟨f1, f2, f3, f4⟩ := finD w hS6 hst hmuD (gnm 900 1000) (fun r c hc => ⟨_, gnm_hp g4 g5 r c hc, .inl rfl⟩) (fun r hr => by
        obtain ⟨c, hc⟩ := Option.isSome_iff_exists.1 hr
        rcases matH_some hc with ⟨rfl, _⟩ | ⟨j, hj, rfl, _⟩
        · rw [gnm_outer]; decide
        · rw [gnm_row]; omega) (fun r r' h2 h3 e => gnm_inj (by decide) h2 h3 e)
      refine ⟨.tuple #[y1, y2], run_two solve_results q1 q3, .tuple #[y1, y2], fun r => phi5 (gnm 900 1000 r), rfl, (hS6.os.trans hm.os), hS6.tape.trans hm.tape, hS6.output.trans hm.output, Nat.le_trans hm.size hS6.size, fun r hr => by simp at hr, fun b' hb' _ => (hS6.kept b' (Nat.lt_of_lt_of_le hb' hm.size) (hmuE b' hb')).trans (hm.block b' hb'), ?_, f1, fun r b' hr _ hb' => Nat.le_trans hm.size (f2 r b' hr hb'), f3, f4 _ ?_⟩
      · intro b' cur e f hc
        exact hS6.shp b' cur e f ((hm.block b' (lt_of_get hc)).trans hc)
      · simp only [renV, renL, gnm_outer, SimV, SimL, and_true]
        exact ⟨_, rfl, rfl, by simpa [SimV] using q2, by simpa [SimV, SimL] using q4⟩
    · have hbad : ∃ x ∈ C, ¬ IsClu n x := by
        apply Classical.byContradiction
        intro hno
        exact hcl fun x hx => Classical.byContradiction fun hx2 => hno ⟨x, hx, hx2⟩
      have hz : ¬ IsPz n C := fun h => hcl h.2.2
      have e0 : solS n C = [] := by unfold solS; rw [if_neg hz]
      rw [e0, decide_eq_false hz]
      refine wp_mono (solve_no n C h1 h5 hC hbad (D := [doorD 53 (.pointer (some ⟨b, 0, none⟩)) (.pointer (some ⟨c, 0, none⟩))]) c4 c5 c6 w2 (muD b c) a3 w2 hS4) fun e a5 w5 hA5 => ?_
      obtain ⟨a0, rfl, s5, ⟨⟨v, rfl, ⟨⟨ck, ca, cb⟩, rfl⟩⟩, t2, t3, g2, g3⟩, hf5, phi5, ro5, hS5⟩ := hA5
      show Leaves _ _ a0.tmps _ (a0.defers ++ _) (.panicking _) w5
      rw [hf5, List.nil_append]
      refine leaves_cons (by simp) (door_invoke w5 _ _) ?_
      obtain ⟨x1, cur1, e1, x2, x3⟩ := door_cells hS5 (Nat.le_refl _) (show muD b c pbase = some b by simp [muD]) t2 g2
      obtain ⟨z1, cur2, e2', z2, z3⟩ := door_cells hS5 (Nat.le_succ _) (show muD b c (pbase + 1) = some c by simp [muD]) t3 g3
      refine (door_catches b c ck ca cb w5 cur1 cur2 e1 e2' x2 z2 x3 z3 hne).mono ?_
      rintro e u' w6 ⟨rfl, rfl, hca⟩
      refine ⟨_, run_two solve_results (res_cell_at shape_mat x1 hca.cellp) (res_cell_at shape_bool z1 hca.cellq), ?_⟩
      have hm6 : More w w6 := ⟨hca.os.trans (hS5.os.trans hm.os), hca.tape.trans (hS5.tape.trans hm.tape), hca.output.trans (hS5.output.trans hm.output), Nat.le_trans hm.size (Nat.le_trans hS5.size hca.size), fun b' hb' => by
        have hb2' : b' < w2.heap.size := Nat.lt_of_lt_of_le hb' hm.size
        rw [hca.block b' (Nat.lt_of_lt_of_le hb2' hS5.size) (by omega) (by omega), hS5.kept b' hb2' (hmuE b' hb')]
        exact hm.block b' hb'⟩
      exact nil_post hm6
  · have hz : ¬ IsPz g C := fun h => hok ⟨h.1, h.2.1⟩
    have e0 : solS g C = [] := by unfold solS; rw [if_neg hz]
    rw [e0, decide_eq_false hz]
    refine wp_seq (wp_mono (AW.toC (solve_G g C hok) hB w mu a1 w1 hS1) fun e a2 w2 hA2 => ?_)
    obtain ⟨s2, ⟨rfl, t2, t3, g2, g3⟩, hf2, phi2, ro2, hS2⟩ := hA2
    show Leaves _ _ a2.tmps _ a2.defers .returning w2
    rw [hf2]
    obtain ⟨y1, q1, q2⟩ := rv1_run hS2 shape_mat t2 g2 rfl
    obtain ⟨y2, q3, q4⟩ := rv1_run hS2 shape_bool t3 g3 rfl
    simp only [SimV] at q2 q4
    subst q2
    subst q4
    exact ⟨_, run_two solve_results q1 q3, nil_post ⟨hS2.os, hS2.tape, hS2.output, hS2.size, fun b hb => hS2.kept b hb fun r hr => by rw [hmu] at hr; cases hr⟩⟩
end Go.Proofs.Yteiipnadhalnbaa
namespace Go.Proofs.Yteiipnadhalnbaa
open Go.Am
attribute [local irreducible] AW Outs Weak Lends Lend Sp aops atree aop1 Then Round InBlock Done
attribute [local irreducible] SpM DoneM SpH DoneH SpG DoneT
def Hid (L : List Int) : Prop := IsEx L ∧ PzN L.length
instance (L : List Int) : Decidable (Hid L) := inferInstanceAs (Decidable (_ ∧ _))
def DoOk (c : Clu) (L : List Int) : Prop := Hid L ∧ IsClu L.length c
instance (c : Clu) (L : List Int) : Decidable (DoOk c L) := inferInstanceAs (Decidable (_ ∧ _))
end Go.Proofs.Yteiipnadhalnbaa
namespace Go.Proofs.Yteiipnadhalnbaa
open Go.Am
attribute [local irreducible] AW Outs Weak Lends Lend Sp aops atree aop1 Then Round InBlock Done
attribute [local irreducible] SpM DoneM SpH DoneH SpP
theorem solve_sp (g : Int) (C : List Clu) : Sp Try.prog 43 [pzl g C] (.tup [roF (solS g C), .b (decide (IsPz g C))]) := sp_mat2 (solve_spec g C)
theorem solS_pz {g : Int} {C : List Clu} {a : List Int} {R : List (List Int)} (h : solS g C = a :: R) : IsPz g C := by
  unfold solS at h
  split at h
  · assumption
  · cases h
theorem implIsSolved_spec (g : Int) (C : List Clu) : Sp Try.prog 32 [pzl g C] (.tup [.b (decide (IsPz g C ∧ ((solS g C).length : Int) = 1)), .b (decide (IsPz g C))]) := by
  have hs := solve_sp g C
  have e : decide (IsPz g C ∧ ((solS g C).length : Int) = 1) = decide (((solS g C).length : Int) = 1) := by
    refine decide_eq_decide.2 ⟨fun h => h.2, fun h => ⟨?_, h⟩⟩
    cases hr : solS g C with
    | nil => rw [hr] at h; simp at h
    | cons a R => exact solS_pz hr
  rw [e]
  generalize solS g C = R at *
  refine spec_of Try.func32 rfl cc32 rfl ?_
  unfold ac32
  repeat (first | (refine step_ops ?_; (first | (refine m_mov (by conv => lhs; whnf) ?_) | (refine m_box rfl ?_ ?_; (· first | rfl | (simp [cellOk, Value.oneCell']; done))) | (refine m_ldall rfl rfl ?_ ?_; (· first | rfl | (simp; done) | (simp [*]; done))))) | refine end_ops ?_ | refine seq_ops ?_)
  refine step_ops ?_
  refine m_call hs (lends_cons lend_pzl lends_nil) ?_
  repeat (first | (refine step_ops ?_; (first | (refine m_mov (by conv => lhs; whnf) ?_) | (refine m_eql rfl rfl ?_) | (refine m_len_ro rfl ?_) | (refine m_ext rfl rfl ?_))) | refine end_ops ?_ | refine seq_ops ?_ | refine AW_ret ?_ | refine ret_done ?_)
  exact outs_tup2 (outs_b rfl) (outs_b rfl)
end Go.Proofs.Yteiipnadhalnbaa
namespace Go.Am
theorem m_callS {P : Program} {own : Bool} {s : AS} {K : AS → Prop} {d : Option Nat} {f : FuncId} {args : List Opd} {xs : List AV} {res : AV} (hs : SpR P f xs res) (ha : args.map s.ev = xs) (k : K (s.put d res)) : aop1 P own ⟨d, .call f args, none⟩ s K := by
  subst ha
  exact .inr (.inr (.inr (.inr (.inr ⟨res, hs, k⟩))))
end Go.Am
namespace Go.Am
theorem step_preO {P : Program} {s : AS} {o : AOper} {a d : Nat} {l : List Nat} {tr : ATree} {R : AS → Prop} (hd : o.d = some d) (hsee : o.sees = l) (ha : ∀ t ∈ l, killV a (s.tm t) = s.tm t)
    (h : aop1 P false o s fun s' => killV a (s'.tm d) = s'.tm d ∧ atree P tr s' R) : atree P (.pre o [a] tr) s R := by
  refine ⟨d, hd, fun r hr => ?_, aop1_mono (fun s' h => ⟨fun r hr => ?_, h.2⟩) h⟩
  · rw [List.mem_singleton] at hr; subst hr
    intro t ht; rw [hsee] at ht; exact ha t ht
  · rw [List.mem_singleton] at hr; subst hr; exact h.1
theorem all2 {p : Nat → Prop} {a b : Nat} (h1 : p a) (h2 : p b) : ∀ t ∈ [a, b], p t := by
  intro t ht
  simp only [List.mem_cons, List.not_mem_nil, or_false] at ht
  rcases ht with rfl | rfl
  · exact h1
  · exact h2
theorem all1 {p : Nat → Prop} {a : Nat} (h1 : p a) : ∀ t ∈ [a], p t := by
  intro t ht
  rw [List.mem_singleton] at ht
  subst ht
  exact h1
end Go.Am
namespace Go.Proofs.Yteiipnadhalnbaa
open Go.Am
attribute [local irreducible] AW Outs Weak Lends Lend Sp aops atree aop1 Then Round InBlock Done
attribute [local irreducible] SpM DoneM SpH DoneH SpG DoneT
/-- The clues but the one at k. -/
def woC (C : List Clu) (k : Nat) : List Clu := C.take k ++ C.drop (k + 1)
theorem woC_len {C : List Clu} {k : Nat} (h : k < C.length) : (woC C k).length = C.length - 1 := by simp [woC]; omega
theorem pzWithout_spec (C : List Clu) (k : Nat) (h : k < C.length) (hC : C.length ≤ 6) : Sp Try.prog 31 [.ro false 3 (cls C) C.length, .i k] (.ro true 3 (cls (woC C k)) (woC C k).length) := by
  have hY : [] ++ ((cls C).drop (0 * 3)).take ((k - 0) * 3) ++ ((cls C).drop ((k + 1) * 3)).take ((C.length - (k + 1)) * 3) = cls (woC C k) := by
    rw [cls_drop, cls_take, cls_drop, cls_take, woC, cls_app, List.nil_append]
    congr 2
    rw [List.take_of_length_le (by simp)]
  have hn : 0 + (k - 0) + (C.length - (k + 1)) = (woC C k).length := by rw [woC_len h]; omega
  have hl1 : (((cls C).drop (0 * 3)).take ((k - 0) * 3)).length = (k - 0) * 3 := by simp [cls_len]; omega
  have hp1 : (((cls C).drop (0 * 3)).take ((k - 0) * 3)).all (cellOk true) = true := by
    rw [cls_drop, cls_take, List.all_eq_true]
    intro a ha
    obtain ⟨c, _, hm⟩ := List.mem_flatMap.1 ha
    simp [cC] at hm
    rcases hm with rfl | rfl | rfl <;> rfl
  have hp2 : (((cls C).drop ((k + 1) * 3)).take ((C.length - (k + 1)) * 3)).all (cellOk true) = true := by
    rw [cls_drop, cls_take, List.all_eq_true]
    intro a ha
    obtain ⟨c, _, hm⟩ := List.mem_flatMap.1 ha
    simp [cC] at hm
    rcases hm with rfl | rfl | rfl <;> rfl
  refine spec_of Try.func31 rfl cc31 rfl ?_
  unfold ac31
  repeat (first | (refine step_ops ?_; (refine m_nils ?_)) | refine end_ops ?_ | refine seq_ops ?_ | refine seq_tree ?_)
  refine tree_weak (st [(4, .sl 14 3 0 (woC C k).length)] [(14, (true, cls (woC C k)))]) ?_ ?_
  · refine step_preO rfl rfl (all1 rfl) ?_
    refine m_mov (by conv => lhs; whnf) ?_
    refine ⟨rfl, ?_⟩
    refine step_preO rfl rfl (all1 rfl) ?_
    refine m_mov (by conv => lhs; whnf) ?_
    refine ⟨rfl, ?_⟩
    refine step_preO rfl rfl (all2 rfl rfl) ?_
    refine m_cut_ro (l := 0) (h := k) rfl rfl ⟨_, rfl⟩ (Nat.zero_le _) (by omega) ?_
    refine ⟨rfl, ?_⟩
    repeat' (first
      | refine step_alt ?_ ?_
      | exact step_top
      | refine step_two ?_ ?_
      | (refine step_preO rfl rfl (all1 rfl) ?_; first
        | (refine m_mov (by conv => lhs; whnf) ?_; refine ⟨rfl, ?_⟩)
        | (refine m_add rfl rfl ?_ ?_ ?_; (· omega); (· omega); refine ⟨rfl, ?_⟩))
      | (refine step_preO rfl rfl (all2 rfl rfl) ?_; refine m_cut_ro (l := k + 1) (h := C.length) rfl ⟨_, rfl⟩ rfl (by omega) (Nat.le_refl _) ?_; refine ⟨rfl, ?_⟩)
      | (refine step_tree ?_; first
        | refine m_mov (by conv => lhs; whnf) ?_
        | (refine m_add rfl rfl ?_ ?_ ?_; (· omega); (· omega))
        | refine m_cut_ro (l := k + 1) (h := C.length) rfl ⟨_, rfl⟩ rfl (by omega) (Nat.le_refl _) ?_
        | refine m_bsl (fl := true) (out := []) rfl ?_
        | refine m_app (r := 5) (fl := true) (cs := []) (m := k - 0) rfl (by decide) rfl rfl (Elems.ro _ _ _) hp1 (by show 0 + (k - 0) ≤ 9223372036854775807; omega) (by omega) ?_
        | refine m_app (r := 9) (fl := true) (m := C.length - (k + 1)) rfl (by decide) rfl (by rw [List.nil_append, hl1]; omega) (Elems.ro _ _ _) hp2 (by show 0 + (k - 0) + (C.length - (k + 1)) ≤ 9223372036854775807; omega) (by omega) ?_)
      | (refine atree_end ?_; exact weak_st ⟨congrArg (fun n => AV.sl 14 3 0 n) hn, trivial⟩ ⟨congrArg (fun l => some (true, l)) hY, trivial⟩ rfl rfl))
  · intro s' hs'
    refine AW_weak hs' ?_
    repeat (first | refine AW_ret ?_ | refine ret_done ?_)
    exact outs_sl rfl (cls_len _) (cls_plain _)
end Go.Proofs.Yteiipnadhalnbaa
namespace Go.Am
variable {P : Program} {own : Bool} {N : Nat} {s : AS} {K : AS → Prop} {d : Option Nat}
abbrev roC (C : List Clu) : AV := .ro false 3 (cls C) C.length
abbrev roCs (Cs : List (List Clu)) : AV := .ro false 1 (Cs.map roC) Cs.length
section
variable {x y : Opd}
theorem m_capn_nilC (hx : s.ev x = .v (.slice none 0 0)) (k : K (s.put d (.i (0 : Nat)))) : aop1 P own ⟨d, .capn x, none⟩ s K := ⟨none, 0, 0, hx, k⟩
theorem m_cut_nilC (hx : s.ev x = .v (.slice none 0 0)) (hy : s.ev y = .i (0 : Nat)) (k : K (s.put d (.v (.slice none 0 0)))) : aop1 P own ⟨d, .cut 3 x none (some y), none⟩ s K :=
  ⟨0, 0, rfl, .inr (.inr ⟨hx, rfl, rfl, ⟨.i64, hy⟩, k⟩)⟩
theorem m_appzC {r m : Nat} {z : List Value} (hx : s.ev x = .v (.slice none 0 0)) (hy : s.ev y = .i (m : Nat)) (h0 : 0 < m) (h1 : m ≤ 1000) (k : K (((s.kill r).mem r (true, (List.replicate m (z.map AV.v)).flatten)).put (some r) (.sl r 3 0 m))) :
    aop1 P own ⟨some r, .appz 3 24 z x y, none⟩ s K := ⟨r, .i64, m, rfl, hx, hy, h0, by simp only [maxLen]; omega, by omega, k⟩
theorem m_bsl_twoC {r : Nat} {z : Value} {A B : List Clu} (hx : s.ev x = roC A) (hy : s.ev y = roC B)
    (k : K (((s.kill r).mem r (true, [roC A, roC B])).put (some r) (.sl r 1 0 2))) : aop1 P own ⟨some r, .bsl 1 2 [z] [(0, x), (1, y)], none⟩ s K :=
  m_bsl (fl := true) (out := [roC A, roC B]) (.inl ⟨rfl, by simp, by rw [hx]; rfl, .inl ⟨rfl, by simp, by rw [hy]; rfl, by rw [hx, hy]; rfl⟩⟩) k
theorem m_approC {q r n m bs : Nat} {fr : Bool} {cs ys : List AV} (hx : s.ev x = .sl r 3 0 n) (hp : r < pbase) (hr : s.hp r = some (true, cs)) (hl : cs.length = n * 3) (hy : s.ev y = .ro fr 3 ys m) (hok : ys.all (cellOk true) = true)
    (h1 : n + m ≤ 4194304) (h2 : bs ≤ 64) (k : K ((((s.kill r).kill q).mem q (true, cs ++ ys)).put (some q) (.sl q 3 0 (n + m)))) : aop1 P own ⟨some q, .app 3 bs x y, none⟩ s K := by
  refine m_app (fl := true) (ys := ys) (m := m) hx hp hr hl ?_ hok (by show n + m ≤ 9223372036854775807; omega) ?_ ?_
  · rw [hy]
    exact Elems.ro fr ys m
  · have := Nat.mul_le_mul (show n + m ≤ 4194304 by omega) h2
    omega
  · exact k
end
theorem cls_cells (C : List Clu) : (cls C).all (cellOk true) = true := by
  rw [List.all_eq_true]
  intro a ha
  obtain ⟨c, _, hm⟩ := List.mem_flatMap.1 ha
  simp [cC] at hm
  rcases hm with rfl | rfl | rfl <;> rfl
/-- A slice of lists of clues that nobody writes is lent. -/
theorem lend_flC {hp : Hp} {r n : Nat} {Cs : List (List Clu)} (hr : hp r = some (true, Cs.map roC)) (hn : n = Cs.length) : Lend hp (.sl r 1 0 n) (roCs Cs) := by
  subst hn
  intro w0 mu N tm w phi ro v hS h
  simp only [SimV] at h ⊢
  rcases h.2.2 with ⟨h1, _, h3, h4⟩ | ⟨b, o, cap, cur, e, h1, h2, h3, h4, h5, h6, h7⟩
  · have : Cs = [] := List.eq_nil_of_length_eq_zero h3
    subst this
    exact .inl ⟨rfl, rfl, none, 0, h4, by simp⟩
  · by_cases hn : Cs.length = 0
    · have : Cs = [] := List.eq_nil_of_length_eq_zero hn
      subst this
      exact .inl ⟨rfl, rfl, _, cap, h2, by simp⟩
    · have ho : o = 0 := by
        rcases h4 with h4 | h4
        · exact h4
        · exact absurd h4.1 hn
      subst ho
      rcases hS.liv r _ hr with ⟨h8, _⟩ | ⟨b', cur', e', h8, h9, h10, h11, h12⟩ | ⟨b', o', _, h8, h9, h10, _⟩
      · have : phi r = some b := h1
        rw [h8] at this; cases this
      case inr.inr => exact ob_not_cells h8 h9 h10 h1 h3
      · have h1' : phi r = some b := h1
        rw [h8] at h1'
        cases h1'
        have h3' : w.heap[b]? = some (.cells cur e (0, 0)) := h3
        rw [h9] at h3'
        cases h3'
        refine .inr ⟨b, 0, cap, cur, e, (0, 0), h2, h9, lt_of_get h9, by simp, h5, by simp, ?_⟩
        simp only [SimR, if_true] at h12
        refine SimL.of_get fun j x hj => ?_
        rw [List.getElem?_map, Option.map_eq_some_iff] at hj
        obtain ⟨l, hl, rfl⟩ := hj
        obtain ⟨y, k1, k2⟩ := h12.get (i := j) (a := roC l) (by rw [List.getElem?_map, hl]; rfl)
        refine ⟨y, by simpa using k1, ?_⟩
        simp only [SimV] at k2 ⊢
        rcases k2 with ⟨g1, g2, a', c', g3, _⟩ | ⟨b', o', cap', cur', e', fz', g1, g2, g3, g4, g5, _, g6⟩
        · exact .inl ⟨g1, g2, a', c', g3, by simp⟩
        · exact .inr ⟨b', o', cap', cur', e', fz', g1, g2, hS.rob b' g3, g4, g5, by simp, simL_allv (cls_plain l) g6⟩
end Go.Am
namespace Go.Proofs.Yteiipnadhalnbaa
open Go.Am
attribute [local irreducible] AW Outs Weak Lends Lend Sp aops atree aop1 Then Round InBlock Done
attribute [local irreducible] SpM DoneM SpH DoneH
theorem growC_zero : Sp Try.prog 60 [.v (.slice none 0 0), .i 0] (.ro true 3 [] 0) := by
  refine spec_of Try.func60 rfl cc60 rfl ?_
  unfold ac60
  repeat (first | (refine step_ops ?_; (first | (refine m_mov (by conv => lhs; whnf) ?_) | (refine m_lss rfl rfl ?_) | (refine m_nils ?_))) | refine end_ops ?_ | refine seq_ops ?_ | (refine cond_f rfl ?_ ?_; (· first | rfl | assumption | (refine decide_eq_false ?_; first | assumption | omega) | (refine nf ?_; first | assumption | omega) | (simp [*]; done))) | refine skip_then ?_ | refine AW_seq ?_)
  refine step_ops ?_
  refine m_capn_nilC rfl ?_
  repeat (first | (refine step_ops ?_; (first | (refine m_mov (by conv => lhs; whnf) ?_) | (refine m_gtr rfl rfl ?_) | (refine m_sub rfl rfl ?_ ?_ ?_; (· omega); (· omega)) | (refine m_len_nil rfl ?_))) | refine end_ops ?_ | refine seq_ops ?_ | (refine cond_f rfl ?_ ?_; (· first | rfl | assumption | (refine decide_eq_false ?_; first | assumption | omega) | (refine nf ?_; first | assumption | omega) | (simp [*]; done))) | refine skip_then ?_ | refine AW_ret ?_ | refine ret_done ?_)
  exact outs_nilro
theorem growC_spec (n : Nat) (h0 : 0 < n) (h1 : n ≤ 1000) : Sp Try.prog 60 [.v (.slice none 0 0), .i n] (.ro true 3 [] 0) := by
  refine spec_of Try.func60 rfl cc60 rfl ?_
  unfold ac60
  repeat (first | (refine step_ops ?_; (first | (refine m_mov (by conv => lhs; whnf) ?_) | (refine m_lss rfl rfl ?_) | (refine m_nils ?_))) | refine end_ops ?_ | refine seq_ops ?_ | (refine cond_f rfl ?_ ?_; (· first | rfl | assumption | (refine decide_eq_false ?_; first | assumption | omega) | (refine nf ?_; first | assumption | omega) | (simp [*]; done))) | refine skip_then ?_ | refine AW_seq ?_)
  refine step_ops ?_
  refine m_capn_nilC rfl ?_
  repeat (first | (refine step_ops ?_; (first | (refine m_mov (by conv => lhs; whnf) ?_) | (refine m_gtr rfl rfl ?_) | (refine m_sub rfl rfl ?_ ?_ ?_; (· omega); (· omega)) | (refine m_len_nil rfl ?_))) | refine end_ops ?_ | refine seq_ops ?_ | refine AW_ops ?_ | (refine cond_t rfl ?_ ?_; (· first | rfl | assumption | (refine decide_eq_true ?_; first | assumption | omega) | (refine nt ?_; first | assumption | omega) | (simp [*]; done))))
  rw [show (n : Int) - (((0 : Nat) : Int) - ((0 : Nat) : Int)) = (n : Int) by omega]
  skip
  refine step_ops ?_
  refine m_capn_nilC rfl ?_
  refine step_ops ?_
  refine m_cut_nilC rfl rfl ?_
  repeat (refine step_ops ?_; (refine m_mov (by conv => lhs; whnf) ?_))
  refine step_ops ?_
  refine m_appzC rfl rfl h0 h1 ?_
  repeat (refine step_ops ?_; (first | (refine m_mov (by conv => lhs; whnf) ?_) | (refine m_len_nil rfl ?_)))
  refine step_ops ?_
  refine m_cut_sl (l := 0) (h := 0) rfl rfl ⟨_, rfl⟩ (Nat.le_refl _) (Nat.zero_le _) ?_
  repeat (first | (refine step_ops ?_; (refine m_mov (by conv => lhs; whnf) ?_)) | refine end_ops ?_ | refine seq_ops ?_ | refine AW_ret ?_ | refine ret_done ?_ | refine norm_then ?_)
  refine outs_sl_take (n := 0) rfl (by simp) ?_
  refine List.all_eq_true.2 fun x hx => ?_
  rw [List.mem_flatten] at hx
  obtain ⟨l, hl, hx⟩ := hx
  rw [List.mem_replicate] at hl
  obtain ⟨_, rfl⟩ := hl
  simp at hx
  subst hx
  rfl
def catCN (A B : List Clu) : Nat → Int
  | 0 => 0
  | 1 => 0 + A.length
  | _ => 0 + A.length + B.length
def catCL (A B : List Clu) : Nat → List Clu
  | 0 => []
  | 1 => A
  | _ => A ++ B
theorem concatC_spec (A B : List Clu) (hA : A.length ≤ 400) (hB : B.length ≤ 400) : Sp Try.prog 46 [roCs [A, B]] (.ro true 3 (cls (A ++ B)) (A ++ B).length) := by
  have hgr : Sp Try.prog 60 [.v (.slice none 0 0), .i (A.length + B.length : Nat)] (.ro true 3 [] 0) := by
    rcases Nat.eq_zero_or_pos (A.length + B.length) with h | h
    · rw [h]
      exact growC_zero
    · exact growC_spec _ h (by omega)
  refine spec_of Try.func46 rfl cc46 rfl ?_
  unfold ac46
  repeat (first | (refine step_ops ?_; (first | (refine m_mov (by conv => lhs; whnf) ?_) | (refine m_len_ro rfl ?_) | (refine m_nils ?_))) | refine end_ops ?_ | refine seq_ops ?_ | refine AW_seq ?_ | refine AW_block ?_)
  refine AW_loop (α := Nat) (fun k => k ≤ 2) (fun k => st [(0, roCs [A, B]), (3, .i (catCN A B k)), (9, roCs [A, B]), (10, .i (2 : Nat)), (11, .i k)] []) (fun k => 2 - k) 0 (by omega) (weak_st ?_ ?_ rfl rfl) ?_
  · (repeat' (first | exact trivial | refine And.intro ?_ ?_)) <;> (first | rfl | skip)
  · trivial
  rintro k hk
  rcases k with _ | _ | _ | k
  · rw [show catCN A B 0 = 0 from rfl]
    repeat (first | (refine step_ops ?_; (refine m_lss rfl rfl ?_)) | refine end_ops ?_ | refine seq_ops ?_ | (refine cond_t rfl ?_ ?_; (· first | rfl | assumption | (refine decide_eq_true ?_; first | assumption | omega) | (refine nt ?_; first | assumption | omega) | (simp [*]; done))) | refine skip_then ?_ | refine AW_seq ?_ | refine AW_block ?_)
    refine step_ops ?_
    refine m_idx1_ro (j := 0) rfl rfl (show 0 < 2 by decide) ?_
    repeat (first | (refine step_ops ?_; (first | (refine m_mov (by conv => lhs; whnf) ?_) | (refine m_lss rfl rfl ?_) | (refine m_add rfl rfl ?_ ?_ ?_; (· omega); (· omega)) | (refine m_len_ro rfl ?_) | (apply m_ld_rp; (· rfl); (· rfl)))) | refine end_ops ?_ | refine seq_ops ?_ | refine AW_ops ?_ | (refine cond_f rfl ?_ ?_; (· first | rfl | assumption | (refine decide_eq_false ?_; first | assumption | omega) | (refine nf ?_; first | assumption | omega) | (simp [*]; done))) | refine norm_then ?_ | refine norm_block ?_ | refine AW_skip ?_)
    refine next_round 1 (by omega) (weak_st ?_ ?_ rfl rfl) ?_
    · (repeat' (first | exact trivial | refine And.intro ?_ ?_)) <;> (first | rfl | skip)
    · trivial
    · omega
  · rw [show catCN A B (0 + 1) = 0 + (A.length : Int) from rfl]
    repeat (first | (refine step_ops ?_; (refine m_lss rfl rfl ?_)) | refine end_ops ?_ | refine seq_ops ?_ | (refine cond_t rfl ?_ ?_; (· first | rfl | assumption | (refine decide_eq_true ?_; first | assumption | omega) | (refine nt ?_; first | assumption | omega) | (simp [*]; done))) | refine skip_then ?_ | refine AW_seq ?_ | refine AW_block ?_)
    refine step_ops ?_
    refine m_idx1_ro (j := 1) rfl rfl (show 1 < 2 by decide) ?_
    repeat (first | (refine step_ops ?_; (first | (refine m_mov (by conv => lhs; whnf) ?_) | (refine m_lss rfl rfl ?_) | (refine m_add rfl rfl ?_ ?_ ?_; (· omega); (· omega)) | (refine m_len_ro rfl ?_) | (apply m_ld_rp; (· rfl); (· rfl)))) | refine end_ops ?_ | refine seq_ops ?_ | refine AW_ops ?_ | (refine cond_f rfl ?_ ?_; (· first | rfl | assumption | (refine decide_eq_false ?_; first | assumption | omega) | (refine nf ?_; first | assumption | omega) | (simp [*]; done))) | refine norm_then ?_ | refine norm_block ?_ | refine AW_skip ?_)
    refine next_round 2 (by omega) (weak_st ?_ ?_ rfl rfl) ?_
    · (repeat' (first | exact trivial | refine And.intro ?_ ?_)) <;> (first | rfl | skip)
    · trivial
    · omega
  · repeat (first | (refine step_ops ?_; (first | (refine m_mov (by conv => lhs; whnf) ?_) | (refine m_lss rfl rfl ?_))) | refine end_ops ?_ | refine seq_ops ?_ | (refine cond_f rfl ?_ ?_; (· first | rfl | assumption | (refine decide_eq_false ?_; first | assumption | omega) | (refine nf ?_; first | assumption | omega) | (simp [*]; done))) | refine AW_seq ?_ | refine norm_then ?_ | refine exit_then ?_ | refine exit_round ?_ | refine AW_exit ?_ | refine exit_block ?_)
    rw [show catCN A B (0 + 1 + 1) = ((A.length + B.length : Nat) : Int) by show (0 : Int) + A.length + B.length = _; omega]
    skip
    (refine step_ops ?_); (apply m_callo (hgr)); (· repeat (first | exact lends_nil | (refine lends_cons ?_ ?_; (· exact lend_v)))); (· first | exact allv_ints _ | rfl | (simp; done))
    repeat (first | (refine step_ops ?_; (first | (refine m_mov (by conv => lhs; whnf) ?_) | (refine m_len_ro rfl ?_))) | refine end_ops ?_ | refine seq_ops ?_ | refine AW_seq ?_ | refine AW_block ?_)
    refine AW_loop (α := Nat) (fun k => k ≤ 2) (fun k => st [(0, roCs [A, B]), (25, roCs [A, B]), (26, .i (2 : Nat)), (27, .i k), (6, .sl 6 3 0 (catCL A B k).length)] [(6, (true, cls (catCL A B k)))]) (fun k => 2 - k) 0 (by omega) (Weak.trans (weak_move (r := 24) (q := 6) rfl (by decide) (by decide)) (weak_st ?_ ?_ rfl rfl)) ?_
    · (repeat' (first | exact trivial | refine And.intro ?_ ?_)) <;> (first | rfl | skip)
    · exact ⟨rfl, trivial⟩
    rintro k hk
    rcases k with _ | _ | _ | k
    · repeat (first | (refine step_ops ?_; (refine m_lss rfl rfl ?_)) | refine end_ops ?_ | refine seq_ops ?_ | (refine cond_t rfl ?_ ?_; (· first | rfl | assumption | (refine decide_eq_true ?_; first | assumption | omega) | (refine nt ?_; first | assumption | omega) | (simp [*]; done))) | refine skip_then ?_ | refine AW_seq ?_ | refine AW_block ?_)
      refine step_ops ?_
      refine m_idx1_ro (j := 0) rfl rfl (show 0 < 2 by decide) ?_
      repeat (first | (refine step_ops ?_; (first | (refine m_mov (by conv => lhs; whnf) ?_) | (apply m_ld_rp; (· rfl); (· rfl)))) | refine end_ops ?_ | refine AW_ops ?_)
      refine step_ops ?_
      refine m_approC (n := 0) (cs := []) rfl (by decide) rfl rfl rfl (cls_cells _) (by omega) (by decide) ?_
      repeat (first | (refine step_ops ?_; (first | (refine m_mov (by conv => lhs; whnf) ?_) | (refine m_add rfl rfl ?_ ?_ ?_; (· omega); (· omega)))) | refine end_ops ?_ | refine AW_ops ?_ | refine norm_then ?_ | refine norm_block ?_)
      refine next_round 1 (by omega) (Weak.trans (weak_move (r := 33) (q := 6) rfl (by decide) (by decide)) (weak_st ?_ ?_ rfl rfl)) ?_
      · refine ⟨rfl, rfl, rfl, rfl, ?_, trivial⟩
        show AV.sl 6 3 0 (0 + A.length) = AV.sl 6 3 0 A.length
        rw [Nat.zero_add]
      · exact ⟨rfl, trivial⟩
      · omega
    · repeat (first | (refine step_ops ?_; (refine m_lss rfl rfl ?_)) | refine end_ops ?_ | refine seq_ops ?_ | (refine cond_t rfl ?_ ?_; (· first | rfl | assumption | (refine decide_eq_true ?_; first | assumption | omega) | (refine nt ?_; first | assumption | omega) | (simp [*]; done))) | refine skip_then ?_ | refine AW_seq ?_ | refine AW_block ?_)
      refine step_ops ?_
      refine m_idx1_ro (j := 1) rfl rfl (show 1 < 2 by decide) ?_
      repeat (first | (refine step_ops ?_; (first | (refine m_mov (by conv => lhs; whnf) ?_) | (apply m_ld_rp; (· rfl); (· rfl)))) | refine end_ops ?_ | refine AW_ops ?_)
      refine step_ops ?_
      refine m_approC (n := A.length) (cs := cls A) rfl (by decide) rfl (cls_len _) rfl (cls_cells _) (by omega) (by decide) ?_
      repeat (first | (refine step_ops ?_; (first | (refine m_mov (by conv => lhs; whnf) ?_) | (refine m_add rfl rfl ?_ ?_ ?_; (· omega); (· omega)))) | refine end_ops ?_ | refine AW_ops ?_ | refine norm_then ?_ | refine norm_block ?_)
      refine next_round 2 (by omega) (Weak.trans (weak_move (r := 33) (q := 6) rfl (by decide) (by decide)) (weak_st ?_ ?_ rfl rfl)) ?_
      · refine ⟨rfl, rfl, rfl, rfl, ?_, trivial⟩
        show AV.sl 6 3 0 (A.length + B.length) = AV.sl 6 3 0 (A ++ B).length
        rw [List.length_append]
      · refine ⟨?_, trivial⟩
        show some (true, cls A ++ cls B) = some (true, cls (A ++ B))
        rw [cls_app]
      · omega
    · repeat (first | (refine step_ops ?_; (first | (refine m_mov (by conv => lhs; whnf) ?_) | (refine m_lss rfl rfl ?_))) | refine end_ops ?_ | refine seq_ops ?_ | (refine cond_f rfl ?_ ?_; (· first | rfl | assumption | (refine decide_eq_false ?_; first | assumption | omega) | (refine nf ?_; first | assumption | omega) | (simp [*]; done))) | refine AW_seq ?_ | refine AW_ret ?_ | refine ret_done ?_ | refine norm_then ?_ | refine exit_then ?_ | refine exit_round ?_ | refine AW_exit ?_ | refine exit_block ?_)
      exact outs_sl rfl (cls_len _) (cls_plain _)
    · omega
  · omega
end Go.Proofs.Yteiipnadhalnbaa
namespace Go.Proofs.Yteiipnadhalnbaa
open Go.Am
attribute [local irreducible] AW Outs Weak Lends Lend Sp aops atree aop1 Then Round InBlock Done
attribute [local irreducible] SpM DoneM SpH DoneH SpG DoneT SpR
set_option maxRecDepth 20000 in
set_option maxHeartbeats 4000000 in
theorem withoutClue_spec (g : Int) (C : List Clu) (k : Nat) (h : k < C.length) (hC : C.length ≤ 6) : Sp Try.prog 34 [pzl g C, .i k] (newPz g (woC C k)) := by
  have c1 := cutClues_spec g C 0 k (Nat.zero_le _) (by omega)
  have c2 := cutClues_spec g C (k + 1) C.length (by omega) (Nat.le_refl _)
  rw [List.drop_zero, Nat.sub_zero] at c1
  rw [List.take_of_length_le (l := C.drop (k + 1)) (by simp)] at c2
  rw [show ((k + 1 : Nat) : Int) = (k : Int) + 1 from rfl] at c2
  have hcat := concatC_spec (C.take k) (C.drop (k + 1)) (by simp; omega) (by simp; omega)
  refine specC_of Try.func34 rfl cc34 (by rfl) ?_
  unfold ac34
  repeat (first | ((first | refine step_ops ?_ | refine step_tree ?_); (first | (refine m_mov (by conv => lhs; whnf) ?_) | (refine m_add rfl rfl ?_ ?_ ?_; (· omega); (· omega)) | (refine m_adds rfl rfl ?_ ?_; (· first | omega | (simp; omega))) | (refine m_len_ro rfl ?_) | (refine m_len_sl rfl ?_) | (refine m_len_nil rfl ?_) | (refine m_ld_rpi rfl ?_ ?_; (· omega)) | (refine m_ld_pti rfl (by rfl) ?_ ?_; (· first | omega | (simp; omega))) | (apply m_ld_ptb; (· rfl); (· rfl); (· assumption)) | (apply m_ld_rp; (· rfl); (· rfl)) | (apply m_ld_pt; (· rfl); (· rfl); (· rfl)) | (refine m_alloc ?_) | (refine m_fa rfl ?_) | (refine m_fa_rp rfl ?_) | (refine m_bld rfl ?_) | (refine m_bld_1 (by conv => lhs; whnf) (by decide)  (by rfl) ?_) | (refine m_bld_2 (by conv => lhs; whnf) (by conv => lhs; whnf) (by decide)  (by decide) (by rfl) (by rfl) ?_) | (refine m_bld_3 (by conv => lhs; whnf) (by conv => lhs; whnf) (by conv => lhs; whnf) (by decide)  (by decide) (by decide) (by rfl) (by rfl) (by rfl) ?_) | (refine m_box rfl ?_ ?_; (· first | rfl | (simp [cellOk, Value.oneCell']; done))) | (refine m_box1 rfl rfl ?_) | (refine m_ldall rfl rfl ?_ ?_; (· first | rfl | (simp; done) | (simp [*]; done))) | (refine m_ldall_rp rfl rfl ?_) | (refine m_stall rfl rfl rfl ?_ ?_ ?_ ?_; (· first | rfl | (simp [*]; done)); (· first | rfl | (simp [*]; done)); (· first | rfl | (simp [cellOk, Value.oneCell']; done))))) | refine end_ops ?_ | refine seq_ops ?_ | refine AW_ops ?_ | refine end_tree ?_ | refine seq_tree ?_ | refine AW_tree ?_ | refine AW_seq ?_ | refine AW_ret ?_ | refine ret_done ?_ | refine norm_then ?_ | refine ret_then ?_ | refine exit_then ?_)
  refine tree_weak (st [(2, .pt 2 0), (4, .pt 4 0), (5, .pt 5 0), (6, .pt 6 0)] [(2, (true, [.i g, .ro false 3 (cls C) C.length])), (4, (true, [.i 0, .v (.slice none 0 0)])), (5, (true, [.i g, roC (C.take k)])), (6, (true, [.i g, roC (C.drop (k + 1))]))]) ?_ ?_
  · refine step_pre1 (t := 1) rfl rfl rfl rfl ?_
    refine m_mov (by conv => lhs; whnf) ?_
    refine ⟨⟨rfl, rfl⟩, ?_⟩
    refine step_pre1 (t := 1) rfl rfl rfl rfl ?_
    refine m_mov (by conv => lhs; whnf) ?_
    refine ⟨⟨rfl, rfl⟩, ?_⟩
    refine step_pre1 (t := 11) rfl rfl rfl rfl ?_
    refine m_add rfl rfl (by omega) (by omega) ?_
    refine ⟨⟨rfl, rfl⟩, ?_⟩
    refine step_pre1 (t := 2) rfl rfl rfl rfl ?_
    refine m_fa rfl ?_
    refine ⟨⟨rfl, rfl⟩, ?_⟩
    repeat' (first
      | refine step_alt ?_ ?_
      | exact step_top
      | refine step_two ?_ ?_
      | (refine step_pre1 (t := 14) rfl rfl rfl rfl ?_; refine m_len_ro rfl ?_; refine ⟨⟨rfl, rfl⟩, ?_⟩)
      | (refine step_tree ?_; first
        | refine m_ldall (r := 2) (cs := [.i g, .ro false 3 (cls C) C.length]) rfl rfl rfl ?_
        | refine m_ld_pt (r := 2) (off := 1) (fl := true) (cs := [.i g, .ro false 3 (cls C) C.length]) rfl rfl rfl ?_
        | refine m_len_ro rfl ?_
        | refine m_callS c1 rfl ?_
        | refine m_callS c2 rfl ?_
        | refine m_alloc ?_
        | refine m_stall (r := 5) (fl := true) (l := [.i g, roC (C.take k)]) rfl rfl rfl rfl rfl rfl ?_
        | refine m_stall (r := 6) (fl := true) (l := [.i g, roC (C.drop (k + 1))]) rfl rfl rfl rfl rfl rfl ?_)
      | (refine atree_end ?_; exact weak_st ⟨rfl, rfl, rfl, rfl, trivial⟩ ⟨rfl, rfl, rfl, rfl, trivial⟩ rfl rfl))
  · intro s' hs'
    refine AW_weak hs' ?_
    repeat (first | ((first | refine step_ops ?_ | refine step_tree ?_); (first | (refine m_mov (by conv => lhs; whnf) ?_) | (refine m_add rfl rfl ?_ ?_ ?_; (· omega); (· omega)) | (refine m_adds rfl rfl ?_ ?_; (· first | omega | (simp; omega))) | (refine m_len_ro rfl ?_) | (refine m_len_sl rfl ?_) | (refine m_len_nil rfl ?_) | (refine m_ld_rpi rfl ?_ ?_; (· omega)) | (refine m_ld_pti rfl (by rfl) ?_ ?_; (· first | omega | (simp; omega))) | (apply m_ld_ptb; (· rfl); (· rfl); (· assumption)) | (apply m_ld_rp; (· rfl); (· rfl)) | (apply m_ld_pt; (· rfl); (· rfl); (· rfl)) | (refine m_alloc ?_) | (refine m_fa rfl ?_) | (refine m_fa_rp rfl ?_) | (refine m_bld rfl ?_) | (refine m_bld_1 (by conv => lhs; whnf) (by decide)  (by rfl) ?_) | (refine m_bld_2 (by conv => lhs; whnf) (by conv => lhs; whnf) (by decide)  (by decide) (by rfl) (by rfl) ?_) | (refine m_bld_3 (by conv => lhs; whnf) (by conv => lhs; whnf) (by conv => lhs; whnf) (by decide)  (by decide) (by decide) (by rfl) (by rfl) (by rfl) ?_) | (refine m_box rfl ?_ ?_; (· first | rfl | (simp [cellOk, Value.oneCell']; done))) | (refine m_box1 rfl rfl ?_) | (refine m_ldall rfl rfl ?_ ?_; (· first | rfl | (simp; done) | (simp [*]; done))) | (refine m_ldall_rp rfl rfl ?_) | (refine m_stall rfl rfl rfl ?_ ?_ ?_ ?_; (· first | rfl | (simp [*]; done)); (· first | rfl | (simp [*]; done)); (· first | rfl | (simp [cellOk, Value.oneCell']; done))))) | refine end_ops ?_ | refine seq_ops ?_ | refine AW_ops ?_ | refine end_tree ?_ | refine seq_tree ?_ | refine AW_tree ?_ | refine AW_seq ?_ | refine AW_ret ?_ | refine ret_done ?_ | refine norm_then ?_ | refine ret_then ?_ | refine exit_then ?_)
    refine tree_weak (st [(4, .pt 4 0)] [(4, (true, [.i g, .ro true 3 (cls (woC C k)) (woC C k).length]))]) ?_ ?_
    · repeat' (first
      | refine step_alt ?_ ?_
      | exact step_top
      | refine step_two ?_ ?_
      | (refine step_tree ?_; first
        | refine m_fa rfl ?_
        | refine m_ld_pt (r := 2) (off := 0) (fl := true) (cs := [.i g, .ro false 3 (cls C) C.length]) rfl rfl rfl ?_
        | refine m_ld_pt (r := 5) (off := 1) (fl := true) (cs := [.i g, roC (C.take k)]) rfl rfl rfl ?_
        | refine m_ld_pt (r := 6) (off := 1) (fl := true) (cs := [.i g, roC (C.drop (k + 1))]) rfl rfl rfl ?_
        | refine m_bsl_twoC (A := C.take k) (B := C.drop (k + 1)) rfl rfl ?_
        | refine m_call hcat (lends_cons (lend_flC (Cs := [C.take k, C.drop (k + 1)]) rfl rfl) lends_nil) ?_
        | refine m_stall (r := 4) (fl := true) (l := [.i g, .ro true 3 (cls (woC C k)) (woC C k).length]) rfl rfl rfl rfl rfl rfl ?_)
      | (refine atree_end ?_; exact weak_st ⟨rfl, trivial⟩ ⟨rfl, trivial⟩ rfl rfl)
      | (first | ((first | refine step_ops ?_ | refine step_tree ?_); (first | (refine m_mov (by conv => lhs; whnf) ?_) | (refine m_add rfl rfl ?_ ?_ ?_; (· omega); (· omega)) | (refine m_adds rfl rfl ?_ ?_; (· first | omega | (simp; omega))) | (refine m_len_ro rfl ?_) | (refine m_len_sl rfl ?_) | (refine m_len_nil rfl ?_) | (refine m_ld_rpi rfl ?_ ?_; (· omega)) | (refine m_ld_pti rfl (by rfl) ?_ ?_; (· first | omega | (simp; omega))) | (apply m_ld_ptb; (· rfl); (· rfl); (· assumption)) | (apply m_ld_rp; (· rfl); (· rfl)) | (apply m_ld_pt; (· rfl); (· rfl); (· rfl)) | (refine m_alloc ?_) | (refine m_fa rfl ?_) | (refine m_fa_rp rfl ?_) | (refine m_bld rfl ?_) | (refine m_bld_1 (by conv => lhs; whnf) (by decide)  (by rfl) ?_) | (refine m_bld_2 (by conv => lhs; whnf) (by conv => lhs; whnf) (by decide)  (by decide) (by rfl) (by rfl) ?_) | (refine m_bld_3 (by conv => lhs; whnf) (by conv => lhs; whnf) (by conv => lhs; whnf) (by decide)  (by decide) (by decide) (by rfl) (by rfl) (by rfl) ?_) | (refine m_box rfl ?_ ?_; (· first | rfl | (simp [cellOk, Value.oneCell']; done))) | (refine m_box1 rfl rfl ?_) | (refine m_ldall rfl rfl ?_ ?_; (· first | rfl | (simp; done) | (simp [*]; done))) | (refine m_ldall_rp rfl rfl ?_) | (refine m_stall rfl rfl rfl ?_ ?_ ?_ ?_; (· first | rfl | (simp [*]; done)); (· first | rfl | (simp [*]; done)); (· first | rfl | (simp [cellOk, Value.oneCell']; done))))) | refine end_ops ?_ | refine seq_ops ?_ | refine AW_ops ?_ | refine end_tree ?_ | refine seq_tree ?_ | refine AW_tree ?_ | refine AW_seq ?_ | refine AW_ret ?_ | refine ret_done ?_ | refine norm_then ?_ | refine ret_then ?_ | refine exit_then ?_))
    · intro s' hs'
      refine AW_weak hs' ?_
      repeat (first | ((first | refine step_ops ?_ | refine step_tree ?_); (first | (refine m_mov (by conv => lhs; whnf) ?_) | (refine m_add rfl rfl ?_ ?_ ?_; (· omega); (· omega)) | (refine m_adds rfl rfl ?_ ?_; (· first | omega | (simp; omega))) | (refine m_len_ro rfl ?_) | (refine m_len_sl rfl ?_) | (refine m_len_nil rfl ?_) | (refine m_ld_rpi rfl ?_ ?_; (· omega)) | (refine m_ld_pti rfl (by rfl) ?_ ?_; (· first | omega | (simp; omega))) | (apply m_ld_ptb; (· rfl); (· rfl); (· assumption)) | (apply m_ld_rp; (· rfl); (· rfl)) | (apply m_ld_pt; (· rfl); (· rfl); (· rfl)) | (refine m_alloc ?_) | (refine m_fa rfl ?_) | (refine m_fa_rp rfl ?_) | (refine m_bld rfl ?_) | (refine m_bld_1 (by conv => lhs; whnf) (by decide)  (by rfl) ?_) | (refine m_bld_2 (by conv => lhs; whnf) (by conv => lhs; whnf) (by decide)  (by decide) (by rfl) (by rfl) ?_) | (refine m_bld_3 (by conv => lhs; whnf) (by conv => lhs; whnf) (by conv => lhs; whnf) (by decide)  (by decide) (by decide) (by rfl) (by rfl) (by rfl) ?_) | (refine m_box rfl ?_ ?_; (· first | rfl | (simp [cellOk, Value.oneCell']; done))) | (refine m_box1 rfl rfl ?_) | (refine m_ldall rfl rfl ?_ ?_; (· first | rfl | (simp; done) | (simp [*]; done))) | (refine m_ldall_rp rfl rfl ?_) | (refine m_stall rfl rfl rfl ?_ ?_ ?_ ?_; (· first | rfl | (simp [*]; done)); (· first | rfl | (simp [*]; done)); (· first | rfl | (simp [cellOk, Value.oneCell']; done))))) | refine end_ops ?_ | refine seq_ops ?_ | refine AW_ops ?_ | refine end_tree ?_ | refine seq_tree ?_ | refine AW_tree ?_ | refine AW_seq ?_ | refine AW_ret ?_ | refine ret_done ?_ | refine norm_then ?_ | refine ret_then ?_ | refine exit_then ?_)
      refine ret_donec rfl rfl rfl ?_
      exact outs_agg2 (outs_i rfl) (outs_ron (cls_plain _))
end Go.Proofs.Yteiipnadhalnbaa
namespace Go.Proofs.Yteiipnadhalnbaa
open Go.Am
attribute [local irreducible] AW Outs Weak Lends Lend Sp aops atree aop1 Then Round InBlock Done
attribute [local irreducible] SpM DoneM SpH DoneH SpG DoneT SpR
theorem isPz_wo {g : Int} {C : List Clu} (h : IsPz g C) (k : Nat) : IsPz g (woC C k) := by
  refine ⟨h.1, ?_, fun c hc => ?_⟩
  · have := h.2.1
    unfold woC
    simp
    omega
  · rcases List.mem_append.1 hc with hc | hc
    · exact h.2.2 c (List.mem_of_mem_take hc)
    · exact h.2.2 c (List.mem_of_mem_drop hc)
end Go.Proofs.Yteiipnadhalnbaa
namespace Go.Proofs.Yteiipnadhalnbaa
open Go.Am
attribute [local irreducible] AW Outs Weak Lends Lend Sp aops atree aop1 Then Round InBlock Done
attribute [local irreducible] SpM DoneM SpH DoneH SpG DoneT SpR
def sol1 (n : Nat) (C : List Clu) : Bool := decide (((sol n C).length : Int) = 1)
/-- Where the search for clues that are too many stands behind j steps. -/
def hdS (n : Nat) (C : List Clu) : Nat → Nat × List Clu
  | 0 => (0, C)
  | j + 1 => if sol1 n (woC (hdS n C j).2 (hdS n C j).1) = true then ((hdS n C j).1, woC (hdS n C j).2 (hdS n C j).1) else ((hdS n C j).1 + 1, (hdS n C j).2)
theorem hdS_ok {n : Nat} {C : List Clu} (h : IsPz n C) : ∀ j, j ≤ C.length → IsPz n (hdS n C j).2 ∧ (hdS n C j).2.length + j = C.length + (hdS n C j).1
  | 0, _ => ⟨h, rfl⟩
  | j + 1, hj => by
    obtain ⟨h1, h2⟩ := hdS_ok h j (by omega)
    have hlt : (hdS n C j).1 < (hdS n C j).2.length := by omega
    have hw := woC_len hlt
    unfold hdS
    split
    · refine ⟨isPz_wo h1 _, ?_⟩
      show (woC (hdS n C j).2 (hdS n C j).1).length + (j + 1) = C.length + (hdS n C j).1
      omega
    · refine ⟨h1, ?_⟩
      show (hdS n C j).2.length + (j + 1) = C.length + ((hdS n C j).1 + 1)
      omega
def HdOk (g : Int) (C : List Clu) : Prop := IsPz g C ∧ ((solS g C).length : Int) = 1
instance (g : Int) (C : List Clu) : Decidable (HdOk g C) := inferInstanceAs (Decidable (_ ∧ _))
def hdG (g : Int) (C : List Clu) : Int := if HdOk g C then g else 0
def hdC (g : Int) (C : List Clu) : List Clu := if HdOk g C then (hdS g.toNat C C.length).2 else []
def hdR (g : Int) (C : List Clu) : AV := .tup [newPz (hdG g C) (hdC g C), .b (decide (HdOk g C))]
theorem hdR_no {g : Int} {C : List Clu} (h : ¬ HdOk g C) : hdR g C = .tup [newPz 0 [], .b false] := by
  unfold hdR hdG hdC
  rw [if_neg h, if_neg h, decide_eq_false h]
theorem hdR_yes {n : Nat} {C : List Clu} (h : HdOk n C) : hdR n C = .tup [newPz n (hdS n C C.length).2, .b true] := by
  unfold hdR hdG hdC
  rw [if_pos h, if_pos h, decide_eq_true h, Int.toNat_natCast]
theorem cloneC_nil : Sp Try.prog 33 [roC []] (.ro true 3 (cls []) 0) := by
  refine spec_of Try.func33 rfl cc33 rfl ?_
  unfold ac33
  repeat (first | (refine step_ops ?_; (first | (refine m_mov (by conv => lhs; whnf) ?_) | (refine m_nils ?_))) | refine end_ops ?_ | refine seq_ops ?_ | refine AW_seq ?_)
  refine step_ops ?_
  refine m_isnil_ro0 rfl fun b => ?_
  cases b
  · repeat (first | refine end_ops ?_ | refine seq_ops ?_ | (refine cond_f rfl ?_ ?_; (· first | rfl | assumption | (refine decide_eq_false ?_; first | assumption | omega) | (refine nf ?_; first | assumption | omega) | (simp [*]; done))) | refine skip_then ?_)
    refine step_ops ?_
    refine m_bsl (fl := true) (out := []) rfl ?_
    repeat (refine step_ops ?_; (refine m_mov (by conv => lhs; whnf) ?_))
    refine step_ops ?_
    refine m_approC (ys := []) (cs := []) (m := 0) (n := 0) rfl (by decide) rfl rfl rfl rfl (by decide) (by decide) ?_
    repeat (first | (refine step_ops ?_; (refine m_mov (by conv => lhs; whnf) ?_)) | refine end_ops ?_ | refine AW_ret ?_ | refine ret_done ?_)
    exact outs_sl (cs := []) rfl rfl rfl
  · repeat (first | (refine step_ops ?_; (refine m_nils ?_)) | refine end_ops ?_ | refine seq_ops ?_ | (refine cond_t rfl ?_ ?_; (· first | rfl | assumption | (refine decide_eq_true ?_; first | assumption | omega) | (refine nt ?_; first | assumption | omega) | (simp [*]; done))) | refine AW_ret ?_ | refine ret_done ?_ | refine ret_then ?_)
    exact outs_sl (cs := []) rfl rfl rfl
theorem cloneC_spec (C : List Clu) (hC : C.length ≤ 6) : Sp Try.prog 33 [roC C] (.ro true 3 (cls C) C.length) := by
  by_cases h0 : C = []
  · subst h0
    exact cloneC_nil
  · have hp := List.length_pos_iff.2 h0
    refine spec_of Try.func33 rfl cc33 rfl ?_
    unfold ac33
    repeat (first | (refine step_ops ?_; (first | (refine m_mov (by conv => lhs; whnf) ?_) | (refine m_isnil_ro rfl ?_ ?_; (· omega)) | (refine m_nils ?_))) | refine end_ops ?_ | refine seq_ops ?_ | (refine cond_f rfl ?_ ?_; (· first | rfl | assumption | (refine decide_eq_false ?_; first | assumption | omega) | (refine nf ?_; first | assumption | omega) | (simp [*]; done))) | refine skip_then ?_ | refine AW_seq ?_)
    refine step_ops ?_
    refine m_bsl (fl := true) (out := []) rfl ?_
    repeat (refine step_ops ?_; (refine m_mov (by conv => lhs; whnf) ?_))
    refine step_ops ?_
    refine m_approC (ys := cls C) (cs := []) (m := C.length) (n := 0) rfl (by decide) rfl rfl rfl (cls_cells _) (by omega) (by decide) ?_
    repeat (first | (refine step_ops ?_; (refine m_mov (by conv => lhs; whnf) ?_)) | refine end_ops ?_ | refine AW_ret ?_ | refine ret_done ?_)
    have e : AV.sl 7 3 0 (0 + C.length) = .sl 7 3 0 C.length := by rw [Nat.zero_add]
    refine (congrArg (fun v => Outs _ v _) e).mpr ?_
    exact outs_sl rfl (cls_len _) (cls_plain _)
set_option maxRecDepth 20000 in
set_option maxHeartbeats 4000000 in
theorem implHarderPuzzle_spec (g : Int) (C : List Clu) : Sp Try.prog 15 [pzl g C] (hdR g C) := by
  have hs := implIsSolved_spec g C
  by_cases h : HdOk g C
  · obtain ⟨n, rfl, h1, h5⟩ := pz_nat h.1
    have hC6 := h.1.2.1
    rw [decide_eq_true (show IsPz n C ∧ ((solS n C).length : Int) = 1 from h)] at hs
    rw [hdR_yes h]
    have hcc := cloneC_spec C hC6
    have hpz := hdS_ok h.1
    refine specG_of Try.func15 rfl cc15 (by rfl) ?_
    unfold ac15
    repeat (first | (refine step_ops ?_; (first | (refine m_mov (by conv => lhs; whnf) ?_) | (refine m_alloc ?_) | (refine m_box rfl ?_ ?_; (· first | rfl | (simp [cellOk, Value.oneCell']; done))) | (refine m_ldall rfl rfl ?_ ?_; (· first | rfl | (simp; done) | (simp [*]; done))))) | refine end_ops ?_ | refine seq_ops ?_)
    refine step_ops ?_
    refine m_call hs (lends_cons lend_pzl lends_nil) ?_
    repeat (first | (refine step_ops ?_; (first | (refine m_mov (by conv => lhs; whnf) ?_) | (refine m_not rfl ?_) | (refine m_ext rfl rfl ?_))) | refine end_ops ?_ | refine seq_ops ?_ | refine seq_tree ?_ | (refine cond_f rfl ?_ ?_; (· first | rfl | assumption | (refine decide_eq_false ?_; first | assumption | omega) | (refine nf ?_; first | assumption | omega) | (simp [*]; done))) | refine skip_then ?_ | refine AW_seq ?_)
    refine tree_weak (st [(1, .pt 1 0), (2, .pt 2 0), (6, .pt 6 0)] [(1, (true, [.i n, .ro false 3 (cls C) C.length])), (2, (true, [.i 0, .v (.slice none 0 0)])), (6, (true, [.i n, .ro true 3 (cls C) C.length]))]) ?_ ?_
    · repeat' (first
        | refine step_alt ?_ ?_
        | exact step_top
        | refine step_two ?_ ?_
        | (refine step_tree ?_; first
          | refine m_fa rfl ?_
          | refine m_ld_pt (r := 1) (off := 0) (fl := true) (cs := [.i n, .ro false 3 (cls C) C.length]) (c := .i n) rfl rfl rfl ?_
          | refine m_ld_pt (r := 1) (off := 1) (fl := true) (cs := [.i n, .ro false 3 (cls C) C.length]) (c := roC C) rfl rfl rfl ?_
          | refine m_call hcc (lends_cons lend_cls lends_nil) ?_
          | refine m_bld_2 (v1 := .i n) (v2 := .ro true 3 (cls C) C.length) rfl rfl (by decide) (by decide) rfl rfl ?_
          | refine m_alloc ?_
          | refine m_stall (r := 6) (fl := true) (l := [.i n, .ro true 3 (cls C) C.length]) rfl rfl rfl rfl rfl rfl ?_)
        | (refine atree_end ?_; exact weak_st ⟨rfl, rfl, rfl, trivial⟩ ⟨rfl, rfl, rfl, trivial⟩ rfl rfl))
    · intro s' hs'
      refine AW_weak hs' ?_
      repeat (first | (refine step_ops ?_; (refine m_mov (by conv => lhs; whnf) ?_)) | refine end_ops ?_ | refine seq_ops ?_ | refine AW_seq ?_ | refine AW_block ?_)
      refine AW_loop (α := Nat) (fun j => j ≤ C.length) (fun j => st [(1, .pt 1 0), (2, .pt 2 0), (6, .pt 6 0), (7, .i (hdS n C j).1)] [(1, (true, [.i n, .ro false 3 (cls C) C.length])), (2, (true, [.i 0, .v (.slice none 0 0)])), (6, (true, [.i n, .ro true 3 (cls (hdS n C j).2) (hdS n C j).2.length]))]) (fun j => C.length - j) 0 (Nat.zero_le _) (weak_st ?_ ?_ rfl rfl) ?_
      · (repeat' (first | exact trivial | refine And.intro ?_ ?_)) <;> (first | rfl | skip)
      · exact ⟨rfl, rfl, rfl, trivial⟩
      intro j hj
      obtain ⟨hz, he⟩ := hpz j hj
      have hnx : hdS n C (j + 1) = if sol1 n (woC (hdS n C j).2 (hdS n C j).1) = true then ((hdS n C j).1, woC (hdS n C j).2 (hdS n C j).1) else ((hdS n C j).1 + 1, (hdS n C j).2) := rfl
      generalize hq1 : hdS n C (j + 1) = q1 at *
      generalize hq : hdS n C j = q at *
      obtain ⟨k, D⟩ := q
      dsimp only at hz he hnx ⊢
      by_cases hc : j < C.length
      · have hkD : k < D.length := by omega
        have hD6 := hz.2.1
        have hwo := withoutClue_spec n D k hkD hz.2.1
        have hsv := implIsSolved_spec n (woC D k)
        have hso : ((solS n (woC D k)).length : Int) = ((sol n (woC D k)).length : Int) := by
          unfold solS
          rw [if_pos (isPz_wo hz k), Int.toNat_natCast]
        rw [hso] at hsv
        cases hb : sol1 n (woC D k) with
        | true =>
          rw [hb, if_pos rfl] at hnx
          rw [show decide (IsPz n (woC D k) ∧ ((sol n (woC D k)).length : Int) = 1) = true from decide_eq_true ⟨isPz_wo hz k, of_decide_eq_true hb⟩] at hsv
          subst hnx
          generalize woC D k = E at *
          repeat (first | (refine step_ops ?_; (first | (refine m_mov (by conv => lhs; whnf) ?_) | (refine m_lss rfl rfl ?_) | (refine m_len_ro rfl ?_) | (apply m_ld_pt; (· rfl); (· rfl); (· rfl)) | (refine m_fa rfl ?_) | (refine m_ldall rfl rfl ?_ ?_; (· first | rfl | (simp; done) | (simp [*]; done))))) | refine end_ops ?_ | refine seq_ops ?_ | (refine cond_t rfl ?_ ?_; (· first | rfl | assumption | (refine decide_eq_true ?_; first | assumption | omega) | (refine nt ?_; first | assumption | omega) | (simp [*]; done))) | refine skip_then ?_ | refine AW_seq ?_ | refine AW_block ?_)
          refine step_ops ?_
          refine m_call hwo (lends_cons lend_pzl (lends_cons lend_v lends_nil)) ?_
          repeat (first | (refine step_ops ?_; (first | (refine m_alloc ?_) | (refine m_ldall rfl rfl ?_ ?_; (· first | rfl | (simp; done) | (simp [*]; done))) | (refine m_stall rfl rfl rfl ?_ ?_ ?_ ?_; (· first | rfl | (simp [*]; done)); (· first | rfl | (simp [*]; done)); (· first | rfl | (simp [cellOk, Value.oneCell']; done))))) | refine end_ops ?_ | refine seq_ops ?_)
          refine step_ops ?_
          refine m_call hsv (lends_cons lend_pzl lends_nil) ?_
          repeat (first | (refine step_ops ?_; (first | (refine m_mov (by conv => lhs; whnf) ?_) | (refine m_ext rfl rfl ?_) | (refine m_ldall rfl rfl ?_ ?_; (· first | rfl | (simp; done) | (simp [*]; done))) | (refine m_stall rfl rfl rfl ?_ ?_ ?_ ?_; (· first | rfl | (simp [*]; done)); (· first | rfl | (simp [*]; done)); (· first | rfl | (simp [cellOk, Value.oneCell']; done))))) | refine end_ops ?_ | refine seq_ops ?_ | refine AW_ops ?_ | (refine cond_t rfl ?_ ?_; (· first | rfl | assumption | (refine decide_eq_true ?_; first | assumption | omega) | (refine nt ?_; first | assumption | omega) | (simp [*]; done))) | refine norm_block ?_)
          refine next_round (Inv := fun j => j ≤ C.length) (m := fun j => C.length - j) (x := j) (j + 1) hc ?_ (show C.length - (j + 1) < C.length - j by omega)
          rw [hq1]
          refine weak_st ?_ ?_ rfl rfl
          · (repeat' (first | exact trivial | refine And.intro ?_ ?_)) <;> (first | rfl | skip)
          · exact ⟨rfl, rfl, rfl, trivial⟩
        | false =>
          rw [hb, if_neg (by simp)] at hnx
          rw [show decide (IsPz n (woC D k) ∧ ((sol n (woC D k)).length : Int) = 1) = false from decide_eq_false fun hh => by have := of_decide_eq_false hb; exact this hh.2] at hsv
          subst hnx
          generalize woC D k = E at *
          repeat (first | (refine step_ops ?_; (first | (refine m_mov (by conv => lhs; whnf) ?_) | (refine m_lss rfl rfl ?_) | (refine m_len_ro rfl ?_) | (apply m_ld_pt; (· rfl); (· rfl); (· rfl)) | (refine m_fa rfl ?_) | (refine m_ldall rfl rfl ?_ ?_; (· first | rfl | (simp; done) | (simp [*]; done))))) | refine end_ops ?_ | refine seq_ops ?_ | (refine cond_t rfl ?_ ?_; (· first | rfl | assumption | (refine decide_eq_true ?_; first | assumption | omega) | (refine nt ?_; first | assumption | omega) | (simp [*]; done))) | refine skip_then ?_ | refine AW_seq ?_ | refine AW_block ?_)
          refine step_ops ?_
          refine m_call hwo (lends_cons lend_pzl (lends_cons lend_v lends_nil)) ?_
          repeat (first | (refine step_ops ?_; (first | (refine m_alloc ?_) | (refine m_ldall rfl rfl ?_ ?_; (· first | rfl | (simp; done) | (simp [*]; done))) | (refine m_stall rfl rfl rfl ?_ ?_ ?_ ?_; (· first | rfl | (simp [*]; done)); (· first | rfl | (simp [*]; done)); (· first | rfl | (simp [cellOk, Value.oneCell']; done))))) | refine end_ops ?_ | refine seq_ops ?_)
          refine step_ops ?_
          refine m_call hsv (lends_cons lend_pzl lends_nil) ?_
          repeat (first | (refine step_ops ?_; (first | (refine m_mov (by conv => lhs; whnf) ?_) | (refine m_add rfl rfl ?_ ?_ ?_; (· omega); (· omega)) | (refine m_ext rfl rfl ?_))) | refine end_ops ?_ | refine seq_ops ?_ | refine AW_ops ?_ | (refine cond_f rfl ?_ ?_; (· first | rfl | assumption | (refine decide_eq_false ?_; first | assumption | omega) | (refine nf ?_; first | assumption | omega) | (simp [*]; done))) | refine norm_block ?_)
          refine next_round (Inv := fun j => j ≤ C.length) (m := fun j => C.length - j) (x := j) (j + 1) hc ?_ (show C.length - (j + 1) < C.length - j by omega)
          rw [hq1]
          refine weak_st ?_ ?_ rfl rfl
          · (repeat' (first | exact trivial | refine And.intro ?_ ?_)) <;> (first | rfl | skip)
          · exact ⟨rfl, rfl, rfl, trivial⟩
      · obtain rfl : j = C.length := by omega
        have hkD : ¬ k < D.length := by omega
        rw [hq]
        repeat (first | (refine step_ops ?_; (first | (refine m_mov (by conv => lhs; whnf) ?_) | (refine m_lss rfl rfl ?_) | (refine m_len_ro rfl ?_) | (apply m_ld_pt; (· rfl); (· rfl); (· rfl)) | (refine m_fa rfl ?_) | (refine m_ldall rfl rfl ?_ ?_; (· first | rfl | (simp; done) | (simp [*]; done))) | (refine m_stall rfl rfl rfl ?_ ?_ ?_ ?_; (· first | rfl | (simp [*]; done)); (· first | rfl | (simp [*]; done)); (· first | rfl | (simp [cellOk, Value.oneCell']; done))))) | refine end_ops ?_ | refine seq_ops ?_ | (refine cond_f rfl ?_ ?_; (· first | rfl | assumption | (refine decide_eq_false ?_; first | assumption | omega) | (refine nf ?_; first | assumption | omega) | (simp [*]; done))) | refine AW_seq ?_ | refine AW_ret ?_ | refine norm_then ?_ | refine exit_then ?_ | refine exit_round ?_ | refine AW_exit ?_ | refine exit_block ?_)
        exact ret_doneg2 rfl rfl rfl (outs_tup2 (outs_agg2 (outs_i rfl) (outs_ron (cls_plain _))) (outs_b rfl))
  · rw [decide_eq_false (show ¬ (IsPz g C ∧ ((solS g C).length : Int) = 1) from h)] at hs
    rw [hdR_no h]
    refine specG_of Try.func15 rfl cc15 (by rfl) ?_
    unfold ac15
    repeat (first | (refine step_ops ?_; (first | (refine m_mov (by conv => lhs; whnf) ?_) | (refine m_alloc ?_) | (refine m_box rfl ?_ ?_; (· first | rfl | (simp [cellOk, Value.oneCell']; done))) | (refine m_ldall rfl rfl ?_ ?_; (· first | rfl | (simp; done) | (simp [*]; done))))) | refine end_ops ?_ | refine seq_ops ?_)
    refine step_ops ?_
    refine m_call hs (lends_cons lend_pzl lends_nil) ?_
    repeat (first | (refine step_ops ?_; (first | (refine m_mov (by conv => lhs; whnf) ?_) | (refine m_not rfl ?_) | (refine m_ext rfl rfl ?_) | (refine m_bld rfl ?_) | (refine m_stall rfl rfl rfl ?_ ?_ ?_ ?_; (· first | rfl | (simp [*]; done)); (· first | rfl | (simp [*]; done)); (· first | rfl | (simp [cellOk, Value.oneCell']; done))))) | refine end_ops ?_ | refine seq_ops ?_ | (refine cond_t rfl ?_ ?_; (· first | rfl | assumption | (refine decide_eq_true ?_; first | assumption | omega) | (refine nt ?_; first | assumption | omega) | (simp [*]; done))) | refine AW_seq ?_ | refine AW_ret ?_ | refine ret_then ?_)
    exact ret_doneg2 rfl rfl rfl (outs_tup2 (outs_agg2 (outs_i rfl) outs_nilro) (outs_b rfl))
set_option maxRecDepth 20000 in
set_option maxHeartbeats 4000000 in
theorem specHarderPuzzle_spec (g : Int) (C : List Clu) : Sp Try.prog 14 [pzl g C] (hdR g C) := by
  have hgo := pzGood_spec g C
  by_cases hz0 : IsPz g C
  · obtain ⟨n, rfl, h1, h5⟩ := pz_nat hz0
    have hC6 := hz0.2.1
    rw [decide_eq_true hz0] at hgo
    have hsv0 := pzSolved_spec n h1 h5 C hC6 hz0.2.2
    have hso0 : ((solS n C).length : Int) = ((sol n C).length : Int) := by
      unfold solS
      rw [if_pos hz0, Int.toNat_natCast]
    by_cases h : ((sol n C).length : Int) = 1
    · have hok : HdOk n C := ⟨hz0, by rw [hso0]; exact h⟩
      rw [hdR_yes hok]
      rw [decide_eq_true h] at hsv0
      have hpz := hdS_ok hz0
      refine specG_of Try.func14 rfl cc14 (by rfl) ?_
      unfold ac14
      repeat (first | (refine step_ops ?_; (first | (refine m_mov (by conv => lhs; whnf) ?_) | (refine m_alloc ?_) | (refine m_box rfl ?_ ?_; (· first | rfl | (simp [cellOk, Value.oneCell']; done))) | (refine m_ldall rfl rfl ?_ ?_; (· first | rfl | (simp; done) | (simp [*]; done))))) | refine end_ops ?_ | refine seq_ops ?_ | refine AW_seq ?_)
      refine step_ops ?_
      refine m_call hgo (lends_cons lend_pzl lends_nil) ?_
      repeat (refine step_ops ?_; ((try (refine g_yes rfl ?_ ?_; (· first | rfl | assumption | (refine decide_eq_true ?_; first | assumption | omega) | (refine nt ?_; first | assumption | omega) | (simp [*]; done) | (refine decide_eq_false ?_; first | assumption | omega) | (refine nf ?_; first | assumption | omega)))); (first | (refine m_mov (by conv => lhs; whnf) ?_) | (refine m_not rfl ?_) | (apply m_ld_pt; (· rfl); (· rfl); (· rfl)) | (refine m_fa rfl ?_))))
      (refine step_ops ?_); (refine g_yes rfl ?_ ?_; (· first | (first | rfl | assumption | (refine decide_eq_true ?_; first | assumption | omega) | (refine nt ?_; first | assumption | omega) | (simp [*]; done)) | (first | rfl | assumption | (refine decide_eq_false ?_; first | assumption | omega) | (refine nf ?_; first | assumption | omega) | (simp [*]; done))); (apply m_call (hsv0))); (· repeat (first | exact lends_nil | (refine lends_cons ?_ ?_; (· (first | exact lend_v | exact lend_cls)))))
      repeat (first | (refine step_ops ?_; ((try (refine g_yes rfl ?_ ?_; (· first | rfl | assumption | (refine decide_eq_true ?_; first | assumption | omega) | (refine nt ?_; first | assumption | omega) | (simp [*]; done) | (refine decide_eq_false ?_; first | assumption | omega) | (refine nf ?_; first | assumption | omega)))); (first | (refine m_not rfl ?_) | (refine m_pick_f rfl ?_ (by conv => lhs; whnf) ?_; (· first | rfl | assumption | (refine decide_eq_false ?_; first | assumption | omega) | (refine nf ?_; first | assumption | omega) | (simp [*]; done)))))) | refine end_ops ?_ | refine seq_ops ?_ | (refine cond_f rfl ?_ ?_; (· first | rfl | assumption | (refine decide_eq_false ?_; first | assumption | omega) | (refine nf ?_; first | assumption | omega) | (simp [*]; done))) | refine skip_then ?_)
      refine step_ops ?_
      refine m_bsl (fl := true) (out := []) rfl ?_
      repeat (refine step_ops ?_; (first | (apply m_ld_pt; (· rfl); (· rfl); (· rfl)) | (refine m_fa rfl ?_)))
      refine step_ops ?_
      refine m_approC (ys := cls C) (cs := []) (m := C.length) (n := 0) rfl (by decide) rfl rfl rfl (cls_cells _) (by omega) (by decide) ?_
      repeat (first | (refine step_ops ?_; (refine m_mov (by conv => lhs; whnf) ?_)) | refine end_ops ?_ | refine seq_ops ?_ | refine AW_seq ?_ | refine AW_block ?_)
      refine AW_loop (α := Nat) (fun j => j ≤ C.length) (fun j => st [(1, .pt 1 0), (2, .pt 2 0), (4, .sl 4 3 0 (hdS n C j).2.length), (5, .i (hdS n C j).1)] [(1, (true, [.i n, .ro false 3 (cls C) C.length])), (2, (true, [.i 0, .v (.slice none 0 0)])), (4, (true, cls (hdS n C j).2))]) (fun j => C.length - j) 0 (Nat.zero_le _) (Weak.trans (weak_move (r := 22) (q := 4) rfl (by decide) (by decide)) (weak_st ?_ ?_ rfl rfl)) ?_
      · refine ⟨rfl, rfl, ?_, rfl, trivial⟩
        show AV.sl 4 3 0 (0 + C.length) = .sl 4 3 0 C.length
        rw [Nat.zero_add]
      · exact ⟨rfl, rfl, rfl, trivial⟩
      intro j hj
      obtain ⟨hz, he⟩ := hpz j hj
      have hnx : hdS n C (j + 1) = if sol1 n (woC (hdS n C j).2 (hdS n C j).1) = true then ((hdS n C j).1, woC (hdS n C j).2 (hdS n C j).1) else ((hdS n C j).1 + 1, (hdS n C j).2) := rfl
      generalize hq1 : hdS n C (j + 1) = q1 at *
      generalize hq : hdS n C j = q at *
      obtain ⟨k, D⟩ := q
      dsimp only at hz he hnx ⊢
      by_cases hc : j < C.length
      · have hkD : k < D.length := by omega
        have hD6 := hz.2.1
        have hwo := pzWithout_spec D k hkD hz.2.1
        have hzw := isPz_wo hz k
        have hsv := pzSolved_spec n h1 h5 (woC D k) hzw.2.1 hzw.2.2
        cases hb : sol1 n (woC D k) with
        | true =>
          rw [hb, if_pos rfl] at hnx
          rw [show decide (((sol n (woC D k)).length : Int) = 1) = true from hb] at hsv
          subst hnx
          generalize woC D k = E at *
          repeat (first | (refine step_ops ?_; (first | (refine m_mov (by conv => lhs; whnf) ?_) | (refine m_lss rfl rfl ?_) | (refine m_len_sl rfl ?_))) | refine end_ops ?_ | refine seq_ops ?_ | (refine cond_t rfl ?_ ?_; (· first | rfl | assumption | (refine decide_eq_true ?_; first | assumption | omega) | (refine nt ?_; first | assumption | omega) | (simp [*]; done))) | refine skip_then ?_ | refine AW_seq ?_ | refine AW_block ?_)
          refine step_ops ?_
          refine m_callo hwo (lends_cons (lend_clus rfl rfl) (lends_cons lend_v lends_nil)) (cls_plain _) ?_
          repeat (first | (refine step_ops ?_; (first | (refine m_mov (by conv => lhs; whnf) ?_) | (apply m_ld_pt; (· rfl); (· rfl); (· rfl)) | (refine m_fa rfl ?_))) | refine end_ops ?_ | refine seq_ops ?_)
          refine step_ops ?_
          refine m_call hsv (lends_cons lend_v (lends_cons (lend_clus rfl rfl) lends_nil)) ?_
          repeat (first | (refine step_ops ?_; (refine m_mov (by conv => lhs; whnf) ?_)) | refine end_ops ?_ | refine AW_ops ?_ | (refine cond_t rfl ?_ ?_; (· first | rfl | assumption | (refine decide_eq_true ?_; first | assumption | omega) | (refine nt ?_; first | assumption | omega) | (simp [*]; done))) | refine norm_block ?_)
          refine next_round (Inv := fun j => j ≤ C.length) (m := fun j => C.length - j) (x := j) (j + 1) hc ?_ (show C.length - (j + 1) < C.length - j by omega)
          rw [hq1]
          refine Weak.trans (weak_move (r := 29) (q := 4) rfl (by decide) (by decide)) (weak_st ?_ ?_ rfl rfl)
          · (repeat' (first | exact trivial | refine And.intro ?_ ?_)) <;> (first | rfl | skip)
          · exact ⟨rfl, rfl, rfl, trivial⟩
        | false =>
          rw [hb, if_neg (by simp)] at hnx
          rw [show decide (((sol n (woC D k)).length : Int) = 1) = false from hb] at hsv
          subst hnx
          generalize woC D k = E at *
          repeat (first | (refine step_ops ?_; (first | (refine m_mov (by conv => lhs; whnf) ?_) | (refine m_lss rfl rfl ?_) | (refine m_len_sl rfl ?_))) | refine end_ops ?_ | refine seq_ops ?_ | (refine cond_t rfl ?_ ?_; (· first | rfl | assumption | (refine decide_eq_true ?_; first | assumption | omega) | (refine nt ?_; first | assumption | omega) | (simp [*]; done))) | refine skip_then ?_ | refine AW_seq ?_ | refine AW_block ?_)
          refine step_ops ?_
          refine m_callo hwo (lends_cons (lend_clus rfl rfl) (lends_cons lend_v lends_nil)) (cls_plain _) ?_
          repeat (first | (refine step_ops ?_; (first | (refine m_mov (by conv => lhs; whnf) ?_) | (apply m_ld_pt; (· rfl); (· rfl); (· rfl)) | (refine m_fa rfl ?_))) | refine end_ops ?_ | refine seq_ops ?_)
          refine step_ops ?_
          refine m_call hsv (lends_cons lend_v (lends_cons (lend_clus rfl rfl) lends_nil)) ?_
          repeat (first | (refine step_ops ?_; (first | (refine m_mov (by conv => lhs; whnf) ?_) | (refine m_add rfl rfl ?_ ?_ ?_; (· omega); (· omega)))) | refine end_ops ?_ | refine AW_ops ?_ | (refine cond_f rfl ?_ ?_; (· first | rfl | assumption | (refine decide_eq_false ?_; first | assumption | omega) | (refine nf ?_; first | assumption | omega) | (simp [*]; done))) | refine norm_block ?_)
          refine next_round (Inv := fun j => j ≤ C.length) (m := fun j => C.length - j) (x := j) (j + 1) hc ?_ (show C.length - (j + 1) < C.length - j by omega)
          rw [hq1]
          refine weak_st ?_ ?_ rfl rfl
          · (repeat' (first | exact trivial | refine And.intro ?_ ?_)) <;> (first | rfl | skip)
          · exact ⟨rfl, rfl, rfl, trivial⟩
      · obtain rfl : j = C.length := by omega
        have hkD : ¬ k < D.length := by omega
        rw [hq]
        repeat (first | (refine step_ops ?_; (first | (refine m_mov (by conv => lhs; whnf) ?_) | (refine m_lss rfl rfl ?_) | (refine m_len_sl rfl ?_) | (apply m_ld_pt; (· rfl); (· rfl); (· rfl)) | (refine m_fa rfl ?_) | (refine m_bld_2 (by conv => lhs; whnf) (by conv => lhs; whnf) (by decide)  (by decide) (by rfl) (by rfl) ?_))) | refine end_ops ?_ | refine seq_ops ?_ | (refine cond_f rfl ?_ ?_; (· first | rfl | assumption | (refine decide_eq_false ?_; first | assumption | omega) | (refine nf ?_; first | assumption | omega) | (simp [*]; done))) | refine AW_seq ?_ | refine norm_then ?_ | refine exit_then ?_ | refine exit_round ?_ | refine AW_exit ?_ | refine exit_block ?_)
        refine step_opsW (weak_deep (r := 2) rfl (by simp) rfl) ?_
        refine m_stall (l := [.i n, .sl 4 3 0 D.length]) rfl rfl rfl rfl rfl rfl ?_
        repeat (first | (refine step_ops ?_; (refine m_mov (by conv => lhs; whnf) ?_)) | refine end_ops ?_ | refine AW_ret ?_)
        exact ret_doneg2 rfl rfl rfl (outs_tup2 (outs_agg2 (outs_i rfl) (outs_clus rfl rfl rfl)) (outs_b rfl))
    · rw [hdR_no fun hok => h (by have := hok.2; rw [hso0] at this; exact this)]
      rw [decide_eq_false h] at hsv0
      refine specG_of Try.func14 rfl cc14 (by rfl) ?_
      unfold ac14
      repeat (first | (refine step_ops ?_; (first | (refine m_mov (by conv => lhs; whnf) ?_) | (refine m_alloc ?_) | (refine m_box rfl ?_ ?_; (· first | rfl | (simp [cellOk, Value.oneCell']; done))) | (refine m_ldall rfl rfl ?_ ?_; (· first | rfl | (simp; done) | (simp [*]; done))))) | refine end_ops ?_ | refine seq_ops ?_ | refine AW_seq ?_)
      refine step_ops ?_
      refine m_call hgo (lends_cons lend_pzl lends_nil) ?_
      repeat (refine step_ops ?_; ((try (refine g_yes rfl ?_ ?_; (· first | rfl | assumption | (refine decide_eq_true ?_; first | assumption | omega) | (refine nt ?_; first | assumption | omega) | (simp [*]; done) | (refine decide_eq_false ?_; first | assumption | omega) | (refine nf ?_; first | assumption | omega)))); (first | (refine m_mov (by conv => lhs; whnf) ?_) | (refine m_not rfl ?_) | (apply m_ld_pt; (· rfl); (· rfl); (· rfl)) | (refine m_fa rfl ?_))))
      (refine step_ops ?_); (refine g_yes rfl ?_ ?_; (· first | (first | rfl | assumption | (refine decide_eq_true ?_; first | assumption | omega) | (refine nt ?_; first | assumption | omega) | (simp [*]; done)) | (first | rfl | assumption | (refine decide_eq_false ?_; first | assumption | omega) | (refine nf ?_; first | assumption | omega) | (simp [*]; done))); (apply m_call (hsv0))); (· repeat (first | exact lends_nil | (refine lends_cons ?_ ?_; (· (first | exact lend_v | exact lend_cls)))))
      repeat (first | (refine step_ops ?_; ((try (refine g_yes rfl ?_ ?_; (· first | rfl | assumption | (refine decide_eq_true ?_; first | assumption | omega) | (refine nt ?_; first | assumption | omega) | (simp [*]; done) | (refine decide_eq_false ?_; first | assumption | omega) | (refine nf ?_; first | assumption | omega)))); (first | (refine m_mov (by conv => lhs; whnf) ?_) | (refine m_not rfl ?_) | (refine m_pick_f rfl ?_ (by conv => lhs; whnf) ?_; (· first | rfl | assumption | (refine decide_eq_false ?_; first | assumption | omega) | (refine nf ?_; first | assumption | omega) | (simp [*]; done))) | (refine m_bld rfl ?_) | (refine m_stall rfl rfl rfl ?_ ?_ ?_ ?_; (· first | rfl | (simp [*]; done)); (· first | rfl | (simp [*]; done)); (· first | rfl | (simp [cellOk, Value.oneCell']; done)))))) | refine end_ops ?_ | refine seq_ops ?_ | (refine cond_t rfl ?_ ?_; (· first | rfl | assumption | (refine decide_eq_true ?_; first | assumption | omega) | (refine nt ?_; first | assumption | omega) | (simp [*]; done))) | refine AW_ret ?_ | refine ret_then ?_)
      exact ret_doneg2 rfl rfl rfl (outs_tup2 (outs_agg2 (outs_i rfl) outs_nilro) (outs_b rfl))
  · rw [hdR_no fun hok => hz0 hok.1]
    rw [decide_eq_false hz0] at hgo
    refine specG_of Try.func14 rfl cc14 (by rfl) ?_
    unfold ac14
    repeat (first | (refine step_ops ?_; (first | (refine m_mov (by conv => lhs; whnf) ?_) | (refine m_alloc ?_) | (refine m_box rfl ?_ ?_; (· first | rfl | (simp [cellOk, Value.oneCell']; done))) | (refine m_ldall rfl rfl ?_ ?_; (· first | rfl | (simp; done) | (simp [*]; done))))) | refine end_ops ?_ | refine seq_ops ?_ | refine AW_seq ?_)
    refine step_ops ?_
    refine m_call hgo (lends_cons lend_pzl lends_nil) ?_
    repeat (first | (refine step_ops ?_; (first | (first | (refine m_mov (by conv => lhs; whnf) ?_) | (refine m_not rfl ?_) | (refine m_pick_t rfl ?_ (by conv => lhs; whnf) ?_; (· first | rfl | assumption | (refine decide_eq_true ?_; first | assumption | omega) | (refine nt ?_; first | assumption | omega) | (simp [*]; done))) | (refine m_bld rfl ?_) | (refine m_stall rfl rfl rfl ?_ ?_ ?_ ?_; (· first | rfl | (simp [*]; done)); (· first | rfl | (simp [*]; done)); (· first | rfl | (simp [cellOk, Value.oneCell']; done)))) | (refine g_noF rfl ?_ ?_; (· first | rfl | assumption | (refine decide_eq_true ?_; first | assumption | omega) | (refine nt ?_; first | assumption | omega) | (simp [*]; done))))) | refine end_ops ?_ | refine seq_ops ?_ | (refine cond_t rfl ?_ ?_; (· first | rfl | assumption | (refine decide_eq_true ?_; first | assumption | omega) | (refine nt ?_; first | assumption | omega) | (simp [*]; done))) | refine AW_ret ?_ | refine ret_then ?_)
    exact ret_doneg2 rfl rfl rfl (outs_tup2 (outs_agg2 (outs_i rfl) outs_nilro) (outs_b rfl))
theorem hdC_le (g : Int) (C : List Clu) : (hdC g C).length ≤ 1048576 := by
  unfold hdC
  split
  · rename_i h
    obtain ⟨n, rfl, _, _⟩ := pz_nat h.1
    have := (hdS_ok h.1 C.length (Nat.le_refl _)).1.2.1
    rw [Int.toNat_natCast]
    omega
  · simp
end Go.Proofs.Yteiipnadhalnbaa
namespace Go.Am
open Go.ChangeShapes Go.WideShapes Go.ChangeAt Go.RowKit Go.ChangeMaps
variable {P : Program} {H : Type} {enc : TypeId × Value → H}
theorem and_mk {a b : Bool} (h : a = true) (k : b = true) : (a && b) = true := by rw [h, k]; rfl
theorem More.below {w w' : World} (h : More w w') : Below w.heap.size w w' := ⟨h.os, h.tape, h.output, h.size, h.block⟩
theorem trodAll_stays (hl : laidOutB P = true) {W W' : World} (hb : Below W.heap.size W W') (sp : Nat → Bool) : ∀ {ts : List TypeId} {vs : List Value} {ds : List (DataW H)} {ps : List MemPlace},
    (∀ t ∈ ts, P.readableRec t = true ∧ t < P.types.size) → DataW.TrodAll enc P W 0 (fun _ => true) true ts vs ds ps → (∀ p ∈ ps, p.block < W.heap.size) → (∀ p ∈ ps, sp p.block = true) →
    DataW.TrodAll enc P W' 0 sp true ts vs ds ps
  | [], vs, ds, ps, _, h, _, _ => by
    obtain ⟨rfl, rfl, rfl⟩ := trodAll_nil h
    exact trodAll_mk0
  | t :: ts, vs, ds, ps, hr, h, hlt, hsp => by
    obtain ⟨v, vs', d, ds', p, q, rfl, rfl, rfl, h1, h2⟩ := trodAll_cons h
    refine ⟨p, q, ?_, trodAll_stays hl hb sp (fun t ht => hr t (List.mem_cons_of_mem _ ht)) h2 (fun x hx => hlt x (List.mem_append_right _ hx)) (fun x hx => hsp x (List.mem_append_right _ hx)), rfl⟩
    obtain ⟨h3, h4⟩ := hr t (List.mem_cons_self ..)
    exact WideElems.Trod_stays hl h3 h4 h1 (fun x hx => hb.same (hlt x (List.mem_append_left _ hx))) (fun x hx => hsp x (List.mem_append_left _ hx))
/-- What the row's last words ask of a law that says true. -/
theorem law_post (hl : laidOutB P = true) {f : Func} {s : ChangeSpec} {fresh handsOn again : Bool} {W W' : World} {args : Array Value} {ds gs : List (DataW H)} {before : List MemPlace} {bt : TypeId}
    (hW : DataW.Whole enc P f.params.toList s.vars false W args.toList ds gs before) (hvars : s.vars = []) (hfn : s.fn H (ds ++ gs) = { results := [.lit (.bool true)], args := ds })
    (hres : f.resultTypes = #[bt]) (hbt : P.underlying bt = some .bool) (hread : ∀ t ∈ f.params.toList, P.readableRec t = true ∧ t < P.types.size) (hm : More W W') :
    s.post enc P f false fresh handsOn again W args (.bool true) W' := by
  have hb := hm.below
  have hlt : ∀ p ∈ before, p.block < W.heap.size := fun p hp => hW.lt p hp
  obtain ⟨p, q, hA, hV, hpq, hz, hn⟩ := hW
  rw [hvars] at hV
  obtain ⟨rfl, rfl⟩ := trodVars_none hV
  rw [List.append_nil] at hpq
  subst hpq
  have hargs : ∀ sp : Nat → Bool, (∀ x ∈ before, sp x.block = true) → DataW.TrodAll enc P W' 0 sp true f.params.toList args.toList ds before := fun sp hsp => trodAll_stays hl hb sp hread hA hlt hsp
  have hresT : ∀ (b : Nat) (sp : Nat → Bool) (hd : Bool), DataW.TrodAll enc P W' b sp hd f.resultTypes.toList ((Value.bool true).resultList f.resultTypes.size) [.lit (.bool true)] [] := by
    intro b sp hd
    rw [hres]
    exact trodAll_mk1 (shut_bool hbt true)
  have hvarsT : ∀ sp : Nat → Bool, DataW.TrodVars enc P W' sp s.vars (s.fn H (ds ++ [])).vars [] := by
    intro sp
    rw [hvars, hfn]
    rfl
  have hfull : DataW.Whole enc P f.params.toList s.vars false W args.toList ds [] before := ⟨before, [], hA, by rw [hvars]; rfl, by simp, hz, by simp⟩
  refine ⟨ds, [], before, [], before, [], hfull, by rw [hfn]; exact hresT _ _ _, by rw [hfn]; exact hargs _ (fun x hx => by simpa using hlt x hx), hvarsT _, World.keptBut_mono (fun x hx => ⟨hx, .inr (.inl hx)⟩) (hb.frame (· ∈ before)), fun _ => ?_⟩
  refine ⟨ok_one hres rfl (okWide_bool_mk hbt true), _, _, ([] ++ before) ++ [], ⟨[] ++ before, [], trodAll_append (hargs _ (fun _ _ => rfl)) (hresT _ _ _), hvarsT _, rfl, ?_, by simp⟩, ?_⟩
  · intro b off hp
    have hin : MemPlace.cell b off ∈ before := by simpa using hp
    rw [hb.frozen (hlt _ hin)]
    exact hz b off hin
  · intro x hx _
    simpa using hx
abbrev Outer (w : World) : Ctx := { heap := w.heap, ro := fun b => b < w.heap.size, base := w.heap.size, phi := fun _ => none, live := fun _ => false, loc := false }
/-- A law says true. -/
theorem law_calls {f : FuncId} {asx : List AV} {W : World} {args : Array Value} (hs : Sp P f asx (.b true)) (he : SimL asx (Outer W) args.toList) (hlen : args.size = asx.length) (hg : GoodW W := by exact goodW_none rfl) :
    Calls P f args W fun e W' => e = .returned (.bool true) ∧ More W W' := by
  refine (hs W args hg ⟨he, by simpa using hlen⟩).mono fun e W' ⟨v, h1, h2, h3⟩ => ?_
  simp only [SimV] at h3
  subst h3
  exact ⟨h1, h2⟩
end Go.Am
namespace Go.Am
open Go.ChangeShapes Go.WideShapes Go.ChangeAt Go.RowKit Go.ChangeMaps
variable {P : Program} {H : Type} {enc : TypeId × Value → H}
/-- A cell of a list of rows of one length. -/
theorem flat_get {α : Type} (z : Nat) (hz : 0 < z) : ∀ (rs : List (List α)) (_ : ∀ r ∈ rs, r.length = z) (p : Nat), rs.flatten[p]? = (rs[p / z]?).bind (·[p % z]?)
  | [], _, p => by simp
  | r :: rs, h, p => by
    have hr := h r (List.mem_cons_self ..)
    rw [List.flatten_cons]
    by_cases hp : p < z
    · rw [List.getElem?_append_left (by omega), Nat.div_eq_of_lt hp, Nat.mod_eq_of_lt hp]; rfl
    · have h1 : p / z = (p - z) / z + 1 := by rw [Nat.div_eq_sub_div hz (by omega)]
      have h2 : p % z = (p - z) % z := Nat.mod_eq_sub_mod (by omega)
      rw [List.getElem?_append_right (by omega), hr, flat_get z hz rs (fun x hx => h x (List.mem_cons_of_mem _ hx)), h1, h2]; rfl
/-- A slice whose elements are read asx Q says. -/
theorem read_slice {W : World} {t e : TypeId} {z : Nat} (ht : P.underlying t = some (.slice e)) (hc : P.cellsOf e = z) (hz : 0 < z) (Q : List AV → Prop)
    (hQ : ∀ fuel cs (x : DataW H × List MemPlace), DataW.trod enc P W 0 (fun _ => true) true fuel e cs = some x → ∃ l, Q l ∧ l.length = z ∧ SimL l (Outer W) cs)
    {fuel : Nat} {cs : List Value} {x : DataW H × List MemPlace} (h : DataW.trod enc P W 0 (fun _ => true) true fuel t cs = some x) :
    ∃ ls : List (List AV), (∀ l ∈ ls, Q l ∧ l.length = z) ∧ ls.length ≤ maxLen ∧ SimL [.ro false z ls.flatten ls.length] (Outer W) cs := by
  rcases Go.Deep.open_slice ht h with ⟨rfl, _⟩ | ⟨a, len, cap, m, n, D, Pl, rfl, hb, hl, hm, hmm, rfl, hx⟩
  · refine ⟨[], by simp, by simp, ?_⟩
    simp only [SimL, SimV, and_true]
    exact .inl ⟨rfl, rfl, none, 0, rfl, by simp⟩
  · rw [hc] at hx
    simp only [if_true] at hmm
    have each : ∀ i, i < len → ∃ l : List AV, Q l ∧ l.length = z ∧ ∃ cs', W.cells? 0 (a.add (i * z)) z = some cs' ∧ SimL l (Outer W) cs' := fun i hi => by
      obtain ⟨cs', h1, h2⟩ := hx i (by omega)
      obtain ⟨l, h3, h4, h5⟩ := hQ n cs' _ h2
      exact ⟨l, h3, h4, cs', h1, h5⟩
    obtain ⟨f, hf⟩ := Go.Deep.choose_lt each
    have hll : ((List.range len).map f).length = len := by simp
    have hrow : ∀ l ∈ (List.range len).map f, Q l ∧ l.length = z := fun l hl' => by
      simp only [List.mem_map, List.mem_range] at hl'
      obtain ⟨i, hi, rfl⟩ := hl'
      exact ⟨(hf i hi).1, (hf i hi).2.1⟩
    refine ⟨(List.range len).map f, hrow, by rw [hll]; omega, ?_⟩
    simp only [SimL, SimV, and_true]
    rw [hll]
    by_cases h0 : len = 0
    · subst h0
      exact .inl ⟨rfl, rfl, _, cap, rfl, by simp⟩
    · obtain ⟨cs0, hcs0, _⟩ := (hf 0 (by omega)).2.2
      rw [Nat.zero_mul] at hcs0
      obtain ⟨_, hlen0, hcell0⟩ := World.cells?_some hcs0
      have hc0 := hcell0 0 hz
      rw [show (a.add 0).add 0 = a from rfl, List.getElem?_eq_getElem (by omega)] at hc0
      have hspot : a.spot = none ∧ ∃ cur e f, W.heap[a.block]? = some (.cells cur e f) := by
        unfold World.cell? at hc0
        split at hc0
        · rename_i c e' f hb
          split at hc0
          · cases hc0
          · rename_i hs
            exact ⟨by simpa using hs, c, e', f, hb⟩
        · cases hc0
      obtain ⟨hs, cur, e', fz, hbk⟩ := hspot
      obtain ⟨b, o, sp⟩ := a
      simp only at hs hbk
      subst hs
      have hflen : ((List.range len).map f).flatten.length = len * z := by
        rw [List.length_flatten]
        have : ((List.range len).map f).map List.length = List.replicate len z := by
          apply List.ext_getElem?
          intro i
          by_cases hi : i < len
          · simp [hi, (hf i hi).2.1]
          · simp [hi]
        rw [this, List.sum_replicate_nat]
      refine .inr ⟨b, o, cap, cur, e', fz, rfl, hbk, lt_of_get hbk, by rw [hflen], hl, by simp, ?_⟩
      refine SimL.of_get fun p x hp => ?_
      have hp1 := (List.getElem?_eq_some_iff.1 hp).1
      rw [hflen] at hp1
      rw [flat_get z hz _ fun l hl' => (hrow l hl').2] at hp
      have hi : p / z < len := Nat.div_lt_of_lt_mul (by rw [Nat.mul_comm]; exact hp1)
      have hj : p % z < z := Nat.mod_lt _ hz
      rw [List.getElem?_map, List.getElem?_range hi] at hp
      obtain ⟨_, _, cs', h1, h2⟩ := hf (p / z) hi
      obtain ⟨y, h3, h4⟩ := SimL.get h2 hp
      obtain ⟨_, hlen', hcell'⟩ := World.cells?_some h1
      have h5 := hcell' (p % z) hj
      rw [h3, Go.Deep.add_add, show p / z * z + p % z = p by rw [Nat.mul_comm]; exact Nat.div_add_mod p z] at h5
      refine ⟨y, ?_, h4⟩
      rw [addr_add, cell_of_row W b (o + p) cur e' fz hbk] at h5
      rw [List.getElem?_drop, Array.getElem?_toList]
      exact h5
/-- An integer's cell. -/
theorem read_int {W : World} {t : TypeId} (ht : P.underlying t = some (.int .i64)) {fuel : Nat} {cs : List Value} {x : DataW H × List MemPlace} (h : DataW.trod enc P W 0 (fun _ => true) true fuel t cs = some x) :
    ∃ n : Int, (-9223372036854775808 ≤ n ∧ n ≤ 9223372036854775807) ∧ SimL [AV.i n] (Outer W) cs := by
  obtain ⟨n, rfl, _, hw⟩ := DataW.trod_int ht h
  simp [Lit.wf, IntKind.min, IntKind.max, IntKind.signed, IntKind.bits] at hw
  exact ⟨n, by omega, by simp [SimL, SimV]⟩
end Go.Am
namespace Go.Am
open Go.ChangeShapes Go.WideShapes Go.ChangeAt Go.RowKit Go.ChangeMaps
variable {P : Program} {H : Type} {enc : TypeId × Value → H}
/-- What a struct of three integers is to the program. -/
structure IsC3 (P : Program) (t : TypeId) (f0 f1 f2 : Field) : Prop where
  ht : P.underlying t = some (.struct #[f0, f1, f2])
  h0 : P.underlying f0.type = some (.int .i64)
  h1 : P.underlying f1.type = some (.int .i64)
  h2 : P.underlying f2.type = some (.int .i64)
  o0 : f0.offset = 0
  o1 : f1.offset = 1
  o2 : f2.offset = 2
  c0 : P.cellsOf f0.type = 1
  c1 : P.cellsOf f1.type = 1
  c2 : P.cellsOf f2.type = 1
  hsz : P.cellsOf t = 3
theorem read_clu {W : World} {t : TypeId} {f0 f1 f2 : Field} (hc : IsC3 P t f0 f1 f2) {fuel : Nat} {cs : List Value} {x : DataW H × List MemPlace} (h : DataW.trod enc P W 0 (fun _ => true) true fuel t cs = some x) :
    ∃ c : Clu, SimL (cC c) (Outer W) cs ∧ cs.length = 3 := by
  obtain ⟨xs, n, _, rfl, hl, hlen, hf⟩ := DataW.trod_struct hc.ht h
  rw [hc.hsz] at hl
  have g0 := hf 0 f0 rfl
  have g1 := hf 1 f1 rfl
  have g2 := hf 2 f2 rfl
  have hlen' : xs.length = 3 := by simpa using hlen
  match xs, hlen' with
  | [y0, y1, y2], _ =>
    simp only [hc.o0, hc.o1, hc.o2, hc.c0, hc.c1, hc.c2] at g0 g1 g2
    match cs, hl with
    | [p, q, r], _ =>
      obtain ⟨a, _, s0⟩ := read_int hc.h0 (by simpa using g0)
      obtain ⟨b, _, s1⟩ := read_int hc.h1 (by simpa using g1)
      obtain ⟨c, _, s2⟩ := read_int hc.h2 (by simpa using g2)
      simp only [SimL, and_true] at s0 s1 s2
      exact ⟨(a, b, c), by simp only [cC, SimL, and_true]; exact ⟨s0, s1, s2⟩, rfl⟩
theorem rows_clu : ∀ {ls : List (List AV)}, (∀ l ∈ ls, ∃ c : Clu, l = cC c) → ∃ C : List Clu, ls.flatten = cls C ∧ ls.length = C.length
  | [], _ => ⟨[], rfl, rfl⟩
  | l :: ls, h => by
    obtain ⟨a, rfl⟩ := h l (List.mem_cons_self ..)
    obtain ⟨L, h1, h2⟩ := rows_clu (ls := ls) fun x hx => h x (List.mem_cons_of_mem _ hx)
    exact ⟨a :: L, by rw [List.flatten_cons, h1]; rfl, by simp [h2]⟩
theorem read_clus {W : World} {t e : TypeId} {f0 f1 f2 : Field} (ht : P.underlying t = some (.slice e)) (hc : IsC3 P e f0 f1 f2) {fuel : Nat} {cs : List Value} {x : DataW H × List MemPlace}
    (h : DataW.trod enc P W 0 (fun _ => true) true fuel t cs = some x) : ∃ C : List Clu, C.length ≤ maxLen ∧ SimL [.ro false 3 (cls C) C.length] (Outer W) cs := by
  obtain ⟨ls, h1, h2, h3⟩ := read_slice ht hc.hsz (by decide) (fun l => ∃ c : Clu, l = cC c) (fun fuel cs x hx => by
    obtain ⟨c, h4, h5⟩ := read_clu hc hx
    exact ⟨_, ⟨c, rfl⟩, rfl, h4⟩) h
  obtain ⟨C, h4, h5⟩ := rows_clu fun l hl => (h1 l hl).1
  rw [h4, h5] at h3
  exact ⟨C, by omega, h3⟩
theorem arg_pzl {W : World} {t e : TypeId} {f0 f1 g0 g1 g2 : Field} {v : Value} {d : DataW H} {ps : List MemPlace} (ht : P.underlying t = some (.struct #[f0, f1])) (h0 : P.underlying f0.type = some (.int .i64)) (h1 : P.underlying f1.type = some (.slice e)) (he : IsC3 P e g0 g1 g2)
    (hsz : P.cellsOf t = 2) (ho : f0.offset = 0 ∧ P.cellsOf f0.type = 1 ∧ f1.offset = 1 ∧ P.cellsOf f1.type = 1) (hval : Value.okWide P W .any 0 t v) (h : DataW.Trod enc P W 0 (fun _ => true) true t v d ps) :
    ∃ x : Int × List Clu, SimV (pzl x.1 x.2) (Outer W) v ∧ x.2.length ≤ 9223372036854775807 ∧ (-9223372036854775808 ≤ x.1 ∧ x.1 ≤ 9223372036854775807) := by
  obtain ⟨cs, rfl, hcs⟩ := okWide_struct ht hval
  obtain ⟨fuel, hf⟩ := h
  obtain ⟨y0, y1, n, _, hl, hd0, hd1⟩ := trod_struct2 ht hf
  obtain ⟨e1, e2, e3, e4⟩ := ho
  rw [e1, e2] at hd0
  rw [e3, e4] at hd1
  obtain ⟨c, hb, s0⟩ := read_int h0 hd0
  obtain ⟨C, hM, s1⟩ := read_clus h1 he hd1
  rw [hsz] at hcs
  refine ⟨(c, C), ?_, Nat.le_trans hM (by decide), hb⟩
  simp only [SimV]
  refine ⟨cs, rfl, hcs, ?_⟩
  obtain ⟨l⟩ := cs
  match l with
  | [] => simp at hcs
  | [_] => simp at hcs
  | _ :: _ :: _ :: _ => simp at hcs
  | [p, q] =>
    simp only [Value.cells, List.drop_zero, List.take_succ_cons, List.take_zero, List.drop_succ_cons, SimL, and_true] at s0 s1 ⊢
    exact ⟨s0, s1⟩
end Go.Am
namespace Go.Proofs.Yteiipnadhalnbaa
open Go.ChangeShapes Go.WideShapes Go.ChangeAt Go.RowKit
theorem factMayEnter : Try.checked.prog.mayEnter = true := by kernel_rfl
end Go.Proofs.Yteiipnadhalnbaa
namespace Go.Proofs.Yteiipnadhalnbaa
open Go.ChangeShapes Go.WideShapes Go.ChangeAt Go.RowKit
theorem factLifts : Try.checked.prog.liftsFinal = false := by kernel_rfl
end Go.Proofs.Yteiipnadhalnbaa
namespace Go.Proofs.Yteiipnadhalnbaa
open Go.ChangeShapes Go.WideShapes Go.ChangeAt Go.RowKit
theorem factMake : Try.checked.prog.make = some (OpenClaim.make { program := "", sum := "", func := "", spec := "" }) := by kernel_rfl
end Go.Proofs.Yteiipnadhalnbaa
