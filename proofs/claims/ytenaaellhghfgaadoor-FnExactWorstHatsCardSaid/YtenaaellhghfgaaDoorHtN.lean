/- Contracts: how many are right for all hats. -/
import Derived.Test.YtenaaellhghfgaaDoorHtX3
import Derived.Test.YtenaaellhghfgaaDoorMaHh
namespace Go.Proofs.YtenaaellhghfgaaDoor
open Go.Am
attribute [local irreducible] AW Outs Weak Lends Lend Sp aops atree aop1 Then Round InBlock Done

theorem slicesMin_spec (L : List Int) (h0 : 0 < L.length) (hL : L.length ≤ 1048576) : Sp Tryd.prog 56 [ints L] (.i (L.foldl mnF (L.getD 0 0))) := by
  refine spec_of Tryd.func56 rfl cc56 rfl ?_
  unfold ac56
  have hz : L.getD 0 0 = (L.take 1).foldl mnF (L.getD 0 0) := by
    rw [fold_snoc mnF L _ 0 h0]
    simp [mnF]
  repeat (first | (refine step_ops ?_; (first | (refine m_mov (by conv => lhs; whnf) ?_) | (refine m_lss rfl rfl ?_) | (refine m_len_ro rfl ?_) | (refine m_idx1_ro rfl rfl ?_ ?_; (· omega)) | (refine m_ld_rpi rfl ?_ ?_; (· omega)))) | refine end_ops ?_ | refine seq_ops ?_ | (refine cond_f rfl ?_ ?_; (· first | rfl | assumption | (refine decide_eq_false ?_; first | assumption | omega) | (refine nf ?_; first | assumption | omega) | (simp [*]; done))) | refine skip_then ?_ | refine AW_seq ?_ | refine AW_block ?_)
  refine AW_loop (α := Nat) (fun k => k + 1 ≤ L.length) (fun k => st [(0, ints L), (3, .i ((L.take (k + 1)).foldl mnF (L.getD 0 0))), (4, .i ((k + 1 : Nat) : Int))] []) (fun k => L.length - k) 0 (by omega) (weak_st ?_ ?_ rfl rfl) ?_
  · rw [← hz]
    (repeat' (first | exact trivial | refine And.intro ?_ ?_)) <;> (first | rfl | skip)
  · trivial
  intro k hk
  by_cases h : k + 1 < L.length
  · have hs := fold_snoc mnF L (L.getD 0 0) (k + 1) h
    repeat (first | (refine step_ops ?_; (first | (refine m_mov (by conv => lhs; whnf) ?_) | (refine m_lss rfl rfl ?_) | (refine m_add rfl rfl ?_ ?_ ?_; (· omega); (· omega)) | (refine m_len_ro rfl ?_) | (refine m_idx1_ro rfl rfl ?_ ?_; (· omega)) | (refine m_ld_rpi rfl ?_ ?_; (· omega)) | (refine m_min rfl rfl ?_))) | refine end_ops ?_ | refine seq_ops ?_ | refine AW_ops ?_ | (refine cond_t rfl ?_ ?_; (· first | rfl | assumption | (refine decide_eq_true ?_; first | assumption | omega) | (refine nt ?_; first | assumption | omega) | (simp [*]; done))) | refine skip_then ?_ | refine AW_seq ?_ | refine norm_then ?_ | refine AW_block ?_ | refine norm_block ?_)
    refine next_round (k + 1) (by omega) (weak_st ?_ ?_ rfl rfl) ?_
    · rw [hs]
      (repeat' (first | exact trivial | refine And.intro ?_ ?_)) <;> (first | rfl | skip)
    · trivial
    · omega
  · rw [List.take_of_length_le (by omega)]
    repeat (first | (refine step_ops ?_; (first | (refine m_mov (by conv => lhs; whnf) ?_) | (refine m_lss rfl rfl ?_) | (refine m_len_ro rfl ?_))) | refine end_ops ?_ | refine seq_ops ?_ | (refine cond_f rfl ?_ ?_; (· first | rfl | assumption | (refine decide_eq_false ?_; first | assumption | omega) | (refine nf ?_; first | assumption | omega) | (simp [*]; done))) | refine AW_seq ?_ | refine AW_ret ?_ | refine ret_done ?_ | refine norm_then ?_ | refine exit_then ?_ | refine exit_round ?_ | refine AW_exit ?_ | refine exit_block ?_)
    exact outs_i rfl

theorem slicesMax_spec (L : List Int) (h0 : 0 < L.length) (hL : L.length ≤ 1048576) : Sp Tryd.prog 58 [ints L] (.i (L.foldl mxF (L.getD 0 0))) := by
  refine spec_of Tryd.func58 rfl cc58 rfl ?_
  unfold ac58
  have hz : L.getD 0 0 = (L.take 1).foldl mxF (L.getD 0 0) := by
    rw [fold_snoc mxF L _ 0 h0]
    simp [mxF]
  repeat (first | (refine step_ops ?_; (first | (refine m_mov (by conv => lhs; whnf) ?_) | (refine m_lss rfl rfl ?_) | (refine m_len_ro rfl ?_) | (refine m_idx1_ro rfl rfl ?_ ?_; (· omega)) | (refine m_ld_rpi rfl ?_ ?_; (· omega)))) | refine end_ops ?_ | refine seq_ops ?_ | (refine cond_f rfl ?_ ?_; (· first | rfl | assumption | (refine decide_eq_false ?_; first | assumption | omega) | (refine nf ?_; first | assumption | omega) | (simp [*]; done))) | refine skip_then ?_ | refine AW_seq ?_ | refine AW_block ?_)
  refine AW_loop (α := Nat) (fun k => k + 1 ≤ L.length) (fun k => st [(0, ints L), (3, .i ((L.take (k + 1)).foldl mxF (L.getD 0 0))), (4, .i ((k + 1 : Nat) : Int))] []) (fun k => L.length - k) 0 (by omega) (weak_st ?_ ?_ rfl rfl) ?_
  · rw [← hz]
    (repeat' (first | exact trivial | refine And.intro ?_ ?_)) <;> (first | rfl | skip)
  · trivial
  intro k hk
  by_cases h : k + 1 < L.length
  · have hs := fold_snoc mxF L (L.getD 0 0) (k + 1) h
    repeat (first | (refine step_ops ?_; (first | (refine m_mov (by conv => lhs; whnf) ?_) | (refine m_lss rfl rfl ?_) | (refine m_add rfl rfl ?_ ?_ ?_; (· omega); (· omega)) | (refine m_len_ro rfl ?_) | (refine m_idx1_ro rfl rfl ?_ ?_; (· omega)) | (refine m_ld_rpi rfl ?_ ?_; (· omega)) | (refine m_max rfl rfl ?_))) | refine end_ops ?_ | refine seq_ops ?_ | refine AW_ops ?_ | (refine cond_t rfl ?_ ?_; (· first | rfl | assumption | (refine decide_eq_true ?_; first | assumption | omega) | (refine nt ?_; first | assumption | omega) | (simp [*]; done))) | refine skip_then ?_ | refine AW_seq ?_ | refine norm_then ?_ | refine AW_block ?_ | refine norm_block ?_)
    refine next_round (k + 1) (by omega) (weak_st ?_ ?_ rfl rfl) ?_
    · rw [hs]
      (repeat' (first | exact trivial | refine And.intro ?_ ?_)) <;> (first | rfl | skip)
    · trivial
    · omega
  · rw [List.take_of_length_le (by omega)]
    repeat (first | (refine step_ops ?_; (first | (refine m_mov (by conv => lhs; whnf) ?_) | (refine m_lss rfl rfl ?_) | (refine m_len_ro rfl ?_))) | refine end_ops ?_ | refine seq_ops ?_ | (refine cond_f rfl ?_ ?_; (· first | rfl | assumption | (refine decide_eq_false ?_; first | assumption | omega) | (refine nf ?_; first | assumption | omega) | (simp [*]; done))) | refine AW_seq ?_ | refine AW_ret ?_ | refine ret_done ?_ | refine norm_then ?_ | refine exit_then ?_ | refine exit_round ?_ | refine AW_exit ?_ | refine exit_block ?_)
    exact outs_i rfl

theorem slicesIdx_spec (L : List Int) (c : Int) (k : Nat) (hk : k < L.length) (hc : L.getD k 0 = c) (hno : ∀ j, j < k → L.getD j 0 ≠ c) (hL : L.length ≤ 1048576) : Sp Tryd.prog 60 [ints L, .i c] (.i k) := by
  refine spec_of Tryd.func60 rfl cc60 rfl ?_
  unfold ac60
  repeat (first | (refine step_ops ?_; (first | (refine m_mov (by conv => lhs; whnf) ?_) | (refine m_len_ro rfl ?_))) | refine end_ops ?_ | refine seq_ops ?_ | refine AW_seq ?_ | refine AW_block ?_)
  refine AW_loop (α := Nat) (fun j => j ≤ k) (fun j => st [(0, ints L), (1, .i c), (7, .i L.length), (8, .i j)] []) (fun j => k - j) 0 (Nat.zero_le _) (weak_st ?_ ?_ rfl rfl) ?_
  · (repeat' (first | exact trivial | refine And.intro ?_ ?_)) <;> (first | rfl | skip)
  · trivial
  intro j hj
  by_cases h : j = k
  · subst h
    have hc' : c = L.getD j 0 := hc.symm
    repeat (first | (refine step_ops ?_; (first | (refine m_mov (by conv => lhs; whnf) ?_) | (refine m_lss rfl rfl ?_) | (refine m_eql rfl rfl ?_) | (refine m_idx1_ro rfl rfl ?_ ?_; (· omega)) | (refine m_ld_rpi rfl ?_ ?_; (· omega)))) | refine end_ops ?_ | refine seq_ops ?_ | (refine cond_t rfl ?_ ?_; (· first | rfl | assumption | (refine decide_eq_true ?_; first | assumption | omega) | (refine nt ?_; first | assumption | omega) | (simp [*]; done))) | refine skip_then ?_ | refine AW_seq ?_ | refine AW_ret ?_ | refine ret_done ?_ | refine ret_then ?_ | refine AW_block ?_ | refine ret_block ?_ | refine ret_round ?_)
    exact outs_i rfl
  · have hn := hno j (by omega)
    have hn' : ¬ c = L.getD j 0 := fun e => hn e.symm
    repeat (first | (refine step_ops ?_; (first | (refine m_mov (by conv => lhs; whnf) ?_) | (refine m_lss rfl rfl ?_) | (refine m_eql rfl rfl ?_) | (refine m_add rfl rfl ?_ ?_ ?_; (· omega); (· omega)) | (refine m_idx1_ro rfl rfl ?_ ?_; (· omega)) | (refine m_ld_rpi rfl ?_ ?_; (· omega)))) | refine end_ops ?_ | refine seq_ops ?_ | refine AW_ops ?_ | (refine cond_t rfl ?_ ?_; (· first | rfl | assumption | (refine decide_eq_true ?_; first | assumption | omega) | (refine nt ?_; first | assumption | omega) | (simp [*]; done))) | (refine cond_f rfl ?_ ?_; (· first | rfl | assumption | (refine decide_eq_false ?_; first | assumption | omega) | (refine nf ?_; first | assumption | omega) | (simp [*]; done))) | refine skip_then ?_ | refine AW_seq ?_ | refine norm_then ?_ | refine AW_block ?_ | refine norm_block ?_ | refine AW_skip ?_)
    refine next_round (j + 1) (by omega) (weak_st ?_ ?_ rfl rfl) ?_
    · (repeat' (first | exact trivial | refine And.intro ?_ ?_)) <;> (first | rfl | skip)
    · trivial
    · omega

theorem ask_dgs {c : Nat} {G : List (List UInt8)} (h : IsPln c G) (n : Nat) : AskOk c G (dgs c G.length n) :=
  ⟨h, dgs_len _ _ _, by rw [Int.toNat_natCast]; exact dgs_col (by have := h.2.1; omega) (by have := h.2.1; omega) _ _⟩

theorem rightNumbers_spec (c : Nat) (G : List (List UInt8)) (mask : List UInt8) (h : IsPln c G) : Sp Tryd.prog 57 [gmV false c G mask] (newInts (rls c G (c ^ G.length))) := by
  have h4 := h.1
  have hc := h.2.1
  have hp := pow_le c (by omega) G.length (by omega)
  have hal := allH_len c G.length
  unfold gmV
  rw [Int.toNat_natCast]
  refine spec_of Tryd.func57 rfl cc57 rfl ?_
  unfold ac57
  repeat (first | (refine step_ops ?_; (first | (apply m_ld_pt; (· rfl); (· rfl); (· rfl)) | (refine m_nils ?_) | (refine m_fa rfl ?_) | (refine m_box rfl ?_ ?_; (· first | rfl | (simp [cellOk, Value.oneCell']; done))))) | refine end_ops ?_ | refine seq_ops ?_ | refine AW_seq ?_)
  (refine step_ops ?_); (apply m_call (allHats_spec G.length c (by omega) (by omega) (by omega))); (· repeat (first | exact lends_nil | (refine lends_cons ?_ ?_; (· exact lend_v))))
  repeat (first | (refine step_ops ?_; (first | (refine m_mov (by conv => lhs; whnf) ?_) | (refine m_len_ro rfl ?_))) | refine end_ops ?_ | refine AW_block ?_)
  refine AW_loop (α := Nat) (fun k => k ≤ c ^ G.length) (fun k => st [(1, .pt 1 0), (3, .sl 3 1 0 (rls c G k).length), (10, .ro true 1 (txs (allH c G.length)) (allH c G.length).length), (11, .i (allH c G.length).length), (12, .i k)]
    [(1, (true, [.i (G.length : Nat), .i c, .rmp false (esV (gAll c G G.length)) (gAll c G G.length).length, str mask])), (3, (true, (rls c G k).map AV.i))]) (fun k => c ^ G.length - k) 0 (Nat.zero_le _) (weak_st ?_ ?_ rfl rfl) ?_
  · (repeat' (first | exact trivial | refine And.intro ?_ ?_)) <;> (first | rfl | skip)
  · exact ⟨rfl, rfl, trivial⟩
  intro k hk
  have hrl := rls_len c G k
  by_cases hlt : k < c ^ G.length
  · have hat := txs_at (G := allH c G.length) (k := k) (by omega)
    rw [allH_get hlt] at hat
    have hA := ask_dgs h k
    have hg := guessesFor_spec c G (dgs c G.length k) mask hA
    have hcol := hA.2.2
    rw [Int.toNat_natCast] at hcol
    have hgl := gsH_len c G (dgs c G.length k) G.length
    have hdl := dgs_len c G.length k
    have hra := rightAmong_spec (gsH c G (dgs c G.length k) G.length) (dgs c G.length k) c (by omega) hcol (by omega) (by omega)
    rw [hgl] at hra
    have hs := rls_succ c G k
    unfold rtN at hs
    have hle := rgt_le (gsH c G (dgs c G.length k) G.length) (dgs c G.length k) G.length
    generalize gsH c G (dgs c G.length k) G.length = gs at *
    generalize dgs c G.length k = D at *
    generalize rgt gs D G.length = rr at *
    repeat (first | (refine step_ops ?_; (first | (refine m_lss rfl rfl ?_) | (refine m_idx1_ro rfl rfl ?_ ?_; (· omega)))) | refine end_ops ?_ | refine seq_ops ?_ | (refine cond_t rfl ?_ ?_; (· first | rfl | assumption | (refine decide_eq_true ?_; first | assumption | omega) | (refine nt ?_; first | assumption | omega) | (simp [*]; done))) | refine skip_then ?_ | refine AW_seq ?_ | refine AW_block ?_)
    refine step_ops ?_
    refine m_ld_rp rfl hat ?_
    repeat (first | (refine step_ops ?_; (first | (refine m_mov (by conv => lhs; whnf) ?_) | (refine m_ldall rfl rfl ?_ ?_; (· first | rfl | (simp; done) | (simp [*]; done))))) | refine end_ops ?_ | refine AW_ops ?_)
    refine step_ops ?_
    refine m_call hg ?_ ?_
    · exact lends_cons (lend_gm (c := (c : Int)) rfl) (lends_cons lend_v lends_nil)
    repeat (refine step_ops ?_; (refine m_mov (by conv => lhs; whnf) ?_))
    (refine step_ops ?_); (apply m_call (hra)); (· repeat (first | exact lends_nil | (refine lends_cons ?_ ?_; (· exact lend_v))))
    repeat (first | (refine step_ops ?_; (first | (refine m_mov (by conv => lhs; whnf) ?_) | (refine m_add rfl rfl ?_ ?_ ?_; (· omega); (· omega)) | (refine m_len_ro rfl ?_) | (refine m_bsl1 rfl rfl ?_) | (refine m_app1i rfl (by decide) (by rfl) (by first | rfl | omega | (simp; done)) rfl rfl ?_ (by decide) ?_; (· first | omega | (simp; omega))))) | refine end_ops ?_ | refine AW_ops ?_ | refine norm_then ?_ | refine norm_block ?_)
    refine next_round (k + 1) hlt (Weak.trans (weak_move (r := 24) (q := 3) rfl (by decide) (by decide)) (weak_st ?_ ?_ rfl rfl)) ?_
    · rw [hs]
      (repeat' (first | exact trivial | refine And.intro ?_ ?_)) <;> (first | rfl | skip)
    · rw [hs]
      exact ⟨rfl, rfl, trivial⟩
    · omega
  · obtain rfl : k = c ^ G.length := by omega
    repeat (first | (refine step_ops ?_; (first | (refine m_mov (by conv => lhs; whnf) ?_) | (refine m_lss rfl rfl ?_))) | refine end_ops ?_ | refine seq_ops ?_ | (refine cond_f rfl ?_ ?_; (· first | rfl | assumption | (refine decide_eq_false ?_; first | assumption | omega) | (refine nf ?_; first | assumption | omega) | (simp [*]; done))) | refine AW_seq ?_ | refine AW_ret ?_ | refine ret_done ?_ | refine norm_then ?_ | refine exit_then ?_ | refine exit_round ?_ | refine AW_exit ?_ | refine exit_block ?_)
    exact outs_ints rfl rfl rfl

theorem haBy_spec (c : Nat) (G : List (List UInt8)) (k : Nat) (h : IsPln c G) (hk : IsWst c G k) : Sp Tryd.prog 55 [pln c G] (.tup [newInts (cntL c G (c ^ G.length)), str (dgs c G.length k)]) := by
  have h4 := h.1
  have hc := h.2.1
  have hp := pow_le c (by omega) G.length (by omega)
  refine spec_of Tryd.func55 rfl cc55 rfl ?_
  unfold ac55
  repeat (first | (refine step_ops ?_; (first | (refine m_mov (by conv => lhs; whnf) ?_) | (refine m_add rfl rfl ?_ ?_ ?_; (· omega); (· omega)) | (refine m_len_ro rfl ?_) | (apply m_ld_pt; (· rfl); (· rfl); (· rfl)) | (refine m_nils ?_) | (refine m_fa rfl ?_) | (refine m_box rfl ?_ ?_; (· first | rfl | (simp [cellOk, Value.oneCell']; done))))) | refine end_ops ?_ | refine seq_ops ?_)
  refine step_ops ?_
  refine m_mk (n := G.length + 1) rfl rfl ?_ ?_ ?_
  · omega
  · omega
  repeat (first | (refine step_ops ?_; (first | (refine m_mov (by conv => lhs; whnf) ?_) | (refine m_add rfl rfl ?_ ?_ ?_; (· omega); (· omega)))) | refine end_ops ?_ | refine seq_ops ?_ | refine AW_seq ?_ | refine AW_block ?_)
  refine AW_loop (α := Nat × List UInt8 × Nat) (fun a => a.1 ≤ c ^ G.length ∧ (a.1 = 0 → a.2.2 = G.length + 1) ∧ (∀ j, j < a.1 → a.2.2 ≤ rtN c G j) ∧ (a.1 = 0 ∨ ∃ i, i < a.1 ∧ rtN c G i = a.2.2 ∧ a.2.1 = dgs c G.length i ∧ ∀ j, j < i → a.2.2 < rtN c G j))
    (fun a => st [(1, .pt 1 0), (4, .i G.length), (5, .sl 16 1 0 (G.length + 1)), (6, str a.2.1), (7, .i a.2.2), (8, .i a.1)] [(1, (true, [.i c, .ro false 1 (txs G) G.length])), (16, (true, (cntL c G a.1).map AV.i))]) (fun a => c ^ G.length - a.1) (0, [], G.length + 1) ⟨Nat.zero_le _, fun _ => rfl, fun j hj => by omega, .inl rfl⟩ (weak_st ?_ ?_ rfl rfl) ?_
  · (repeat' (first | exact trivial | refine And.intro ?_ ?_)) <;> (first | rfl | skip)
  · refine ⟨rfl, ?_, trivial⟩
    rw [cntL_zero]
    show some (true, (List.replicate (G.length + 1) (List.map AV.v [Value.int .i64 0])).flatten) = _
    simp [List.flatten_replicate_singleton]
  rintro ⟨n, w, l⟩ ⟨hn, hz, hall, hw⟩
  dsimp only at hn hz hall hw ⊢
  by_cases hlt : n < c ^ G.length
  · have hA := ask_dgs h n
    have hg := haGuesses_spec c G (dgs c G.length n) hA
    have hcol := hA.2.2
    rw [Int.toNat_natCast] at hcol
    have hgl := gsH_len c G (dgs c G.length n) G.length
    have hgc := gsH_col h (dgs_len c G.length n) hcol (Nat.le_refl _)
    have hdl := dgs_len c G.length n
    have hra := haRight_spec (gsH c G (dgs c G.length n) G.length) (dgs c G.length n) c (by omega) hgc (by omega) (by omega)
    rw [hgl] at hra
    have hR : (rgt (gsH c G (dgs c G.length n) G.length) (dgs c G.length n) G.length).length = rtN c G n := rfl
    have hle := rtN_le c G n
    have hcl := cntL_len c G n
    have hset := cntL_set c G n
    have hget := cntL_get c G (n := n) (r := rtN c G n) (by omega)
    have hcle := cntR_le c G n (rtN c G n)
    rw [← hget] at hset
    have hL : 0 ≤ (cntL c G n).getD (rtN c G n) 0 ∧ (cntL c G n).getD (rtN c G n) 0 ≤ 81 := by omega
    have hdig := haDigits_spec n c G.length (by omega) (by omega) (by omega) (by omega)
    generalize rgt (gsH c G (dgs c G.length n) G.length) (dgs c G.length n) G.length = rr at *
    generalize gsH c G (dgs c G.length n) G.length = gs at *
    have hwz : ∀ i, i < n → n ≠ 0 := fun i hi => by omega
    by_cases hb : (rtN c G n : Int) < (l : Int)
    · have hinv : (n + 1 = 0 → rtN c G n = G.length + 1) ∧ (∀ j, j < n + 1 → rtN c G n ≤ rtN c G j) ∧ (n + 1 = 0 ∨ ∃ i, i < n + 1 ∧ rtN c G i = rtN c G n ∧ dgs c G.length n = dgs c G.length i ∧ ∀ j, j < i → rtN c G n < rtN c G j) := by
        refine ⟨by omega, fun j hj => ?_, .inr ⟨n, by omega, rfl, rfl, fun j hj => ?_⟩⟩
        · by_cases e : j = n
          · subst e; exact Nat.le_refl _
          · have := hall j (by omega); omega
        · have := hall j hj; omega
      repeat (first | (refine step_ops ?_; (first | (refine m_mov (by conv => lhs; whnf) ?_) | (apply m_ld_pt; (· rfl); (· rfl); (· rfl)) | (refine m_fa rfl ?_))) | refine seq_ops ?_ | refine AW_seq ?_)
      (refine step_ops ?_); (apply m_call (haCount_spec c G.length (by omega) (by omega))); (· repeat (first | exact lends_nil | (refine lends_cons ?_ ?_; (· exact lend_v))))
      repeat (first | (refine step_ops ?_; (first | (refine m_mov (by conv => lhs; whnf) ?_) | (refine m_lss rfl rfl ?_) | (apply m_ld_pt; (· rfl); (· rfl); (· rfl)) | (refine m_fa rfl ?_))) | refine end_ops ?_ | refine seq_ops ?_ | (refine cond_t rfl ?_ ?_; (· first | rfl | assumption | (refine decide_eq_true ?_; first | assumption | omega) | (refine nt ?_; first | assumption | omega) | (simp [*]; done))) | refine skip_then ?_ | refine AW_seq ?_ | refine AW_block ?_)
      (refine step_ops ?_); (apply m_call (hdig)); (· repeat (first | exact lends_nil | (refine lends_cons ?_ ?_; (· exact lend_v))))
      repeat (first | (refine step_ops ?_; (first | (refine m_mov (by conv => lhs; whnf) ?_) | (refine m_ldall rfl rfl ?_ ?_; (· first | rfl | (simp; done) | (simp [*]; done))))) | refine end_ops ?_ | refine seq_ops ?_)
      (refine step_ops ?_); (apply m_call (hg)); (· repeat (first | exact lends_nil | (refine lends_cons ?_ ?_; (· (first | exact lend_v | (refine lend_pln rfl; done))))))
      repeat (refine step_ops ?_; (refine m_mov (by conv => lhs; whnf) ?_))
      (refine step_ops ?_); (apply m_call (hra)); (· repeat (first | exact lends_nil | (refine lends_cons ?_ ?_; (· exact lend_v))))
      repeat (first | (refine step_ops ?_; (first | (refine m_mov (by conv => lhs; whnf) ?_) | (refine m_len_ro rfl ?_) | (refine m_idx1_sl rfl rfl ?_ ?_; (· omega)) | (refine m_ld_pti rfl (by rfl) ?_ ?_; (· first | omega | (simp; omega))))) | refine end_ops ?_ | refine seq_ops ?_)
      rw [hR]
      repeat (first | (refine step_ops ?_; (first | (refine m_mov (by conv => lhs; whnf) ?_) | (refine m_lss rfl rfl ?_) | (refine m_add rfl rfl ?_ ?_ ?_; (· omega); (· omega)) | (refine m_idx1_sl rfl rfl ?_ ?_; (· omega)) | (apply m_st; (· rfl); (· rfl); (· rfl); (· first | omega | (simp; done) | (simp; omega)); (· rfl)))) | refine end_ops ?_ | refine seq_ops ?_ | refine AW_ops ?_ | (refine cond_t rfl ?_ ?_; (· first | rfl | assumption | (refine decide_eq_true ?_; first | assumption | omega) | (refine nt ?_; first | assumption | omega) | (simp [*]; done))) | refine norm_then ?_ | refine norm_block ?_)
      refine next_round (n + 1, dgs c G.length n, rtN c G n) ⟨hlt, hinv⟩ (weak_st ?_ ?_ rfl rfl) ?_
      · (repeat' (first | exact trivial | refine And.intro ?_ ?_)) <;> (first | rfl | skip)
      · refine ⟨rfl, ?_, trivial⟩
        show some (true, ((cntL c G n).map AV.i).set (rtN c G n) (AV.i ((cntL c G n).getD (rtN c G n) 0 + 1))) = _
        rw [← hset, List.map_set]
      · show c ^ G.length - (n + 1) < c ^ G.length - n
        omega
    · have hinv : (n + 1 = 0 → l = G.length + 1) ∧ (∀ j, j < n + 1 → l ≤ rtN c G j) ∧ (n + 1 = 0 ∨ ∃ i, i < n + 1 ∧ rtN c G i = l ∧ w = dgs c G.length i ∧ ∀ j, j < i → l < rtN c G j) := by
        have hn0 : n ≠ 0 := fun e => by have := hz e; omega
        refine ⟨by omega, fun j hj => ?_, ?_⟩
        · by_cases e : j = n
          · subst e; omega
          · exact hall j (by omega)
        · rcases hw with hw | ⟨i, h1, h2⟩
          · exact absurd hw hn0
          · exact .inr ⟨i, by omega, h2⟩
      repeat (first | (refine step_ops ?_; (first | (refine m_mov (by conv => lhs; whnf) ?_) | (apply m_ld_pt; (· rfl); (· rfl); (· rfl)) | (refine m_fa rfl ?_))) | refine seq_ops ?_ | refine AW_seq ?_)
      (refine step_ops ?_); (apply m_call (haCount_spec c G.length (by omega) (by omega))); (· repeat (first | exact lends_nil | (refine lends_cons ?_ ?_; (· exact lend_v))))
      repeat (first | (refine step_ops ?_; (first | (refine m_mov (by conv => lhs; whnf) ?_) | (refine m_lss rfl rfl ?_) | (apply m_ld_pt; (· rfl); (· rfl); (· rfl)) | (refine m_fa rfl ?_))) | refine end_ops ?_ | refine seq_ops ?_ | (refine cond_t rfl ?_ ?_; (· first | rfl | assumption | (refine decide_eq_true ?_; first | assumption | omega) | (refine nt ?_; first | assumption | omega) | (simp [*]; done))) | refine skip_then ?_ | refine AW_seq ?_ | refine AW_block ?_)
      (refine step_ops ?_); (apply m_call (hdig)); (· repeat (first | exact lends_nil | (refine lends_cons ?_ ?_; (· exact lend_v))))
      repeat (first | (refine step_ops ?_; (first | (refine m_mov (by conv => lhs; whnf) ?_) | (refine m_ldall rfl rfl ?_ ?_; (· first | rfl | (simp; done) | (simp [*]; done))))) | refine end_ops ?_ | refine seq_ops ?_)
      (refine step_ops ?_); (apply m_call (hg)); (· repeat (first | exact lends_nil | (refine lends_cons ?_ ?_; (· (first | exact lend_v | (refine lend_pln rfl; done))))))
      repeat (refine step_ops ?_; (refine m_mov (by conv => lhs; whnf) ?_))
      (refine step_ops ?_); (apply m_call (hra)); (· repeat (first | exact lends_nil | (refine lends_cons ?_ ?_; (· exact lend_v))))
      repeat (first | (refine step_ops ?_; (first | (refine m_mov (by conv => lhs; whnf) ?_) | (refine m_len_ro rfl ?_) | (refine m_idx1_sl rfl rfl ?_ ?_; (· omega)) | (refine m_ld_pti rfl (by rfl) ?_ ?_; (· first | omega | (simp; omega))))) | refine end_ops ?_ | refine seq_ops ?_)
      rw [hR]
      repeat (first | (refine step_ops ?_; (first | (refine m_mov (by conv => lhs; whnf) ?_) | (refine m_lss rfl rfl ?_) | (refine m_add rfl rfl ?_ ?_ ?_; (· omega); (· omega)) | (refine m_idx1_sl rfl rfl ?_ ?_; (· omega)) | (apply m_st; (· rfl); (· rfl); (· rfl); (· first | omega | (simp; done) | (simp; omega)); (· rfl)))) | refine end_ops ?_ | refine seq_ops ?_ | refine AW_ops ?_ | (refine cond_f rfl ?_ ?_; (· first | rfl | assumption | (refine decide_eq_false ?_; first | assumption | omega) | (refine nf ?_; first | assumption | omega) | (simp [*]; done))) | refine norm_then ?_ | refine norm_block ?_ | refine AW_skip ?_)
      refine next_round (n + 1, w, l) ⟨hlt, hinv⟩ (weak_st ?_ ?_ rfl rfl) ?_
      · (repeat' (first | exact trivial | refine And.intro ?_ ?_)) <;> (first | rfl | skip)
      · refine ⟨rfl, ?_, trivial⟩
        show some (true, ((cntL c G n).map AV.i).set (rtN c G n) (AV.i ((cntL c G n).getD (rtN c G n) 0 + 1))) = _
        rw [← hset, List.map_set]
      · show c ^ G.length - (n + 1) < c ^ G.length - n
        omega
  · obtain rfl : n = c ^ G.length := by omega
    have hwk : w = dgs c G.length k := by
      rcases hw with hw | ⟨i, h1, h2, rfl, h3⟩
      · have := hk.1; omega
      · have k1 := hk.2.2 i h1
        have k2 := hall k hk.1
        rcases Nat.lt_trichotomy i k with e | e | e
        · have := hk.2.1 i e; omega
        · rw [e]
        · have := h3 k e; omega
    rw [← hwk]
    repeat (first | (refine step_ops ?_; (first | (refine m_mov (by conv => lhs; whnf) ?_) | (apply m_ld_pt; (· rfl); (· rfl); (· rfl)) | (refine m_fa rfl ?_))) | refine seq_ops ?_ | refine AW_seq ?_)
    (refine step_ops ?_); (apply m_call (haCount_spec c G.length (by omega) (by omega))); (· repeat (first | exact lends_nil | (refine lends_cons ?_ ?_; (· exact lend_v))))
    repeat (first | (refine step_ops ?_; (first | (refine m_mov (by conv => lhs; whnf) ?_) | (refine m_lss rfl rfl ?_))) | refine end_ops ?_ | refine seq_ops ?_ | (refine cond_f rfl ?_ ?_; (· first | rfl | assumption | (refine decide_eq_false ?_; first | assumption | omega) | (refine nf ?_; first | assumption | omega) | (simp [*]; done))) | refine AW_ret ?_ | refine ret_done ?_ | refine norm_then ?_ | refine exit_then ?_ | refine exit_round ?_ | refine AW_exit ?_ | refine exit_block ?_)
    exact outs_tup2 (outs_ints rfl rfl (by rw [cntL_len])) outs_v
end Go.Proofs.YtenaaellhghfgaaDoor
