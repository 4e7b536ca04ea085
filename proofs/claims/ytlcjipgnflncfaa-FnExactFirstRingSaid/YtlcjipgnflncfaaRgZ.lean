/- Contracts: may a guest's gift go to the next one, if a ring is to be made?. Contracts: the first ring, as the code finds it. -/
import Derived.Test.YtlcjipgnflncfaaRgF
import Derived.Test.YtlcjipgnflncfaaMaRx
import Derived.Test.YtlcjipgnflncfaaRgY
namespace Go.Proofs.Ytlcjipgnflncfaa
open Go.Am
attribute [local irreducible] AW Outs Weak Lends Lend Sp aops atree aop1 Then Round InBlock Done

def fitsR (F : List Int) (l : List Int) (x : Nat) : Bool := fitsG F l x && okR F.length l x
theorem canTakeInRing_spec (F M : List Int) (g : Nat) (h : IsFam F) (hl : M.length < F.length) (hb : ∀ x ∈ M, 0 ≤ x ∧ x < (F.length : Int)) (hn : M.Nodup) (hg : g < F.length) : Sp Try.prog 19 [.agg (kinV F), ints M, .i g] (.b (fitsR F M g)) := by
  have h9 := h.2.1
  have hkl := kinV_len h9
  have hpl := kinV_plain F
  have hb0 : ∀ y ∈ M, 0 ≤ y := fun y hy => (hb y hy).1
  have hsp := canTakeGift_spec F M g h hl hg
  unfold fitsR
  cases hf : fitsG F M g with
  | false =>
    rw [hf] at hsp
    refine spec_of Try.func19 rfl cc19 rfl ?_
    unfold ac19
    refine seq_ops ?_
    refine step_ops ?_
    refine m_box rfl (kinV_ok F true) ?_
    repeat (first | (refine step_ops ?_; (first | (refine m_mov (by conv => lhs; whnf) ?_) | (refine m_ldall rfl rfl ?_ ?_; (· first | rfl | (simp; done) | (simp [*]; done))))) | refine end_ops ?_ | refine seq_ops ?_ | refine AW_seq ?_)
    (refine step_ops ?_); (apply m_call (hsp)); (· repeat (first | exact lends_nil | (refine lends_cons ?_ ?_; (· (first | exact lend_v | (refine lend_ints ?_; first | rfl | omega) | (refine lend_agg ?_; first | rfl | assumption | (simp [plainV]; done)))))))
    repeat (first | (refine step_ops ?_; (first | (refine m_mov (by conv => lhs; whnf) ?_) | (refine m_not rfl ?_))) | refine end_ops ?_ | refine seq_ops ?_ | (refine cond_t rfl ?_ ?_; (· first | rfl | assumption | (refine decide_eq_true ?_; first | assumption | omega) | (refine nt ?_; first | assumption | omega) | (simp [*]; done))) | refine AW_ret ?_ | refine ret_done ?_ | refine ret_then ?_)
    exact outs_b rfl
  | true =>
    rw [hf] at hsp
    have hnew : (g : Int) ∉ M := by
      unfold fitsG at hf
      simp only [Bool.and_eq_true, Bool.not_eq_true', decide_eq_false_iff_not] at hf
      exact hf.2
    rw [Bool.true_and]
    refine spec_of Try.func19 rfl cc19 rfl ?_
    unfold ac19
    refine seq_ops ?_
    refine step_ops ?_
    refine m_box rfl (kinV_ok F true) ?_
    repeat (first | (refine step_ops ?_; (first | (refine m_mov (by conv => lhs; whnf) ?_) | (refine m_ldall rfl rfl ?_ ?_; (· first | rfl | (simp; done) | (simp [*]; done))))) | refine end_ops ?_ | refine seq_ops ?_ | refine AW_seq ?_)
    (refine step_ops ?_); (apply m_call (hsp)); (· repeat (first | exact lends_nil | (refine lends_cons ?_ ?_; (· (first | exact lend_v | (refine lend_ints ?_; first | rfl | omega) | (refine lend_agg ?_; first | rfl | assumption | (simp [plainV]; done)))))))
    repeat (first | (refine step_ops ?_; (first | (refine m_mov (by conv => lhs; whnf) ?_) | (refine m_not rfl ?_) | (refine m_len_ro rfl ?_))) | refine end_ops ?_ | refine seq_ops ?_ | (refine cond_f rfl ?_ ?_; (· first | rfl | assumption | (refine decide_eq_false ?_; first | assumption | omega) | (refine nf ?_; first | assumption | omega) | (simp [*]; done))) | refine skip_then ?_ | refine AW_seq ?_ | refine AW_block ?_)
    refine AW_loop (α := Nat) (fun t => ∀ s, s < t → it M s g < M.length) (fun t => st [(1, ints M), (3, .pt 3 0), (7, .i M.length), (8, .i (it M t g : Nat))] [(3, (true, kinV F))]) (fun t => M.length + 1 - t) 0 (fun s hs => by omega) (weak_st ?_ ?_ rfl rfl) ?_
    · (repeat' (first | exact trivial | refine And.intro ?_ ?_)) <;> (first | rfl | skip)
    · (repeat' (first | exact trivial | refine And.intro ?_ ?_)) <;> (first | rfl | skip)
    intro t ht
    have htl := walk_len hb0 hn hnew ht
    by_cases hc : it M t g < M.length
    · have hnx : M.getD (it M t g) 0 = (it M (t + 1) g : Nat) := (nx_mem hb0 hc).2
      generalize hy : it M t g = y at *
      repeat (first | (refine step_ops ?_; (first | (refine m_mov (by conv => lhs; whnf) ?_) | (refine m_lss rfl rfl ?_) | (refine m_idx1_ro rfl rfl ?_ ?_; (· omega)) | (refine m_ld_rpi rfl ?_ ?_; (· omega)))) | refine end_ops ?_ | refine seq_ops ?_ | refine AW_ops ?_ | (refine cond_t rfl ?_ ?_; (· first | rfl | assumption | (refine decide_eq_true ?_; first | assumption | omega) | (refine nt ?_; first | assumption | omega) | (simp [*]; done))) | refine skip_then ?_ | refine AW_seq ?_ | refine AW_block ?_ | refine norm_block ?_)
      refine next_round (t + 1) (fun s hs => ?_) (weak_st ?_ ?_ rfl rfl) ?_
      · by_cases e : s = t
        · rw [e, hy]; exact hc
        · exact ht s (by omega)
      · rw [← hnx]
        (repeat' (first | exact trivial | refine And.intro ?_ ?_)) <;> (first | rfl | skip)
      · (repeat' (first | exact trivial | refine And.intro ?_ ?_)) <;> (first | rfl | skip)
      · show M.length + 1 - (t + 1) < M.length + 1 - t
        omega
    · have he := endR_eq M t (M.length + 1) g (by omega) ht (by omega)
      have hok : okR F.length M g = (decide (((it M t g : Nat) : Int) ≠ (M.length : Int)) || decide ((M.length : Int) = (F.length : Int) - 1)) := by
        unfold okR
        rw [he]
        congr 1
        · rw [decide_eq_decide]; omega
        · rw [decide_eq_decide]; omega
      rw [hok]
      generalize it M t g = y at *
      by_cases e : y = M.length
      · have hne : decide (((y : Nat) : Int) ≠ (M.length : Int)) = false := decide_eq_false fun h => h (by omega)
        rw [hne, Bool.false_or]
        have hk0 : (kinV F)[0]? = some (.i F.length) := rfl
        repeat (first | (refine step_ops ?_; ((try (refine g_yes rfl ?_ ?_; (· first | rfl | assumption | (refine decide_eq_true ?_; first | assumption | omega) | (refine nt ?_; first | assumption | omega) | (simp [*]; done) | (refine decide_eq_false ?_; first | assumption | omega) | (refine nf ?_; first | assumption | omega)))); (first | (refine m_mov (by conv => lhs; whnf) ?_) | (refine m_lss rfl rfl ?_) | (refine m_eql rfl rfl ?_) | (refine m_neq rfl rfl ?_) | (refine m_sub rfl rfl ?_ ?_ ?_; (· omega); (· omega)) | (apply m_ld_pt; (· rfl); (· rfl); (· rfl)) | (refine m_pick_f rfl ?_ (by conv => lhs; whnf) ?_; (· first | rfl | assumption | (refine decide_eq_false ?_; first | assumption | omega) | (refine nf ?_; first | assumption | omega) | (simp [*]; done))) | (refine m_fa rfl ?_)))) | refine end_ops ?_ | refine seq_ops ?_ | (refine cond_f rfl ?_ ?_; (· first | rfl | assumption | (refine decide_eq_false ?_; first | assumption | omega) | (refine nf ?_; first | assumption | omega) | (simp [*]; done))) | refine AW_seq ?_ | refine AW_ret ?_ | refine ret_done ?_ | refine norm_then ?_ | refine exit_then ?_ | refine exit_round ?_ | refine AW_exit ?_ | refine exit_block ?_)
        exact outs_b rfl
      · have hne : decide (((y : Nat) : Int) ≠ (M.length : Int)) = true := decide_eq_true fun h => e (by omega)
        rw [hne, Bool.true_or]
        repeat (first | (refine step_ops ?_; (first | (first | (refine m_mov (by conv => lhs; whnf) ?_) | (refine m_lss rfl rfl ?_) | (refine m_neq rfl rfl ?_) | (refine m_pick_t rfl ?_ (by conv => lhs; whnf) ?_; (· first | rfl | assumption | (refine decide_eq_true ?_; first | assumption | omega) | (refine nt ?_; first | assumption | omega) | (simp [*]; done)))) | (refine g_noF rfl ?_ ?_; (· first | rfl | assumption | (refine decide_eq_true ?_; first | assumption | omega) | (refine nt ?_; first | assumption | omega) | (simp [*]; done))))) | refine end_ops ?_ | refine seq_ops ?_ | (refine cond_f rfl ?_ ?_; (· first | rfl | assumption | (refine decide_eq_false ?_; first | assumption | omega) | (refine nf ?_; first | assumption | omega) | (simp [*]; done))) | refine AW_seq ?_ | refine AW_ret ?_ | refine ret_done ?_ | refine norm_then ?_ | refine exit_then ?_ | refine exit_round ?_ | refine AW_exit ?_ | refine exit_block ?_)
        exact outs_b rfl
end Go.Proofs.Ytlcjipgnflncfaa

namespace Go.Proofs.Ytlcjipgnflncfaa
open Go.Am
attribute [local irreducible] AW Outs Weak Lends Lend Sp aops atree aop1 Then Round InBlock Done
attribute [local irreducible] SpM DoneM SpH DoneH SpG DoneT

theorem ring_first {F : List Int} (h : IsFam F) : (goOn (fitsR F) F.length F.length []).head? = ringS F := by
  have e1 : goOn (fitsR F) F.length F.length [] = (allG F).filter isRing := by
    show goOn (fun M x => fitsG F M x && okR F.length M x) F.length F.length [] = _
    rw [goOn_both]
    refine List.filter_congr fun m hm => ?_
    have hx := allG_ex h m hm
    have hl : m.length = F.length := by
      have := (goOn_pm (fitsG_new F) F.length [] List.nodup_nil (by simp) m hm).2.2
      simpa using this
    rw [← hl]
    exact ring_all (ex_pm hx) hx.1
  rw [e1, List.head?_filter, ringS, if_pos h]
theorem asks_ring {F : List Int} (h : IsFam F) : AsksI Try.prog 19 [.agg (kinV F)] F.length (fitsR F) List.Nodup where
  call := ⟨_, Try.func19, by rfl, by rfl⟩
  bears := bears_agg (kinV_plain F)
  norefs := fun _ => refsL_aggs (kinV_plain F)
  nokill := fun _ => killL_aggs (kinV_plain F)
  nil := List.nodup_nil
  take := fun M q hM => hM.sublist (List.take_sublist q M)
  snoc := fun M y hM _ _ hf => by
    unfold fitsR at hf
    rw [Bool.and_eq_true] at hf
    have hnew := fitsG_new F M y hf.1
    rw [List.nodup_append]
    refine ⟨hM, by simp, ?_⟩
    rintro a ha b hb rfl
    rw [List.mem_singleton] at hb
    subst hb
    exact hnew ha
  spec := fun M y hM hl hb hy => canTakeInRing_spec F M y h hl hb hM hy
theorem implFirstRing_spec (F : List Int) (hF : F.length ≤ 1048576) : Sp Try.prog 7 [ints F] (srchR (ringS F)) := by
  unfold srchR
  refine spec_of Try.func7 rfl cc7 rfl ?_
  unfold ac7
  by_cases h : IsFam F
  · have h9 := h.2.1
    have hs := firstFittingI_spec (asks_ring h) (by omega) h.1
    have hbe := bears_agg (kinV_plain F)
    rw [ring_first h] at hs
    repeat (first | (refine step_ops ?_; (first | (refine m_mov (by conv => lhs; whnf) ?_) | (refine m_not rfl ?_) | (refine m_len_ro rfl ?_) | (refine m_len_sl rfl ?_) | (refine m_len_nil rfl ?_) | (refine m_mkf ?_) | (refine m_nils ?_) | (refine m_ext rfl rfl ?_))) | refine end_ops ?_ | refine seq_ops ?_ | refine AW_ops ?_ | (refine cond_t rfl ?_ ?_; (· first | rfl | assumption | (refine decide_eq_true ?_; first | assumption | omega) | (refine nt ?_; first | assumption | omega) | (simp [*]; done))) | (refine cond_f rfl ?_ ?_; (· first | rfl | assumption | (refine decide_eq_false ?_; first | assumption | omega) | (refine nf ?_; first | assumption | omega) | (simp [*]; done))) | refine skip_then ?_ | refine AW_seq ?_ | refine AW_ret ?_ | refine ret_done ?_ | refine norm_then ?_ | refine ret_then ?_ | refine exit_then ?_ | refine AW_skip ?_)
    (refine step_ops ?_); (apply m_call (implAreFam_spec F hF)); (· repeat (first | exact lends_nil | (refine lends_cons ?_ ?_; (· (first | exact lend_v | (refine lend_roM rfl; done) | (refine lend_mat rfl ?_; intro j hj; simp (disch := first | omega | assumption) only [hp_put, hp_mem_ne, hp_kill_ne]; first | exact stM_row rfl hj | (rw [stM_row rfl hj]; rfl)) | (refine lend_ints ?_; first | rfl | omega) | (refine lend_sli (by rfl) ?_; first | rfl | omega | (simp; done)) | (refine lend_pln rfl; done) | (refine lend_plns rfl rfl; done) | (refine lend_txr rfl; done) | (refine lend_txs rfl rfl; done) | exact lend_any | (refine lend_agg ?_; first | rfl | assumption | (simp [plainV]; done)))))))
    repeat (first | (refine step_ops ?_; (first | (refine m_mov (by conv => lhs; whnf) ?_) | (refine m_not rfl ?_) | (refine m_len_ro rfl ?_) | (refine m_len_sl rfl ?_) | (refine m_len_nil rfl ?_) | (refine m_mkf ?_) | (refine m_nils ?_) | (refine m_ext rfl rfl ?_))) | refine end_ops ?_ | refine seq_ops ?_ | refine AW_ops ?_ | (refine cond_t rfl ?_ ?_; (· first | rfl | assumption | (refine decide_eq_true ?_; first | assumption | omega) | (refine nt ?_; first | assumption | omega) | (simp [*]; done))) | (refine cond_f rfl ?_ ?_; (· first | rfl | assumption | (refine decide_eq_false ?_; first | assumption | omega) | (refine nf ?_; first | assumption | omega) | (simp [*]; done))) | refine skip_then ?_ | refine AW_seq ?_ | refine AW_ret ?_ | refine ret_done ?_ | refine norm_then ?_ | refine ret_then ?_ | refine exit_then ?_ | refine AW_skip ?_)
    (refine step_ops ?_); (apply m_call (kinOf_spec F h)); (· repeat (first | exact lends_nil | (refine lends_cons ?_ ?_; (· (first | exact lend_v | (refine lend_roM rfl; done) | (refine lend_mat rfl ?_; intro j hj; simp (disch := first | omega | assumption) only [hp_put, hp_mem_ne, hp_kill_ne]; first | exact stM_row rfl hj | (rw [stM_row rfl hj]; rfl)) | (refine lend_ints ?_; first | rfl | omega) | (refine lend_sli (by rfl) ?_; first | rfl | omega | (simp; done)) | (refine lend_pln rfl; done) | (refine lend_plns rfl rfl; done) | (refine lend_txr rfl; done) | (refine lend_txs rfl rfl; done) | exact lend_any | (refine lend_agg ?_; first | rfl | assumption | (simp [plainV]; done)))))))
    repeat (first | (refine step_ops ?_; (first | (refine m_mov (by conv => lhs; whnf) ?_) | (refine m_not rfl ?_) | (refine m_len_ro rfl ?_) | (refine m_len_sl rfl ?_) | (refine m_len_nil rfl ?_) | (refine m_mkf ?_) | (refine m_nils ?_) | (refine m_ext rfl rfl ?_))) | refine end_ops ?_ | refine seq_ops ?_ | refine AW_ops ?_ | (refine cond_t rfl ?_ ?_; (· first | rfl | assumption | (refine decide_eq_true ?_; first | assumption | omega) | (refine nt ?_; first | assumption | omega) | (simp [*]; done))) | (refine cond_f rfl ?_ ?_; (· first | rfl | assumption | (refine decide_eq_false ?_; first | assumption | omega) | (refine nf ?_; first | assumption | omega) | (simp [*]; done))) | refine skip_then ?_ | refine AW_seq ?_ | refine AW_ret ?_ | refine ret_done ?_ | refine norm_then ?_ | refine ret_then ?_ | refine exit_then ?_ | refine AW_skip ?_)
    unfold srchR at hs
    generalize ringS F = sr at hs ⊢
    refine step_ops ?_
    refine m_callt hs ?_ (allv_ints _) rfl ?_
    · exact lends_cons lend_v (lends_cons (lend_bears hbe) lends_nil)
    repeat (first | (refine step_ops ?_; (first | (refine m_mov (by conv => lhs; whnf) ?_) | (refine m_not rfl ?_) | (refine m_len_ro rfl ?_) | (refine m_len_sl rfl ?_) | (refine m_len_nil rfl ?_) | (refine m_mkf ?_) | (refine m_nils ?_) | (refine m_ext rfl rfl ?_))) | refine end_ops ?_ | refine seq_ops ?_ | refine AW_ops ?_ | (refine cond_t rfl ?_ ?_; (· first | rfl | assumption | (refine decide_eq_true ?_; first | assumption | omega) | (refine nt ?_; first | assumption | omega) | (simp [*]; done))) | (refine cond_f rfl ?_ ?_; (· first | rfl | assumption | (refine decide_eq_false ?_; first | assumption | omega) | (refine nf ?_; first | assumption | omega) | (simp [*]; done))) | refine skip_then ?_ | refine AW_seq ?_ | refine AW_ret ?_ | refine ret_done ?_ | refine norm_then ?_ | refine ret_then ?_ | refine exit_then ?_ | refine AW_skip ?_)
    exact outs_tup2 (outs_ints rfl rfl rfl) (outs_b rfl)
  · have e : ringS F = none := if_neg h
    repeat (first | (refine step_ops ?_; (first | (refine m_mov (by conv => lhs; whnf) ?_) | (refine m_not rfl ?_) | (refine m_len_ro rfl ?_) | (refine m_len_sl rfl ?_) | (refine m_len_nil rfl ?_) | (refine m_mkf ?_) | (refine m_nils ?_) | (refine m_ext rfl rfl ?_))) | refine end_ops ?_ | refine seq_ops ?_ | refine AW_ops ?_ | (refine cond_t rfl ?_ ?_; (· first | rfl | assumption | (refine decide_eq_true ?_; first | assumption | omega) | (refine nt ?_; first | assumption | omega) | (simp [*]; done))) | (refine cond_f rfl ?_ ?_; (· first | rfl | assumption | (refine decide_eq_false ?_; first | assumption | omega) | (refine nf ?_; first | assumption | omega) | (simp [*]; done))) | refine skip_then ?_ | refine AW_seq ?_ | refine AW_ret ?_ | refine ret_done ?_ | refine norm_then ?_ | refine ret_then ?_ | refine exit_then ?_ | refine AW_skip ?_)
    (refine step_ops ?_); (apply m_call (implAreFam_spec F hF)); (· repeat (first | exact lends_nil | (refine lends_cons ?_ ?_; (· (first | exact lend_v | (refine lend_roM rfl; done) | (refine lend_mat rfl ?_; intro j hj; simp (disch := first | omega | assumption) only [hp_put, hp_mem_ne, hp_kill_ne]; first | exact stM_row rfl hj | (rw [stM_row rfl hj]; rfl)) | (refine lend_ints ?_; first | rfl | omega) | (refine lend_sli (by rfl) ?_; first | rfl | omega | (simp; done)) | (refine lend_pln rfl; done) | (refine lend_plns rfl rfl; done) | (refine lend_txr rfl; done) | (refine lend_txs rfl rfl; done) | exact lend_any | (refine lend_agg ?_; first | rfl | assumption | (simp [plainV]; done)))))))
    repeat (first | (refine step_ops ?_; (first | (refine m_mov (by conv => lhs; whnf) ?_) | (refine m_not rfl ?_) | (refine m_len_ro rfl ?_) | (refine m_len_sl rfl ?_) | (refine m_len_nil rfl ?_) | (refine m_mkf ?_) | (refine m_nils ?_) | (refine m_ext rfl rfl ?_))) | refine end_ops ?_ | refine seq_ops ?_ | refine AW_ops ?_ | (refine cond_t rfl ?_ ?_; (· first | rfl | assumption | (refine decide_eq_true ?_; first | assumption | omega) | (refine nt ?_; first | assumption | omega) | (simp [*]; done))) | (refine cond_f rfl ?_ ?_; (· first | rfl | assumption | (refine decide_eq_false ?_; first | assumption | omega) | (refine nf ?_; first | assumption | omega) | (simp [*]; done))) | refine skip_then ?_ | refine AW_seq ?_ | refine AW_ret ?_ | refine ret_done ?_ | refine norm_then ?_ | refine ret_then ?_ | refine exit_then ?_ | refine AW_skip ?_)
    rw [e]
    exact outs_tup2 (outs_ints rfl rfl rfl) (outs_b rfl)
theorem ringS_le (F : List Int) : ((ringS F).getD []).length ≤ 12 := by
  unfold ringS
  split
  · rename_i h
    cases e : (allG F).find? isRing with
    | none => simp
    | some m =>
      have := allG_ex h m (List.mem_of_find?_eq_some e)
      exact this.2.1
  · simp
end Go.Proofs.Ytlcjipgnflncfaa
