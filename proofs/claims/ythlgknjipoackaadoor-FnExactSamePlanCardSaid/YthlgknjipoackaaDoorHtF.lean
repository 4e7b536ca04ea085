/- Contracts: what the laws' helpers write into plans and find there. -/
import Derived.Test.YthlgknjipoackaaDoorHtE
import Derived.Test.YthlgknjipoackaaDoorAmHu
namespace Go.Proofs.YthlgknjipoackaaDoor
open Go.Am
attribute [local irreducible] AW Outs Weak Lends Lend Sp aops atree aop1 Then Round InBlock Done
attribute [local irreducible] SpM DoneM SpH DoneH

theorem eqStringS_spec (G M : List (List UInt8)) (hG : G.length ≤ 1048576) : Sp Tryd.prog 29 [.ro false 1 (txs G) G.length, .ro false 1 (txs M) M.length] (.b (decide (G = M))) := by
  refine spec_of Tryd.func29 rfl cc29 rfl ?_
  unfold ac29
  by_cases hlen : G.length = M.length
  · have hlen' : (decide ((G.length : Int) ≠ M.length)) = false := by simp [hlen]
    repeat (first | (refine step_ops ?_; (first | (refine m_mov (by conv => lhs; whnf) ?_) | (refine m_neq rfl rfl ?_) | (refine m_len_ro rfl ?_))) | refine end_ops ?_ | refine seq_ops ?_ | (refine cond_f rfl ?_ ?_; (· first | rfl | assumption | (refine decide_eq_false ?_; first | assumption | omega) | (refine nf ?_; first | assumption | omega) | (simp [*]; done))) | refine skip_then ?_ | refine AW_seq ?_ | refine AW_block ?_)
    refine AW_loop (α := Nat) (fun k => k ≤ G.length ∧ G.take k = M.take k) (fun k => st [(0, .ro false 1 (txs G) G.length), (1, .ro false 1 (txs M) M.length), (5, .i k)] []) (fun k => G.length - k) 0 (by simp) (weak_st ?_ ?_ rfl rfl) ?_
    · (repeat' (first | exact trivial | refine And.intro ?_ ?_)) <;> (first | rfl | skip)
    · trivial
    rintro k ⟨hk, he⟩
    by_cases h : k < G.length
    · have h' : k < M.length := by omega
      have hat := txs_at h
      have hat' := txs_at h'
      by_cases hx : G.getD k [] = M.getD k []
      · have hx' : (!decide (G.getD k [] = M.getD k [])) = false := by rw [decide_eq_true hx]; rfl
        repeat (first | ((first | refine step_ops ?_ | refine step_tree ?_); (first | (refine m_mov (by conv => lhs; whnf) ?_) | (refine m_lss rfl rfl ?_) | (refine m_len_ro rfl ?_) | (refine m_idx1_ro rfl rfl ?_ ?_; (· omega)))) | refine end_ops ?_ | refine seq_ops ?_ | refine seq_tree ?_ | (refine cond_t rfl ?_ ?_; (· first | rfl | assumption | (refine decide_eq_true ?_; first | assumption | omega) | (refine nt ?_; first | assumption | omega) | (simp [*]; done))) | refine skip_then ?_ | refine AW_seq ?_ | refine AW_block ?_)
        refine step_tree ?_
        refine m_ld_rp rfl hat ?_
        repeat (refine step_tree ?_; (first | (refine m_mov (by conv => lhs; whnf) ?_) | (refine m_idx1_ro rfl rfl ?_ ?_; (· omega))))
        refine step_tree ?_
        refine m_ld_rp rfl hat' ?_
        repeat (first | ((first | refine step_ops ?_ | refine step_tree ?_); (first | (refine m_mov (by conv => lhs; whnf) ?_) | (refine m_neqs rfl rfl ?_) | (refine m_add rfl rfl ?_ ?_ ?_; (· omega); (· omega)))) | refine end_ops ?_ | refine AW_ops ?_ | refine end_tree ?_ | (refine cond_f rfl ?_ ?_; (· first | rfl | assumption | (refine decide_eq_false ?_; first | assumption | omega) | (refine nf ?_; first | assumption | omega) | (simp [*]; done))) | refine norm_then ?_ | refine norm_block ?_ | refine AW_skip ?_)
        refine next_round (k + 1) ⟨h, ?_⟩ (weak_st ?_ ?_ rfl rfl) ?_
        · rw [take_snoc G k [] h, take_snoc M k [] h', he, hx]
        · (repeat' (first | exact trivial | refine And.intro ?_ ?_)) <;> (first | rfl | skip)
        · trivial
        · omega
      · have hx' : (!decide (G.getD k [] = M.getD k [])) = true := by rw [decide_eq_false hx]; rfl
        repeat (first | ((first | refine step_ops ?_ | refine step_tree ?_); (first | (refine m_mov (by conv => lhs; whnf) ?_) | (refine m_lss rfl rfl ?_) | (refine m_len_ro rfl ?_) | (refine m_idx1_ro rfl rfl ?_ ?_; (· omega)))) | refine end_ops ?_ | refine seq_ops ?_ | refine seq_tree ?_ | (refine cond_t rfl ?_ ?_; (· first | rfl | assumption | (refine decide_eq_true ?_; first | assumption | omega) | (refine nt ?_; first | assumption | omega) | (simp [*]; done))) | refine skip_then ?_ | refine AW_seq ?_ | refine AW_block ?_)
        refine step_tree ?_
        refine m_ld_rp rfl hat ?_
        repeat (refine step_tree ?_; (first | (refine m_mov (by conv => lhs; whnf) ?_) | (refine m_idx1_ro rfl rfl ?_ ?_; (· omega))))
        refine step_tree ?_
        refine m_ld_rp rfl hat' ?_
        repeat (first | ((first | refine step_ops ?_ | refine step_tree ?_); (first | (refine m_mov (by conv => lhs; whnf) ?_) | (refine m_neqs rfl rfl ?_))) | refine end_ops ?_ | refine seq_ops ?_ | refine end_tree ?_ | (refine cond_t rfl ?_ ?_; (· first | rfl | assumption | (refine decide_eq_true ?_; first | assumption | omega) | (refine nt ?_; first | assumption | omega) | (simp [*]; done))) | refine AW_ret ?_ | refine ret_done ?_ | refine ret_then ?_ | refine ret_block ?_ | refine ret_round ?_)
        exact outs_b (decide_eq_false fun e => hx (by rw [e])).symm
    · obtain rfl : k = G.length := by omega
      rw [List.take_length, List.take_of_length_le (by omega)] at he
      repeat (first | (refine step_ops ?_; (first | (refine m_mov (by conv => lhs; whnf) ?_) | (refine m_lss rfl rfl ?_) | (refine m_len_ro rfl ?_))) | refine end_ops ?_ | refine seq_ops ?_ | (refine cond_f rfl ?_ ?_; (· first | rfl | assumption | (refine decide_eq_false ?_; first | assumption | omega) | (refine nf ?_; first | assumption | omega) | (simp [*]; done))) | refine AW_seq ?_ | refine AW_ret ?_ | refine ret_done ?_ | refine norm_then ?_ | refine exit_then ?_ | refine exit_round ?_ | refine AW_exit ?_ | refine exit_block ?_)
      exact outs_b (decide_eq_true he).symm
  · have hlen' : (decide ((G.length : Int) ≠ M.length)) = true := by simp; omega
    repeat (first | (refine step_ops ?_; (first | (refine m_mov (by conv => lhs; whnf) ?_) | (refine m_neq rfl rfl ?_) | (refine m_len_ro rfl ?_))) | refine end_ops ?_ | refine seq_ops ?_ | (refine cond_t rfl ?_ ?_; (· first | rfl | assumption | (refine decide_eq_true ?_; first | assumption | omega) | (refine nt ?_; first | assumption | omega) | (simp [*]; done))) | refine AW_seq ?_ | refine AW_ret ?_ | refine ret_done ?_ | refine ret_then ?_)
    exact outs_b (decide_eq_false fun e => hlen (by rw [e])).symm

theorem eqHatPlan_spec (c d : Int) (G M : List (List UInt8)) (hG : G.length ≤ 1048576) : Sp Tryd.prog 9 [pln c G, pln d M] (.b (decide (c = d ∧ G = M))) := by
  refine spec_of Tryd.func9 rfl cc9 rfl ?_
  unfold ac9
  by_cases hc : c = d
  · by_cases hx : G = M
    · repeat (first | (refine step_ops ?_; (first | (refine m_mov (by conv => lhs; whnf) ?_) | (refine m_neq rfl rfl ?_) | (apply m_ld_pt; (· rfl); (· rfl); (· rfl)) | (refine m_fa rfl ?_) | (refine m_box rfl ?_ ?_; (· first | rfl | (simp [cellOk, Value.oneCell']; done))))) | refine end_ops ?_ | refine seq_ops ?_ | (refine cond_f rfl ?_ ?_; (· first | rfl | assumption | (refine decide_eq_false ?_; first | assumption | omega) | (refine nf ?_; first | assumption | omega) | (simp [*]; done))) | refine skip_then ?_ | refine AW_seq ?_)
      refine step_ops ?_
      refine m_call (eqStringS_spec G M hG) ?_ ?_
      · exact lends_cons (lend_txr rfl) (lends_cons (lend_txr rfl) lends_nil)
      repeat (first | (refine step_ops ?_; (first | (refine m_mov (by conv => lhs; whnf) ?_) | (refine m_not rfl ?_))) | refine end_ops ?_ | refine seq_ops ?_ | (refine cond_f rfl ?_ ?_; (· first | rfl | assumption | (refine decide_eq_false ?_; first | assumption | omega) | (refine nf ?_; first | assumption | omega) | (simp [*]; done))) | refine skip_then ?_ | refine AW_ret ?_ | refine ret_done ?_)
      exact outs_b (by simp [hc, hx])
    · repeat (first | (refine step_ops ?_; (first | (refine m_mov (by conv => lhs; whnf) ?_) | (refine m_neq rfl rfl ?_) | (apply m_ld_pt; (· rfl); (· rfl); (· rfl)) | (refine m_fa rfl ?_) | (refine m_box rfl ?_ ?_; (· first | rfl | (simp [cellOk, Value.oneCell']; done))))) | refine end_ops ?_ | refine seq_ops ?_ | (refine cond_f rfl ?_ ?_; (· first | rfl | assumption | (refine decide_eq_false ?_; first | assumption | omega) | (refine nf ?_; first | assumption | omega) | (simp [*]; done))) | refine skip_then ?_ | refine AW_seq ?_)
      refine step_ops ?_
      refine m_call (eqStringS_spec G M hG) ?_ ?_
      · exact lends_cons (lend_txr rfl) (lends_cons (lend_txr rfl) lends_nil)
      repeat (first | (refine step_ops ?_; (first | (refine m_mov (by conv => lhs; whnf) ?_) | (refine m_not rfl ?_))) | refine end_ops ?_ | refine seq_ops ?_ | (refine cond_t rfl ?_ ?_; (· first | rfl | assumption | (refine decide_eq_true ?_; first | assumption | omega) | (refine nt ?_; first | assumption | omega) | (simp [*]; done))) | refine AW_ret ?_ | refine ret_done ?_ | refine ret_then ?_)
      exact outs_b (by simp [hx])
  · repeat (first | (refine step_ops ?_; (first | (refine m_mov (by conv => lhs; whnf) ?_) | (refine m_neq rfl rfl ?_) | (apply m_ld_pt; (· rfl); (· rfl); (· rfl)) | (refine m_fa rfl ?_) | (refine m_box rfl ?_ ?_; (· first | rfl | (simp [cellOk, Value.oneCell']; done))))) | refine end_ops ?_ | refine seq_ops ?_ | (refine cond_t rfl ?_ ?_; (· first | rfl | assumption | (refine decide_eq_true ?_; first | assumption | omega) | (refine nt ?_; first | assumption | omega) | (simp [*]; done))) | refine AW_seq ?_ | refine AW_ret ?_ | refine ret_done ?_ | refine ret_then ?_)
    exact outs_b (by simp [hc])

/-- The text of a number with a letter ahead. -/
def mkD (k : Nat) (out : List UInt8) : List UInt8 := if h : k = 0 then out else mkD (k / 10) (hg (k % 10) :: out)
termination_by k
decreasing_by omega
def mkT (k : Nat) : List UInt8 := 109 :: mkD k []
theorem mkD_zero (out : List UInt8) : mkD 0 out = out := by rw [mkD, dif_pos rfl]
theorem mkD_pos {k : Nat} (h : k ≠ 0) (out : List UInt8) : mkD k out = mkD (k / 10) (hg (k % 10) :: out) := by rw [mkD, dif_neg h]

theorem markText_spec (k : Nat) (h0 : 1 ≤ k) (h1 : k ≤ 4194304) : Sp Tryd.prog 47 [.i k] (str (mkT k)) := by
  refine spec_of Tryd.func47 rfl cc47 rfl ?_
  unfold ac47
  repeat (first | (refine step_ops ?_; (first | (refine m_mov (by conv => lhs; whnf) ?_) | (refine m_leq rfl rfl ?_))) | refine end_ops ?_ | refine seq_ops ?_ | (refine cond_f rfl ?_ ?_; (· first | rfl | assumption | (refine decide_eq_false ?_; first | assumption | omega) | (refine nf ?_; first | assumption | omega) | (simp [*]; done))) | refine skip_then ?_ | refine AW_seq ?_ | refine AW_block ?_)
  refine AW_loop (α := Nat × List UInt8) (fun a => mkD a.1 a.2 = mkD k [] ∧ a.1 + a.2.length ≤ k) (fun a => st [(0, .i a.1), (3, str a.2)] []) (fun a => a.1) (k, []) ⟨rfl, by simp⟩ (weak_st ?_ ?_ rfl rfl) ?_
  · (repeat' (first | exact trivial | refine And.intro ?_ ?_)) <;> (first | rfl | skip)
  · trivial
  rintro ⟨n, out⟩ ⟨hI, hl⟩
  dsimp only at hI hl ⊢
  by_cases hn : n = 0
  · subst hn
    rw [mkD_zero] at hI
    repeat (first | (refine step_ops ?_; (first | (refine m_mov (by conv => lhs; whnf) ?_) | (refine m_gtr rfl rfl ?_) | (refine m_adds rfl rfl ?_ ?_; (· first | omega | (simp; omega))))) | refine end_ops ?_ | refine seq_ops ?_ | (refine cond_f rfl ?_ ?_; (· first | rfl | assumption | (refine decide_eq_false ?_; first | assumption | omega) | (refine nf ?_; first | assumption | omega) | (simp [*]; done))) | refine AW_seq ?_ | refine AW_ret ?_ | refine ret_done ?_ | refine norm_then ?_ | refine exit_then ?_ | refine exit_round ?_ | refine AW_exit ?_ | refine exit_block ?_)
    rw [hI]
    exact outs_v
  · have hw := hg_wrap (n % 10) (by omega)
    have hr : (n : Int) % 10 = ((n % 10 : Nat) : Int) := by omega
    have hq : (n : Int) / 10 = ((n / 10 : Nat) : Int) := by omega
    rw [mkD_pos hn] at hI
    repeat (first | (refine step_ops ?_; (first | (refine m_mov (by conv => lhs; whnf) ?_) | (refine m_gtr rfl rfl ?_) | (refine m_add rfl rfl ?_ ?_ ?_; (· omega); (· omega)) | (refine m_bsl1 rfl rfl ?_) | (refine m_cvt rfl ?_) | (refine m_rem rfl rfl ?_ ?_ ?_; (· omega); (· omega)))) | refine end_ops ?_ | refine seq_ops ?_ | (refine cond_t rfl ?_ ?_; (· first | rfl | assumption | (refine decide_eq_true ?_; first | assumption | omega) | (refine nt ?_; first | assumption | omega) | (simp [*]; done))) | refine skip_then ?_ | refine AW_seq ?_ | refine AW_block ?_)
    rw [hr, hw]
    skip
    refine step_ops ?_
    refine m_bts_sl (bs := [hg (n % 10)]) rfl rfl rfl ?_
    repeat (first | (refine step_ops ?_; (first | (refine m_mov (by conv => lhs; whnf) ?_) | (refine m_adds rfl rfl ?_ ?_; (· first | omega | (simp; omega))) | (refine m_quo rfl rfl ?_ ?_ ?_ ?_; (· omega); (· omega); (· omega)))) | refine end_ops ?_ | refine AW_ops ?_ | refine norm_block ?_)
    refine next_round (n / 10, hg (n % 10) :: out) ⟨hI, by simp; omega⟩ (weak_st ?_ ?_ rfl rfl) ?_
    · rw [← hq]
      (repeat' (first | exact trivial | refine And.intro ?_ ?_)) <;> (first | rfl | skip)
    · trivial
    · show n / 10 < n
      omega

/-- k, k+1, .. as texts. -/
def marksT (k n : Nat) : List (List UInt8) := (List.range n).map fun i => mkT (k + i)
theorem marksT_len (k n : Nat) : (marksT k n).length = n := by simp [marksT]
theorem marksT_succ (k n : Nat) : marksT k (n + 1) = marksT k n ++ [mkT (k + n)] := by simp [marksT, List.range_succ]
theorem marksT_get (k n i : Nat) (h : i < n) : (marksT k n).getD i [] = mkT (k + i) := by simp [marksT, h]
def markedT (G : List (List UInt8)) (k j : Nat) : List (List UInt8) := marksT k j ++ G.drop j
theorem markedT_len (G : List (List UInt8)) (k j : Nat) (h : j ≤ G.length) : (markedT G k j).length = G.length := by simp [markedT, marksT_len]; omega
theorem markedT_zero (G : List (List UInt8)) (k : Nat) : markedT G k 0 = G := by simp [markedT, marksT]
theorem markedT_all (G : List (List UInt8)) (k : Nat) : markedT G k G.length = marksT k G.length := by simp [markedT]
theorem markedT_set (G : List (List UInt8)) (k j : Nat) (h : j < G.length) : (markedT G k j).set j (mkT (k + j)) = markedT G k (j + 1) := by
  unfold markedT
  rw [marksT_succ, List.set_append_right _ _ (by rw [marksT_len]; omega), marksT_len, Nat.sub_self, List.drop_eq_getElem_cons h, List.set_cons_zero]
  simp

theorem markStringS_spec (G : List (List UInt8)) (k : Nat) (hG : G.length ≤ 1048576) (h0 : 1 ≤ k) (h1 : k ≤ 1048577) :
    SpM Tryd.prog 30 1 G.length (txs G) [.i k] (.i ((k + G.length : Nat) : Int)) (txs (marksT k G.length)) := by
  refine specM_of Tryd.func30 rfl cc30 rfl (by first | exact allv_ints _ | exact txs_plain _) (by first | exact allv_ints _ | exact txs_plain _) rfl ?_
  unfold ac30
  repeat (first | (refine step_ops ?_; (refine m_mov (by conv => lhs; whnf) ?_)) | refine end_ops ?_ | refine seq_ops ?_ | refine AW_seq ?_ | refine AW_block ?_)
  refine AW_loop (α := Nat) (fun j => j ≤ G.length) (fun j => st [(0, .sl pbase 1 0 G.length), (1, .i ((k + j : Nat) : Int)), (5, .i j)] [(pbase, (true, txs (markedT G k j)))]) (fun j => G.length - j) 0 (by omega) (weak_st ?_ ?_ rfl rfl) ?_
  · (repeat' (first | exact trivial | refine And.intro ?_ ?_)) <;> (first | rfl | skip)
  · refine ⟨?_, trivial⟩
    rw [markedT_zero]
    rfl
  intro j hj
  have hml := markedT_len G k j hj
  have htl := txs_len (markedT G k j)
  by_cases h : j < G.length
  · repeat (first | (refine step_ops ?_; (first | (refine m_mov (by conv => lhs; whnf) ?_) | (refine m_lss rfl rfl ?_) | (refine m_len_sl rfl ?_))) | refine end_ops ?_ | refine seq_ops ?_ | (refine cond_t rfl ?_ ?_; (· first | rfl | assumption | (refine decide_eq_true ?_; first | assumption | omega) | (refine nt ?_; first | assumption | omega) | (simp [*]; done))) | refine skip_then ?_ | refine AW_seq ?_ | refine AW_block ?_)
    (refine step_ops ?_); (apply m_call (markText_spec (k + j) (by omega) (by omega))); (· repeat (first | exact lends_nil | (refine lends_cons ?_ ?_; (· exact lend_v))))
    repeat (first | (refine step_ops ?_; (first | (refine m_mov (by conv => lhs; whnf) ?_) | (refine m_add rfl rfl ?_ ?_ ?_; (· omega); (· omega)) | (refine m_idx1_sl rfl rfl ?_ ?_; (· omega)) | (apply m_st; (· rfl); (· rfl); (· rfl); (· first | omega | (simp; done) | (simp; omega)); (· rfl)))) | refine end_ops ?_ | refine AW_ops ?_ | refine norm_then ?_ | refine norm_block ?_)
    refine next_round (j + 1) h (weak_st ?_ ?_ rfl rfl) ?_
    · rw [show ((k + (j + 1) : Nat) : Int) = ((k + j : Nat) : Int) + 1 by omega]
      (repeat' (first | exact trivial | refine And.intro ?_ ?_)) <;> (first | rfl | skip)
    · refine ⟨?_, trivial⟩
      show some (true, (txs (markedT G k j)).set j (str (mkT (k + j)))) = _
      rw [txs_set, markedT_set G k j h]
    · omega
  · obtain rfl : j = G.length := by omega
    repeat (first | (refine step_ops ?_; (first | (refine m_mov (by conv => lhs; whnf) ?_) | (refine m_lss rfl rfl ?_) | (refine m_len_sl rfl ?_))) | refine end_ops ?_ | refine seq_ops ?_ | (refine cond_f rfl ?_ ?_; (· first | rfl | assumption | (refine decide_eq_false ?_; first | assumption | omega) | (refine nf ?_; first | assumption | omega) | (simp [*]; done))) | refine AW_seq ?_ | refine AW_ret ?_ | refine norm_then ?_ | refine exit_then ?_ | refine exit_round ?_ | refine AW_exit ?_ | refine exit_block ?_)
    refine ret_donem rfl ?_
    rw [← markedT_all]
    rfl

theorem heldStringS_spec (k n : Nat) (hn : n ≤ 1048576) (h0 : 1 ≤ k) (h1 : k ≤ 1048577) :
    Sp Tryd.prog 31 [.ro false 1 (txs (marksT k n)) (marksT k n).length, .i k] (.i ((k + n : Nat) : Int)) := by
  have hml := marksT_len k n
  refine spec_of Tryd.func31 rfl cc31 rfl ?_
  unfold ac31
  repeat (first | (refine step_ops ?_; (refine m_mov (by conv => lhs; whnf) ?_)) | refine end_ops ?_ | refine seq_ops ?_ | refine AW_seq ?_ | refine AW_block ?_)
  refine AW_loop (α := Nat) (fun j => j ≤ n) (fun j => st [(0, .ro false 1 (txs (marksT k n)) (marksT k n).length), (1, .i ((k + j : Nat) : Int)), (5, .i j)] []) (fun j => n - j) 0 (by omega) (weak_st ?_ ?_ rfl rfl) ?_
  · (repeat' (first | exact trivial | refine And.intro ?_ ?_)) <;> (first | rfl | skip)
  · trivial
  intro j hj
  by_cases h : j < n
  · have hat := txs_at (G := marksT k n) (k := j) (by omega)
    rw [marksT_get k n j h] at hat
    have hx' : (!decide (mkT (k + j) = mkT (k + j))) = false := by simp
    repeat (first | ((first | refine step_ops ?_ | refine step_tree ?_); (first | (refine m_mov (by conv => lhs; whnf) ?_) | (refine m_lss rfl rfl ?_) | (refine m_len_ro rfl ?_) | (refine m_idx1_ro rfl rfl ?_ ?_; (· omega)))) | refine end_ops ?_ | refine seq_ops ?_ | refine seq_tree ?_ | (refine cond_t rfl ?_ ?_; (· first | rfl | assumption | (refine decide_eq_true ?_; first | assumption | omega) | (refine nt ?_; first | assumption | omega) | (simp [*]; done))) | refine skip_then ?_ | refine AW_seq ?_ | refine AW_block ?_)
    refine step_tree ?_
    refine m_ld_rp rfl hat ?_
    repeat (refine step_tree ?_; (refine m_mov (by conv => lhs; whnf) ?_))
    refine step_tree ?_; (apply m_call (markText_spec (k + j) (by omega) (by omega))); (· repeat (first | exact lends_nil | (refine lends_cons ?_ ?_; (· exact lend_v))))
    repeat (first | ((first | refine step_ops ?_ | refine step_tree ?_); (first | (refine m_mov (by conv => lhs; whnf) ?_) | (refine m_neqs_self rfl rfl ?_) | (refine m_add rfl rfl ?_ ?_ ?_; (· omega); (· omega)))) | refine end_ops ?_ | refine AW_ops ?_ | refine end_tree ?_ | (refine cond_f rfl ?_ ?_; (· first | rfl | assumption | (refine decide_eq_false ?_; first | assumption | omega) | (refine nf ?_; first | assumption | omega) | (simp [*]; done))) | refine skip_then ?_ | refine norm_then ?_ | refine norm_block ?_)
    refine next_round (j + 1) h (weak_st ?_ ?_ rfl rfl) ?_
    · rw [show ((k + (j + 1) : Nat) : Int) = ((k + j : Nat) : Int) + 1 by omega]
      (repeat' (first | exact trivial | refine And.intro ?_ ?_)) <;> (first | rfl | skip)
    · trivial
    · omega
  · obtain rfl : j = n := by omega
    repeat (first | (refine step_ops ?_; (first | (refine m_mov (by conv => lhs; whnf) ?_) | (refine m_lss rfl rfl ?_) | (refine m_len_ro rfl ?_))) | refine end_ops ?_ | refine seq_ops ?_ | (refine cond_f rfl ?_ ?_; (· first | rfl | assumption | (refine decide_eq_false ?_; first | assumption | omega) | (refine nf ?_; first | assumption | omega) | (simp [*]; done))) | refine AW_seq ?_ | refine AW_ret ?_ | refine ret_done ?_ | refine norm_then ?_ | refine exit_then ?_ | refine exit_round ?_ | refine AW_exit ?_ | refine exit_block ?_)
    exact outs_i rfl

theorem static_len (cs cs' : List AV) (hpl : ownL false cs' = true) (hr : refsL (fun r => (Am.look (lenH cs') r).isSome) cs' = true) (x : Value) : Static (Am.look (lenH cs)) (.v x) (Am.look (lenH cs')) :=
  static_R (by simp) (fun p hp => by rw [List.mem_singleton] at hp; subst hp; exact ⟨hpl, hr⟩) ⟨rfl, rfl⟩
theorem markHatPlan_spec (c : Int) (G : List (List UInt8)) (k : Nat) (hG : G.length ≤ 1048576) (h0 : 1 ≤ k) (h1 : k ≤ 1048577) :
    SpH Tryd.prog 10 [.agg [.i c, .sl pbase 1 0 G.length], .i k] (Am.look (lenH (txs G))) (.i ((k + G.length : Nat) : Int)) (Am.look (lenH (txs (marksT k G.length)))) := by
  have hst := static_len (txs G) (txs (marksT k G.length)) (txs_own _ _) (txs_refs _ _) (.int .i64 ((k + G.length : Nat) : Int))
  refine specH_of Tryd.func10 rfl cc10 rfl (by first | exact static_mat1 _ | exact static_mat2 _ _ | assumption) ?_
  unfold ac10
  refine seq_ops ?_
  refine step_ops ?_
  refine m_boxd (l := [.i c, .sl pbase 1 0 G.length]) rfl rfl rfl ?_
  repeat (first | (refine step_ops ?_; (first | (refine m_mov (by conv => lhs; whnf) ?_) | (apply m_ld_pt; (· rfl); (· rfl); (· rfl)) | (refine m_fa rfl ?_))) | refine end_ops ?_ | refine seq_ops ?_)
  refine step_ops ?_
  refine m_callm (markStringS_spec G k hG h0 h1) rfl rfl rfl (txs_plain _) (txs_plain _) rfl ?_
  repeat (first | (refine step_ops ?_; (refine m_mov (by conv => lhs; whnf) ?_)) | refine end_ops ?_ | refine seq_ops ?_ | refine AW_ret ?_)
  refine ret_R id (by rfl) ?_ (by simp) (by simp) (by simp)
  refine ⟨⟨_, rfl, .inl ?_⟩, trivial⟩
  exact congrArg (Prod.mk true) (txs_ren _ _).symm

theorem heldHatPlan_spec (c : Int) (k n : Nat) (hn : n ≤ 1048576) (h0 : 1 ≤ k) (h1 : k ≤ 1048577) :
    Sp Tryd.prog 11 [pln c (marksT k n), .i k] (.i ((k + n : Nat) : Int)) := by
  refine spec_of Tryd.func11 rfl cc11 rfl ?_
  unfold ac11
  repeat (first | (refine step_ops ?_; (first | (refine m_mov (by conv => lhs; whnf) ?_) | (apply m_ld_pt; (· rfl); (· rfl); (· rfl)) | (refine m_fa rfl ?_) | (refine m_box rfl ?_ ?_; (· first | rfl | (simp [cellOk, Value.oneCell']; done))))) | refine end_ops ?_ | refine seq_ops ?_)
  refine step_ops ?_
  refine m_call (heldStringS_spec k n hn h0 h1) ?_ ?_
  · exact lends_cons (lend_txr rfl) (lends_cons lend_v lends_nil)
  repeat (first | (refine step_ops ?_; (first | (refine m_mov (by conv => lhs; whnf) ?_) | (refine m_lss rfl rfl ?_))) | refine end_ops ?_ | refine seq_ops ?_ | (refine cond_f rfl ?_ ?_; (· first | rfl | assumption | (refine decide_eq_false ?_; first | assumption | omega) | (refine nf ?_; first | assumption | omega) | (simp [*]; done))) | refine skip_then ?_ | refine AW_seq ?_ | refine AW_ret ?_ | refine ret_done ?_)
  exact outs_i rfl
end Go.Proofs.YthlgknjipoackaaDoor
