/- Contracts: the program lists all hats. -/
import Derived.Test.YthlgknjipoackaaDoorHtC
import Derived.Test.YthlgknjipoackaaDoorAmHt
namespace Go.Proofs.YthlgknjipoackaaDoor
open Go.Am
attribute [local irreducible] AW Outs Weak Lends Lend Sp aops atree aop1 Then Round InBlock Done
attribute [local simp] txs_len

/-- The first x colours behind a text. -/
def moX (h : List UInt8) (x : Nat) : List (List UInt8) := (List.range x).map fun k => h ++ [hg k]
theorem moX_succ (h : List UInt8) (x : Nat) : moX h (x + 1) = moX h x ++ [h ++ [hg x]] := by simp [moX, List.range_succ]
theorem moX_len (h : List UInt8) (x : Nat) : (moX h x).length = x := by simp [moX]
theorem flat_len' (c : Nat) (l : List (List UInt8)) : (l.flatMap (moreH c)).length = l.length * c := by
  induction l with
  | nil => simp
  | cons a l ih =>
    rw [List.flatMap_cons, List.length_append, ih, List.length_cons, Nat.add_mul]
    have : (moreH c a).length = c := by simp [moreH]
    omega
theorem flat_snoc (c : Nat) (l : List (List UInt8)) (k : Nat) (h : k < l.length) : (l.take (k + 1)).flatMap (moreH c) = (l.take k).flatMap (moreH c) ++ moX (l.getD k []) c := by
  rw [take_snoc l k [] h, List.flatMap_append]
  simp [moreH, moX]

theorem allHats_spec (g c : Nat) (h2 : 2 ≤ c) (hc : c ≤ 3) (h4 : g ≤ 4) : Sp Tryd.prog 44 [.i g, .i c] (.ro true 1 (txs (allH c g)) (allH c g).length) := by
  refine spec_of Tryd.func44 rfl cc44 rfl ?_
  unfold ac44
  repeat (first | (refine step_ops ?_; (first | (refine m_mov (by conv => lhs; whnf) ?_) | (refine m_nils ?_) | (refine m_bsl1 rfl rfl ?_))) | refine end_ops ?_ | refine seq_ops ?_ | refine AW_seq ?_ | refine AW_block ?_)
  refine AW_loop (α := Nat) (fun j => j ≤ g) (fun j => st [(1, .i c), (5, .sl 5 1 0 (allH c j).length), (11, .i g), (12, .i j)] [(5, (true, txs (allH c j)))]) (fun j => g - j) 0 (Nat.zero_le _) (Weak.trans (weak_move (r := 10) (q := 5) rfl (by decide) (by decide)) (weak_st ?_ ?_ rfl rfl)) ?_
  · (repeat' (first | exact trivial | refine And.intro ?_ ?_)) <;> (first | rfl | skip)
  · exact ⟨rfl, trivial⟩
  intro j hj
  have hal := allH_len c j
  by_cases hlt : j < g
  · have hp := pow_le c (by omega) j (by omega)
    have hmore := allH_more c (by omega) j (by omega)
    have hmem : ∀ t ∈ allH c j, t.length = j := fun t ht => (allH_mem (by omega) hc ht).1
    repeat (first | (refine step_ops ?_; (first | (refine m_mov (by conv => lhs; whnf) ?_) | (refine m_lss rfl rfl ?_) | (refine m_len_sl rfl ?_) | (refine m_nils ?_))) | refine end_ops ?_ | refine seq_ops ?_ | (refine cond_t rfl ?_ ?_; (· first | rfl | assumption | (refine decide_eq_true ?_; first | assumption | omega) | (refine nt ?_; first | assumption | omega) | (simp [*]; done))) | refine skip_then ?_ | refine AW_seq ?_ | refine AW_block ?_)
    refine AW_loop (α := Nat) (fun k => k ≤ (allH c j).length) (fun k => st [(1, .i c), (5, .sl 5 1 0 (allH c j).length), (6, .sl 6 1 0 (((allH c j).take k).flatMap (moreH c)).length), (11, .i g), (12, .i j), (14, .sl 5 1 0 (allH c j).length), (15, .i (allH c j).length), (16, .i k)]
      [(5, (true, txs (allH c j))), (6, (true, txs (((allH c j).take k).flatMap (moreH c))))]) (fun k => (allH c j).length - k) 0 (Nat.zero_le _) (weak_st ?_ ?_ rfl rfl) ?_
    · (repeat' (first | exact trivial | refine And.intro ?_ ?_)) <;> (first | rfl | skip)
    · exact ⟨rfl, rfl, trivial⟩
    intro k hk
    have hfl := flat_len' c ((allH c j).take k)
    rw [List.length_take_of_le hk] at hfl
    have hkc : k * c ≤ 81 * 3 := Nat.mul_le_mul (by omega) hc
    by_cases hltk : k < (allH c j).length
    · have hat := txs_get hltk
      have hsn := flat_snoc c (allH c j) k hltk
      have hhl := hmem _ (getD_memL (d := []) hltk)
      generalize (allH c j).getD k [] = h at *
      generalize ((allH c j).take k).flatMap (moreH c) = L at *
      repeat (first | (refine step_ops ?_; (first | (refine m_lss rfl rfl ?_) | (refine m_idx1_sl rfl rfl ?_ ?_; (· omega)))) | refine end_ops ?_ | refine seq_ops ?_ | (refine cond_t rfl ?_ ?_; (· first | rfl | assumption | (refine decide_eq_true ?_; first | assumption | omega) | (refine nt ?_; first | assumption | omega) | (simp [*]; done))) | refine skip_then ?_ | refine AW_seq ?_ | refine AW_block ?_)
      refine step_ops ?_
      refine m_ld_pt rfl rfl hat ?_
      repeat (first | (refine step_ops ?_; (refine m_mov (by conv => lhs; whnf) ?_)) | refine end_ops ?_ | refine seq_ops ?_ | refine AW_block ?_)
      refine AW_loop (α := Nat) (fun x => x ≤ c) (fun x => st [(1, .i c), (5, .sl 5 1 0 (allH c j).length), (6, .sl 6 1 0 (L ++ moX h x).length), (8, str h), (11, .i g), (12, .i j), (14, .sl 5 1 0 (allH c j).length), (15, .i (allH c j).length), (16, .i k), (20, .i c), (21, .i x)]
        [(5, (true, txs (allH c j))), (6, (true, txs (L ++ moX h x)))]) (fun x => c - x) 0 (Nat.zero_le _) (weak_st ?_ ?_ rfl rfl) ?_
      · rw [show L ++ moX h 0 = L by simp [moX]]
        (repeat' (first | exact trivial | refine And.intro ?_ ?_)) <;> (first | rfl | skip)
      · rw [show L ++ moX h 0 = L by simp [moX]]
        exact ⟨rfl, rfl, trivial⟩
      intro x hx
      have hml := moX_len h x
      have hll : (L ++ moX h x).length ≤ 1000 := by rw [List.length_append]; omega
      by_cases hltx : x < c
      · have hms : L ++ moX h (x + 1) = (L ++ moX h x) ++ [h ++ [hg x]] := by rw [moX_succ, List.append_assoc]
        generalize L ++ moX h x = M at *
        repeat (first | (refine step_ops ?_; (first | (refine m_mov (by conv => lhs; whnf) ?_) | (refine m_lss rfl rfl ?_))) | refine end_ops ?_ | refine seq_ops ?_ | refine AW_ops ?_ | (refine cond_t rfl ?_ ?_; (· first | rfl | assumption | (refine decide_eq_true ?_; first | assumption | omega) | (refine nt ?_; first | assumption | omega) | (simp [*]; done))) | refine skip_then ?_ | refine AW_seq ?_ | refine AW_block ?_)
        (refine step_ops ?_); (apply m_call (itoa_hg x (by omega))); (· repeat (first | exact lends_nil | (refine lends_cons ?_ ?_; (· exact lend_v))))
        repeat (first | (refine step_ops ?_; (first | (refine m_mov (by conv => lhs; whnf) ?_) | (refine m_add rfl rfl ?_ ?_ ?_; (· omega); (· omega)) | (refine m_adds rfl rfl ?_ ?_; (· first | omega | (simp; omega))) | (refine m_bsl1 rfl rfl ?_) | (refine m_app1 rfl (by decide) rfl (by first | (simp; done) | (simp [*]; done) | (simp; omega)) rfl rfl rfl ?_ (by decide) ?_; (· first | omega | (simp; omega))))) | refine end_ops ?_ | refine AW_ops ?_ | refine norm_then ?_ | refine norm_block ?_)
        refine next_round (x + 1) hltx (Weak.trans (weak_move (r := 30) (q := 6) rfl (by decide) (by decide)) (weak_st ?_ ?_ rfl rfl)) ?_
        · rw [hms, show (M ++ [h ++ [hg x]]).length = M.length + 1 by simp]
          (repeat' (first | exact trivial | refine And.intro ?_ ?_)) <;> (first | rfl | skip)
        · rw [hms, txs_append]
          exact ⟨rfl, rfl, trivial⟩
        · omega
      · obtain rfl : x = c := by omega
        repeat (first | (refine step_ops ?_; (first | (refine m_mov (by conv => lhs; whnf) ?_) | (refine m_lss rfl rfl ?_) | (refine m_add rfl rfl ?_ ?_ ?_; (· omega); (· omega)))) | refine end_ops ?_ | refine seq_ops ?_ | refine AW_ops ?_ | (refine cond_f rfl ?_ ?_; (· first | rfl | assumption | (refine decide_eq_false ?_; first | assumption | omega) | (refine nf ?_; first | assumption | omega) | (simp [*]; done))) | refine AW_seq ?_ | refine norm_then ?_ | refine exit_then ?_ | refine norm_block ?_ | refine exit_round ?_ | refine AW_exit ?_ | refine exit_block ?_)
        refine next_round (k + 1) hltk (weak_st ?_ ?_ rfl rfl) ?_
        · rw [hsn]
          (repeat' (first | exact trivial | refine And.intro ?_ ?_)) <;> (first | rfl | skip)
        · rw [hsn]
          exact ⟨rfl, rfl, trivial⟩
        · omega
    · obtain rfl : k = (allH c j).length := by omega
      rw [List.take_length, hmore]
      repeat (first | (refine step_ops ?_; (first | (refine m_mov (by conv => lhs; whnf) ?_) | (refine m_lss rfl rfl ?_) | (refine m_add rfl rfl ?_ ?_ ?_; (· omega); (· omega)))) | refine end_ops ?_ | refine seq_ops ?_ | refine AW_ops ?_ | (refine cond_f rfl ?_ ?_; (· first | rfl | assumption | (refine decide_eq_false ?_; first | assumption | omega) | (refine nf ?_; first | assumption | omega) | (simp [*]; done))) | refine AW_seq ?_ | refine norm_then ?_ | refine exit_then ?_ | refine norm_block ?_ | refine exit_round ?_ | refine AW_exit ?_ | refine exit_block ?_)
      refine next_round (j + 1) hlt (Weak.trans (weak_move (r := 6) (q := 5) rfl (by decide) (by decide)) (weak_st ?_ ?_ rfl rfl)) ?_
      · (repeat' (first | exact trivial | refine And.intro ?_ ?_)) <;> (first | rfl | skip)
      · exact ⟨rfl, trivial⟩
      · omega
  · obtain rfl : j = g := by omega
    repeat (first | (refine step_ops ?_; (first | (refine m_mov (by conv => lhs; whnf) ?_) | (refine m_lss rfl rfl ?_))) | refine end_ops ?_ | refine seq_ops ?_ | (refine cond_f rfl ?_ ?_; (· first | rfl | assumption | (refine decide_eq_false ?_; first | assumption | omega) | (refine nf ?_; first | assumption | omega) | (simp [*]; done))) | refine AW_seq ?_ | refine AW_ret ?_ | refine ret_done ?_ | refine norm_then ?_ | refine exit_then ?_ | refine exit_round ?_ | refine AW_exit ?_ | refine exit_block ?_)
    exact outs_txs rfl rfl rfl
end Go.Proofs.YthlgknjipoackaaDoor
