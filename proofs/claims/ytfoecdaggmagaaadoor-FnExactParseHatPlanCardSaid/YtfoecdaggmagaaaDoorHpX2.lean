/- Contracts: the library cuts a text at colons. Contracts: the specification cuts a text at colons. Contracts: the specification reads a number. Contracts of the library's, told to the machine: Atoi, with its errors. -/
import Derived.Test.YtfoecdaggmagaaaDoorSpA
import Derived.Test.YtfoecdaggmagaaaDoorAmV
import Derived.Test.YtfoecdaggmagaaaDoorAmHv
import Derived.Test.YtfoecdaggmagaaaDoorHpX1
import Derived.Test.YtfoecdaggmagaaaDoorHtX1
import Derived.Test.YtfoecdaggmagaaaDoorShA
import Derived.Lib.AtoiErrMem
namespace Go.Proofs.YtfoecdaggmagaaaDoor
open Go.Am
attribute [local irreducible] AW Outs Weak Lends Lend Sp aops atree aop1 Then Round InBlock Done

theorem indexByte_spec (B : List UInt8) : Sp Tryd.prog 60 [str B, .v (.int .u8 58)] (.i (Lib.indexByte B 58)) := by
  refine spec_of Tryd.func60 rfl cc60 rfl ?_
  unfold ac60
  repeat (first | (refine step_ops ?_; (refine m_mov (by conv => lhs; whnf) ?_)) | refine end_ops ?_ | refine seq_ops ?_)
  refine step_ops ?_
  refine m_xcall (vs := [.string ⟨B.toArray⟩, .int .u8 58]) (e := Extern.BytealgIndexByte.indexByte) Tryd.func74 (by kernel_rfl) (by kernel_rfl) (by kernel_rfl) (by kernel_rfl) rfl (fun w => Lib.run_indexByteString _ _ _) ?_
  repeat (first | (refine step_ops ?_; (refine m_mov (by conv => lhs; whnf) ?_)) | refine end_ops ?_ | refine AW_ret ?_ | refine ret_done ?_)
  exact outs_i rfl

theorem index_spec (B : List UInt8) (hB : B.length ≤ 1048576) : Sp Tryd.prog 48 [str B, str [58]] (.i (Lib.indexByte B 58)) := by
  refine spec_of Tryd.func48 rfl cc48 rfl ?_
  unfold ac48
  by_cases h : ([58] : List UInt8) = B
  · subst h
    repeat (first | (refine step_ops ?_; ((try (refine g_yes rfl ?_ ?_; (· first | rfl | assumption | (refine decide_eq_true ?_; first | assumption | omega) | (refine nt ?_; first | assumption | omega) | (simp [*]; done) | (refine decide_eq_false ?_; first | assumption | omega) | (refine nf ?_; first | assumption | omega)))); (first | (refine m_mov (by conv => lhs; whnf) ?_) | (refine m_eql rfl rfl ?_) | (refine m_eqs rfl rfl ?_) | (refine m_slen rfl ?_) | (refine m_pick_f rfl ?_ (by conv => lhs; whnf) ?_; (· first | rfl | assumption | (refine decide_eq_false ?_; first | assumption | omega) | (refine nf ?_; first | assumption | omega) | (simp [*]; done)))))) | refine end_ops ?_ | refine seq_ops ?_ | (refine cond_t rfl ?_ ?_; (· first | rfl | assumption | (refine decide_eq_true ?_; first | assumption | omega) | (refine nt ?_; first | assumption | omega) | (simp [*]; done))) | refine AW_seq ?_ | refine AW_ret ?_ | refine ret_done ?_ | refine ret_then ?_ | refine AW_block ?_ | refine ret_block ?_)
    exact outs_i rfl
  · repeat (first | (refine step_ops ?_; ((try (refine g_yes rfl ?_ ?_; (· first | rfl | assumption | (refine decide_eq_true ?_; first | assumption | omega) | (refine nt ?_; first | assumption | omega) | (simp [*]; done) | (refine decide_eq_false ?_; first | assumption | omega) | (refine nf ?_; first | assumption | omega)))); (first | (refine m_mov (by conv => lhs; whnf) ?_) | (refine m_eql rfl rfl ?_) | (refine m_eqs rfl rfl ?_) | (refine m_slen rfl ?_) | (refine m_pick_f rfl ?_ (by conv => lhs; whnf) ?_; (· first | rfl | assumption | (refine decide_eq_false ?_; first | assumption | omega) | (refine nf ?_; first | assumption | omega) | (simp [*]; done)))))) | refine end_ops ?_ | refine seq_ops ?_ | (refine cond_t rfl ?_ ?_; (· first | rfl | assumption | (refine decide_eq_true ?_; first | assumption | omega) | (refine nt ?_; first | assumption | omega) | (simp [*]; done))) | (refine cond_f rfl ?_ ?_; (· first | rfl | assumption | (refine decide_eq_false ?_; first | assumption | omega) | (refine nf ?_; first | assumption | omega) | (simp [*]; done))) | refine AW_seq ?_ | refine AW_block ?_)
    refine step_ops ?_
    refine m_six' (j := 0) rfl rfl (by decide) ?_
    refine step_ops ?_
    refine m_call (indexByte_spec B) ?_ ?_
    · exact lends_cons lend_v (lends_cons lend_v lends_nil)
    repeat (first | (refine step_ops ?_; (refine m_mov (by conv => lhs; whnf) ?_)) | refine end_ops ?_ | refine AW_ret ?_ | refine ret_done ?_ | refine ret_then ?_ | refine ret_block ?_)
    exact outs_i rfl

theorem stringsIndex_spec (B : List UInt8) (hB : B.length ≤ 1048576) : Sp Tryd.prog 34 [str B, str [58]] (.i (Lib.indexByte B 58)) := by
  refine spec_of Tryd.func34 rfl cc34 rfl ?_
  unfold ac34
  repeat (first | (refine step_ops ?_; (refine m_mov (by conv => lhs; whnf) ?_)) | refine end_ops ?_ | refine seq_ops ?_)
  (refine step_ops ?_); (apply m_call (index_spec B hB)); (· repeat (first | exact lends_nil | (refine lends_cons ?_ ?_; (· exact lend_v))))
  repeat (first | (refine step_ops ?_; (refine m_mov (by conv => lhs; whnf) ?_)) | refine end_ops ?_ | refine AW_ret ?_ | refine ret_done ?_)
  exact outs_i rfl

/-- What a cut has made so far: the pieces, and nothing behind them. -/
def cutC (done : List (List UInt8)) (m : Nat) : List AV := txs done ++ List.replicate (m - done.length) (str [])

theorem cutC_len (done : List (List UInt8)) (m : Nat) (h : done.length ≤ m) : (cutC done m).length = m := by
  simp [cutC, txs_len]; omega
theorem cutC_set (done : List (List UInt8)) (p : List UInt8) (m : Nat) (h : done.length < m) : (cutC done m).set done.length (str p) = cutC (done ++ [p]) m := by
  obtain ⟨j, hj⟩ : ∃ j, m - done.length = j + 1 := ⟨m - done.length - 1, by omega⟩
  have hj2 : m - (done ++ [p]).length = j := by simp; omega
  unfold cutC
  rw [hj, hj2, List.set_append_right _ _ (by simp [txs_len]), txs_len, Nat.sub_self, List.replicate_succ, List.set_cons_zero]
  simp [txs]
theorem flat_ones {α : Type} (x : α) : ∀ n, (List.replicate n [x]).flatten = List.replicate n x
  | 0 => rfl
  | n + 1 => by rw [List.replicate_succ, List.flatten_cons, flat_ones x n]; rfl
theorem cutC_take (done : List (List UInt8)) (m : Nat) : (cutC done m).take done.length = txs done := by
  unfold cutC
  rw [List.take_append_of_le_length (by simp [txs_len]), List.take_of_length_le (by simp [txs_len])]
theorem splitNB_min (B : List UInt8) : splitNB (min 5 B.length) B = splitNB 5 B := by
  rcases Nat.le_total 5 B.length with h | h
  · rw [Nat.min_eq_left h]
  · have hc : B.count 58 ≤ B.length := List.count_le_length
    rw [Nat.min_eq_right h, splitNB_all _ _ hc, splitNB_all _ _ (by omega)]

theorem genSplit_spec (B : List UInt8) (hB : B.length ≤ 1048576) : Sp Tryd.prog 20 [str B, str [58], .i 0, .i 6] (.ro true 1 (txs (splitNB 5 B)) (splitNB 5 B).length) := by
  obtain ⟨m, hm⟩ : ∃ m, m = min 5 B.length := ⟨_, rfl⟩
  have hmi : (if ((B.length : Int)) + 1 < 6 then ((B.length : Int)) + 1 else 6) = ((m + 1 : Nat) : Int) := by split <;> omega
  have hr0 : splitNB m B = splitNB 5 B := by rw [hm]; exact splitNB_min B
  rw [← hr0]
  refine spec_of Tryd.func20 rfl cc20 rfl ?_
  unfold ac20
  repeat (first | (refine step_ops ?_; (first | (refine m_mov (by conv => lhs; whnf) ?_) | (refine m_lss rfl rfl ?_) | (refine m_eql rfl rfl ?_) | (refine m_eqs rfl rfl ?_) | (refine m_add rfl rfl ?_ ?_ ?_; (· omega); (· omega)) | (refine m_slen rfl ?_) | (refine m_nils ?_) | (refine m_min rfl rfl ?_))) | refine end_ops ?_ | refine seq_ops ?_ | (refine cond_f rfl ?_ ?_; (· first | rfl | assumption | (refine decide_eq_false ?_; first | assumption | omega) | (refine nf ?_; first | assumption | omega) | (simp [*]; done))) | refine skip_then ?_ | refine AW_seq ?_)
  rw [hmi]
  refine step_ops ?_
  refine m_mk (n := m + 1) rfl rfl (by omega) (by omega) ?_
  repeat (first | (refine step_ops ?_; (first | (refine m_mov (by conv => lhs; whnf) ?_) | (refine m_sub rfl rfl ?_ ?_ ?_; (· omega); (· omega)))) | refine end_ops ?_ | refine seq_ops ?_ | refine AW_seq ?_ | refine AW_block ?_)
  rw [show ((m + 1 : Nat) : Int) - 1 = (m : Int) by omega]
  skip
  refine AW_loop (α := List (List UInt8) × List UInt8) (fun a => a.1.length ≤ m ∧ a.2.length + a.1.length ≤ B.length ∧ a.1 ++ splitNB (m - a.1.length) a.2 = splitNB m B)
    (fun a => st [(0, str a.2), (1, str [58]), (2, .i 0), (3, .i m), (9, .sl 31 1 0 (m + 1)), (10, .i a.1.length)] [(31, (true, cutC a.1 (m + 1)))]) (fun a => m - a.1.length) ([], B) ⟨Nat.zero_le _, by simp, by simp⟩ (weak_st ?_ ?_ rfl rfl) ?_
  · (repeat' (first | exact trivial | refine And.intro ?_ ?_)) <;> (first | rfl | skip)
  · refine ⟨?_, trivial⟩
    show some (true, (List.replicate (m + 1) [str []]).flatten) = some (true, cutC [] (m + 1))
    rw [flat_ones]; rfl
  rintro ⟨done, rest⟩ ⟨hd, hrl, hres⟩
  dsimp only at hd hrl hres ⊢
  have hcl := cutC_len done (m + 1) (by omega)
  have h44l : ([58] : List UInt8).length = 1 := rfl
  have hcp : (cutC done (m + 1)).all plainV = true := by simp [cutC, txs, plainV]
  have hrl1 : (done ++ [rest]).length = done.length + 1 := by simp
  have hout : ∀ {s : AS}, s.hp 31 = some (true, (cutC done (m + 1)).set done.length (str rest)) → Outs s (.sl 31 1 0 (done.length + 1)) (.ro true 1 (txs (done ++ [rest])) (done ++ [rest]).length) := by
    intro s hs
    rw [cutC_set done rest (m + 1) (by omega)] at hs
    have h := outs_sl_take (z := 1) (n := done.length + 1) hs (by rw [cutC_len _ _ (by omega)]; omega) (by simp [cutC, txs, plainV])
    rw [Nat.mul_one, ← hrl1, cutC_take] at h
    rw [hrl1] at h ⊢
    exact h
  by_cases hc : done.length < m
  · by_cases h44 : (58 : UInt8) ∈ rest
    · obtain ⟨p, q, hp, rfl⟩ := cut_at h44
      have hix := indexByte_cut (q := q) hp
      have hpl : (p ++ 58 :: q).length = p.length + (q.length + 1) := by simp
      repeat (first | (refine step_ops ?_; (first | (refine m_mov (by conv => lhs; whnf) ?_) | (refine m_lss rfl rfl ?_))) | refine end_ops ?_ | refine seq_ops ?_ | (refine cond_t rfl ?_ ?_; (· first | rfl | assumption | (refine decide_eq_true ?_; first | assumption | omega) | (refine nt ?_; first | assumption | omega) | (simp [*]; done))) | refine skip_then ?_ | refine AW_seq ?_ | refine AW_block ?_)
      (refine step_ops ?_); (apply m_call (stringsIndex_spec (p ++ 58 :: q) (by omega))); (· repeat (first | exact lends_nil | (refine lends_cons ?_ ?_; (· exact lend_v))))
      rw [hix]
      repeat (first | (refine step_ops ?_; (first | (refine m_mov (by conv => lhs; whnf) ?_) | (refine m_lss rfl rfl ?_) | (refine m_add rfl rfl ?_ ?_ ?_; (· omega); (· omega)))) | refine end_ops ?_ | refine seq_ops ?_ | (refine cond_f rfl ?_ ?_; (· first | rfl | assumption | (refine decide_eq_false ?_; first | assumption | omega) | (refine nf ?_; first | assumption | omega) | (simp [*]; done))) | refine skip_then ?_ | refine AW_seq ?_)
      rw [show ((p.length : Int) + 0) = (p.length : Int) from Int.add_zero _]
      repeat (first | (refine step_ops ?_; (first | (refine m_mov (by conv => lhs; whnf) ?_) | (refine m_add rfl rfl ?_ ?_ ?_; (· omega); (· omega)) | (refine m_scutl rfl rfl ?_ ?_; (· first | omega | (simp; omega))) | (refine m_scuth rfl rfl ?_ ?_; (· first | omega | (simp; omega))) | (refine m_slen rfl ?_) | (refine m_idx1_sl rfl rfl ?_ ?_; (· omega)) | (apply m_st; (· rfl); (· rfl); (· rfl); (· first | omega | (simp; done) | (simp; omega)); (· rfl)))) | refine end_ops ?_ | refine seq_ops ?_ | refine AW_ops ?_ | refine norm_block ?_)
      rw [show ((p.length : Int) + (([58] : List UInt8).length : Int)) = ((p.length + 1 : Nat) : Int) by omega]
      skip
      have e1 : (p ++ 58 :: q).take p.length = p := by simp
      have e2 : (p ++ 58 :: q).drop (p.length + ([58] : List UInt8).length) = q := by rw [h44l, List.drop_append]; simp
      refine next_round (done ++ [p], q) ⟨by simp; omega, by simp; omega, ?_⟩ (weak_st ?_ ?_ rfl rfl) ?_
      · rw [← hres, show m - done.length = (m - (done ++ [p]).length) + 1 by simp; omega, splitNB_cut hp, List.append_assoc]
        rfl
      · rw [show (done ++ [p]).length = done.length + 1 by simp]
        rw [e1, e2]
        (repeat' (first | exact trivial | refine And.intro ?_ ?_)) <;> (first | rfl | skip)
      · refine ⟨?_, trivial⟩
        rw [← cutC_set done p (m + 1) (by omega), e1]
        rfl
      · simp; omega
    · have hix := indexByte_none h44
      have hfin : splitNB m B = done ++ [rest] := by rw [← hres, splitNB_one h44]
      repeat (first | (refine step_ops ?_; (first | (refine m_mov (by conv => lhs; whnf) ?_) | (refine m_lss rfl rfl ?_))) | refine end_ops ?_ | refine seq_ops ?_ | (refine cond_t rfl ?_ ?_; (· first | rfl | assumption | (refine decide_eq_true ?_; first | assumption | omega) | (refine nt ?_; first | assumption | omega) | (simp [*]; done))) | refine skip_then ?_ | refine AW_seq ?_ | refine AW_block ?_)
      (refine step_ops ?_); (apply m_call (stringsIndex_spec rest (by omega))); (· repeat (first | exact lends_nil | (refine lends_cons ?_ ?_; (· exact lend_v))))
      rw [hix]
      repeat (first | (refine step_ops ?_; (first | (refine m_mov (by conv => lhs; whnf) ?_) | (refine m_lss rfl rfl ?_) | (refine m_add rfl rfl ?_ ?_ ?_; (· omega); (· omega)) | (refine m_idx1_sl rfl rfl ?_ ?_; (· omega)) | (apply m_st; (· rfl); (· rfl); (· rfl); (· first | omega | (simp; done) | (simp; omega)); (· rfl)))) | refine end_ops ?_ | refine seq_ops ?_ | (refine cond_t rfl ?_ ?_; (· first | rfl | assumption | (refine decide_eq_true ?_; first | assumption | omega) | (refine nt ?_; first | assumption | omega) | (simp [*]; done))) | refine AW_seq ?_ | refine norm_then ?_ | refine exit_then ?_ | refine exit_round ?_ | refine AW_exit ?_ | refine exit_block ?_ | (refine exit_other ?_ ?_; (· decide)))
      rw [show ((done.length : Int) + 1) = ((done.length + 1 : Nat) : Int) by omega]
      skip
      refine step_ops ?_
      refine m_cut_sl (l := 0) (h := done.length + 1) rfl rfl ⟨_, rfl⟩ (Nat.zero_le _) (by omega) ?_
      repeat (first | (refine step_ops ?_; (refine m_mov (by conv => lhs; whnf) ?_)) | refine end_ops ?_ | refine AW_ret ?_ | refine ret_done ?_)
      rw [hfin]
      exact hout rfl
  · have hfin : splitNB m B = done ++ [rest] := by rw [← hres, show m - done.length = 0 by omega]; rfl
    repeat (first | (refine step_ops ?_; (first | (refine m_mov (by conv => lhs; whnf) ?_) | (refine m_lss rfl rfl ?_) | (refine m_add rfl rfl ?_ ?_ ?_; (· omega); (· omega)) | (refine m_idx1_sl rfl rfl ?_ ?_; (· omega)) | (apply m_st; (· rfl); (· rfl); (· rfl); (· first | omega | (simp; done) | (simp; omega)); (· rfl)))) | refine end_ops ?_ | refine seq_ops ?_ | (refine cond_f rfl ?_ ?_; (· first | rfl | assumption | (refine decide_eq_false ?_; first | assumption | omega) | (refine nf ?_; first | assumption | omega) | (simp [*]; done))) | refine AW_seq ?_ | refine norm_then ?_ | refine exit_then ?_ | refine exit_round ?_ | refine AW_exit ?_ | refine exit_block ?_)
    rw [show ((done.length : Int) + 1) = ((done.length + 1 : Nat) : Int) by omega]
    skip
    refine step_ops ?_
    refine m_cut_sl (l := 0) (h := done.length + 1) rfl rfl ⟨_, rfl⟩ (Nat.zero_le _) (by omega) ?_
    repeat (first | (refine step_ops ?_; (refine m_mov (by conv => lhs; whnf) ?_)) | refine end_ops ?_ | refine AW_ret ?_ | refine ret_done ?_)
    rw [hfin]
    exact hout rfl

theorem splitN_spec (B : List UInt8) (hB : B.length ≤ 1048576) : Sp Tryd.prog 10 [str B, str [58], .i 6] (.ro true 1 (txs (splitNB 5 B)) (splitNB 5 B).length) := by
  refine spec_of Tryd.func10 rfl cc10 rfl ?_
  unfold ac10
  repeat (first | (refine step_ops ?_; (first | (refine m_mov (by conv => lhs; whnf) ?_) | (refine m_nils ?_))) | refine end_ops ?_ | refine seq_ops ?_)
  refine step_ops ?_
  refine m_callo (genSplit_spec B hB) ?_ (txs_plain _) ?_
  · exact lends_cons lend_v (lends_cons lend_v (lends_cons lend_v (lends_cons lend_v lends_nil)))
  repeat (first | (refine step_ops ?_; (refine m_mov (by conv => lhs; whnf) ?_)) | refine end_ops ?_ | refine AW_ret ?_ | refine ret_done ?_)
  exact outs_sl rfl (by rw [txs_len, Nat.mul_one]) (txs_plain _)
end Go.Proofs.YtfoecdaggmagaaaDoor

namespace Go.Proofs.YtfoecdaggmagaaaDoor
open Go.Am
attribute [local irreducible] AW Outs Weak Lends Lend Sp aops atree aop1 Then Round InBlock Done

theorem drop_cut {B : List UInt8} {a i : Nat} (h1 : a ≤ i) (h2 : i < B.length) : B.drop a = (B.drop a).take (i - a) ++ B.getD i 0 :: B.drop (i + 1) := by
  have h3 := List.take_append_drop (i - a) (B.drop a)
  rw [List.drop_drop, show a + (i - a) = i by omega] at h3
  rw [← h3]
  congr 1
  · rw [h3]
  · rw [getD_get h2]
    exact List.drop_eq_getElem_cons h2
theorem u8_eq {c : UInt8} {n : Nat} (h : c.toNat = n) (k : UInt8) (hk : k.toNat = n) : c = k := UInt8.toNat_inj.1 (h.trans hk.symm)

theorem l1Split_spec (B : List UInt8) (hB : B.length ≤ 1048576) : Sp Tryd.prog 16 [str B, .v (.int .u8 58)] (.ro true 1 (txs (splitB B)) (splitB B).length) := by
  have hcnt : B.count 58 ≤ B.length := List.count_le_length
  refine spec_of Tryd.func16 rfl cc16 rfl ?_
  unfold ac16
  repeat (first | (refine step_ops ?_; (first | (refine m_mov (by conv => lhs; whnf) ?_) | (refine m_nils ?_))) | refine end_ops ?_ | refine seq_ops ?_ | refine AW_seq ?_ | refine AW_block ?_)
  refine AW_loop (α := List (List UInt8) × Nat × Nat) (fun a => a.2.1 ≤ a.2.2 ∧ a.2.2 ≤ B.length ∧ (58 : UInt8) ∉ (B.drop a.2.1).take (a.2.2 - a.2.1) ∧ a.1 ++ splitB (B.drop a.2.1) = splitB B)
    (fun a => st [(0, str B), (1, .v (.int .u8 58)), (5, .sl 5 1 0 a.1.length), (6, .i a.2.1), (7, .i a.2.2)] [(5, (true, txs a.1))]) (fun a => B.length - a.2.2) ([], 0, 0) ⟨Nat.le_refl _, Nat.zero_le _, by simp, by simp⟩ (weak_st ?_ ?_ rfl rfl) ?_
  · (repeat' (first | exact trivial | refine And.intro ?_ ?_)) <;> (first | rfl | skip)
  · (repeat' (first | exact trivial | refine And.intro ?_ ?_)) <;> (first | rfl | skip)
  rintro ⟨done, a, i⟩ ⟨h1, h2, h3, h4⟩
  dsimp only at h1 h2 h3 h4 ⊢
  have hdl : done.length + 1 ≤ B.length + 1 := by
    have h5 := congrArg List.length h4
    rw [List.length_append, splitB_len, splitB_len] at h5
    omega
  have hsl := txs_len done
  have hd1 : ∀ p, (done ++ [p]).length = done.length + 1 := fun p => by simp
  have hd2 : ∀ p, txs (done ++ [p]) = txs done ++ [str p] := fun p => by simp [txs]
  by_cases hc : i < B.length
  · have hdc := drop_cut h1 hc
    by_cases h44 : B.getD i 0 = 58
    · have h44' : ((B.getD i 0).toNat : Int) = 58 := by rw [h44]; rfl
      rw [h44] at hdc
      repeat (first | (refine step_ops ?_; (first | (refine m_mov (by conv => lhs; whnf) ?_) | (refine m_lss rfl rfl ?_) | (refine m_eqk rfl rfl ?_) | (refine m_add rfl rfl ?_ ?_ ?_; (· omega); (· omega)) | (refine m_scutb rfl rfl rfl ?_ ?_ ?_; (· omega); (· first | omega | (simp; omega))) | (refine m_slen rfl ?_) | (refine m_six' rfl rfl ?_ ?_; (· first | omega | (simp; omega))) | (refine m_bsl1 rfl rfl ?_) | (refine m_app1 rfl (by decide) rfl (by first | (simp; done) | (simp [*]; done) | (simp; omega)) rfl rfl rfl ?_ (by decide) ?_; (· first | omega | (simp; omega))))) | refine end_ops ?_ | refine seq_ops ?_ | refine AW_ops ?_ | (refine cond_t rfl ?_ ?_; (· first | rfl | assumption | (refine decide_eq_true ?_; first | assumption | omega) | (refine nt ?_; first | assumption | omega) | (simp [*]; done))) | refine skip_then ?_ | refine AW_seq ?_ | refine norm_then ?_ | refine AW_block ?_ | refine norm_block ?_)
      refine next_round (done ++ [(B.drop a).take (i - a)], i + 1, i + 1) ⟨Nat.le_refl _, hc, by simp, ?_⟩ (Weak.trans (weak_move (r := 25) (q := 5) rfl (by decide) (by decide)) (weak_st ?_ ?_ rfl rfl)) ?_
      · have h5 : splitB (B.drop a) = (B.drop a).take (i - a) :: splitB (B.drop (i + 1)) := by
          conv => lhs; rw [hdc]
          exact splitB_cut h3
        show (done ++ [(B.drop a).take (i - a)]) ++ splitB (B.drop (i + 1)) = splitB B
        rw [← h4, h5, List.append_assoc]
        rfl
      · rw [hd1]
        (repeat' (first | exact trivial | refine And.intro ?_ ?_)) <;> (first | rfl | skip)
      · rw [hd2]
        (repeat' (first | exact trivial | refine And.intro ?_ ?_)) <;> (first | rfl | skip)
      · show B.length - (i + 1) < B.length - i; omega
    · have h44' : ¬ ((B.getD i 0).toNat : Int) = 58 := fun e => h44 (u8_eq (n := 58) (by omega) 58 rfl)
      repeat (first | (refine step_ops ?_; (first | (refine m_mov (by conv => lhs; whnf) ?_) | (refine m_lss rfl rfl ?_) | (refine m_eqk rfl rfl ?_) | (refine m_add rfl rfl ?_ ?_ ?_; (· omega); (· omega)) | (refine m_slen rfl ?_) | (refine m_six' rfl rfl ?_ ?_; (· first | omega | (simp; omega))))) | refine end_ops ?_ | refine seq_ops ?_ | refine AW_ops ?_ | (refine cond_t rfl ?_ ?_; (· first | rfl | assumption | (refine decide_eq_true ?_; first | assumption | omega) | (refine nt ?_; first | assumption | omega) | (simp [*]; done))) | (refine cond_f rfl ?_ ?_; (· first | rfl | assumption | (refine decide_eq_false ?_; first | assumption | omega) | (refine nf ?_; first | assumption | omega) | (simp [*]; done))) | refine skip_then ?_ | refine AW_seq ?_ | refine norm_then ?_ | refine AW_block ?_ | refine norm_block ?_ | refine AW_skip ?_)
      refine next_round (done, a, i + 1) ⟨by show a ≤ i + 1; omega, hc, ?_, h4⟩ (weak_st ?_ ?_ rfl rfl) ?_
      · show (58 : UInt8) ∉ (B.drop a).take (i + 1 - a)
        have h6 : (B.drop a).getD (i - a) 0 = B.getD i 0 := by
          rw [getD_get (by simp; omega), getD_get hc]
          simp [show a + (i - a) = i by omega]
        rw [show i + 1 - a = (i - a) + 1 by omega, take_snoc _ _ 0 (by simp; omega), h6]
        simp only [List.mem_append, List.mem_singleton, not_or]
        exact ⟨h3, fun e => h44 e.symm⟩
      · (repeat' (first | exact trivial | refine And.intro ?_ ?_)) <;> (first | rfl | skip)
      · (repeat' (first | exact trivial | refine And.intro ?_ ?_)) <;> (first | rfl | skip)
      · show B.length - (i + 1) < B.length - i; omega
  · obtain rfl : i = B.length := by omega
    have hn : (58 : UInt8) ∉ B.drop a := by rwa [List.take_of_length_le (by simp)] at h3
    have hfin : splitB B = done ++ [B.drop a] := by rw [← h4, splitB_one hn]
    repeat (first | (refine step_ops ?_; (first | (refine m_mov (by conv => lhs; whnf) ?_) | (refine m_lss rfl rfl ?_) | (refine m_scutl rfl rfl ?_ ?_; (· first | omega | (simp; omega))) | (refine m_slen rfl ?_) | (refine m_bsl1 rfl rfl ?_) | (refine m_app1 rfl (by decide) rfl (by first | (simp; done) | (simp [*]; done) | (simp; omega)) rfl rfl rfl ?_ (by decide) ?_; (· first | omega | (simp; omega))))) | refine end_ops ?_ | refine seq_ops ?_ | (refine cond_f rfl ?_ ?_; (· first | rfl | assumption | (refine decide_eq_false ?_; first | assumption | omega) | (refine nf ?_; first | assumption | omega) | (simp [*]; done))) | refine AW_seq ?_ | refine AW_ret ?_ | refine ret_done ?_ | refine norm_then ?_ | refine exit_then ?_ | refine exit_round ?_ | refine AW_exit ?_ | refine exit_block ?_)
    rw [hfin, hd1, hd2]
    exact outs_sl rfl (by simp [txs_len]) (by simp [txs, plainV])
end Go.Proofs.YtfoecdaggmagaaaDoor

namespace Go.Am
theorem g_un {P : Program} {own : Bool} {s : AS} {K : AS → Prop} {d : Option Nat} {op : AOp} {t : Nat} {w : Bool} (h : s.tm t = .v undef) (k : K (s.put d (.v undef))) : aop1 P own ⟨d, op, some (t, w)⟩ s K := .inr ⟨h, k⟩
variable {P : Program} {own : Bool} {s : AS} {K : AS → Prop} {d : Option Nat} {x y : Opd} {q : IntKind} {a b : Int}
theorem m_lssk (hx : s.ev x = .v (.int q a)) (hy : s.ev y = .v (.int q b)) (k : K (s.put d (.b (decide (a < b))))) : aop1 P own ⟨d, .bin .lss x y, none⟩ s K := ⟨_, _, .bool (decide (a < b)), hx, hy, by simp [pbin], k⟩
theorem m_gtrk (hx : s.ev x = .v (.int q a)) (hy : s.ev y = .v (.int q b)) (k : K (s.put d (.b (decide (a > b))))) : aop1 P own ⟨d, .bin .gtr x y, none⟩ s K := ⟨_, _, .bool (decide (a > b)), hx, hy, by simp [pbin], k⟩
end Go.Am
namespace Go.Proofs.YtfoecdaggmagaaaDoor
open Go.Am
attribute [local irreducible] AW Outs Weak Lends Lend Sp aops atree aop1 Then Round InBlock Done

theorem rdF_snoc : ∀ (l : List UInt8) (a : Int) (c : UInt8), rdF a (l ++ [c]) = (rdF a l).bind fun v => if 48 ≤ c.toNat ∧ c.toNat ≤ 57 then some (10 * v + ((c.toNat : Int) - 48)) else none
  | [], a, c => by simp [rdF]
  | d :: l, a, c => by
    rw [List.cons_append, rdF, rdF]
    split
    · exact rdF_snoc l _ c
    · rfl
theorem rdF_none : ∀ (l m : List UInt8) (a : Int), rdF a l = none → rdF a (l ++ m) = none
  | [], m, a, h => by simp [rdF] at h
  | d :: l, m, a, h => by
    rw [List.cons_append]
    rw [rdF] at h ⊢
    split
    · rename_i hc
      rw [if_pos hc] at h
      exact rdF_none l m _ h
    · rfl
theorem rdF_lt : ∀ (l : List UInt8) (a v : Int), 0 ≤ a → rdF a l = some v → 0 ≤ v ∧ v < (a + 1) * 10 ^ l.length
  | [], a, v, ha, h => by simp only [rdF] at h; cases h; simp; omega
  | c :: l, a, v, ha, h => by
    simp only [rdF] at h
    split at h
    · rename_i hc
      obtain ⟨h0, h1⟩ := rdF_lt l _ v (by omega) h
      refine ⟨h0, ?_⟩
      rw [List.length_cons, Int.pow_succ]
      have h2 : (0 : Int) ≤ 10 ^ l.length := Int.le_of_lt (Int.pow_pos (by decide))
      have h3 : 10 * a + ((c.toNat : Int) - 48) + 1 ≤ (a + 1) * 10 := by omega
      have h4 := Int.mul_le_mul_of_nonneg_right h3 h2
      have h5 : (a + 1) * 10 * 10 ^ l.length = (a + 1) * (10 ^ l.length * 10) := by rw [Int.mul_assoc, Int.mul_comm 10]
      omega
    · cases h
theorem rdF_small {l : List UInt8} {v : Int} (h : rdF 0 l = some v) (hl : l.length ≤ 6) : 0 ≤ v ∧ v < 1000000 := by
  obtain ⟨h0, h1⟩ := rdF_lt l 0 v (by omega) h
  refine ⟨h0, ?_⟩
  have h2 : (10 : Int) ^ l.length ≤ 10 ^ 6 := by
    have := Nat.pow_le_pow_right (n := 10) (by decide) hl
    exact_mod_cast this
  have h3 : (10 : Int) ^ 6 = 1000000 := by decide
  omega
theorem wr8 (c : UInt8) (h : 48 ≤ c.toNat) : IntKind.u8.wrap ((c.toNat : Int) - 48) = (c.toNat : Int) - 48 := by
  have := c.toNat_lt
  have e : ∀ n : Int, IntKind.u8.wrap n = n % 256 := fun n => by simp [IntKind.wrap, IntKind.bits, IntKind.signed]
  rw [e]
  omega
theorem wr64s (x : Int) (h0 : 0 ≤ x) (h1 : x < 1000000) : IntKind.i64.wrap x = x := by
  rw [IntKind.wrap_i64]
  omega

theorem l1Read_no (w : List UInt8) (hw : w.length ≤ 1000) (h : ¬ (1 ≤ w.length ∧ w.length ≤ 6 ∧ ¬ (w.getD 0 0 = 48 ∧ 1 < w.length))) : Sp Tryd.prog 17 [str w] (.i (-1)) := by
  refine spec_of Tryd.func17 rfl cc17 rfl ?_
  unfold ac17
  by_cases hl : 1 ≤ w.length ∧ w.length ≤ 6
  · have h0 : w.getD 0 0 = 48 := Classical.byContradiction fun e => h ⟨hl.1, hl.2, fun g => e g.1⟩
    have h1 : 1 < w.length := Classical.byContradiction fun e => h ⟨hl.1, hl.2, fun g => e g.2⟩
    have h0' : ((w.getD 0 0).toNat : Int) = 48 := by rw [h0]; rfl
    have hd : decide ((1 : Int) ≤ w.length ∧ (w.length : Int) ≤ 6) = true := decide_eq_true (by omega)
    repeat (first | (refine step_ops ?_; (first | (refine m_mov (by conv => lhs; whnf) ?_) | (refine m_slen rfl ?_))) | refine end_ops ?_ | refine seq_ops ?_ | refine AW_seq ?_)
    (refine step_ops ?_); (apply m_call (l1In_spec _ _ _)); (· repeat (first | exact lends_nil | (refine lends_cons ?_ ?_; (· exact lend_v))))
    repeat (first | (refine step_ops ?_; ((try (refine g_yes rfl ?_ ?_; (· first | rfl | assumption | (refine decide_eq_true ?_; first | assumption | omega) | (refine nt ?_; first | assumption | omega) | (simp [*]; done) | (refine decide_eq_false ?_; first | assumption | omega) | (refine nf ?_; first | assumption | omega)))); (first | (refine m_mov (by conv => lhs; whnf) ?_) | (refine m_gtr rfl rfl ?_) | (refine m_eqk rfl rfl ?_) | (refine m_slen rfl ?_) | (refine m_six' rfl rfl ?_ ?_; (· first | omega | (simp; omega))) | (refine m_not rfl ?_) | (refine m_pick_t rfl ?_ (by conv => lhs; whnf) ?_; (· first | rfl | assumption | (refine decide_eq_true ?_; first | assumption | omega) | (refine nt ?_; first | assumption | omega) | (simp [*]; done))) | (refine m_pick_f rfl ?_ (by conv => lhs; whnf) ?_; (· first | rfl | assumption | (refine decide_eq_false ?_; first | assumption | omega) | (refine nf ?_; first | assumption | omega) | (simp [*]; done)))))) | refine end_ops ?_ | refine seq_ops ?_ | (refine cond_t rfl ?_ ?_; (· first | rfl | assumption | (refine decide_eq_true ?_; first | assumption | omega) | (refine nt ?_; first | assumption | omega) | (simp [*]; done))) | refine AW_ret ?_ | refine ret_done ?_ | refine ret_then ?_)
    exact outs_i rfl
  · have hd : decide ((1 : Int) ≤ w.length ∧ (w.length : Int) ≤ 6) = false := decide_eq_false (by omega)
    repeat (first | (refine step_ops ?_; (first | (refine m_mov (by conv => lhs; whnf) ?_) | (refine m_slen rfl ?_))) | refine end_ops ?_ | refine seq_ops ?_ | refine AW_seq ?_)
    (refine step_ops ?_); (apply m_call (l1In_spec _ _ _)); (· repeat (first | exact lends_nil | (refine lends_cons ?_ ?_; (· exact lend_v))))
    repeat (first | ((first | (refine step_ops ?_; (first | (first | (refine m_mov (by conv => lhs; whnf) ?_) | (refine m_not rfl ?_) | (refine m_pick_t rfl ?_ (by conv => lhs; whnf) ?_; (· first | rfl | assumption | (refine decide_eq_true ?_; first | assumption | omega) | (refine nt ?_; first | assumption | omega) | (simp [*]; done)))) | (refine g_noF rfl ?_ ?_; (· first | rfl | assumption | (refine decide_eq_true ?_; first | assumption | omega) | (refine nt ?_; first | assumption | omega) | (simp [*]; done))))) | refine end_ops ?_ | refine seq_ops ?_ | (refine cond_t rfl ?_ ?_; (· first | rfl | assumption | (refine decide_eq_true ?_; first | assumption | omega) | (refine nt ?_; first | assumption | omega) | (simp [*]; done))) | refine AW_ret ?_ | refine ret_done ?_ | refine ret_then ?_)) | (refine step_ops ?_; refine g_un rfl ?_))
    exact outs_i rfl

theorem l1Read_yes (w : List UInt8) (h1 : 1 ≤ w.length) (h6 : w.length ≤ 6) (h0 : ¬ (w.getD 0 0 = 48 ∧ 1 < w.length)) : Sp Tryd.prog 17 [str w] (.i ((rdF 0 w).getD (-1))) := by
  refine spec_of Tryd.func17 rfl cc17 rfl ?_
  unfold ac17
  have hd : decide ((1 : Int) ≤ w.length ∧ (w.length : Int) ≤ 6) = true := decide_eq_true (by omega)
  by_cases hz : w.getD 0 0 = 48
  · have hz' : ((w.getD 0 0).toNat : Int) = 48 := by rw [hz]; rfl
    have h1' : ¬ 1 < w.length := fun e => h0 ⟨hz, e⟩
    have h1'' : ¬ 1 < (w.length : Int) := by omega
    repeat (first | (refine step_ops ?_; (first | (refine m_mov (by conv => lhs; whnf) ?_) | (refine m_slen rfl ?_))) | refine end_ops ?_ | refine seq_ops ?_ | refine AW_seq ?_)
    (refine step_ops ?_); (apply m_call (l1In_spec _ _ _)); (· repeat (first | exact lends_nil | (refine lends_cons ?_ ?_; (· exact lend_v))))
    repeat (first | (refine step_ops ?_; ((try (refine g_yes rfl ?_ ?_; (· first | rfl | assumption | (refine decide_eq_true ?_; first | assumption | omega) | (refine nt ?_; first | assumption | omega) | (simp [*]; done) | (refine decide_eq_false ?_; first | assumption | omega) | (refine nf ?_; first | assumption | omega)))); (first | (refine m_mov (by conv => lhs; whnf) ?_) | (refine m_gtr rfl rfl ?_) | (refine m_eqk rfl rfl ?_) | (refine m_slen rfl ?_) | (refine m_six' rfl rfl ?_ ?_; (· first | omega | (simp; omega))) | (refine m_not rfl ?_) | (refine m_pick_t rfl ?_ (by conv => lhs; whnf) ?_; (· first | rfl | assumption | (refine decide_eq_true ?_; first | assumption | omega) | (refine nt ?_; first | assumption | omega) | (simp [*]; done))) | (refine m_pick_f rfl ?_ (by conv => lhs; whnf) ?_; (· first | rfl | assumption | (refine decide_eq_false ?_; first | assumption | omega) | (refine nf ?_; first | assumption | omega) | (simp [*]; done)))))) | refine end_ops ?_ | refine seq_ops ?_ | (refine cond_f rfl ?_ ?_; (· first | rfl | assumption | (refine decide_eq_false ?_; first | assumption | omega) | (refine nf ?_; first | assumption | omega) | (simp [*]; done))) | refine skip_then ?_ | refine AW_seq ?_ | refine AW_block ?_)
    refine AW_loop (α := Nat × Int) (fun a => a.1 ≤ w.length ∧ rdF 0 (w.take a.1) = some a.2) (fun a => st [(0, str w), (3, .i a.2), (4, .i a.1)] []) (fun a => w.length - a.1) (0, 0) ⟨Nat.zero_le _, rfl⟩ (weak_st ?_ ?_ rfl rfl) ?_
    · (repeat' (first | exact trivial | refine And.intro ?_ ?_)) <;> (first | rfl | skip)
    · trivial
    rintro ⟨k, n⟩ ⟨hk, hn⟩
    dsimp only at hk hn ⊢
    have hs := rdF_small hn (by rw [List.length_take]; omega)
    by_cases hc : k < w.length
    · have hsn := rdF_snoc (w.take k) 0 (w.getD k 0)
      rw [← take_snoc w k 0 hc, hn, Option.bind_some] at hsn
      have hb := (w.getD k 0).toNat_lt
      by_cases hd1 : 48 ≤ (w.getD k 0).toNat ∧ (w.getD k 0).toNat ≤ 57
      · obtain ⟨hd1, hd2⟩ := hd1
        rw [if_pos ⟨hd1, hd2⟩] at hsn
        have e8 := wr8 _ hd1
        have hl48 : ¬ ((w.getD k 0).toNat : Int) < 48 := by omega
        have hg57 : ¬ ((w.getD k 0).toNat : Int) > 57 := by omega
        have e64 := wr64s (((w.getD k 0).toNat : Int) - 48) (by omega) (by omega)
        repeat (first | ((first | (refine step_ops ?_; ((try (refine g_yes rfl ?_ ?_; (· first | rfl | assumption | (refine decide_eq_true ?_; first | assumption | omega) | (refine nt ?_; first | assumption | omega) | (simp [*]; done) | (refine decide_eq_false ?_; first | assumption | omega) | (refine nf ?_; first | assumption | omega)))); (first | (refine m_mov (by conv => lhs; whnf) ?_) | (refine m_lss rfl rfl ?_) | (refine m_add rfl rfl ?_ ?_ ?_; (· omega); (· omega)) | (refine m_mul rfl rfl ?_ ?_ ?_; (· first | omega | (simp; done)); (· first | omega | (simp; done))) | (refine m_slen rfl ?_) | (refine m_six' rfl rfl ?_ ?_; (· first | omega | (simp; omega))) | (refine m_pick_f rfl ?_ (by conv => lhs; whnf) ?_; (· first | rfl | assumption | (refine decide_eq_false ?_; first | assumption | omega) | (refine nf ?_; first | assumption | omega) | (simp [*]; done))) | (refine m_cvt rfl ?_)))) | refine end_ops ?_ | refine seq_ops ?_ | refine AW_ops ?_ | (refine cond_t rfl ?_ ?_; (· first | rfl | assumption | (refine decide_eq_true ?_; first | assumption | omega) | (refine nt ?_; first | assumption | omega) | (simp [*]; done))) | (refine cond_f rfl ?_ ?_; (· first | rfl | assumption | (refine decide_eq_false ?_; first | assumption | omega) | (refine nf ?_; first | assumption | omega) | (simp [*]; done))) | refine skip_then ?_ | refine AW_seq ?_ | refine norm_then ?_ | refine AW_block ?_ | refine norm_block ?_)) | (refine step_ops ?_; (try (refine g_yes rfl ?_ ?_; (· first | (refine decide_eq_false ?_; assumption) | (simp [*]; done)))); first | (refine m_lssk rfl rfl ?_) | (refine m_gtrk rfl rfl ?_) | (refine m_subk rfl rfl e8 ?_)))
        rw [e64]
        skip
        refine next_round (k + 1, 10 * n + (((w.getD k 0).toNat : Int) - 48)) ⟨hc, hsn⟩ (weak_st ?_ ?_ rfl rfl) ?_
        · (repeat' (first | exact trivial | refine And.intro ?_ ?_)) <;> (first | rfl | skip)
        · trivial
        · show w.length - (k + 1) < w.length - k; omega
      · have hnone : rdF 0 w = none := by
          rw [if_neg hd1] at hsn
          have := rdF_none _ (w.drop (k + 1)) 0 hsn
          rwa [List.take_append_drop] at this
        rw [hnone]
        by_cases hl48 : ((w.getD k 0).toNat : Int) < 48
        · repeat (first | ((first | (refine step_ops ?_; (first | (first | (refine m_mov (by conv => lhs; whnf) ?_) | (refine m_lss rfl rfl ?_) | (refine m_slen rfl ?_) | (refine m_six' rfl rfl ?_ ?_; (· first | omega | (simp; omega))) | (refine m_pick_t rfl ?_ (by conv => lhs; whnf) ?_; (· first | rfl | assumption | (refine decide_eq_true ?_; first | assumption | omega) | (refine nt ?_; first | assumption | omega) | (simp [*]; done)))) | (refine g_noF rfl ?_ ?_; (· first | rfl | assumption | (refine decide_eq_true ?_; first | assumption | omega) | (refine nt ?_; first | assumption | omega) | (simp [*]; done))))) | refine end_ops ?_ | refine seq_ops ?_ | (refine cond_t rfl ?_ ?_; (· first | rfl | assumption | (refine decide_eq_true ?_; first | assumption | omega) | (refine nt ?_; first | assumption | omega) | (simp [*]; done))) | refine skip_then ?_ | refine AW_seq ?_ | refine AW_ret ?_ | refine ret_done ?_ | refine ret_then ?_ | refine AW_block ?_ | refine ret_block ?_ | refine ret_round ?_)) | (refine step_ops ?_; (try (refine g_yes rfl ?_ ?_; (· first | (refine decide_eq_false ?_; assumption) | (simp [*]; done)))); first | (refine m_lssk rfl rfl ?_) | (refine m_gtrk rfl rfl ?_)))
          exact outs_i rfl
        · have hg57 : ((w.getD k 0).toNat : Int) > 57 := by omega
          repeat (first | ((first | (refine step_ops ?_; ((try (refine g_yes rfl ?_ ?_; (· first | rfl | assumption | (refine decide_eq_true ?_; first | assumption | omega) | (refine nt ?_; first | assumption | omega) | (simp [*]; done) | (refine decide_eq_false ?_; first | assumption | omega) | (refine nf ?_; first | assumption | omega)))); (first | (refine m_mov (by conv => lhs; whnf) ?_) | (refine m_lss rfl rfl ?_) | (refine m_slen rfl ?_) | (refine m_six' rfl rfl ?_ ?_; (· first | omega | (simp; omega))) | (refine m_pick_f rfl ?_ (by conv => lhs; whnf) ?_; (· first | rfl | assumption | (refine decide_eq_false ?_; first | assumption | omega) | (refine nf ?_; first | assumption | omega) | (simp [*]; done)))))) | refine end_ops ?_ | refine seq_ops ?_ | (refine cond_t rfl ?_ ?_; (· first | rfl | assumption | (refine decide_eq_true ?_; first | assumption | omega) | (refine nt ?_; first | assumption | omega) | (simp [*]; done))) | refine skip_then ?_ | refine AW_seq ?_ | refine AW_ret ?_ | refine ret_done ?_ | refine ret_then ?_ | refine AW_block ?_ | refine ret_block ?_ | refine ret_round ?_)) | (refine step_ops ?_; (try (refine g_yes rfl ?_ ?_; (· first | (refine decide_eq_false ?_; assumption) | (simp [*]; done)))); first | (refine m_lssk rfl rfl ?_) | (refine m_gtrk rfl rfl ?_)))
          exact outs_i rfl
    · obtain rfl : k = w.length := by omega
      rw [List.take_length] at hn
      rw [hn]
      repeat (first | (refine step_ops ?_; (first | (refine m_mov (by conv => lhs; whnf) ?_) | (refine m_lss rfl rfl ?_) | (refine m_slen rfl ?_))) | refine end_ops ?_ | refine seq_ops ?_ | (refine cond_f rfl ?_ ?_; (· first | rfl | assumption | (refine decide_eq_false ?_; first | assumption | omega) | (refine nf ?_; first | assumption | omega) | (simp [*]; done))) | refine AW_seq ?_ | refine AW_ret ?_ | refine ret_done ?_ | refine norm_then ?_ | refine exit_then ?_ | refine exit_round ?_ | refine AW_exit ?_ | refine exit_block ?_)
      exact outs_i rfl
  · have hz' : ¬ ((w.getD 0 0).toNat : Int) = 48 := fun e => hz (u8_eq (n := 48) (by omega) 48 rfl)
    repeat (first | (refine step_ops ?_; (first | (refine m_mov (by conv => lhs; whnf) ?_) | (refine m_slen rfl ?_))) | refine end_ops ?_ | refine seq_ops ?_ | refine AW_seq ?_)
    (refine step_ops ?_); (apply m_call (l1In_spec _ _ _)); (· repeat (first | exact lends_nil | (refine lends_cons ?_ ?_; (· exact lend_v))))
    repeat (first | (refine step_ops ?_; (first | ((try (refine g_yes rfl ?_ ?_; (· first | rfl | assumption | (refine decide_eq_true ?_; first | assumption | omega) | (refine nt ?_; first | assumption | omega) | (simp [*]; done) | (refine decide_eq_false ?_; first | assumption | omega) | (refine nf ?_; first | assumption | omega)))); (first | (refine m_mov (by conv => lhs; whnf) ?_) | (refine m_eqk rfl rfl ?_) | (refine m_six' rfl rfl ?_ ?_; (· first | omega | (simp; omega))) | (refine m_not rfl ?_) | (refine m_pick_f rfl ?_ (by conv => lhs; whnf) ?_; (· first | rfl | assumption | (refine decide_eq_false ?_; first | assumption | omega) | (refine nf ?_; first | assumption | omega) | (simp [*]; done))))) | (refine g_noT rfl ?_ ?_; (· first | rfl | assumption | (refine decide_eq_false ?_; first | assumption | omega) | (refine nf ?_; first | assumption | omega) | (simp [*]; done))))) | refine end_ops ?_ | refine seq_ops ?_ | (refine cond_f rfl ?_ ?_; (· first | rfl | assumption | (refine decide_eq_false ?_; first | assumption | omega) | (refine nf ?_; first | assumption | omega) | (simp [*]; done))) | refine skip_then ?_ | refine AW_seq ?_ | refine AW_block ?_)
    refine AW_loop (α := Nat × Int) (fun a => a.1 ≤ w.length ∧ rdF 0 (w.take a.1) = some a.2) (fun a => st [(0, str w), (3, .i a.2), (4, .i a.1)] []) (fun a => w.length - a.1) (0, 0) ⟨Nat.zero_le _, rfl⟩ (weak_st ?_ ?_ rfl rfl) ?_
    · (repeat' (first | exact trivial | refine And.intro ?_ ?_)) <;> (first | rfl | skip)
    · trivial
    rintro ⟨k, n⟩ ⟨hk, hn⟩
    dsimp only at hk hn ⊢
    have hs := rdF_small hn (by rw [List.length_take]; omega)
    by_cases hc : k < w.length
    · have hsn := rdF_snoc (w.take k) 0 (w.getD k 0)
      rw [← take_snoc w k 0 hc, hn, Option.bind_some] at hsn
      have hb := (w.getD k 0).toNat_lt
      by_cases hd1 : 48 ≤ (w.getD k 0).toNat ∧ (w.getD k 0).toNat ≤ 57
      · obtain ⟨hd1, hd2⟩ := hd1
        rw [if_pos ⟨hd1, hd2⟩] at hsn
        have e8 := wr8 _ hd1
        have hl48 : ¬ ((w.getD k 0).toNat : Int) < 48 := by omega
        have hg57 : ¬ ((w.getD k 0).toNat : Int) > 57 := by omega
        have e64 := wr64s (((w.getD k 0).toNat : Int) - 48) (by omega) (by omega)
        repeat (first | ((first | (refine step_ops ?_; ((try (refine g_yes rfl ?_ ?_; (· first | rfl | assumption | (refine decide_eq_true ?_; first | assumption | omega) | (refine nt ?_; first | assumption | omega) | (simp [*]; done) | (refine decide_eq_false ?_; first | assumption | omega) | (refine nf ?_; first | assumption | omega)))); (first | (refine m_mov (by conv => lhs; whnf) ?_) | (refine m_lss rfl rfl ?_) | (refine m_add rfl rfl ?_ ?_ ?_; (· omega); (· omega)) | (refine m_mul rfl rfl ?_ ?_ ?_; (· first | omega | (simp; done)); (· first | omega | (simp; done))) | (refine m_slen rfl ?_) | (refine m_six' rfl rfl ?_ ?_; (· first | omega | (simp; omega))) | (refine m_pick_f rfl ?_ (by conv => lhs; whnf) ?_; (· first | rfl | assumption | (refine decide_eq_false ?_; first | assumption | omega) | (refine nf ?_; first | assumption | omega) | (simp [*]; done))) | (refine m_cvt rfl ?_)))) | refine end_ops ?_ | refine seq_ops ?_ | refine AW_ops ?_ | (refine cond_t rfl ?_ ?_; (· first | rfl | assumption | (refine decide_eq_true ?_; first | assumption | omega) | (refine nt ?_; first | assumption | omega) | (simp [*]; done))) | (refine cond_f rfl ?_ ?_; (· first | rfl | assumption | (refine decide_eq_false ?_; first | assumption | omega) | (refine nf ?_; first | assumption | omega) | (simp [*]; done))) | refine skip_then ?_ | refine AW_seq ?_ | refine norm_then ?_ | refine AW_block ?_ | refine norm_block ?_)) | (refine step_ops ?_; (try (refine g_yes rfl ?_ ?_; (· first | (refine decide_eq_false ?_; assumption) | (simp [*]; done)))); first | (refine m_lssk rfl rfl ?_) | (refine m_gtrk rfl rfl ?_) | (refine m_subk rfl rfl e8 ?_)))
        rw [e64]
        skip
        refine next_round (k + 1, 10 * n + (((w.getD k 0).toNat : Int) - 48)) ⟨hc, hsn⟩ (weak_st ?_ ?_ rfl rfl) ?_
        · (repeat' (first | exact trivial | refine And.intro ?_ ?_)) <;> (first | rfl | skip)
        · trivial
        · show w.length - (k + 1) < w.length - k; omega
      · have hnone : rdF 0 w = none := by
          rw [if_neg hd1] at hsn
          have := rdF_none _ (w.drop (k + 1)) 0 hsn
          rwa [List.take_append_drop] at this
        rw [hnone]
        by_cases hl48 : ((w.getD k 0).toNat : Int) < 48
        · repeat (first | ((first | (refine step_ops ?_; (first | (first | (refine m_mov (by conv => lhs; whnf) ?_) | (refine m_lss rfl rfl ?_) | (refine m_slen rfl ?_) | (refine m_six' rfl rfl ?_ ?_; (· first | omega | (simp; omega))) | (refine m_pick_t rfl ?_ (by conv => lhs; whnf) ?_; (· first | rfl | assumption | (refine decide_eq_true ?_; first | assumption | omega) | (refine nt ?_; first | assumption | omega) | (simp [*]; done)))) | (refine g_noF rfl ?_ ?_; (· first | rfl | assumption | (refine decide_eq_true ?_; first | assumption | omega) | (refine nt ?_; first | assumption | omega) | (simp [*]; done))))) | refine end_ops ?_ | refine seq_ops ?_ | (refine cond_t rfl ?_ ?_; (· first | rfl | assumption | (refine decide_eq_true ?_; first | assumption | omega) | (refine nt ?_; first | assumption | omega) | (simp [*]; done))) | refine skip_then ?_ | refine AW_seq ?_ | refine AW_ret ?_ | refine ret_done ?_ | refine ret_then ?_ | refine AW_block ?_ | refine ret_block ?_ | refine ret_round ?_)) | (refine step_ops ?_; (try (refine g_yes rfl ?_ ?_; (· first | (refine decide_eq_false ?_; assumption) | (simp [*]; done)))); first | (refine m_lssk rfl rfl ?_) | (refine m_gtrk rfl rfl ?_)))
          exact outs_i rfl
        · have hg57 : ((w.getD k 0).toNat : Int) > 57 := by omega
          repeat (first | ((first | (refine step_ops ?_; ((try (refine g_yes rfl ?_ ?_; (· first | rfl | assumption | (refine decide_eq_true ?_; first | assumption | omega) | (refine nt ?_; first | assumption | omega) | (simp [*]; done) | (refine decide_eq_false ?_; first | assumption | omega) | (refine nf ?_; first | assumption | omega)))); (first | (refine m_mov (by conv => lhs; whnf) ?_) | (refine m_lss rfl rfl ?_) | (refine m_slen rfl ?_) | (refine m_six' rfl rfl ?_ ?_; (· first | omega | (simp; omega))) | (refine m_pick_f rfl ?_ (by conv => lhs; whnf) ?_; (· first | rfl | assumption | (refine decide_eq_false ?_; first | assumption | omega) | (refine nf ?_; first | assumption | omega) | (simp [*]; done)))))) | refine end_ops ?_ | refine seq_ops ?_ | (refine cond_t rfl ?_ ?_; (· first | rfl | assumption | (refine decide_eq_true ?_; first | assumption | omega) | (refine nt ?_; first | assumption | omega) | (simp [*]; done))) | refine skip_then ?_ | refine AW_seq ?_ | refine AW_ret ?_ | refine ret_done ?_ | refine ret_then ?_ | refine AW_block ?_ | refine ret_block ?_ | refine ret_round ?_)) | (refine step_ops ?_; (try (refine g_yes rfl ?_ ?_; (· first | (refine decide_eq_false ?_; assumption) | (simp [*]; done)))); first | (refine m_lssk rfl rfl ?_) | (refine m_gtrk rfl rfl ?_)))
          exact outs_i rfl
    · obtain rfl : k = w.length := by omega
      rw [List.take_length] at hn
      rw [hn]
      repeat (first | (refine step_ops ?_; (first | (refine m_mov (by conv => lhs; whnf) ?_) | (refine m_lss rfl rfl ?_) | (refine m_slen rfl ?_))) | refine end_ops ?_ | refine seq_ops ?_ | (refine cond_f rfl ?_ ?_; (· first | rfl | assumption | (refine decide_eq_false ?_; first | assumption | omega) | (refine nf ?_; first | assumption | omega) | (simp [*]; done))) | refine AW_seq ?_ | refine AW_ret ?_ | refine ret_done ?_ | refine norm_then ?_ | refine exit_then ?_ | refine exit_round ?_ | refine AW_exit ?_ | refine exit_block ?_)
      exact outs_i rfl

theorem l1Read_spec (w : List UInt8) (hw : w.length ≤ 1000) : Sp Tryd.prog 17 [str w] (.i (rd w)) := by
  unfold rd
  split
  · rename_i h
    exact l1Read_yes w h.1 h.2.1 h.2.2
  · rename_i h
    exact l1Read_no w hw h

end Go.Proofs.YtfoecdaggmagaaaDoor

namespace Go.Am
theorem more_of {w w' : World} (h : RowKit.Below w.heap.size w w') : More w w' := ⟨h.os, h.tape, h.output, h.size, h.block⟩
/-- A call with one told value that gives one told value and leaves what was there. -/
theorem sp_more {P : Program} {f : FuncId} {x : Value} {res : AV} {y : Value} (hr : ∀ C, SimV res C y) (h : ∀ w, Calls P f #[x] w fun e w' => e = .returned y ∧ More w w') : Sp P f [.v x] res := by
  intro w vs _ hent
  obtain ⟨hs, hl⟩ := hent
  obtain ⟨l⟩ := vs
  match l with
  | [] => simp at hl
  | _ :: _ :: _ => simp at hl
  | [a] =>
    simp only [SimL, SimV, and_true] at hs
    subst hs
    refine (h w).mono fun e w' hp => ?_
    obtain ⟨rfl, hm⟩ := hp
    exact ⟨y, rfl, hm, hr _⟩
/-- One that gives one of many. -/
theorem spx_more {P : Program} {f : FuncId} {x : Value} {ι : Type} {res : ι → AV} {y : ι → Value} (hr : ∀ i C, SimV (res i) C (y i)) (h : ∀ w, GoodW w → Calls P f #[x] w fun e w' => ∃ i, e = .returned (y i) ∧ More w w') :
    SpX P f [.v x] (fun _ => none) (fun _ => True) res (fun _ _ => none) := by
  intro w vs phi hg _ _ _ hs hl
  obtain ⟨l⟩ := vs
  match l with
  | [] => simp at hl
  | _ :: _ :: _ => simp at hl
  | [a] =>
    simp only [SimL, SimV, and_true] at hs
    subst hs
    refine (h w hg).mono fun e w' hp => ?_
    obtain ⟨i, rfl, hm⟩ := hp
    refine ⟨i, trivial, y i, phi, rfl, hm.os, hm.tape, hm.output, hm.size, fun r h => by simp at h, fun b hb _ => hm.block b hb, fun b cur e f hb => ⟨cur, (hm.block b (lt_of_get hb)).trans hb, rfl⟩, fun r r' b h => by simp at h, fun r b h => by simp at h, fun r c h => by simp at h, hr i _⟩
/-- A call whose result is told by an i. -/
theorem m_callxe {P : Program} {s : AS} {K : AS → Prop} {d : Option Nat} {f : FuncId} {args : List Opd} {ags : List AV} {ι : Type} {res : ι → AV} (hs : SpX P f ags (fun _ => none) (fun _ => True) res (fun _ _ => none)) (hl : Lends s.hp (args.map s.ev) ags) (i0 : ι)
    (hor : ∀ i, ownV false (res i) = true) (hren : ∀ i, renV id (res i) = res i) (k : ∀ i, K (s.put d (res i))) : aop1 P true ⟨d, .call f args, none⟩ s K := by
  refine m_callx (hp' := fun _ => s.hp) id hs (lendsH_none hl) ⟨i0, trivial⟩ fun i _ => ⟨⟨fun r c h => by simp at h, fun r r' h => by simp at h, fun r h => by simp at h, fun r h => by simp at h, fun r c h => by simp at h, fun q _ => rfl, fun r c h => by simp at h, fun r c h => by simp at h, hor i⟩, ?_⟩
  rw [hren i]
  exact k i
end Go.Am
namespace Go.Proofs.YtfoecdaggmagaaaDoor
open Go.Am
theorem atoi_ok (w : List UInt8) (v : Int) (h : Lib.atoiAll w = .ok v) (hl : w.length ≤ 1048576) : Sp Tryd.prog 11 [str w] (.tup [.i v, .v .nilIface]) := by
  refine sp_more (y := .tuple #[.int .i64 v, .nilIface]) (fun C => by simp [SimV, SimL]) fun wd => ?_
  refine (Tryd.strconv_Atoi_ok ⟨w.toArray⟩ (by show w.toArray.size ≤ _; simp; omega) v h wd).mono fun e w' hp => ?_
  obtain ⟨rfl, rfl | ⟨t, rfl⟩⟩ := hp
  · exact ⟨rfl, More.refl _⟩
  · exact ⟨rfl, more_of (Lib.bytesWorld_below _ _ _)⟩
/-- An error that is told by the block in which it lies. -/
def errV (i : Int × Nat) : AV := .tup [.i i.1, .v (.iface 57 (.pointer (some ⟨i.2, 0, none⟩)))]
theorem good_cell {w : World} (hg : GoodW w) (b : Nat) (hb : b ∈ goodB) : ∃ te pe, w.cell? ⟨b, 0, none⟩ = some (.iface te pe) := by
  obtain ⟨cur, e, fz, h1, te, pe, rfl⟩ := hg b hb
  refine ⟨te, pe, ?_⟩
  unfold World.cell?
  simp only [h1]
  rfl
theorem atoi_err (w : List UInt8) (h : ∀ v, Lib.atoiAll w ≠ .ok v) (hl : w.length ≤ 1048576) : SpX Tryd.prog 11 [str w] (fun _ => none) (fun _ => True) errV (fun _ _ => none) := by
  refine spx_more (y := fun (i : Int × Nat) => .tuple #[.int .i64 i.1, .iface 57 (.pointer (some ⟨i.2, 0, none⟩))]) (fun i C => by simp [errV, SimV, SimL]) fun wd hg => ?_
  have hsz : (⟨w.toArray⟩ : ByteArray).size ≤ 281474976710656 := by show w.toArray.size ≤ _; simp; omega
  have hd : (⟨w.toArray⟩ : ByteArray).data.toList = w := by simp
  by_cases ha : Lib.atoiAll w = .range
  · obtain ⟨te, pe, hc⟩ := good_cell hg 1 (by simp [goodB])
    refine (Tryd.strconv_Atoi_range ⟨w.toArray⟩ hsz (by rw [hd]; exact ha) _ wd hc (.inr ⟨te, pe, rfl⟩)).mono fun e w' hp => ?_
    obtain ⟨N, rfl, _, _, hb⟩ := hp
    exact ⟨(_, N), rfl, more_of hb⟩
  · obtain ⟨te, pe, hc⟩ := good_cell hg 0 (by simp [goodB])
    refine (Tryd.atoi_bad ⟨w.toArray⟩ hsz (by rw [hd]; exact h) (by rw [hd]; exact ha) _ wd hc (.inr ⟨te, pe, rfl⟩)).mono fun e w' hp => ?_
    obtain ⟨N, rfl, _, _, hb⟩ := hp
    exact ⟨(0, N), rfl, more_of hb⟩
end Go.Proofs.YtfoecdaggmagaaaDoor
