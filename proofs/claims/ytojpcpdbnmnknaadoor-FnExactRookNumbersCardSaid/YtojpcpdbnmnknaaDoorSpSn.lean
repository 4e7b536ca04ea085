/- Contracts: the library cuts a text at slashes. -/
import Derived.Test.YtojpcpdbnmnknaaDoorSpA
import Derived.Test.YtojpcpdbnmnknaaDoorAmV
import Derived.Test.YtojpcpdbnmnknaaDoorMaBd
namespace Go.Proofs.YtojpcpdbnmnknaaDoor
open Go.Am
attribute [local irreducible] AW Outs Weak Lends Lend Sp aops atree aop1 Then Round InBlock Done

theorem indexByte_spec (B : List UInt8) : Sp Tryd.prog 82 [str B, .v (.int .u8 47)] (.i (Lib.indexByte B 47)) := by
  refine spec_of Tryd.func82 rfl cc82 rfl ?_
  unfold ac82
  repeat (first | (refine step_ops ?_; (refine m_mov (by conv => lhs; whnf) ?_)) | refine end_ops ?_ | refine seq_ops ?_)
  refine step_ops ?_
  refine m_xcall (vs := [.string ⟨B.toArray⟩, .int .u8 47]) (e := Extern.BytealgIndexByte.indexByte) Tryd.func86 (by kernel_rfl) (by kernel_rfl) (by kernel_rfl) (by kernel_rfl) rfl (fun w => Lib.run_indexByteString _ _ _) ?_
  repeat (first | (refine step_ops ?_; (refine m_mov (by conv => lhs; whnf) ?_)) | refine end_ops ?_ | refine AW_ret ?_ | refine ret_done ?_)
  exact outs_i rfl

theorem index_spec (B : List UInt8) (hB : B.length ≤ 1048576) : Sp Tryd.prog 80 [str B, str [47]] (.i (Lib.indexByte B 47)) := by
  refine spec_of Tryd.func80 rfl cc80 rfl ?_
  unfold ac80
  by_cases h : ([47] : List UInt8) = B
  · subst h
    repeat (first | (refine step_ops ?_; ((try (refine g_yes rfl ?_ ?_; (· first | rfl | assumption | (refine decide_eq_true ?_; first | assumption | omega) | (refine nt ?_; first | assumption | omega) | (simp [*]; done) | (refine decide_eq_false ?_; first | assumption | omega) | (refine nf ?_; first | assumption | omega)))); (first | (refine m_mov (by conv => lhs; whnf) ?_) | (refine m_eql rfl rfl ?_) | (refine m_eqs rfl rfl ?_) | (refine m_slen rfl ?_) | (refine m_pick_f rfl ?_ (by conv => lhs; whnf) ?_; (· first | rfl | assumption | (refine decide_eq_false ?_; first | assumption | omega) | (refine nf ?_; first | assumption | omega) | (simp [*]; done)))))) | refine end_ops ?_ | refine seq_ops ?_ | (refine cond_t rfl ?_ ?_; (· first | rfl | assumption | (refine decide_eq_true ?_; first | assumption | omega) | (refine nt ?_; first | assumption | omega) | (simp [*]; done))) | refine AW_seq ?_ | refine AW_ret ?_ | refine ret_done ?_ | refine ret_then ?_ | refine AW_block ?_ | refine ret_block ?_)
    exact outs_i rfl
  · repeat (first | (refine step_ops ?_; ((try (refine g_yes rfl ?_ ?_; (· first | rfl | assumption | (refine decide_eq_true ?_; first | assumption | omega) | (refine nt ?_; first | assumption | omega) | (simp [*]; done) | (refine decide_eq_false ?_; first | assumption | omega) | (refine nf ?_; first | assumption | omega)))); (first | (refine m_mov (by conv => lhs; whnf) ?_) | (refine m_eql rfl rfl ?_) | (refine m_eqs rfl rfl ?_) | (refine m_slen rfl ?_) | (refine m_pick_f rfl ?_ (by conv => lhs; whnf) ?_; (· first | rfl | assumption | (refine decide_eq_false ?_; first | assumption | omega) | (refine nf ?_; first | assumption | omega) | (simp [*]; done)))))) | refine end_ops ?_ | refine seq_ops ?_ | (refine cond_t rfl ?_ ?_; (· first | rfl | assumption | (refine decide_eq_true ?_; first | assumption | omega) | (refine nt ?_; first | assumption | omega) | (simp [*]; done))) | (refine cond_f rfl ?_ ?_; (· first | rfl | assumption | (refine decide_eq_false ?_; first | assumption | omega) | (refine nf ?_; first | assumption | omega) | (simp [*]; done))) | refine AW_seq ?_ | refine AW_block ?_)
    refine step_ops ?_
    refine m_six' (j := 0) rfl rfl (by decide) ?_
    refine step_ops ?_
    refine m_call (indexByte_spec B) ?_ ?_
    · exact lends_cons lend_v (lends_cons lend_v lends_nil)
    repeat (first | (refine step_ops ?_; (refine m_mov (by conv => lhs; whnf) ?_)) | refine end_ops ?_ | refine AW_ret ?_ | refine ret_done ?_ | refine ret_then ?_ | refine ret_block ?_)
    exact outs_i rfl

theorem stringsIndex_spec (B : List UInt8) (hB : B.length ≤ 1048576) : Sp Tryd.prog 76 [str B, str [47]] (.i (Lib.indexByte B 47)) := by
  refine spec_of Tryd.func76 rfl cc76 rfl ?_
  unfold ac76
  repeat (first | (refine step_ops ?_; (refine m_mov (by conv => lhs; whnf) ?_)) | refine end_ops ?_ | refine seq_ops ?_)
  (refine step_ops ?_); (apply m_call (index_spec B hB)); (· repeat (first | exact lends_nil | (refine lends_cons ?_ ?_; (· exact lend_v))))
  repeat (first | (refine step_ops ?_; (refine m_mov (by conv => lhs; whnf) ?_)) | refine end_ops ?_ | refine AW_ret ?_ | refine ret_done ?_)
  exact outs_i rfl

/-- Texts as values. -/
def strs (l : List (List UInt8)) : List AV := l.map fun r => str r
theorem strs_len (l : List (List UInt8)) : (strs l).length = l.length := by simp [strs]
theorem strs_plain (l : List (List UInt8)) : (strs l).all plainV = true := by simp [strs, plainV]
/-- What a cut has made so far: the pieces, and nothing behind them. -/
def cutC (done : List (List UInt8)) (m : Nat) : List AV := strs done ++ List.replicate (m - done.length) (str [])

theorem cutC_len (done : List (List UInt8)) (m : Nat) (h : done.length ≤ m) : (cutC done m).length = m := by
  simp [cutC, strs_len]; omega
theorem cutC_set (done : List (List UInt8)) (p : List UInt8) (m : Nat) (h : done.length < m) : (cutC done m).set done.length (str p) = cutC (done ++ [p]) m := by
  obtain ⟨j, hj⟩ : ∃ j, m - done.length = j + 1 := ⟨m - done.length - 1, by omega⟩
  have hj2 : m - (done ++ [p]).length = j := by simp; omega
  unfold cutC
  rw [hj, hj2, List.set_append_right _ _ (by simp [strs_len]), strs_len, Nat.sub_self, List.replicate_succ, List.set_cons_zero]
  simp [strs]
theorem flat_ones {α : Type} (x : α) : ∀ n, (List.replicate n [x]).flatten = List.replicate n x
  | 0 => rfl
  | n + 1 => by rw [List.replicate_succ, List.flatten_cons, flat_ones x n]; rfl
theorem cutC_take (done : List (List UInt8)) (m : Nat) : (cutC done m).take done.length = strs done := by
  unfold cutC
  rw [List.take_append_of_le_length (by simp [strs_len]), List.take_of_length_le (by simp [strs_len])]
theorem splitNB_min (B : List UInt8) : splitNB (min 8 B.length) B = splitNB 8 B := by
  rcases Nat.le_total 8 B.length with h | h
  · rw [Nat.min_eq_left h]
  · have hc : B.count 47 ≤ B.length := List.count_le_length
    rw [Nat.min_eq_right h, splitNB_all _ _ hc, splitNB_all _ _ (by omega)]

theorem genSplit_spec (B : List UInt8) (hB : B.length ≤ 1048576) : Sp Tryd.prog 66 [str B, str [47], .i 0, .i 9] (.ro true 1 (strs (splitNB 8 B)) (splitNB 8 B).length) := by
  obtain ⟨m, hm⟩ : ∃ m, m = min 8 B.length := ⟨_, rfl⟩
  have hmi : (if ((B.length : Int)) + 1 < 9 then ((B.length : Int)) + 1 else 9) = ((m + 1 : Nat) : Int) := by split <;> omega
  have hr0 : splitNB m B = splitNB 8 B := by rw [hm]; exact splitNB_min B
  rw [← hr0]
  refine spec_of Tryd.func66 rfl cc66 rfl ?_
  unfold ac66
  repeat (first | (refine step_ops ?_; (first | (refine m_mov (by conv => lhs; whnf) ?_) | (refine m_lss rfl rfl ?_) | (refine m_eql rfl rfl ?_) | (refine m_eqs rfl rfl ?_) | (refine m_add rfl rfl ?_ ?_ ?_; (· omega); (· omega)) | (refine m_slen rfl ?_) | (refine m_nils ?_) | (refine m_min rfl rfl ?_))) | refine end_ops ?_ | refine seq_ops ?_ | (refine cond_f rfl ?_ ?_; (· first | rfl | assumption | (refine decide_eq_false ?_; first | assumption | omega) | (refine nf ?_; first | assumption | omega) | (simp [*]; done))) | refine skip_then ?_ | refine AW_seq ?_)
  rw [hmi]
  refine step_ops ?_
  refine m_mk (n := m + 1) rfl rfl (by omega) (by omega) ?_
  repeat (first | (refine step_ops ?_; (first | (refine m_mov (by conv => lhs; whnf) ?_) | (refine m_sub rfl rfl ?_ ?_ ?_; (· omega); (· omega)))) | refine end_ops ?_ | refine seq_ops ?_ | refine AW_seq ?_ | refine AW_block ?_)
  rw [show ((m + 1 : Nat) : Int) - 1 = (m : Int) by omega]
  skip
  refine AW_loop (α := List (List UInt8) × List UInt8) (fun a => a.1.length ≤ m ∧ a.2.length + a.1.length ≤ B.length ∧ a.1 ++ splitNB (m - a.1.length) a.2 = splitNB m B)
    (fun a => st [(0, str a.2), (1, str [47]), (2, .i 0), (3, .i m), (9, .sl 31 1 0 (m + 1)), (10, .i a.1.length)] [(31, (true, cutC a.1 (m + 1)))]) (fun a => m - a.1.length) ([], B) ⟨Nat.zero_le _, by simp, by simp⟩ (weak_st ?_ ?_ rfl rfl) ?_
  · (repeat' (first | exact trivial | refine And.intro ?_ ?_)) <;> (first | rfl | skip)
  · refine ⟨?_, trivial⟩
    show some (true, (List.replicate (m + 1) [str []]).flatten) = some (true, cutC [] (m + 1))
    rw [flat_ones]; rfl
  rintro ⟨done, rest⟩ ⟨hd, hrl, hres⟩
  dsimp only at hd hrl hres ⊢
  have hcl := cutC_len done (m + 1) (by omega)
  have h47l : ([47] : List UInt8).length = 1 := rfl
  have hcp : (cutC done (m + 1)).all plainV = true := by simp [cutC, strs, plainV]
  have hrl1 : (done ++ [rest]).length = done.length + 1 := by simp
  have hout : ∀ {s : AS}, s.hp 31 = some (true, (cutC done (m + 1)).set done.length (str rest)) → Outs s (.sl 31 1 0 (done.length + 1)) (.ro true 1 (strs (done ++ [rest])) (done ++ [rest]).length) := by
    intro s hs
    rw [cutC_set done rest (m + 1) (by omega)] at hs
    have h := outs_sl_take (z := 1) (n := done.length + 1) hs (by rw [cutC_len _ _ (by omega)]; omega) (by simp [cutC, strs, plainV])
    rw [Nat.mul_one, ← hrl1, cutC_take] at h
    rw [hrl1] at h ⊢
    exact h
  by_cases hc : done.length < m
  · by_cases h47 : (47 : UInt8) ∈ rest
    · obtain ⟨p, q, hp, rfl⟩ := cut_at h47
      have hix := indexByte_cut (q := q) hp
      have hpl : (p ++ 47 :: q).length = p.length + (q.length + 1) := by simp
      repeat (first | (refine step_ops ?_; (first | (refine m_mov (by conv => lhs; whnf) ?_) | (refine m_lss rfl rfl ?_))) | refine end_ops ?_ | refine seq_ops ?_ | (refine cond_t rfl ?_ ?_; (· first | rfl | assumption | (refine decide_eq_true ?_; first | assumption | omega) | (refine nt ?_; first | assumption | omega) | (simp [*]; done))) | refine skip_then ?_ | refine AW_seq ?_ | refine AW_block ?_)
      (refine step_ops ?_); (apply m_call (stringsIndex_spec (p ++ 47 :: q) (by omega))); (· repeat (first | exact lends_nil | (refine lends_cons ?_ ?_; (· exact lend_v))))
      rw [hix]
      repeat (first | (refine step_ops ?_; (first | (refine m_mov (by conv => lhs; whnf) ?_) | (refine m_lss rfl rfl ?_) | (refine m_add rfl rfl ?_ ?_ ?_; (· omega); (· omega)))) | refine end_ops ?_ | refine seq_ops ?_ | (refine cond_f rfl ?_ ?_; (· first | rfl | assumption | (refine decide_eq_false ?_; first | assumption | omega) | (refine nf ?_; first | assumption | omega) | (simp [*]; done))) | refine skip_then ?_ | refine AW_seq ?_)
      rw [show ((p.length : Int) + 0) = (p.length : Int) from Int.add_zero _]
      repeat (first | (refine step_ops ?_; (first | (refine m_mov (by conv => lhs; whnf) ?_) | (refine m_add rfl rfl ?_ ?_ ?_; (· omega); (· omega)) | (refine m_scutl rfl rfl ?_ ?_; (· first | omega | (simp; omega))) | (refine m_scuth rfl rfl ?_ ?_; (· first | omega | (simp; omega))) | (refine m_slen rfl ?_) | (refine m_idx1_sl rfl rfl ?_ ?_; (· omega)) | (apply m_st; (· rfl); (· rfl); (· rfl); (· first | omega | (simp; done) | (simp; omega)); (· rfl)))) | refine end_ops ?_ | refine seq_ops ?_ | refine AW_ops ?_ | refine norm_block ?_)
      rw [show ((p.length : Int) + (([47] : List UInt8).length : Int)) = ((p.length + 1 : Nat) : Int) by omega]
      skip
      have e1 : (p ++ 47 :: q).take p.length = p := by simp
      have e2 : (p ++ 47 :: q).drop (p.length + ([47] : List UInt8).length) = q := by rw [h47l, List.drop_append]; simp
      refine next_round (done ++ [p], q) ⟨by simp; omega, by simp; omega, ?_⟩ (weak_st ?_ ?_ rfl rfl) ?_
      · rw [← hres, show m - done.length = (m - (done ++ [p]).length) + 1 by simp; omega, splitNB_cut hp, List.append_assoc]
        rfl
      · rw [show (done ++ [p]).length = done.length + 1 by simp]
        rw [e1, e2]
        (repeat' (first | exact trivial | refine And.intro ?_ ?_)) <;> (first | rfl | skip)
      · refine ⟨?_, trivial⟩
        rw [← cutC_set done p (m + 1) (by omega), e1]
        rfl
      · simp; omega
    · have hix := indexByte_none h47
      have hfin : splitNB m B = done ++ [rest] := by rw [← hres, splitNB_one h47]
      repeat (first | (refine step_ops ?_; (first | (refine m_mov (by conv => lhs; whnf) ?_) | (refine m_lss rfl rfl ?_))) | refine end_ops ?_ | refine seq_ops ?_ | (refine cond_t rfl ?_ ?_; (· first | rfl | assumption | (refine decide_eq_true ?_; first | assumption | omega) | (refine nt ?_; first | assumption | omega) | (simp [*]; done))) | refine skip_then ?_ | refine AW_seq ?_ | refine AW_block ?_)
      (refine step_ops ?_); (apply m_call (stringsIndex_spec rest (by omega))); (· repeat (first | exact lends_nil | (refine lends_cons ?_ ?_; (· exact lend_v))))
      rw [hix]
      repeat (first | (refine step_ops ?_; (first | (refine m_mov (by conv => lhs; whnf) ?_) | (refine m_lss rfl rfl ?_) | (refine m_add rfl rfl ?_ ?_ ?_; (· omega); (· omega)) | (refine m_idx1_sl rfl rfl ?_ ?_; (· omega)) | (apply m_st; (· rfl); (· rfl); (· rfl); (· first | omega | (simp; done) | (simp; omega)); (· rfl)))) | refine end_ops ?_ | refine seq_ops ?_ | (refine cond_t rfl ?_ ?_; (· first | rfl | assumption | (refine decide_eq_true ?_; first | assumption | omega) | (refine nt ?_; first | assumption | omega) | (simp [*]; done))) | refine AW_seq ?_ | refine norm_then ?_ | refine exit_then ?_ | refine exit_round ?_ | refine AW_exit ?_ | refine exit_block ?_ | (refine exit_other ?_ ?_; (· decide)))
      rw [show ((done.length : Int) + 1) = ((done.length + 1 : Nat) : Int) by omega]
      skip
      refine step_ops ?_
      refine m_cut_sl (l := 0) (h := done.length + 1) rfl rfl ⟨_, rfl⟩ (Nat.zero_le _) (by omega) ?_
      repeat (first | (refine step_ops ?_; (refine m_mov (by conv => lhs; whnf) ?_)) | refine end_ops ?_ | refine AW_ret ?_ | refine ret_done ?_)
      rw [hfin]
      exact hout rfl
  · have hfin : splitNB m B = done ++ [rest] := by rw [← hres, show m - done.length = 0 by omega]; rfl
    repeat (first | (refine step_ops ?_; (first | (refine m_mov (by conv => lhs; whnf) ?_) | (refine m_lss rfl rfl ?_) | (refine m_add rfl rfl ?_ ?_ ?_; (· omega); (· omega)) | (refine m_idx1_sl rfl rfl ?_ ?_; (· omega)) | (apply m_st; (· rfl); (· rfl); (· rfl); (· first | omega | (simp; done) | (simp; omega)); (· rfl)))) | refine end_ops ?_ | refine seq_ops ?_ | (refine cond_f rfl ?_ ?_; (· first | rfl | assumption | (refine decide_eq_false ?_; first | assumption | omega) | (refine nf ?_; first | assumption | omega) | (simp [*]; done))) | refine AW_seq ?_ | refine norm_then ?_ | refine exit_then ?_ | refine exit_round ?_ | refine AW_exit ?_ | refine exit_block ?_)
    rw [show ((done.length : Int) + 1) = ((done.length + 1 : Nat) : Int) by omega]
    skip
    refine step_ops ?_
    refine m_cut_sl (l := 0) (h := done.length + 1) rfl rfl ⟨_, rfl⟩ (Nat.zero_le _) (by omega) ?_
    repeat (first | (refine step_ops ?_; (refine m_mov (by conv => lhs; whnf) ?_)) | refine end_ops ?_ | refine AW_ret ?_ | refine ret_done ?_)
    rw [hfin]
    exact hout rfl

theorem splitN_spec (B : List UInt8) (hB : B.length ≤ 1048576) : Sp Tryd.prog 48 [str B, str [47], .i 9] (.ro true 1 (strs (splitNB 8 B)) (splitNB 8 B).length) := by
  refine spec_of Tryd.func48 rfl cc48 rfl ?_
  unfold ac48
  repeat (first | (refine step_ops ?_; (first | (refine m_mov (by conv => lhs; whnf) ?_) | (refine m_nils ?_))) | refine end_ops ?_ | refine seq_ops ?_)
  refine step_ops ?_
  refine m_callo (genSplit_spec B hB) ?_ (strs_plain _) ?_
  · exact lends_cons lend_v (lends_cons lend_v (lends_cons lend_v (lends_cons lend_v lends_nil)))
  repeat (first | (refine step_ops ?_; (refine m_mov (by conv => lhs; whnf) ?_)) | refine end_ops ?_ | refine AW_ret ?_ | refine ret_done ?_)
  exact outs_sl rfl (by rw [strs_len, Nat.mul_one]) (strs_plain _)
end Go.Proofs.YtojpcpdbnmnknaaDoor
