/- The abstract machine, contracts: part 4 of what this claim needs. -/
import Derived.Test.YtmifianbkpiifaaDoorZs3
set_option linter.unusedSectionVars false
namespace Go.Proofs.YtmifianbkpiifaaDoor
variable [Go.Am.CodeBlk]
open Go.Am
attribute [local irreducible] AW Outs Weak Lends Lend Sp aops atree aop1 Then Round InBlock Done
theorem indexByte_spec (B : List UInt8) : Sp Tryd.prog 72 [str B, .v (.int .u8 47)] (.i (Lib.indexByte B 47)) := by
  refine spec_of Tryd.func72 rfl cc72 rfl ?_
  unfold ac72
  repeat (first | (refine step_ops ?_; (refine m_mov (by conv => lhs; whnf) ?_)) | refine end_ops ?_ | refine seq_ops ?_)
  refine step_ops ?_
  refine m_xcall (vs := [.string ⟨B.toArray⟩, .int .u8 47]) (e := Extern.BytealgIndexByte.indexByte) Tryd.func76 (by kernel_rfl) (by kernel_rfl) (by kernel_rfl) (by kernel_rfl) rfl (fun w => Lib.run_indexByteString _ _ _) ?_
  repeat (first | (refine step_ops ?_; (refine m_mov (by conv => lhs; whnf) ?_)) | refine end_ops ?_ | refine AW_ret ?_ | refine ret_done ?_)
  exact outs_i rfl
theorem index_spec (B : List UInt8) (hB : B.length ≤ 1048576) : Sp Tryd.prog 70 [str B, str [47]] (.i (Lib.indexByte B 47)) := by
  refine spec_of Tryd.func70 rfl cc70 rfl ?_
  unfold ac70
  by_cases h : ([47] : List UInt8) = B
  · subst h
    repeat (first | (refine step_ops ?_; ((try (refine g_yes rfl ?_ ?_; (· rfl))); (first | (refine m_mov (by conv => lhs; whnf) ?_) | (refine m_eql rfl rfl ?_) | (refine m_eqs rfl rfl ?_) | (refine m_slen rfl ?_) | (refine m_pick_f rfl ?_ (by conv => lhs; whnf) ?_; (· rfl))))) | refine end_ops ?_ | refine seq_ops ?_ | (refine cond_t rfl ?_ ?_; (· rfl)) | refine AW_seq ?_ | refine AW_ret ?_ | refine ret_done ?_ | refine ret_then ?_ | refine AW_block ?_ | refine ret_block ?_)
    exact outs_i rfl
  · repeat (first | (refine step_ops ?_; ((try (refine g_yes rfl ?_ ?_; (· rfl))); (first | (refine m_mov (by conv => lhs; whnf) ?_) | (refine m_eql rfl rfl ?_) | (refine m_eqs rfl rfl ?_) | (refine m_slen rfl ?_) | (refine m_pick_f rfl ?_ (by conv => lhs; whnf) ?_; (· rfl))))) | refine end_ops ?_ | refine seq_ops ?_ | (refine cond_t rfl ?_ ?_; (· rfl)) | (refine cond_f rfl ?_ ?_; (· (refine decide_eq_false ?_; assumption))) | refine AW_seq ?_ | refine AW_block ?_)
    refine step_ops ?_
    refine m_six' (j := 0) rfl rfl (by decide) ?_
    refine step_ops ?_
    refine m_call (indexByte_spec B) ?_ ?_
    · exact lends_cons lend_v (lends_cons lend_v lends_nil)
    repeat (first | (refine step_ops ?_; (refine m_mov (by conv => lhs; whnf) ?_)) | refine end_ops ?_ | refine AW_ret ?_ | refine ret_done ?_ | refine ret_then ?_ | refine ret_block ?_)
    exact outs_i rfl
theorem stringsIndex_spec (B : List UInt8) (hB : B.length ≤ 1048576) : Sp Tryd.prog 66 [str B, str [47]] (.i (Lib.indexByte B 47)) := by
  refine spec_of Tryd.func66 rfl cc66 rfl ?_
  unfold ac66
  repeat (first | (refine step_ops ?_; (refine m_mov (by conv => lhs; whnf) ?_)) | refine end_ops ?_ | refine seq_ops ?_)
  (refine step_ops ?_); (apply m_call (index_spec B hB)); (· repeat (first | exact lends_nil | (refine lends_cons ?_ ?_; (· exact lend_v))))
  repeat (first | (refine step_ops ?_; (refine m_mov (by conv => lhs; whnf) ?_)) | refine end_ops ?_ | refine AW_ret ?_ | refine ret_done ?_)
  exact outs_i rfl
/-- Texts asx values. -/
def strs (l : List (List UInt8)) : List AV := l.map fun r => str r
theorem strs_len (l : List (List UInt8)) : (strs l).length = l.length := by simp [strs]
theorem strs_plain (l : List (List UInt8)) : (strs l).all plainV = true := by simp [strs, plainV]
/-- What a cut has made so far: the pieces, and nothing behind them. -/
def cutC (done : List (List UInt8)) (m : Nat) : List AV := strs done ++ List.replicate (m - done.length) (str [])
theorem cutC_len (done : List (List UInt8)) (m : Nat) (h : done.length ≤ m) : (cutC done m).length = m := by
  simp [cutC, strs_len]; omega
theorem cutC_set (done : List (List UInt8)) (p : List UInt8) (m : Nat) (h : done.length < m) : (cutC done m).set done.length (str p) = cutC (done ++ [p]) m := by
  obtain ⟨j, hj⟩ : ∃ j, m - done.length = j + 1 := ⟨m - done.length - 1, by omega⟩
  have hj2 : m - (done ++ [p]).length = j := by simp; omega
  unfold cutC
  rw [hj, hj2, List.set_append_right _ _ (by simp [strs_len]), strs_len, Nat.sub_self, List.replicate_succ, List.set_cons_zero]
  simp [strs]
theorem flat_ones {α : Type} (x : α) : ∀ n, (List.replicate n [x]).flatten = List.replicate n x
  | 0 => rfl
  | n + 1 => by rw [List.replicate_succ, List.flatten_cons, flat_ones x n]; rfl
theorem cutC_take (done : List (List UInt8)) (m : Nat) : (cutC done m).take done.length = strs done := by
  unfold cutC
  rw [List.take_append_of_le_length (by simp [strs_len]), List.take_of_length_le (by simp [strs_len])]
theorem splitNB_min (B : List UInt8) : splitNB (min 8 B.length) B = splitNB 8 B := by
  rcases Nat.le_total 8 B.length with h | h
  · rw [Nat.min_eq_left h]
  · have hc : B.count 47 ≤ B.length := List.count_le_length
    rw [Nat.min_eq_right h, splitNB_all _ _ hc, splitNB_all _ _ (by omega)]
theorem genSplit_spec (B : List UInt8) (hB : B.length ≤ 1048576) : Sp Tryd.prog 59 [str B, str [47], .i 0, .i 9] (.ro true 1 (strs (splitNB 8 B)) (splitNB 8 B).length) := by
  obtain ⟨m, hm⟩ : ∃ m, m = min 8 B.length := ⟨_, rfl⟩
  have hmi : (if ((B.length : Int)) + 1 < 9 then ((B.length : Int)) + 1 else 9) = ((m + 1 : Nat) : Int) := by split <;> omega
  have hr0 : splitNB m B = splitNB 8 B := by rw [hm]; exact splitNB_min B
  rw [← hr0]
  refine spec_of Tryd.func59 rfl cc59 rfl ?_
  unfold ac59
  repeat (first | (refine step_ops ?_; (first | (refine m_mov (by conv => lhs; whnf) ?_) | (refine m_lss rfl rfl ?_) | (refine m_eql rfl rfl ?_) | (refine m_eqs rfl rfl ?_) | (refine m_add rfl rfl ?_ ?_ ?_; (· omega); (· omega)) | (refine m_slen rfl ?_) | (refine m_nils ?_) | (refine m_min rfl rfl ?_))) | refine end_ops ?_ | refine seq_ops ?_ | (refine cond_f rfl ?_ ?_; (· rfl)) | refine skip_then ?_ | refine AW_seq ?_)
  rw [hmi]
  refine step_ops ?_
  refine m_mk (n := m + 1) rfl rfl (by omega) (by omega) ?_
  repeat (first | (refine step_ops ?_; (first | (refine m_mov (by conv => lhs; whnf) ?_) | (refine m_sub rfl rfl ?_ ?_ ?_; (· omega); (· omega)))) | refine end_ops ?_ | refine seq_ops ?_ | refine AW_seq ?_ | refine AW_block ?_)
  rw [show ((m + 1 : Nat) : Int) - 1 = (m : Int) by omega]
  skip
  refine AW_loop (α := List (List UInt8) × List UInt8) (fun a => a.1.length ≤ m ∧ a.2.length + a.1.length ≤ B.length ∧ a.1 ++ splitNB (m - a.1.length) a.2 = splitNB m B)
    (fun a => st [(0, str a.2), (1, str [47]), (2, .i 0), (3, .i m), (9, .sl 31 1 0 (m + 1)), (10, .i a.1.length)] [(31, (true, cutC a.1 (m + 1)))]) (fun a => m - a.1.length) ([], B) ⟨Nat.zero_le _, by simp, by simp⟩ (weak_st ?_ ?_ rfl rfl) ?_
  · (repeat' (first | exact trivial | refine And.intro ?_ ?_)) <;> (first | rfl | skip)
  · refine ⟨?_, trivial⟩
    show some (true, (List.replicate (m + 1) [str []]).flatten) = some (true, cutC [] (m + 1))
    rw [flat_ones]; rfl
  rintro ⟨done, rest⟩ ⟨hd, hrl, hres⟩
  dsimp only at hd hrl hres ⊢
  have hcl := cutC_len done (m + 1) (by omega)
  have h47l : ([47] : List UInt8).length = 1 := rfl
  have hcp : (cutC done (m + 1)).all plainV = true := by simp [cutC, strs, plainV]
  have hrl1 : (done ++ [rest]).length = done.length + 1 := by simp
  have hout : ∀ {s : AS}, s.hp 31 = some (true, (cutC done (m + 1)).set done.length (str rest)) → Outs s (.sl 31 1 0 (done.length + 1)) (.ro true 1 (strs (done ++ [rest])) (done ++ [rest]).length) := by
    intro s hs
    rw [cutC_set done rest (m + 1) (by omega)] at hs
    have h := outs_sl_take (z := 1) (n := done.length + 1) hs (by rw [cutC_len _ _ (by omega)]; omega) (by simp [cutC, strs, plainV])
    rw [Nat.mul_one, ← hrl1, cutC_take] at h
    rw [hrl1] at h ⊢
    exact h
  by_cases hc : done.length < m
  · by_cases h47 : (47 : UInt8) ∈ rest
    · obtain ⟨p, q, hp, rfl⟩ := cut_at h47
      have hix := indexByte_cut (q := q) hp
      have hpl : (p ++ 47 :: q).length = p.length + (q.length + 1) := by simp
      repeat (first | (refine step_ops ?_; (first | (refine m_mov (by conv => lhs; whnf) ?_) | (refine m_lss rfl rfl ?_))) | refine end_ops ?_ | refine seq_ops ?_ | (refine cond_t rfl ?_ ?_; (· (refine decide_eq_true ?_; omega))) | refine skip_then ?_ | refine AW_seq ?_ | refine AW_block ?_)
      (refine step_ops ?_); (apply m_call (stringsIndex_spec (p ++ 47 :: q) (by omega))); (· repeat (first | exact lends_nil | (refine lends_cons ?_ ?_; (· exact lend_v))))
      rw [hix]
      repeat (first | (refine step_ops ?_; (first | (refine m_mov (by conv => lhs; whnf) ?_) | (refine m_lss rfl rfl ?_) | (refine m_add rfl rfl ?_ ?_ ?_; (· omega); (· omega)))) | refine end_ops ?_ | refine seq_ops ?_ | (refine cond_f rfl ?_ ?_; (· rfl)) | refine skip_then ?_ | refine AW_seq ?_)
      rw [show ((p.length : Int) + 0) = (p.length : Int) from Int.add_zero _]
      repeat (first | (refine step_ops ?_; (first | (refine m_mov (by conv => lhs; whnf) ?_) | (refine m_add rfl rfl ?_ ?_ ?_; (· omega); (· omega)) | (refine m_scutl rfl rfl ?_ ?_; (· first | omega | (simp; omega))) | (refine m_scuth rfl rfl ?_ ?_; (· first | omega | (simp; omega))) | (refine m_slen rfl ?_) | (refine m_idx1_sl rfl rfl ?_ ?_; (· omega)) | (apply m_st; (· rfl); (· rfl); (· rfl); (· first | omega | (simp; done) | (simp; omega)); (· rfl)))) | refine end_ops ?_ | refine seq_ops ?_ | refine AW_ops ?_ | refine norm_block ?_)
      rw [show ((p.length : Int) + (([47] : List UInt8).length : Int)) = ((p.length + 1 : Nat) : Int) by omega]
      skip
      have e1 : (p ++ 47 :: q).take p.length = p := by simp
      have e2 : (p ++ 47 :: q).drop (p.length + ([47] : List UInt8).length) = q := by rw [h47l, List.drop_append]; simp
      refine next_round (done ++ [p], q) ⟨by simp; omega, by simp; omega, ?_⟩ (weak_st ?_ ?_ rfl rfl) ?_
      · rw [← hres, show m - done.length = (m - (done ++ [p]).length) + 1 by simp; omega, splitNB_cut hp, List.append_assoc]
        rfl
      · rw [show (done ++ [p]).length = done.length + 1 by simp]
        rw [e1, e2]
        (repeat' (first | exact trivial | refine And.intro ?_ ?_)) <;> (first | rfl | skip)
      · refine ⟨?_, trivial⟩
        rw [← cutC_set done p (m + 1) (by omega), e1]
        rfl
      · simp; omega
    · have hix := indexByte_none h47
      have hfin : splitNB m B = done ++ [rest] := by rw [← hres, splitNB_one h47]
      repeat (first | (refine step_ops ?_; (first | (refine m_mov (by conv => lhs; whnf) ?_) | (refine m_lss rfl rfl ?_))) | refine end_ops ?_ | refine seq_ops ?_ | (refine cond_t rfl ?_ ?_; (· (refine decide_eq_true ?_; omega))) | refine skip_then ?_ | refine AW_seq ?_ | refine AW_block ?_)
      (refine step_ops ?_); (apply m_call (stringsIndex_spec rest (by omega))); (· repeat (first | exact lends_nil | (refine lends_cons ?_ ?_; (· exact lend_v))))
      rw [hix]
      repeat (first | (refine step_ops ?_; (first | (refine m_mov (by conv => lhs; whnf) ?_) | (refine m_lss rfl rfl ?_) | (refine m_add rfl rfl ?_ ?_ ?_; (· omega); (· omega)) | (refine m_idx1_sl rfl rfl ?_ ?_; (· omega)) | (apply m_st; (· rfl); (· rfl); (· rfl); (· first | omega | (simp; done) | (simp; omega)); (· rfl)))) | refine end_ops ?_ | refine seq_ops ?_ | (refine cond_t rfl ?_ ?_; (· rfl)) | refine AW_seq ?_ | refine norm_then ?_ | refine exit_then ?_ | refine exit_round ?_ | refine AW_exit ?_ | refine exit_block ?_ | (refine exit_other ?_ ?_; (· decide)))
      rw [show ((done.length : Int) + 1) = ((done.length + 1 : Nat) : Int) by omega]
      skip
      refine step_ops ?_
      refine m_cut_sl (l := 0) (h := done.length + 1) rfl rfl ⟨_, rfl⟩ (Nat.zero_le _) (by omega) ?_
      repeat (first | (refine step_ops ?_; (refine m_mov (by conv => lhs; whnf) ?_)) | refine end_ops ?_ | refine AW_ret ?_ | refine ret_done ?_)
      rw [hfin]
      exact hout rfl
  · have hfin : splitNB m B = done ++ [rest] := by rw [← hres, show m - done.length = 0 by omega]; rfl
    repeat (first | (refine step_ops ?_; (first | (refine m_mov (by conv => lhs; whnf) ?_) | (refine m_lss rfl rfl ?_) | (refine m_add rfl rfl ?_ ?_ ?_; (· omega); (· omega)) | (refine m_idx1_sl rfl rfl ?_ ?_; (· omega)) | (apply m_st; (· rfl); (· rfl); (· rfl); (· first | omega | (simp; done) | (simp; omega)); (· rfl)))) | refine end_ops ?_ | refine seq_ops ?_ | (refine cond_f rfl ?_ ?_; (· (refine decide_eq_false ?_; omega))) | refine AW_seq ?_ | refine norm_then ?_ | refine exit_then ?_ | refine exit_round ?_ | refine AW_exit ?_ | refine exit_block ?_)
    rw [show ((done.length : Int) + 1) = ((done.length + 1 : Nat) : Int) by omega]
    skip
    refine step_ops ?_
    refine m_cut_sl (l := 0) (h := done.length + 1) rfl rfl ⟨_, rfl⟩ (Nat.zero_le _) (by omega) ?_
    repeat (first | (refine step_ops ?_; (refine m_mov (by conv => lhs; whnf) ?_)) | refine end_ops ?_ | refine AW_ret ?_ | refine ret_done ?_)
    rw [hfin]
    exact hout rfl
theorem splitN_spec (B : List UInt8) (hB : B.length ≤ 1048576) : Sp Tryd.prog 48 [str B, str [47], .i 9] (.ro true 1 (strs (splitNB 8 B)) (splitNB 8 B).length) := by
  refine spec_of Tryd.func48 rfl cc48 rfl ?_
  unfold ac48
  repeat (first | (refine step_ops ?_; (first | (refine m_mov (by conv => lhs; whnf) ?_) | (refine m_nils ?_))) | refine end_ops ?_ | refine seq_ops ?_)
  refine step_ops ?_
  refine m_callo (genSplit_spec B hB) ?_ (strs_plain _) ?_
  · exact lends_cons lend_v (lends_cons lend_v (lends_cons lend_v (lends_cons lend_v lends_nil)))
  repeat (first | (refine step_ops ?_; (refine m_mov (by conv => lhs; whnf) ?_)) | refine end_ops ?_ | refine AW_ret ?_ | refine ret_done ?_)
  exact outs_sl rfl (by rw [strs_len, Nat.mul_one]) (strs_plain _)
end Go.Proofs.YtmifianbkpiifaaDoor
namespace Go.Proofs.YtmifianbkpiifaaDoor
variable [Go.Am.CodeBlk]
open Go.Am
attribute [local irreducible] AW Outs Weak Lends Lend Sp aops atree aop1 Then Round InBlock Done
theorem setHas_spec (a g : Nat) (ha : a < 65536) (hg : g < 16) : Sp Tryd.prog 52 [.u a, .i g] (.b (a.testBit g)) := by
  refine spec_of Tryd.func52 rfl cc52 rfl ?_
  unfold ac52
  repeat (first | (refine step_ops ?_; (refine m_mov (by conv => lhs; whnf) ?_)) | refine end_ops ?_ | refine seq_ops ?_)
  refine step_ops ?_
  refine m_shr16 (a := a) (k := g) rfl rfl hg ?_
  refine step_ops ?_
  refine m_and16_1 (a := a >>> g) rfl rfl (Nat.lt_of_le_of_lt (Nat.shiftRight_le a g) ha) ?_
  refine step_ops ?_
  refine m_eql16_1 (a := (a >>> g) &&& 1) rfl rfl ?_
  rw [bit_and]
  repeat (first | (refine step_ops ?_; (refine m_mov (by conv => lhs; whnf) ?_)) | refine end_ops ?_ | refine AW_ret ?_ | refine ret_done ?_)
  exact outs_b rfl
theorem outs_u {s : AS} {a b : Nat} (h : a = b) : Outs s (.u a) (.u b) := by
  subst h; exact outs_v
theorem setWith_spec (a g : Nat) (ha : a < 65536) (hg : g < 16) : Sp Tryd.prog 53 [.u a, .i g] (.u (a ||| 1 <<< g)) := by
  refine spec_of Tryd.func53 rfl cc53 rfl ?_
  unfold ac53
  repeat (first | (refine step_ops ?_; (refine m_mov (by conv => lhs; whnf) ?_)) | refine end_ops ?_ | refine seq_ops ?_)
  refine step_ops ?_
  refine m_shl16 (k := g) rfl rfl hg ?_
  refine step_ops ?_
  refine m_or16 (a := a) (b := 1 <<< g) rfl rfl ha (shl16_lt hg) ?_
  repeat (first | (refine step_ops ?_; (refine m_mov (by conv => lhs; whnf) ?_)) | refine end_ops ?_ | refine AW_ret ?_ | refine ret_done ?_)
  exact outs_u rfl
end Go.Proofs.YtmifianbkpiifaaDoor
namespace Go.Proofs.YtmifianbkpiifaaDoor
variable [Go.Am.CodeBlk]
open Go.Am
attribute [local irreducible] AW Outs Weak Lends Lend Sp aops atree aop1 Then Round InBlock Done
/-- What an exchange is. -/
def IsEx (L : List Int) : Prop := 1 ≤ L.length ∧ L.length ≤ 12 ∧ (∀ x ∈ L, 0 ≤ x ∧ x < L.length) ∧ L.Nodup
instance (L : List Int) : Decidable (IsEx L) := inferInstanceAs (Decidable (_ ∧ _ ∧ _ ∧ _))
end Go.Proofs.YtmifianbkpiifaaDoor
namespace Go.Proofs.YtmifianbkpiifaaDoor
variable [Go.Am.CodeBlk]
open Go.Am
attribute [local irreducible] AW Outs Weak Lends Lend Sp aops atree aop1 Then Round InBlock Done
theorem drop_cut {B : List UInt8} {a i : Nat} (h1 : a ≤ i) (h2 : i < B.length) : B.drop a = (B.drop a).take (i - a) ++ B.getD i 0 :: B.drop (i + 1) := by
  have h3 := List.take_append_drop (i - a) (B.drop a)
  rw [List.drop_drop, show a + (i - a) = i by omega] at h3
  rw [← h3]
  congr 1
  · rw [h3]
  · rw [getD_get h2]
    exact List.drop_eq_getElem_cons h2
theorem u8_eq {c : UInt8} {n : Nat} (h : c.toNat = n) (k : UInt8) (hk : k.toNat = n) : c = k := UInt8.toNat_inj.1 (h.trans hk.symm)
theorem l1Split_spec (B : List UInt8) (hB : B.length ≤ 1048576) : Sp Tryd.prog 49 [str B, .v (.int .u8 47)] (.ro true 1 (strs (splitB B)) (splitB B).length) := by
  have hcnt : B.count 47 ≤ B.length := List.count_le_length
  refine spec_of Tryd.func49 rfl cc49 rfl ?_
  unfold ac49
  repeat (first | (refine step_ops ?_; (first | (refine m_mov (by conv => lhs; whnf) ?_) | (refine m_nils ?_))) | refine end_ops ?_ | refine seq_ops ?_ | refine AW_seq ?_ | refine AW_block ?_)
  refine AW_loop (α := List (List UInt8) × Nat × Nat) (fun a => a.2.1 ≤ a.2.2 ∧ a.2.2 ≤ B.length ∧ (47 : UInt8) ∉ (B.drop a.2.1).take (a.2.2 - a.2.1) ∧ a.1 ++ splitB (B.drop a.2.1) = splitB B)
    (fun a => st [(0, str B), (1, .v (.int .u8 47)), (5, .sl 5 1 0 a.1.length), (6, .i a.2.1), (7, .i a.2.2)] [(5, (true, strs a.1))]) (fun a => B.length - a.2.2) ([], 0, 0) ⟨Nat.le_refl _, Nat.zero_le _, by simp, by simp⟩ (weak_st ?_ ?_ rfl rfl) ?_
  · (repeat' (first | exact trivial | refine And.intro ?_ ?_)) <;> (first | rfl | skip)
  · (repeat' (first | exact trivial | refine And.intro ?_ ?_)) <;> (first | rfl | skip)
  rintro ⟨done, a, i⟩ ⟨h1, h2, h3, h4⟩
  dsimp only at h1 h2 h3 h4 ⊢
  have hdl : done.length + 1 ≤ B.length + 1 := by
    have h5 := congrArg List.length h4
    rw [List.length_append, splitB_len, splitB_len] at h5
    omega
  have hsl := strs_len done
  have hd1 : ∀ p, (done ++ [p]).length = done.length + 1 := fun p => by simp
  have hd2 : ∀ p, strs (done ++ [p]) = strs done ++ [str p] := fun p => by simp [strs]
  by_cases hc : i < B.length
  · have hdc := drop_cut h1 hc
    by_cases h47 : B.getD i 0 = 47
    · have h47' : ((B.getD i 0).toNat : Int) = 47 := by rw [h47]; rfl
      rw [h47] at hdc
      repeat (first | (refine step_ops ?_; (first | (refine m_mov (by conv => lhs; whnf) ?_) | (refine m_lss rfl rfl ?_) | (refine m_eqk rfl rfl ?_) | (refine m_add rfl rfl ?_ ?_ ?_; (· omega); (· omega)) | (refine m_scutb rfl rfl rfl ?_ ?_ ?_; (· omega); (· first | omega | (simp; omega))) | (refine m_slen rfl ?_) | (refine m_six' rfl rfl ?_ ?_; (· first | omega | (simp; omega))) | (refine m_bsl1 rfl rfl ?_) | (refine m_app1 rfl (by decide) rfl (by first | (simp; done) | (simp [*]; done) | (simp; omega)) rfl rfl rfl ?_ (by decide) ?_; (· first | omega | (simp; omega))))) | refine end_ops ?_ | refine seq_ops ?_ | refine AW_ops ?_ | (refine cond_t rfl ?_ ?_; (· first | (refine decide_eq_true ?_; assumption) | (refine decide_eq_true ?_; omega))) | refine skip_then ?_ | refine AW_seq ?_ | refine norm_then ?_ | refine AW_block ?_ | refine norm_block ?_)
      refine next_round (done ++ [(B.drop a).take (i - a)], i + 1, i + 1) ⟨Nat.le_refl _, hc, by simp, ?_⟩ (Weak.trans (weak_move (r := 25) (q := 5) rfl (by decide) (by decide)) (weak_st ?_ ?_ rfl rfl)) ?_
      · have h5 : splitB (B.drop a) = (B.drop a).take (i - a) :: splitB (B.drop (i + 1)) := by
          conv => lhs; rw [hdc]
          exact splitB_cut h3
        show (done ++ [(B.drop a).take (i - a)]) ++ splitB (B.drop (i + 1)) = splitB B
        rw [← h4, h5, List.append_assoc]
        rfl
      · rw [hd1]
        (repeat' (first | exact trivial | refine And.intro ?_ ?_)) <;> (first | rfl | skip)
      · rw [hd2]
        (repeat' (first | exact trivial | refine And.intro ?_ ?_)) <;> (first | rfl | skip)
      · show B.length - (i + 1) < B.length - i; omega
    · have h47' : ¬ ((B.getD i 0).toNat : Int) = 47 := fun e => h47 (u8_eq (n := 47) (by omega) 47 rfl)
      repeat (first | (refine step_ops ?_; (first | (refine m_mov (by conv => lhs; whnf) ?_) | (refine m_lss rfl rfl ?_) | (refine m_eqk rfl rfl ?_) | (refine m_add rfl rfl ?_ ?_ ?_; (· omega); (· omega)) | (refine m_slen rfl ?_) | (refine m_six' rfl rfl ?_ ?_; (· first | omega | (simp; omega))))) | refine end_ops ?_ | refine seq_ops ?_ | refine AW_ops ?_ | (refine cond_t rfl ?_ ?_; (· (refine decide_eq_true ?_; omega))) | (refine cond_f rfl ?_ ?_; (· (refine decide_eq_false ?_; assumption))) | refine skip_then ?_ | refine AW_seq ?_ | refine norm_then ?_ | refine AW_block ?_ | refine norm_block ?_ | refine AW_skip ?_)
      refine next_round (done, a, i + 1) ⟨by show a ≤ i + 1; omega, hc, ?_, h4⟩ (weak_st ?_ ?_ rfl rfl) ?_
      · show (47 : UInt8) ∉ (B.drop a).take (i + 1 - a)
        have h6 : (B.drop a).getD (i - a) 0 = B.getD i 0 := by
          rw [getD_get (by simp; omega), getD_get hc]
          simp [show a + (i - a) = i by omega]
        rw [show i + 1 - a = (i - a) + 1 by omega, take_snoc _ _ 0 (by simp; omega), h6]
        simp only [List.mem_append, List.mem_singleton, not_or]
        exact ⟨h3, fun e => h47 e.symm⟩
      · (repeat' (first | exact trivial | refine And.intro ?_ ?_)) <;> (first | rfl | skip)
      · (repeat' (first | exact trivial | refine And.intro ?_ ?_)) <;> (first | rfl | skip)
      · show B.length - (i + 1) < B.length - i; omega
  · obtain rfl : i = B.length := by omega
    have hn : (47 : UInt8) ∉ B.drop a := by rwa [List.take_of_length_le (by simp)] at h3
    have hfin : splitB B = done ++ [B.drop a] := by rw [← h4, splitB_one hn]
    repeat (first | (refine step_ops ?_; (first | (refine m_mov (by conv => lhs; whnf) ?_) | (refine m_lss rfl rfl ?_) | (refine m_scutl rfl rfl ?_ ?_; (· first | omega | (simp; omega))) | (refine m_slen rfl ?_) | (refine m_bsl1 rfl rfl ?_) | (refine m_app1 rfl (by decide) rfl (by first | (simp; done) | (simp [*]; done) | (simp; omega)) rfl rfl rfl ?_ (by decide) ?_; (· first | omega | (simp; omega))))) | refine end_ops ?_ | refine seq_ops ?_ | (refine cond_f rfl ?_ ?_; (· (refine decide_eq_false ?_; omega))) | refine AW_seq ?_ | refine AW_ret ?_ | refine ret_done ?_ | refine norm_then ?_ | refine exit_then ?_ | refine exit_round ?_ | refine AW_exit ?_ | refine exit_block ?_)
    rw [hfin, hd1, hd2]
    exact outs_sl rfl (by simp [strs_len]) (by simp [strs, plainV])
theorem bdSide_spec (B : List UInt8) (hB : B.length ≤ 1048576) : Sp Tryd.prog 33 [str B] (.i (sdB B : Nat)) := by
  refine spec_of Tryd.func33 rfl cc33 rfl ?_
  unfold ac33
  repeat (first | (refine step_ops ?_; (refine m_mov (by conv => lhs; whnf) ?_)) | refine end_ops ?_ | refine seq_ops ?_)
  refine step_ops ?_
  refine m_callo (l1Split_spec B hB) ?_ (strs_plain _) ?_
  · exact lends_cons lend_v (lends_cons lend_v lends_nil)
  repeat (first | (refine step_ops ?_; (first | (refine m_mov (by conv => lhs; whnf) ?_) | (refine m_len_sl rfl ?_))) | refine end_ops ?_ | refine AW_ret ?_ | refine ret_done ?_)
  exact outs_i (by rw [splitB_len]; rfl)
end Go.Proofs.YtmifianbkpiifaaDoor
namespace Go.Proofs.YtmifianbkpiifaaDoor
variable [Go.Am.CodeBlk]
open Go.Am
attribute [local irreducible] AW Outs Weak Lends Lend Sp aops atree aop1 Then Round InBlock Done
theorem strs_at {l : List (List UInt8)} {k : Nat} (h : k < l.length) : ((strs l).drop k)[0]? = some (str (l.getD k [])) := by
  simp [strs, h]
/-- A row that is one of n signs. -/
def OkRow (n : Nat) (r : List UInt8) : Prop := r.length = n ∧ ∀ c ∈ r, c = 46 ∨ c = 35
theorem good_iff {B : List UInt8} (h : B.count 47 ≤ 7) : GoodBd B ↔ ∀ i < sdB B, OkRow (sdB B) ((splitB B).getD i []) := by
  have hl := splitB_len B
  constructor
  · intro hg i hi
    exact hg.2 _ (getD_memL (by rw [hl]; exact hi))
  · intro hg
    refine ⟨h, fun r hr => ?_⟩
    obtain ⟨i, hi, rfl⟩ := List.getElem_of_mem hr
    have := hg i (by rw [hl] at hi; exact hi)
    rw [getD_get hi] at this
    exact this
theorem all_snoc {n : Nat} {rows : List (List UInt8)} {k : Nat} (h : ∀ i < k, OkRow n (rows.getD i [])) (hk : OkRow n (rows.getD k [])) : ∀ i < k + 1, OkRow n (rows.getD i []) := by
  intro i hi
  by_cases e : i = k
  · subst e; exact hk
  · exact h i (by omega)
theorem bdGood_spec (B : List UInt8) (hB : B.length ≤ 1048576) : Sp Tryd.prog 30 [str B] (.b (decide (GoodBd B))) := by
  have hl := splitB_len B
  refine spec_of Tryd.func30 rfl cc30 rfl ?_
  unfold ac30
  by_cases h72 : B.length ≤ 72
  · by_cases hc7 : B.count 47 ≤ 7
    · repeat (first | (refine step_ops ?_; (first | (refine m_mov (by conv => lhs; whnf) ?_) | (refine m_gtr rfl rfl ?_) | (refine m_slen rfl ?_))) | refine end_ops ?_ | refine seq_ops ?_ | (refine cond_f rfl ?_ ?_; (· (refine decide_eq_false ?_; omega))) | refine skip_then ?_ | refine AW_seq ?_)
      (refine step_ops ?_); (apply m_call (l1Split_spec B hB)); (· repeat (first | exact lends_nil | (refine lends_cons ?_ ?_; (· exact lend_v))))
      repeat (first | (refine step_ops ?_; (first | (refine m_mov (by conv => lhs; whnf) ?_) | (refine m_len_ro rfl ?_))) | refine end_ops ?_ | refine seq_ops ?_ | refine AW_seq ?_)
      (refine step_ops ?_); (apply m_call (l1In_spec _ _ _)); (· repeat (first | exact lends_nil | (refine lends_cons ?_ ?_; (· exact lend_v))))
      repeat (first | (refine step_ops ?_; (first | (refine m_mov (by conv => lhs; whnf) ?_) | (refine m_not rfl ?_) | (refine m_len_ro rfl ?_))) | refine end_ops ?_ | refine seq_ops ?_ | (refine cond_f rfl ?_ ?_; (· (refine nf ?_; omega))) | refine skip_then ?_ | refine AW_seq ?_ | refine AW_block ?_)
      refine AW_loop (α := Nat) (fun k => k ≤ sdB B ∧ ∀ i < k, OkRow (sdB B) ((splitB B).getD i [])) (fun k => st [(3, .ro true 1 (strs (splitB B)) (splitB B).length), (16, .ro true 1 (strs (splitB B)) (splitB B).length), (17, .i (splitB B).length), (18, .i k)] []) (fun k => sdB B - k) 0 ⟨Nat.zero_le _, fun i hi => by omega⟩ (weak_st ?_ ?_ rfl rfl) ?_
      · (repeat' (first | exact trivial | refine And.intro ?_ ?_)) <;> (first | rfl | skip)
      · trivial
      rintro k ⟨hk, hok⟩
      have hsd : sdB B = (splitB B).length := hl.symm
      by_cases hc : k < (splitB B).length
      · have hat := strs_at hc
        obtain ⟨row, hrow⟩ : ∃ row, row = (splitB B).getD k [] := ⟨_, rfl⟩
        rw [← hrow] at hat
        have hsn : OkRow (sdB B) row → ∀ i < k + 1, OkRow (sdB B) ((splitB B).getD i []) := fun h => all_snoc hok (by rw [← hrow]; exact h)
        have hbad : ¬ OkRow (sdB B) row → ¬ GoodBd B := fun h hg => h (by rw [hrow]; exact (good_iff hc7).1 hg k (by omega))
        by_cases hlen : row.length = (splitB B).length
        · repeat (first | (refine step_ops ?_; (first | (refine m_lss rfl rfl ?_) | (refine m_idx1_ro rfl rfl ?_ ?_; (· omega)))) | refine end_ops ?_ | refine seq_ops ?_ | (refine cond_t rfl ?_ ?_; (· (refine decide_eq_true ?_; omega))) | refine skip_then ?_ | refine AW_seq ?_ | refine AW_block ?_)
          refine step_ops ?_
          refine m_ld_rp rfl hat ?_
          repeat (first | (refine step_ops ?_; (first | (refine m_mov (by conv => lhs; whnf) ?_) | (refine m_neq rfl rfl ?_) | (refine m_slen rfl ?_) | (refine m_len_ro rfl ?_))) | refine end_ops ?_ | refine seq_ops ?_ | (refine cond_f rfl ?_ ?_; (· (refine decide_eq_false ?_; omega))) | refine skip_then ?_ | refine AW_seq ?_ | refine AW_block ?_)
          refine AW_loop (α := Nat) (fun j => j ≤ row.length ∧ ∀ c ∈ row.take j, c = 46 ∨ c = 35) (fun j => st [(3, .ro true 1 (strs (splitB B)) (splitB B).length), (5, str row), (6, .i j), (16, .ro true 1 (strs (splitB B)) (splitB B).length), (17, .i (splitB B).length), (18, .i k)] []) (fun j => row.length - j) 0 ⟨Nat.zero_le _, fun c hc => by simp at hc⟩ (weak_st ?_ ?_ rfl rfl) ?_
          · (repeat' (first | exact trivial | refine And.intro ?_ ?_)) <;> (first | rfl | skip)
          · trivial
          rintro j ⟨hj, hjok⟩
          by_cases hcj : j < row.length
          · have hts := take_snoc row j 0 hcj
            by_cases h46 : row.getD j 0 = 46
            · have h46' : ((row.getD j 0).toNat : Int) = 46 := by rw [h46]; rfl
              repeat (first | (refine step_ops ?_; (first | (first | (refine m_mov (by conv => lhs; whnf) ?_) | (refine m_lss rfl rfl ?_) | (refine m_neqk rfl rfl ?_) | (refine m_add rfl rfl ?_ ?_ ?_; (· omega); (· omega)) | (refine m_slen rfl ?_) | (refine m_six' rfl rfl ?_ ?_; (· first | omega | (simp; omega))) | (refine m_pick_f rfl ?_ (by conv => lhs; whnf) ?_; (· (refine decide_eq_false ?_; omega)))) | (refine g_noT rfl ?_ ?_; (· (refine decide_eq_false ?_; omega))))) | refine end_ops ?_ | refine seq_ops ?_ | refine AW_ops ?_ | (refine cond_t rfl ?_ ?_; (· (refine decide_eq_true ?_; omega))) | (refine cond_f rfl ?_ ?_; (· rfl)) | refine skip_then ?_ | refine AW_seq ?_ | refine norm_then ?_ | refine AW_block ?_ | refine norm_block ?_ | refine AW_skip ?_)
              refine next_round (j + 1) ⟨hcj, fun c hc => ?_⟩ (weak_st ?_ ?_ rfl rfl) ?_
              · rw [hts] at hc
                rcases List.mem_append.1 hc with hc | hc
                · exact hjok c hc
                · rw [List.mem_singleton.1 hc]; exact .inl h46
              · (repeat' (first | exact trivial | refine And.intro ?_ ?_)) <;> (first | rfl | skip)
              · trivial
              · omega
            · have h46' : ¬ ((row.getD j 0).toNat : Int) = 46 := fun e => h46 (u8_eq (n := 46) (by omega) 46 rfl)
              by_cases h35 : row.getD j 0 = 35
              · have h35' : ((row.getD j 0).toNat : Int) = 35 := by rw [h35]; rfl
                repeat (first | (refine step_ops ?_; ((try (refine g_yes rfl ?_ ?_; (· (refine decide_eq_true ?_; assumption)))); (first | (refine m_mov (by conv => lhs; whnf) ?_) | (refine m_lss rfl rfl ?_) | (refine m_neqk rfl rfl ?_) | (refine m_add rfl rfl ?_ ?_ ?_; (· omega); (· omega)) | (refine m_slen rfl ?_) | (refine m_six' rfl rfl ?_ ?_; (· first | omega | (simp; omega))) | (refine m_pick_t rfl ?_ (by conv => lhs; whnf) ?_; (· (refine decide_eq_true ?_; assumption)))))) | refine end_ops ?_ | refine seq_ops ?_ | refine AW_ops ?_ | (refine cond_t rfl ?_ ?_; (· (refine decide_eq_true ?_; omega))) | (refine cond_f rfl ?_ ?_; (· (refine decide_eq_false ?_; omega))) | refine skip_then ?_ | refine AW_seq ?_ | refine norm_then ?_ | refine AW_block ?_ | refine norm_block ?_ | refine AW_skip ?_)
                refine next_round (j + 1) ⟨hcj, fun c hc => ?_⟩ (weak_st ?_ ?_ rfl rfl) ?_
                · rw [hts] at hc
                  rcases List.mem_append.1 hc with hc | hc
                  · exact hjok c hc
                  · rw [List.mem_singleton.1 hc]; exact .inr h35
                · (repeat' (first | exact trivial | refine And.intro ?_ ?_)) <;> (first | rfl | skip)
                · trivial
                · omega
              · have h35' : ¬ ((row.getD j 0).toNat : Int) = 35 := fun e => h35 (u8_eq (n := 35) (by omega) 35 rfl)
                repeat (first | (refine step_ops ?_; ((try (refine g_yes rfl ?_ ?_; (· (refine decide_eq_true ?_; assumption)))); (first | (refine m_mov (by conv => lhs; whnf) ?_) | (refine m_lss rfl rfl ?_) | (refine m_neqk rfl rfl ?_) | (refine m_slen rfl ?_) | (refine m_six' rfl rfl ?_ ?_; (· first | omega | (simp; omega))) | (refine m_pick_t rfl ?_ (by conv => lhs; whnf) ?_; (· (refine decide_eq_true ?_; assumption)))))) | refine end_ops ?_ | refine seq_ops ?_ | (refine cond_t rfl ?_ ?_; (· first | (refine decide_eq_true ?_; assumption) | (refine decide_eq_true ?_; omega))) | refine skip_then ?_ | refine AW_seq ?_ | refine AW_ret ?_ | refine ret_done ?_ | refine ret_then ?_ | refine AW_block ?_ | refine ret_block ?_ | refine ret_round ?_)
                exact outs_b (decide_eq_false (hbad fun h => (h.2 _ (getD_memL hcj)).elim h46 h35)).symm
          · obtain rfl : j = row.length := by omega
            rw [List.take_length] at hjok
            repeat (first | (refine step_ops ?_; (first | (refine m_mov (by conv => lhs; whnf) ?_) | (refine m_lss rfl rfl ?_) | (refine m_add rfl rfl ?_ ?_ ?_; (· omega); (· omega)) | (refine m_slen rfl ?_))) | refine end_ops ?_ | refine seq_ops ?_ | refine AW_ops ?_ | (refine cond_f rfl ?_ ?_; (· (refine decide_eq_false ?_; omega))) | refine AW_seq ?_ | refine norm_then ?_ | refine exit_then ?_ | refine norm_block ?_ | refine exit_round ?_ | refine AW_exit ?_ | refine exit_block ?_)
            refine next_round (k + 1) ⟨by omega, hsn ⟨by omega, hjok⟩⟩ (weak_st ?_ ?_ rfl rfl) ?_
            · (repeat' (first | exact trivial | refine And.intro ?_ ?_)) <;> (first | rfl | skip)
            · trivial
            · omega
        · repeat (first | (refine step_ops ?_; (first | (refine m_lss rfl rfl ?_) | (refine m_idx1_ro rfl rfl ?_ ?_; (· omega)))) | refine end_ops ?_ | refine seq_ops ?_ | (refine cond_t rfl ?_ ?_; (· (refine decide_eq_true ?_; omega))) | refine skip_then ?_ | refine AW_seq ?_ | refine AW_block ?_)
          refine step_ops ?_
          refine m_ld_rp rfl hat ?_
          repeat (first | (refine step_ops ?_; (first | (refine m_mov (by conv => lhs; whnf) ?_) | (refine m_neq rfl rfl ?_) | (refine m_slen rfl ?_) | (refine m_len_ro rfl ?_))) | refine end_ops ?_ | refine seq_ops ?_ | (refine cond_t rfl ?_ ?_; (· (refine decide_eq_true ?_; omega))) | refine AW_seq ?_ | refine AW_ret ?_ | refine ret_done ?_ | refine ret_then ?_ | refine ret_block ?_ | refine ret_round ?_)
          exact outs_b (decide_eq_false (hbad fun h => hlen (by rw [h.1]; exact hsd))).symm
      · have hg : GoodBd B := (good_iff hc7).2 fun i hi => hok i (by omega)
        repeat (first | (refine step_ops ?_; (first | (refine m_mov (by conv => lhs; whnf) ?_) | (refine m_lss rfl rfl ?_))) | refine end_ops ?_ | refine seq_ops ?_ | (refine cond_f rfl ?_ ?_; (· (refine decide_eq_false ?_; omega))) | refine AW_seq ?_ | refine AW_ret ?_ | refine ret_done ?_ | refine norm_then ?_ | refine exit_then ?_ | refine exit_round ?_ | refine AW_exit ?_ | refine exit_block ?_)
        exact outs_b (decide_eq_true hg).symm
    · have hng : ¬ GoodBd B := fun h => hc7 h.1
      repeat (first | (refine step_ops ?_; (first | (refine m_mov (by conv => lhs; whnf) ?_) | (refine m_gtr rfl rfl ?_) | (refine m_slen rfl ?_))) | refine end_ops ?_ | refine seq_ops ?_ | (refine cond_f rfl ?_ ?_; (· (refine decide_eq_false ?_; omega))) | refine skip_then ?_ | refine AW_seq ?_)
      (refine step_ops ?_); (apply m_call (l1Split_spec B hB)); (· repeat (first | exact lends_nil | (refine lends_cons ?_ ?_; (· exact lend_v))))
      repeat (first | (refine step_ops ?_; (first | (refine m_mov (by conv => lhs; whnf) ?_) | (refine m_len_ro rfl ?_))) | refine end_ops ?_ | refine seq_ops ?_ | refine AW_seq ?_)
      (refine step_ops ?_); (apply m_call (l1In_spec _ _ _)); (· repeat (first | exact lends_nil | (refine lends_cons ?_ ?_; (· exact lend_v))))
      repeat (first | (refine step_ops ?_; (first | (refine m_mov (by conv => lhs; whnf) ?_) | (refine m_not rfl ?_))) | refine end_ops ?_ | refine seq_ops ?_ | (refine cond_t rfl ?_ ?_; (· (refine nt ?_; omega))) | refine AW_ret ?_ | refine ret_done ?_ | refine ret_then ?_)
      exact outs_b (decide_eq_false hng).symm
  · have hng : ¬ GoodBd B := fun h => h72 (by have := good_len72 h; omega)
    repeat (first | (refine step_ops ?_; (first | (refine m_mov (by conv => lhs; whnf) ?_) | (refine m_gtr rfl rfl ?_) | (refine m_slen rfl ?_))) | refine end_ops ?_ | refine seq_ops ?_ | (refine cond_t rfl ?_ ?_; (· (refine decide_eq_true ?_; omega))) | refine AW_seq ?_ | refine AW_ret ?_ | refine ret_done ?_ | refine ret_then ?_)
    exact outs_b (decide_eq_false hng).symm
theorem bdAt_spec (B : List UInt8) (h : GoodBd B) (i j : Nat) (hi : i < sdB B) (hj : j < sdB B) : Sp Tryd.prog 44 [str B, .i i, .i j] (.b (fbB B i j)) := by
  have h71 := good_len72 h
  have hsd := good_sd h
  have hlen := good_len h
  have hat := good_at h hi hj
  have hm1 : (i : Int) * ((sdB B : Int) + 1) = ((i * (sdB B + 1) : Nat) : Int) := by push_cast; rfl
  have hm2 : i * (sdB B + 1) ≤ 7 * 9 := Nat.mul_le_mul (by omega) (by omega)
  have hm3 : (i + 1) * (sdB B + 1) ≤ sdB B * (sdB B + 1) := Nat.mul_le_mul_right _ hi
  rw [Nat.add_mul] at hm3
  refine spec_of Tryd.func44 rfl cc44 rfl ?_
  unfold ac44
  repeat (first | (refine step_ops ?_; (refine m_mov (by conv => lhs; whnf) ?_)) | refine end_ops ?_ | refine seq_ops ?_)
  (refine step_ops ?_); (apply m_call (bdSide_spec B (by omega))); (· repeat (first | exact lends_nil | (refine lends_cons ?_ ?_; (· exact lend_v))))
  repeat (first | (refine step_ops ?_; (first | (refine m_mov (by conv => lhs; whnf) ?_) | (refine m_eqk rfl rfl ?_) | (refine m_add rfl rfl ?_ ?_ ?_; (· omega); (· omega)) | (refine m_mul rfl rfl ?_ ?_ ?_; (· first | omega | (simp; done)); (· first | omega | (simp; done))) | (refine m_six' rfl rfl ?_ ?_; (· first | omega | (simp; omega))))) | refine end_ops ?_ | refine AW_ret ?_ | refine ret_done ?_)
  exact outs_b (by rw [hat]; cases fbB B i j <;> rfl)
end Go.Proofs.YtmifianbkpiifaaDoor
namespace Go.Proofs.YtmifianbkpiifaaDoor
variable [Go.Am.CodeBlk]
open Go.Am Go.WideMaps
theorem place_law : KeyLaw Tryd.prog 46 := deep_law (m := 2) (by omega) (by kernel_rfl) (by kernel_rfl) (by kernel_rfl)
theorem place_type : Tryd.prog.keyType 46 = true := by kernel_rfl
theorem place_cells : Tryd.prog.cellsOf 46 = 2 := by kernel_rfl
theorem types_size : ∃ m, Tryd.prog.types.size = m + 1 := ⟨Tryd.prog.types.size - 1, by kernel_rfl⟩
theorem int_under : Tryd.prog.underlying 3 = some (.int .i64) := by kernel_rfl
theorem int_cells : Tryd.prog.cellsOf 3 = 1 := by kernel_rfl
theorem lits_int {a : Int} (ha : (Lit.int .i64 a).wf = true) (m : Nat) : Tryd.prog.keyLits (m + 1) 3 [.int .i64 a] = some [.int .i64 a] := by
  unfold Program.keyLits
  simp [int_under, ha]
theorem key_place {a b : Int} (ha : (Lit.int .i64 a).wf = true) (hb : (Lit.int .i64 b).wf = true) : ∃ l, keyOf Tryd.prog 46 (keyP a b) = some l := by
  obtain ⟨m, hm⟩ := types_size
  unfold keyOf keyP
  rw [Tryd.underlying46]
  simp only [place_type, Bool.true_and]
  rw [if_pos (by simp [Value.formed, Tryd.underlying46, place_cells]), hm]
  unfold Program.keyLits
  simp [Tryd.underlying46, Value.cells, place_cells, int_cells, lits_int ha, lits_int hb]
theorem wf_int {a : Int} (h1 : -9223372036854775808 ≤ a) (h2 : a ≤ 9223372036854775807) : (Lit.int .i64 a).wf = true := by
  simp [Lit.wf, IntKind.min, IntKind.max, IntKind.signed, IntKind.bits, h1, h2]
theorem keys_place {l : List (Nat × Nat)} (h : ∀ p ∈ l, p.1 < 1000 ∧ p.2 < 1000) : ∀ e ∈ (mkEs l).toList, ∃ q, keyOf Tryd.prog 46 e.key = some q := by
  intro e he
  obtain ⟨p, hp, hk, _⟩ := mem_mkEs he
  have := h p hp
  rw [hk]
  exact key_place (wf_int (by omega) (by omega)) (wf_int (by omega) (by omega))
/-- A place is asked for in a map of places. -/
theorem m_place {own : Bool} {d : Option Nat} {s : AS} {K : AS → Prop} {x i : Opd} {l : List (Nat × Nat)} {a b : Int} (h : ∀ p ∈ l, p.1 < 1000 ∧ p.2 < 1000) (hm : MapAt s (s.ev x) (mkEs l) l.length) (hi : exV (s.ev i) = some (keyP a b))
    (ha : -9223372036854775808 ≤ a ∧ a ≤ 9223372036854775807) (hb : -9223372036854775808 ≤ b ∧ b ≤ 9223372036854775807) (k : K (s.put d (.b (hasP l a b)))) : aop1 Tryd.prog own ⟨d, .mgetk 46 (.bool false) false x i, none⟩ s K := by
  refine m_mgetk place_law hm hi (key_place (wf_int ha.1 ha.2) (wf_int hb.1 hb.2)) (keys_place h) ?_ ?_ k
  · intro e he hk
    obtain ⟨p, hp, h1, h2⟩ := mem_mkEs he
    rw [h1] at hk
    obtain ⟨e1, e2⟩ := keyP_inj hk
    have : hasP l a b = true := List.any_eq_true.2 ⟨p, hp, by simp [e1, e2]⟩
    rw [h2, this]
    rfl
  · intro hno
    have : hasP l a b = false := by
      rw [Bool.eq_false_iff]
      intro ht
      obtain ⟨p, hp, hpe⟩ := List.any_eq_true.1 ht
      simp only [Bool.and_eq_true, decide_eq_true_eq] at hpe
      obtain ⟨e, he, hk⟩ := has_mkEs hp
      exact hno e he (by rw [hk, hpe.1, hpe.2])
    rw [this]
    rfl
/-- A place that is not in a map is put into it. -/
theorem m_putPlace {own : Bool} {s : AS} {K : AS → Prop} {x i y : Opd} {r : Nat} {l : List (Nat × Nat)} {a b : Nat} (h : ∀ p ∈ l, p.1 < 1000 ∧ p.2 < 1000) (hx : s.ev x = .mp r) (hr : s.hp r = some (true, [.ob (.map (mkEs l) l.length)])) (hi : exV (s.ev i) = some (keyP a b)) (hy : s.ev y = .v (.bool true))
    (ha : a < 1000) (hb : b < 1000) (hn : (a, b) ∉ l) (k : K (s.mem r (true, [.ob (.map (mkEs (l ++ [(a, b)])) (l ++ [(a, b)]).length)]))) : aop1 Tryd.prog own ⟨none, .mputk 46 x i y, none⟩ s K := by
  refine m_mputk place_law hx hr hi hy (key_place (wf_int (by omega) (by omega)) (wf_int (by omega) (by omega))) (keys_place h) ?_ ?_
  · intro e he hk
    obtain ⟨p, hp, h1, _⟩ := mem_mkEs he
    rw [h1] at hk
    obtain ⟨e1, e2⟩ := keyP_inj hk
    have : p = (a, b) := Prod.ext (by omega) (by omega)
    exact hn (this ▸ hp)
  · rw [show l.length + 1 = (l ++ [(a, b)]).length by simp]
    rw [← mkEs_push l (a, b)] at k
    exact k
end Go.Proofs.YtmifianbkpiifaaDoor
namespace Go.Proofs.YtmifianbkpiifaaDoor
variable [Go.Am.CodeBlk]
open Go.Am
attribute [local irreducible] AW Outs Weak Lends Lend Sp aops atree aop1 Then Round InBlock Done
theorem isSide_spec (n : Int) : Sp Tryd.prog 37 [.i n] (.b (decide (1 ≤ n ∧ n ≤ 8))) := by
  refine spec_of Tryd.func37 rfl cc37 rfl ?_
  unfold ac37
  by_cases h1 : 1 ≤ n
  · by_cases h2 : n ≤ 8
    · repeat (first | (refine step_ops ?_; ((try (refine g_yes rfl ?_ ?_; (· (refine decide_eq_true ?_; assumption)))); (first | (refine m_mov (by conv => lhs; whnf) ?_) | (refine m_leq rfl rfl ?_) | (refine m_geq rfl rfl ?_) | (refine m_pick_t rfl ?_ (by conv => lhs; whnf) ?_; (· (refine decide_eq_true ?_; assumption)))))) | refine end_ops ?_ | refine seq_ops ?_ | refine AW_ret ?_ | refine ret_done ?_)
      exact outs_b (by simp [h1, h2])
    · repeat (first | (refine step_ops ?_; ((try (refine g_yes rfl ?_ ?_; (· (refine decide_eq_true ?_; assumption)))); (first | (refine m_mov (by conv => lhs; whnf) ?_) | (refine m_leq rfl rfl ?_) | (refine m_geq rfl rfl ?_) | (refine m_pick_t rfl ?_ (by conv => lhs; whnf) ?_; (· (refine decide_eq_true ?_; assumption)))))) | refine end_ops ?_ | refine seq_ops ?_ | refine AW_ret ?_ | refine ret_done ?_)
      exact outs_b (by simp [h2])
  · repeat (first | (refine step_ops ?_; (first | (first | (refine m_mov (by conv => lhs; whnf) ?_) | (refine m_geq rfl rfl ?_) | (refine m_pick_f rfl ?_ (by conv => lhs; whnf) ?_; (· (refine decide_eq_false ?_; assumption)))) | (refine g_noT rfl ?_ ?_; (· (refine decide_eq_false ?_; assumption))))) | refine end_ops ?_ | refine seq_ops ?_ | refine AW_ret ?_ | refine ret_done ?_)
    exact outs_b (by simp [h1])
/-- The places of a board. -/
def plB (B : List UInt8) : List (Nat × Nat) := posP (fbB B) (sdB B) (sdB B)
/-- A board that was read. -/
def bdV (fr : Bool) (B : List UInt8) : AV := if GoodBd B then .agg [.i (sdB B : Nat), .rmp fr (mkEs (plB B)) (plB B).length] else .agg [.i 0, .v (.map none)]
def bdR (fr : Bool) (B : List UInt8) : AV := .tup [bdV fr B, .b (decide (GoodBd B))]
theorem pos_lt {fb : Nat → Nat → Bool} {n k i j : Nat} (hn : n ≤ 8) (hk : k ≤ n) (hi : i < 8) (hj : j ≤ n) : ∀ p ∈ posP fb n k ++ rowP fb i j, p.1 < 1000 ∧ p.2 < 1000 := by
  intro p hp
  rcases List.mem_append.1 hp with hp | hp
  · have := mem_posP.1 hp; omega
  · have := mem_rowP.1 hp; omega
set_option maxRecDepth 20000 in
theorem readBoard_spec (B : List UInt8) (hB : B.length ≤ 1048576) : Sp Tryd.prog 27 [str B] (bdR true B) := by
  have hl := splitB_len B
  have hnl := splitNB_len 8 B
  refine specG_of Tryd.func27 rfl cc27 (by set_option maxRecDepth 100000 in rfl) ?_
  unfold ac27
  by_cases hc7 : B.count 47 ≤ 7
  · have hsp : splitNB 8 B = splitB B := splitNB_all 8 B (by omega)
    have hspec := splitN_spec B hB
    rw [hsp] at hspec
    have hsd : sdB B = (splitB B).length := hl.symm
    have hsd8 : sdB B ≤ 8 := by unfold sdB; omega
    repeat (first | (refine step_ops ?_; (first | (refine m_mov (by conv => lhs; whnf) ?_) | (refine m_alloc ?_))) | refine end_ops ?_ | refine seq_ops ?_)
    (refine step_ops ?_); (apply m_call (hspec)); (· repeat (first | exact lends_nil | (refine lends_cons ?_ ?_; (· exact lend_v))))
    repeat (first | (refine step_ops ?_; (first | (refine m_mov (by conv => lhs; whnf) ?_) | (refine m_len_ro rfl ?_))) | refine end_ops ?_ | refine seq_ops ?_ | refine AW_seq ?_)
    (refine step_ops ?_); (apply m_call (isSide_spec _)); (· repeat (first | exact lends_nil | (refine lends_cons ?_ ?_; (· exact lend_v))))
    repeat (first | (refine step_ops ?_; (first | (refine m_mov (by conv => lhs; whnf) ?_) | (refine m_not rfl ?_) | (refine m_len_ro rfl ?_) | (refine m_mmk ?_) | (refine m_alloc ?_) | (refine m_bld_2 (by conv => lhs; whnf) (by conv => lhs; whnf) (by decide)  (by decide) (by rfl) (by rfl) ?_))) | refine end_ops ?_ | refine seq_ops ?_ | (refine cond_f rfl ?_ ?_; (· (refine nf ?_; omega))) | refine skip_then ?_)
    refine step_opsW (weak_deep (r := 5) rfl (by simp) rfl) ?_
    refine m_stall (l := [.i (splitB B).length, .mp 18]) rfl rfl rfl rfl rfl rfl ?_
    repeat (first | (refine step_ops ?_; (first | (refine m_mov (by conv => lhs; whnf) ?_) | (refine m_len_ro rfl ?_))) | refine end_ops ?_ | refine seq_ops ?_ | refine AW_seq ?_ | refine AW_block ?_)
    refine AW_loop (α := Nat) (fun k => k ≤ sdB B ∧ ∀ i < k, OkRow (sdB B) ((splitB B).getD i []))
      (fun k => st [(2, .pt 2 0), (5, .pt 5 0), (20, .ro true 1 (strs (splitB B)) (splitB B).length), (21, .i (splitB B).length), (22, .i k)]
        [(2, (true, [.i 0, .v (.map none)])), (5, (false, [.i (splitB B).length, .mp 18])), (18, (true, [.ob (.map (mkEs (posP (fbB B) (sdB B) k)) (posP (fbB B) (sdB B) k).length)]))]) (fun k => sdB B - k) 0 ⟨Nat.zero_le _, fun i hi => by omega⟩ (weak_st ?_ ?_ rfl rfl) ?_
    · (repeat' (first | exact trivial | refine And.intro ?_ ?_)) <;> (first | rfl | skip)
    · (repeat' (first | exact trivial | refine And.intro ?_ ?_)) <;> (first | rfl | skip)
    rintro k ⟨hk, hok⟩
    by_cases hc : k < (splitB B).length
    · have hat := strs_at hc
      obtain ⟨row, hrow⟩ : ∃ row, row = (splitB B).getD k [] := ⟨_, rfl⟩
      rw [← hrow] at hat
      have hsn : OkRow (sdB B) row → ∀ i < k + 1, OkRow (sdB B) ((splitB B).getD i []) := fun h => all_snoc hok (by rw [← hrow]; exact h)
      have hbad : ¬ OkRow (sdB B) row → ¬ GoodBd B := fun h hg => h (by rw [hrow]; exact (good_iff hc7).1 hg k (by omega))
      have hfb : ∀ j, fbB B k j = decide (row.getD j 0 = 35) := fun j => by rw [hrow]; rfl
      have hout : ∀ {s : AS}, ¬ GoodBd B → s.tm 2 = .pt 2 0 → s.hp 2 = some (true, [.i 0, .v (.map none)]) → s.tm 3 = .b false → DoneG [.c 2 2, .t 3] (bdR true B) .ret s := by
        intro s hng h1 h2 h3
        refine ret_doneg2 h1 h2 rfl ?_
        unfold bdR bdV
        rw [h3, if_neg hng, decide_eq_false hng]
        exact outs_tup2 (outs_agg rfl) (outs_b rfl)
      by_cases hlen : row.length = (splitB B).length
      · repeat (first | (refine step_ops ?_; (first | (refine m_mov (by conv => lhs; whnf) ?_) | (refine m_lss rfl rfl ?_) | (refine m_idx1_ro rfl rfl ?_ ?_; (· omega)))) | refine end_ops ?_ | refine seq_ops ?_ | (refine cond_t rfl ?_ ?_; (· (refine decide_eq_true ?_; omega))) | refine skip_then ?_ | refine AW_seq ?_ | refine AW_block ?_)
        refine step_ops ?_
        refine m_ld_rp rfl hat ?_
        repeat (first | (refine step_ops ?_; (first | (refine m_mov (by conv => lhs; whnf) ?_) | (refine m_neq rfl rfl ?_) | (refine m_slen rfl ?_) | (apply m_ld_pt; (· rfl); (· rfl); (· rfl)) | (refine m_fa rfl ?_))) | refine end_ops ?_ | refine seq_ops ?_ | (refine cond_f rfl ?_ ?_; (· (refine decide_eq_false ?_; omega))) | refine skip_then ?_ | refine AW_seq ?_ | refine AW_block ?_)
        refine AW_loop (α := Nat) (fun j => j ≤ row.length ∧ ∀ c ∈ row.take j, c = 46 ∨ c = 35)
          (fun j => st [(2, .pt 2 0), (5, .pt 5 0), (6, .i k), (7, str row), (20, .ro true 1 (strs (splitB B)) (splitB B).length), (21, .i (splitB B).length), (22, .i k), (34, .i row.length), (35, .i j)]
            [(2, (true, [.i 0, .v (.map none)])), (5, (false, [.i (splitB B).length, .mp 18])), (18, (true, [.ob (.map (mkEs (posP (fbB B) (sdB B) k ++ rowP (fbB B) k j)) (posP (fbB B) (sdB B) k ++ rowP (fbB B) k j).length)]))]) (fun j => row.length - j) 0 ⟨Nat.zero_le _, fun c hc => by simp at hc⟩ (weak_st ?_ ?_ rfl rfl) ?_
        · (repeat' (first | exact trivial | refine And.intro ?_ ?_)) <;> (first | rfl | skip)
        · rw [show posP (fbB B) (sdB B) k ++ rowP (fbB B) k 0 = posP (fbB B) (sdB B) k by simp [rowP]]
          (repeat' (first | exact trivial | refine And.intro ?_ ?_)) <;> (first | rfl | skip)
        rintro j ⟨hj, hjok⟩
        by_cases hcj : j < row.length
        · have hts := take_snoc row j 0 hcj
          have hrs := rowP_snoc (fbB B) k j
          have hlt := pos_lt (fb := fbB B) (n := sdB B) (k := k) (i := k) (j := j) hsd8 (by omega) (by omega) (by omega)
          by_cases h46 : row.getD j 0 = 46
          · have h46' : ((row.getD j 0).toNat : Int) = 46 := by rw [h46]; rfl
            have hfj : fbB B k j = false := by rw [hfb, h46]; rfl
            rw [hfj] at hrs
            repeat (first | (refine step_ops ?_; (first | (refine m_mov (by conv => lhs; whnf) ?_) | (refine m_lss rfl rfl ?_) | (refine m_eqk rfl rfl ?_) | (refine m_add rfl rfl ?_ ?_ ?_; (· omega); (· omega)) | (refine m_six' rfl rfl ?_ ?_; (· first | omega | (simp; omega))))) | refine end_ops ?_ | refine seq_ops ?_ | refine AW_ops ?_ | (refine cond_t rfl ?_ ?_; (· first | (refine decide_eq_true ?_; assumption) | (refine decide_eq_true ?_; omega))) | refine skip_then ?_ | refine AW_seq ?_ | refine norm_then ?_ | refine AW_block ?_ | refine norm_block ?_ | refine AW_skip ?_)
            refine next_round (j + 1) ⟨hcj, fun c hc => ?_⟩ (weak_st ?_ ?_ rfl rfl) ?_
            · rw [hts] at hc
              rcases List.mem_append.1 hc with hc | hc
              · exact hjok c hc
              · rw [List.mem_singleton.1 hc]; exact .inl h46
            · (repeat' (first | exact trivial | refine And.intro ?_ ?_)) <;> (first | rfl | skip)
            · rw [hrs]
              simp only [Bool.false_eq_true, if_false, List.append_nil]
              (repeat' (first | exact trivial | refine And.intro ?_ ?_)) <;> (first | rfl | skip)
            · omega
          · have h46' : ¬ ((row.getD j 0).toNat : Int) = 46 := fun e => h46 (u8_eq (n := 46) (by omega) 46 rfl)
            by_cases h35 : row.getD j 0 = 35
            · have h35' : ((row.getD j 0).toNat : Int) = 35 := by rw [h35]; rfl
              have hfj : fbB B k j = true := by rw [hfb, h35]; rfl
              rw [hfj, if_pos rfl] at hrs
              repeat (first | (refine step_ops ?_; (first | (refine m_mov (by conv => lhs; whnf) ?_) | (refine m_lss rfl rfl ?_) | (refine m_eqk rfl rfl ?_) | (refine m_six' rfl rfl ?_ ?_; (· first | omega | (simp; omega))) | (apply m_ld_pt; (· rfl); (· rfl); (· rfl)) | (refine m_fa rfl ?_) | (refine m_bld_2 (by conv => lhs; whnf) (by conv => lhs; whnf) (by decide)  (by decide) (by rfl) (by rfl) ?_))) | refine end_ops ?_ | refine seq_ops ?_ | refine AW_ops ?_ | (refine cond_t rfl ?_ ?_; (· first | (refine decide_eq_true ?_; assumption) | (refine decide_eq_true ?_; omega))) | (refine cond_f rfl ?_ ?_; (· (refine decide_eq_false ?_; assumption))) | refine skip_then ?_ | refine AW_seq ?_ | refine AW_block ?_)
              refine step_ops ?_
              refine m_putPlace (l := posP (fbB B) (sdB B) k ++ rowP (fbB B) k j) (a := k) (b := j) hlt rfl rfl rfl rfl (by omega) (by omega) ?_ ?_
              · intro hm
                rcases List.mem_append.1 hm with hm | hm
                · have := mem_posP.1 hm; simp at this
                · have := mem_rowP.1 hm; simp at this
              repeat (first | (refine step_ops ?_; (first | (refine m_mov (by conv => lhs; whnf) ?_) | (refine m_add rfl rfl ?_ ?_ ?_; (· omega); (· omega)))) | refine end_ops ?_ | refine AW_ops ?_ | refine norm_then ?_ | refine norm_block ?_)
              refine next_round (j + 1) ⟨hcj, fun c hc => ?_⟩ (weak_st ?_ ?_ rfl rfl) ?_
              · rw [hts] at hc
                rcases List.mem_append.1 hc with hc | hc
                · exact hjok c hc
                · rw [List.mem_singleton.1 hc]; exact .inr h35
              · (repeat' (first | exact trivial | refine And.intro ?_ ?_)) <;> (first | rfl | skip)
              · rw [hrs, ← List.append_assoc]
                (repeat' (first | exact trivial | refine And.intro ?_ ?_)) <;> (first | rfl | skip)
              · omega
            · have h35' : ¬ ((row.getD j 0).toNat : Int) = 35 := fun e => h35 (u8_eq (n := 35) (by omega) 35 rfl)
              repeat (first | (refine step_ops ?_; (first | (refine m_mov (by conv => lhs; whnf) ?_) | (refine m_lss rfl rfl ?_) | (refine m_eqk rfl rfl ?_) | (refine m_six' rfl rfl ?_ ?_; (· first | omega | (simp; omega))) | (refine m_bld rfl ?_) | (refine m_stall rfl rfl rfl ?_ ?_ ?_ ?_; (· first | rfl | (simp [*]; done)); (· first | rfl | (simp [*]; done)); (· first | rfl | (simp [cellOk, Value.oneCell']; done))))) | refine end_ops ?_ | refine seq_ops ?_ | (refine cond_t rfl ?_ ?_; (· (refine decide_eq_true ?_; omega))) | (refine cond_f rfl ?_ ?_; (· (refine decide_eq_false ?_; assumption))) | refine skip_then ?_ | refine AW_seq ?_ | refine AW_ret ?_ | refine ret_then ?_ | refine AW_block ?_ | refine ret_block ?_ | refine ret_round ?_)
              exact hout (hbad fun h => (h.2 _ (getD_memL hcj)).elim h46 h35) rfl rfl rfl
        · obtain rfl : j = row.length := by omega
          rw [List.take_length] at hjok
          repeat (first | (refine step_ops ?_; (first | (refine m_mov (by conv => lhs; whnf) ?_) | (refine m_lss rfl rfl ?_) | (refine m_add rfl rfl ?_ ?_ ?_; (· omega); (· omega)))) | refine end_ops ?_ | refine seq_ops ?_ | refine AW_ops ?_ | (refine cond_f rfl ?_ ?_; (· (refine decide_eq_false ?_; omega))) | refine AW_seq ?_ | refine norm_then ?_ | refine exit_then ?_ | refine norm_block ?_ | refine exit_round ?_ | refine AW_exit ?_ | refine exit_block ?_)
          refine next_round (k + 1) ⟨by omega, hsn ⟨by omega, hjok⟩⟩ (weak_st ?_ ?_ rfl rfl) ?_
          · (repeat' (first | exact trivial | refine And.intro ?_ ?_)) <;> (first | rfl | skip)
          · rw [show posP (fbB B) (sdB B) (k + 1) = posP (fbB B) (sdB B) k ++ rowP (fbB B) k row.length by rw [hlen, ← hsd]; rfl]
            (repeat' (first | exact trivial | refine And.intro ?_ ?_)) <;> (first | rfl | skip)
          · omega
      · repeat (first | (refine step_ops ?_; (first | (refine m_mov (by conv => lhs; whnf) ?_) | (refine m_lss rfl rfl ?_) | (refine m_idx1_ro rfl rfl ?_ ?_; (· omega)))) | refine end_ops ?_ | refine seq_ops ?_ | (refine cond_t rfl ?_ ?_; (· (refine decide_eq_true ?_; omega))) | refine skip_then ?_ | refine AW_seq ?_ | refine AW_block ?_)
        refine step_ops ?_
        refine m_ld_rp rfl hat ?_
        repeat (first | (refine step_ops ?_; (first | (refine m_mov (by conv => lhs; whnf) ?_) | (refine m_neq rfl rfl ?_) | (refine m_slen rfl ?_) | (apply m_ld_pt; (· rfl); (· rfl); (· rfl)) | (refine m_fa rfl ?_) | (refine m_bld rfl ?_) | (refine m_stall rfl rfl rfl ?_ ?_ ?_ ?_; (· first | rfl | (simp [*]; done)); (· first | rfl | (simp [*]; done)); (· first | rfl | (simp [cellOk, Value.oneCell']; done))))) | refine end_ops ?_ | refine seq_ops ?_ | (refine cond_t rfl ?_ ?_; (· (refine decide_eq_true ?_; omega))) | refine AW_seq ?_ | refine AW_ret ?_ | refine ret_then ?_ | refine ret_block ?_ | refine ret_round ?_)
        exact hout (hbad fun h => hlen (by rw [h.1]; exact hsd)) rfl rfl rfl
    · have hg : GoodBd B := (good_iff hc7).2 fun i hi => hok i (by omega)
      obtain rfl : k = sdB B := by omega
      repeat (first | (refine step_ops ?_; (first | (refine m_lss rfl rfl ?_) | (refine m_ldall rfl rfl ?_ ?_; (· first | rfl | (simp; done) | (simp [*]; done))))) | refine end_ops ?_ | refine seq_ops ?_ | (refine cond_f rfl ?_ ?_; (· (refine decide_eq_false ?_; omega))) | refine AW_seq ?_ | refine norm_then ?_ | refine exit_then ?_ | refine exit_round ?_ | refine AW_exit ?_ | refine exit_block ?_)
      refine step_opsW (weak_deep (r := 2) rfl (by simp) rfl) ?_
      refine m_stall (l := [.i (splitB B).length, .mp 18]) rfl rfl rfl rfl rfl rfl ?_
      repeat (first | (refine step_ops ?_; (refine m_mov (by conv => lhs; whnf) ?_)) | refine end_ops ?_ | refine AW_ret ?_)
      refine ret_doneg2 rfl rfl rfl ?_
      unfold bdR bdV
      rw [if_pos hg, decide_eq_true hg]
      exact outs_tup2 (outs_agg2 (outs_i (by rw [hsd])) (outs_mp (by decide) rfl)) (outs_b rfl)
  · have hng : ¬ GoodBd B := fun h => hc7 h.1
    repeat (first | (refine step_ops ?_; (first | (refine m_mov (by conv => lhs; whnf) ?_) | (refine m_alloc ?_))) | refine end_ops ?_ | refine seq_ops ?_)
    (refine step_ops ?_); (apply m_call (splitN_spec B hB)); (· repeat (first | exact lends_nil | (refine lends_cons ?_ ?_; (· exact lend_v))))
    repeat (first | (refine step_ops ?_; (first | (refine m_mov (by conv => lhs; whnf) ?_) | (refine m_len_ro rfl ?_))) | refine end_ops ?_ | refine seq_ops ?_ | refine AW_seq ?_)
    (refine step_ops ?_); (apply m_call (isSide_spec _)); (· repeat (first | exact lends_nil | (refine lends_cons ?_ ?_; (· exact lend_v))))
    repeat (first | (refine step_ops ?_; (first | (refine m_mov (by conv => lhs; whnf) ?_) | (refine m_not rfl ?_) | (refine m_bld rfl ?_) | (refine m_stall rfl rfl rfl ?_ ?_ ?_ ?_; (· first | rfl | (simp [*]; done)); (· first | rfl | (simp [*]; done)); (· first | rfl | (simp [cellOk, Value.oneCell']; done))))) | refine end_ops ?_ | refine seq_ops ?_ | (refine cond_t rfl ?_ ?_; (· (refine nt ?_; omega))) | refine AW_ret ?_ | refine ret_then ?_)
    refine ret_doneg2 rfl rfl rfl ?_
    unfold bdR bdV
    rw [if_neg hng, decide_eq_false hng]
    exact outs_tup2 (outs_agg rfl) (outs_b rfl)
theorem implIsBoard_spec (B : List UInt8) (hB : B.length ≤ 1048576) : Sp Tryd.prog 10 [str B] (.b (decide (GoodBd B))) := by
  have hr := readBoard_spec B hB
  unfold bdR bdV at hr
  refine spec_of Tryd.func10 rfl cc10 rfl ?_
  unfold ac10
  by_cases h : GoodBd B
  · rw [if_pos h] at hr
    repeat (first | (refine step_ops ?_; (refine m_mov (by conv => lhs; whnf) ?_)) | refine end_ops ?_ | refine seq_ops ?_)
    (refine step_ops ?_); (apply m_call (hr)); (· repeat (first | exact lends_nil | (refine lends_cons ?_ ?_; (· exact lend_v))))
    repeat (first | (refine step_ops ?_; (first | (refine m_mov (by conv => lhs; whnf) ?_) | (refine m_ext rfl rfl ?_) | (refine m_alloc ?_) | (refine m_stall rfl rfl rfl ?_ ?_ ?_ ?_; (· first | rfl | (simp [*]; done)); (· first | rfl | (simp [*]; done)); (· first | rfl | (simp [cellOk, Value.oneCell']; done))))) | refine end_ops ?_ | refine seq_ops ?_ | refine AW_ret ?_ | refine ret_done ?_)
    exact outs_b rfl
  · rw [if_neg h] at hr
    repeat (first | (refine step_ops ?_; (refine m_mov (by conv => lhs; whnf) ?_)) | refine end_ops ?_ | refine seq_ops ?_)
    (refine step_ops ?_); (apply m_call (hr)); (· repeat (first | exact lends_nil | (refine lends_cons ?_ ?_; (· exact lend_v))))
    repeat (first | (refine step_ops ?_; (first | (refine m_mov (by conv => lhs; whnf) ?_) | (refine m_ext rfl rfl ?_) | (refine m_alloc ?_) | (refine m_stall rfl rfl rfl ?_ ?_ ?_ ?_; (· first | rfl | (simp [*]; done)); (· first | rfl | (simp [*]; done)); (· first | rfl | (simp [cellOk, Value.oneCell']; done))))) | refine end_ops ?_ | refine seq_ops ?_ | refine AW_ret ?_ | refine ret_done ?_)
    exact outs_b rfl
end Go.Proofs.YtmifianbkpiifaaDoor
namespace Go.Am
variable [Go.Am.CodeBlk]
variable {P : Program} {own : Bool} {s : AS} {K : AS → Prop} {d : Option Nat} {x i y : Opd}
/-- The entries of ways. -/
def wA (w : List RWay) : Array MapEntry := (w.map RWay.ent).toArray
abbrev wObj (w : List RWay) (ck : Nat) : Bool × List AV := (true, [.ob (.map (wA w) ck)])
theorem wA_mem {w : List RWay} {e : MapEntry} : e ∈ (wA w).toList ↔ ∃ p ∈ w, p.ent = e := by simp [wA]
theorem wA_get {w : List RWay} {n : Nat} {e : MapEntry} (h : (wA w).toList[n]? = some e) : ∃ p, w[n]? = some p ∧ p.ent = e := by
  simp only [wA, List.getElem?_map, Option.map_eq_some_iff] at h
  exact h
theorem wA_keys (w : List RWay) : ∀ e ∈ (wA w).toList, ∃ q, e.key = .int .u16 q := fun e he => by
  obtain ⟨p, _, rfl⟩ := wA_mem.1 he
  exact ⟨p.t, rfl⟩
theorem ent_key {p : RWay} {T : Nat} (h : p.ent.key = .int .u16 (T : Nat)) : p.t = T := by
  simp only [RWay.ent, Value.int.injEq, true_and] at h
  exact_mod_cast h
theorem wA_born {w : List RWay} (h : (w.map (·.b)).Nodup) : ((wA w).toList.map (·.born)).Nodup := by
  have : (wA w).toList.map (·.born) = w.map (·.b) := by simp [wA, Function.comp_def, RWay.ent]
  rw [this]; exact h
/-- What a map of ways has at a set. -/
def wv (w : List RWay) (T : Nat) : Nat := ((w.find? fun p => p.t == T).map (·.v)).getD 0
theorem wv_mem {w : List RWay} (hk : (w.map (·.t)).Nodup) {p : RWay} (hp : p ∈ w) : wv w p.t = p.v := by
  unfold wv
  induction w with
  | nil => simp at hp
  | cons q w ih =>
    simp only [List.map_cons, List.nodup_cons] at hk
    by_cases e : q.t = p.t
    · have : q = p := by
        rcases List.mem_cons.1 hp with rfl | hp
        · rfl
        · exact absurd (List.mem_map.2 ⟨p, hp, e.symm⟩) hk.1
      simp [this]
    · rcases List.mem_cons.1 hp with rfl | hp
      · exact absurd rfl e
      · rw [List.find?_cons, show (q.t == p.t) = false by simpa using e]
        exact ih hk.2 hp
theorem wv_none {w : List RWay} {T : Nat} (h : ∀ p ∈ w, p.t ≠ T) : wv w T = 0 := by
  unfold wv
  rw [List.find?_eq_none.2 fun p hp => by simpa using h p hp]
  rfl
/-- A map of ways is asked. -/
theorem m_wget {r n ck T : Nat} {w : List RWay} (hw : WaysOk n ck w) (hx : s.ev x = .mp r) (hr : s.hp r = some (wObj w ck)) (hi : s.ev i = .u T) (k : K (s.put d (.i (wv w T : Nat)))) : aop1 P own ⟨d, .mget .u16 (.int .i64 0) false x i, none⟩ s K := by
  refine m_mget hx hr hi (wA_keys w) (fun e he hk => ?_) fun hno => ?_
  · obtain ⟨p, hp, rfl⟩ := wA_mem.1 he
    have := ent_key hk
    rw [← this, wv_mem hw.keys hp] at k
    exact k
  · rw [wv_none fun p hp e => hno p.ent (wA_mem.2 ⟨p, hp, rfl⟩) (by rw [← e]; rfl)] at k
    exact k
/-- A number more at a set. -/
theorem m_wput {r n ck T m : Nat} {w : List RWay} (hw : WaysOk n ck w) (hT : T < 2 ^ n) (hx : s.ev x = .mp r) (hr : s.hp r = some (wObj w ck)) (hi : s.ev i = .u T) (hy : s.ev y = .i (wv w T + m : Nat))
    (k : ∀ w' ck', WaysOk n ck' w' → (∀ g, wE w' g = wE w g + m * g T) → K (s.mem r (wObj w' ck'))) : aop1 P own ⟨none, .mput .u16 x i y, none⟩ s K := by
  refine m_mput hx hr hi hy (wA_keys w) (fun j e he hk => ?_) fun hno => ?_
  · obtain ⟨p, hp, rfl⟩ := wA_get he
    have ht := ent_key hk
    obtain ⟨h1, h2⟩ := ways_set hw hp m
    have h3 := k _ _ h1 (fun g => by rw [h2 g, ht])
    have h4 : (wA w).modify j (fun e => { e with key := .int .u16 (T : Nat), val := .int .i64 ((wv w T + m : Nat) : Int) }) = wA (w.set j { p with v := p.v + m }) := by
      apply Array.ext'
      simp only [wA, List.map_set]
      rw [Array.toList_modify]
      apply List.ext_getElem?
      intro q
      rw [List.getElem?_modify, List.getElem?_set]
      by_cases e : j = q
      · subst e
        have hlt : j < w.length := (List.getElem?_eq_some_iff.1 hp).1
        simp only [if_true, List.getElem?_map, hp, Option.map_some, List.length_map, hlt]
        rw [← ht, wv_mem hw.keys (List.mem_of_getElem? hp)]
        rfl
      · simp [e]
    rw [h4]
    exact h3
  · have hno' : ∀ p ∈ w, p.t ≠ T := fun p hp e => hno p.ent (wA_mem.2 ⟨p, hp, rfl⟩) (by rw [← e]; rfl)
    obtain ⟨h1, h2⟩ := ways_push hw hT hno' m
    have h3 := k _ _ h1 h2
    have h4 : (wA w).push { key := .int .u16 (T : Nat), val := .int .i64 ((wv w T + m : Nat) : Int), born := ck } = wA (w ++ [⟨T, m, ck⟩]) := by
      rw [wv_none hno', Nat.zero_add]
      simp [wA, RWay.ent]
    rw [h4]
    exact h3
/-- The first entry. -/
theorem ways_one (n : Nat) : WaysOk n 1 [⟨0, 1, 0⟩] := ⟨by simp, by simp, by simp, by intro p hp; simp at hp; subst hp; exact Nat.pos_of_ne_zero (by simp)⟩

/- Places that are left, with their stamps. -/
def plE (p : (Nat × Nat) × Nat) : MapEntry := entP p.1 p.2
def plArr (l : List ((Nat × Nat) × Nat)) : Array MapEntry := (l.map plE).toArray
theorem mkEsL_zip : ∀ (l : List (Nat × Nat)) (c : Nat), mkEsL c l = (l.zipIdx c).map plE
  | [], _ => rfl
  | p :: l, c => by rw [mkEsL, mkEsL_zip l (c + 1)]; rfl
theorem mkEs_pl (l : List (Nat × Nat)) : mkEs l = plArr l.zipIdx := by unfold mkEs plArr; rw [mkEsL_zip]
theorem plArr_mem {l : List ((Nat × Nat) × Nat)} {e : MapEntry} : e ∈ (plArr l).toList ↔ ∃ p ∈ l, plE p = e := by simp [plArr]
end Go.Am
namespace Go.Am
variable [Go.Am.CodeBlk]
/-- The bits of a byte, counted. -/
def popB : ByteArray := ⟨#[0, 1, 1, 2, 1, 2, 2, 3, 1, 2, 2, 3, 2, 3, 3, 4, 1, 2, 2, 3, 2, 3, 3, 4, 2, 3, 3, 4, 3, 4, 4, 5, 1, 2, 2, 3, 2, 3, 3, 4, 2, 3, 3, 4, 3, 4, 4, 5, 2, 3, 3, 4, 3, 4, 4, 5, 3, 4, 4, 5, 4, 5, 5, 6, 1, 2, 2, 3, 2, 3, 3, 4, 2, 3, 3, 4, 3, 4, 4, 5, 2, 3, 3, 4, 3, 4, 4, 5, 3, 4, 4, 5, 4, 5, 5, 6, 2, 3, 3, 4, 3, 4, 4, 5, 3, 4, 4, 5, 4, 5, 5, 6, 3, 4, 4, 5, 4, 5, 5, 6, 4, 5, 5, 6, 5, 6, 6, 7, 1, 2, 2, 3, 2, 3, 3, 4, 2, 3, 3, 4, 3, 4, 4, 5, 2, 3, 3, 4, 3, 4, 4, 5, 3, 4, 4, 5, 4, 5, 5, 6, 2, 3, 3, 4, 3, 4, 4, 5, 3, 4, 4, 5, 4, 5, 5, 6, 3, 4, 4, 5, 4, 5, 5, 6, 4, 5, 5, 6, 5, 6, 6, 7, 2, 3, 3, 4, 3, 4, 4, 5, 3, 4, 4, 5, 4, 5, 5, 6, 3, 4, 4, 5, 4, 5, 5, 6, 4, 5, 5, 6, 5, 6, 6, 7, 3, 4, 4, 5, 4, 5, 5, 6, 4, 5, 5, 6, 5, 6, 6, 7, 4, 5, 5, 6, 5, 6, 6, 7, 5, 6, 6, 7, 6, 7, 7, 8]⟩
theorem popP_get : ∀ S < 512, (popB.data.toList.getD (S >>> 8) 0).toNat + (popB.data.toList.getD (S &&& 255) 0).toNat = pop16 S := by decide +kernel
theorem popB_at {j : Nat} (h : j < popB.size) : (popB[j]'h).toNat = (popB.data.toList.getD j 0).toNat := by
  have h2 : j < popB.data.toList.length := h
  rw [List.getD_eq_getElem?_getD, List.getElem?_eq_getElem h2]
  rfl
theorem popB_size : popB.size = 256 := by decide +kernel
theorem popB_le : ∀ j < 256, (popB.data.toList.getD j 0).toNat ≤ 8 := by decide +kernel
section
variable {P : Program} {own : Bool} {s : AS} {K : AS → Prop} {d : Option Nat} {x y : Opd}
theorem m_sixu {b : ByteArray} {j : Nat} {q : IntKind} (hx : s.ev x = .v (.string b)) (hj : s.ev y = .v (.int q (j : Nat))) (h : j < b.size) (k : K (s.put d (.v (.int .u8 (b[j]'h).toNat)))) : aop1 P own ⟨d, .pu .six [x, y], none⟩ s K :=
  ⟨_, ⟨b, q, j, by simp [hx, hj], by omega, by simpa using h, by simp⟩, k⟩
theorem m_addk {q : IntKind} {a b c : Int} (hx : s.ev x = .v (.int q a)) (hy : s.ev y = .v (.int q b)) (hc : q.wrap (a + b) = c) (k : K (s.put d (.v (.int q c)))) : aop1 P own ⟨d, .bin .add x y, none⟩ s K := ⟨_, _, .int q c, hx, hy, by simp [pbin, hc], k⟩
theorem m_shr8 {a : Nat} (hx : s.ev x = .u a) (hy : s.ev y = .v (.int .u64 8)) (kk : K (s.put d (.u (a >>> 8)))) : aop1 P own ⟨d, .bin .shr x y, none⟩ s K := by
  refine ⟨_, _, _, hx, hy, ?_, kk⟩
  show (if (8 : Int) < 0 then none else some (Value.int .u16 ((a : Int).fdiv (2 ^ (min (8 : Int).toNat IntKind.u16.bits))))) = _
  rw [if_neg (by decide), show min (8 : Int).toNat IntKind.u16.bits = 8 from rfl, Nat.shiftRight_eq_div_pow]
  congr 2
  rw [Int.fdiv_eq_ediv_of_nonneg _ (by decide), show (2 : Int) ^ 8 = 256 from rfl, show (2 : Nat) ^ 8 = 256 from rfl]
  omega
theorem m_cvtk {q k : IntKind} {n c : Int} (hx : s.ev x = .v (.int q n)) (hc : k.wrap n = c) (kk : K (s.put d (.v (.int k c)))) : aop1 P own ⟨d, .pu (.cvt k) [x], none⟩ s K := ⟨_, ⟨q, n, by simp [hx], by rw [hc]⟩, kk⟩
end
/- The places that are left. -/
/-- Those of all that D tells. -/
def lfA (fb : Nat → Nat → Bool) (n : Nat) (D : Nat × Nat → Bool) : List ((Nat × Nat) × Nat) := (posP fb n n).zipIdx.filter fun q => D q.1
abbrev lfObj (fb : Nat → Nat → Bool) (n : Nat) (D : Nat × Nat → Bool) : Bool × List AV := (true, [.ob (.map (plArr (lfA fb n D)) (posP fb n n).length)])
theorem lfA_mem {fb : Nat → Nat → Bool} {n : Nat} {D : Nat × Nat → Bool} {q : (Nat × Nat) × Nat} (h : q ∈ lfA fb n D) : (q.1.1 < n ∧ q.1.2 < n ∧ fb q.1.1 q.1.2 = true) ∧ D q.1 = true ∧ q.2 < (posP fb n n).length := by
  obtain ⟨h1, h2⟩ := List.mem_filter.1 h
  have h3 := List.mem_zipIdx h1
  refine ⟨mem_posP.1 ?_, h2, by omega⟩
  rw [h3.2.2]
  exact List.getElem_mem _
theorem lfA_has {fb : Nat → Nat → Bool} {n : Nat} {D : Nat × Nat → Bool} {p : Nat × Nat} (h : p.1 < n ∧ p.2 < n ∧ fb p.1 p.2 = true) (hD : D p = true) : ∃ q ∈ lfA fb n D, q.1 = p := by
  obtain ⟨k, hk, e⟩ := List.mem_iff_getElem.1 (mem_posP.2 h : p ∈ posP fb n n)
  exact ⟨(p, k), List.mem_filter.2 ⟨by rw [List.mem_zipIdx_iff_getElem?]; simp [hk, e], hD⟩, rfl⟩
theorem lfA_all (fb : Nat → Nat → Bool) (n : Nat) : plArr (lfA fb n fun _ => true) = mkEs (posP fb n n) := by
  rw [mkEs_pl, lfA, List.filter_eq_self.2 fun _ _ => rfl]
theorem lfA_congr {fb : Nat → Nat → Bool} {n : Nat} {D E : Nat × Nat → Bool} (h : ∀ p : Nat × Nat, p.1 < n → p.2 < n → fb p.1 p.2 = true → D p = E p) : lfA fb n D = lfA fb n E := by
  refine List.filter_congr fun q hq => ?_
  have h3 := List.mem_zipIdx hq
  have : q.1 ∈ posP fb n n := by rw [h3.2.2]; exact List.getElem_mem _
  obtain ⟨h4, h5, h6⟩ := mem_posP.1 this
  exact h _ h4 h5 h6
theorem posP_nodup (fb : Nat → Nat → Bool) (n : Nat) : ∀ k, (posP fb n k).Nodup
  | 0 => by simp [posP]
  | k + 1 => by
    rw [posP, List.nodup_append]
    refine ⟨posP_nodup fb n k, ?_, fun a ha b hb e => ?_⟩
    · unfold rowP
      refine List.pairwise_map.2 (List.Pairwise.imp ?_ (List.nodup_range.filter fun j => fb k j))
      intro a b h e
      exact h (by simpa using e)
    · have h1 := mem_posP.1 ha
      have h2 := mem_rowP.1 hb
      rw [e] at h1
      omega
theorem lfA_nodup (fb : Nat → Nat → Bool) (n : Nat) (D : Nat × Nat → Bool) : ((lfA fb n D).map (·.1)).Nodup := by
  refine List.Nodup.sublist (List.filter_sublist.map _) (l₂ := (posP fb n n).zipIdx.map (·.1)) ?_
  rw [List.zipIdx_map_fst]
  exact posP_nodup fb n n
theorem lfA_born (fb : Nat → Nat → Bool) (n : Nat) (D : Nat × Nat → Bool) : ((plArr (lfA fb n D)).toList.map (·.born)).Nodup := by
  have e : (plArr (lfA fb n D)).toList.map (·.born) = (lfA fb n D).map (·.2) := by simp [plArr, Function.comp_def, plE, entP]
  rw [e]
  refine List.Nodup.sublist (List.filter_sublist.map _) (l₂ := (posP fb n n).zipIdx.map (·.2)) ?_
  rw [List.zipIdx_map_snd]
  exact List.nodup_range'
theorem erase_filter {L : List ((Nat × Nat) × Nat)} (h : (L.map (·.1)).Nodup) {j : Nat} {q : (Nat × Nat) × Nat} (hj : L[j]? = some q) : L.eraseIdx j = L.filter fun r => !decide (r.1 = q.1) := by
  induction L generalizing j with
  | nil => simp at hj
  | cons a L ih =>
    simp only [List.map_cons, List.nodup_cons] at h
    cases j with
    | zero =>
      simp at hj
      subst hj
      rw [List.eraseIdx_zero, List.tail_cons, List.filter_cons, if_neg (by simp), List.filter_eq_self.2]
      intro r hr
      have : r.1 ≠ a.1 := fun e => h.1 (List.mem_map.2 ⟨r, hr, e⟩)
      simpa using this
    | succ j =>
      have hq : L[j]? = some q := by simpa using hj
      have : a.1 ≠ q.1 := fun e => h.1 (List.mem_map.2 ⟨q, List.mem_of_getElem? hq, e.symm⟩)
      rw [List.eraseIdx_cons_succ, ih h.2 hq, List.filter_cons, if_pos (by simpa using this)]
theorem lfA_erase {fb : Nat → Nat → Bool} {n : Nat} {D : Nat × Nat → Bool} {j : Nat} {q : (Nat × Nat) × Nat} (hj : (lfA fb n D)[j]? = some q) :
    (plArr (lfA fb n D)).eraseIdxIfInBounds j = plArr (lfA fb n fun p => D p && !decide (p = q.1)) := by
  have hlt : j < (plArr (lfA fb n D)).size := by simpa [plArr] using (List.getElem?_eq_some_iff.1 hj).1
  rw [Array.eraseIdxIfInBounds, dif_pos hlt]
  apply Array.ext'
  rw [Array.toList_eraseIdx]
  simp only [plArr]
  rw [show (List.map plE (lfA fb n D)).eraseIdx j = ((lfA fb n D).eraseIdx j).map plE from by simp [List.eraseIdx_eq_take_drop_succ], erase_filter (lfA_nodup fb n D) hj, lfA, List.filter_filter]
  congr 1
  unfold lfA
  refine List.filter_congr fun r _ => ?_
  rw [Bool.and_comm]
theorem plArr_get {l : List ((Nat × Nat) × Nat)} {n : Nat} {e : MapEntry} (h : (plArr l).toList[n]? = some e) : ∃ p, l[n]? = some p ∧ plE p = e := by
  simp only [plArr, List.getElem?_map, Option.map_eq_some_iff] at h
  exact h
theorem plE_key {q : (Nat × Nat) × Nat} {a b : Nat} (h : (plE q).key = keyP a b) : q.1 = (a, b) := by
  obtain ⟨h1, h2⟩ := keyP_inj (h : keyP q.1.1 q.1.2 = keyP a b)
  exact Prod.ext (Int.ofNat_inj.1 h1) (Int.ofNat_inj.1 h2)
end Go.Am
namespace Go.Proofs.YtmifianbkpiifaaDoor
variable [Go.Am.CodeBlk]
open Go.Am
attribute [local irreducible] AW Outs Weak Lends Lend Sp aops atree aop1 Then Round InBlock Done
attribute [local irreducible] SpH SpX DoneH DoneX
theorem onesP_spec (S : Nat) (hS2 : S < 512) : Sp Tryd.prog 61 [.u S] (.i (pop16 S : Nat)) := by
  have h1 : S >>> 8 < popB.size := by rw [popB_size, Nat.shiftRight_eq_div_pow]; omega
  have h2 : S &&& 255 < popB.size := by rw [popB_size]; exact Nat.lt_of_le_of_lt Nat.and_le_right (by decide)
  have hg := popP_get S hS2
  have e1 := popB_at h1
  have e2 := popB_at h2
  rw [popB_size] at h1 h2
  have l1 := popB_le _ h1
  have l2 := popB_le _ h2
  rw [← popB_size] at h1 h2
  rw [← e1, ← e2] at hg
  rw [← e1] at l1
  rw [← e2] at l2
  rw [← hg]
  refine spec_of Tryd.func61 rfl cc61 rfl ?_
  unfold ac61
  repeat (first | ((first | refine step_ops ?_ | refine step_tree ?_); (refine m_mov (by conv => lhs; whnf) ?_)) | refine end_ops ?_ | refine seq_ops ?_ | refine seq_tree ?_)
  refine step_tree ?_
  refine m_shr8 (a := S) rfl rfl ?_
  refine step_tree ?_
  refine m_sixu (b := popB) (j := S >>> 8) (q := .u16) rfl rfl h1 ?_
  repeat (refine step_tree ?_; (refine m_mov (by conv => lhs; whnf) ?_))
  refine step_tree ?_
  refine m_and16 (a := S) (b := 255) rfl rfl (by omega) (by decide) ?_
  refine step_tree ?_
  refine m_sixu (b := popB) (j := S &&& 255) (q := .u16) rfl rfl h2 ?_
  generalize ((popB[S >>> 8]'h1).toNat) = p at *
  generalize ((popB[S &&& 255]'h2).toNat) = q at *
  have w1 : IntKind.u8.wrap ((p : Int) + (q : Int)) = ((p + q : Nat) : Int) := by
    have : IntKind.u8.wrap ((p : Int) + (q : Int)) = ((p : Int) + (q : Int)) % 256 := by simp [IntKind.wrap, IntKind.bits, IntKind.signed]
    omega
  have w2 : IntKind.i64.wrap ((p + q : Nat) : Int) = ((p + q : Nat) : Int) := by rw [IntKind.wrap_i64]; omega
  refine step_tree ?_
  refine m_addk rfl rfl w1 ?_
  refine step_tree ?_
  refine m_cvtk rfl w2 ?_
  repeat (first | (refine step_tree ?_; (refine m_mov (by conv => lhs; whnf) ?_)) | refine end_tree ?_ | refine AW_ret ?_ | refine ret_done ?_)
  exact outs_i rfl
theorem sizeP_spec (S : Nat) (hS2 : S < 512) : Sp Tryd.prog 54 [.u S] (.i (pop16 S : Nat)) := by
  refine spec_of Tryd.func54 rfl cc54 rfl ?_
  unfold ac54
  repeat (first | (refine step_ops ?_; (refine m_mov (by conv => lhs; whnf) ?_)) | refine end_ops ?_ | refine seq_ops ?_)
  (refine step_ops ?_); (apply m_call (onesP_spec S hS2)); (· repeat (first | exact lends_nil | (refine lends_cons ?_ ?_; (· exact lend_v))))
  repeat (first | (refine step_ops ?_; (refine m_mov (by conv => lhs; whnf) ?_)) | refine end_ops ?_ | refine AW_ret ?_ | refine ret_done ?_)
  exact outs_i rfl
end Go.Proofs.YtmifianbkpiifaaDoor
namespace Go.Am
variable [Go.Am.CodeBlk]
section
variable {P : Program} {N : Nat} {s : AS} {Q : Exit → AS → Prop}
/-- A scope whose rest is shown once, for the first pass too. -/
theorem AW_scopeL {c rest : ACode} {α : Type} (l : Nat) (Inv : α → Prop) (I : α → AS) (m : α → Nat) (hfind : afind c l = some (.seq .skip rest)) (pass : ∀ x, Inv x → AW P N rest (I x) (Jump l Inv I m (some (m x)) Q))
    (first : (∀ x, Inv x → AW P N rest (I x) (Jump l Inv I m none Q)) → AW P N c s (Jump l Inv I m none Q)) : AW P N (.scope c) s Q :=
  AW_scope l Inv I m hfind (first fun x hx => AW_mono (pass x hx) fun e s h => by
    cases e with
    | goto l' =>
      obtain ⟨h1, x', h2, h3, _⟩ := h
      exact ⟨h1, x', h2, h3, fun n hn => by cases hn⟩
    | _ => exact h) fun x hx => AW_seq (AW_skip (norm_then (pass x hx)))
theorem goto_block {id l : Nat} (h : Q (.goto l) s) : InBlock id Q (.goto l) s := h
theorem goto_then {l : Nat} {K : AS → Prop} (h : Q (.goto l) s) : Then K Q (.goto l) s := h
theorem goto_round {α : Type} {Inv : α → Prop} {I : α → AS} {m : α → Nat} {x : α} {l : Nat} (h : Q (.goto l) s) : Round Inv I m x Q (.goto l) s := h
theorem goto_jump {α : Type} {l : Nat} {Inv : α → Prop} {I : α → AS} {m : α → Nat} {bd : Option Nat} (x : α) (h1 : Inv x) (h2 : Weak s (I x)) (h3 : ∀ n, bd = some n → m x < n) : Jump l Inv I m bd Q (.goto l) s := ⟨rfl, x, h1, h2, h3⟩
/-- Forgetting, with other names for a few regions. -/
theorem weak_stN {l : List (Nat × AV)} {h : List (Nat × (Bool × List AV))} (f : Nat → Nat) (ks : List Nat) (hk : h.map (·.1) = ks) (hd : (ks.map f).Nodup) (hb : (ks.all fun k => decide (k < 4000000) && decide (f k < 4000000)) = true) (hl : HasF s f l) (hh : HasJ s f h)
    (hr : refsT (fun r => (look h r).isSome) l = true) (hrh : refsH (fun r => (look h r).isSome) h = true) : Weak s (st l h) := by
  refine weak_stR f hl hh ?_ (fun p hp => ?_) hr hrh
  · rw [← hk, List.map_map] at hd
    exact hd
  · have h1 := List.all_eq_true.1 hb p.1 (by rw [← hk]; exact List.mem_map.2 ⟨p, hp, rfl⟩)
    simp only [Bool.and_eq_true, decide_eq_true_eq] at h1
    exact .inl h1
end
/-- One name more is told for another. -/
def fNm (a b : Nat) (q : Nat) : Nat := if q = a then b else q
theorem nodup_len {n : Nat} {l : List Nat} (h : l.Nodup) (hl : ∀ r ∈ l, r < n) : l.length ≤ n := by
  have hp : l.Perm ((List.range n).filter fun r => decide (r ∈ l)) := by
    refine (List.perm_ext_iff_of_nodup h (List.nodup_range.filter _)).2 fun a => ?_
    simp only [List.mem_filter, List.mem_range, decide_eq_true_eq]
    exact ⟨fun h => ⟨hl a h, h⟩, fun h => h.2⟩
  have h1 := hp.length_eq
  have h2 := List.length_filter_le (fun r => decide (r ∈ l)) (List.range n)
  rw [List.length_range] at h2
  omega
end Go.Am
namespace Go.Proofs.YtmifianbkpiifaaDoor
variable [Go.Am.CodeBlk]
open Go.Am
attribute [local irreducible] AW Outs Weak Lends Lend Sp aops atree aop1 Then Round InBlock Done
attribute [local irreducible] SpH SpX DoneH DoneX
def bdN (fb : Nat → Nat → Bool) (n : Nat) : List AV := [.i (n : Nat), .rmp false (mkEs (posP fb n n)) (posP fb n n).length]
/-- The places whose rows were not taken yet. -/
def notIn (l : List Nat) (p : Nat × Nat) : Bool := !l.contains p.1
/-- .., and that are not in the beginning of a row. -/
def notIn2 (l : List Nat) (row c : Nat) (p : Nat × Nat) : Bool := !l.contains p.1 && !(decide (p.1 = row) && decide (p.2 < c))
/-- The numbers of rooks, by the entries that were seen. -/
def rkS (W : List RWay) (n : Nat) (seen : Array Nat) : List Int := (List.range (n + 1)).map fun k => ((sumW W fun q => if seen.contains q.b then q.v * popIs k q.t else 0 : Nat) : Int)
theorem rkS_none (W : List RWay) (n : Nat) : rkS W n #[] = List.replicate (n + 1) 0 := by
  unfold rkS
  rw [List.eq_replicate_iff]
  refine ⟨by simp, fun b hb => ?_⟩
  obtain ⟨k, _, rfl⟩ := List.mem_map.1 hb
  rw [sumW_none]
  rfl
theorem rkS_get (W : List RWay) (seen : Array Nat) {n k : Nat} (h : k < n + 1) : (rkS W n seen).getD k 0 = ((sumW W fun q => if seen.contains q.b then q.v * popIs k q.t else 0 : Nat) : Int) := by
  unfold rkS
  simp [h]
theorem rkS_set {W : List RWay} {n : Nat} {seen : Array Nat} {p : RWay} (hn : (W.map (·.b)).Nodup) (hp : p ∈ W) (hs : seen.contains p.b = false) (hk : pop16 p.t < n + 1) :
    (rkS W n seen).set (pop16 p.t) ((rkS W n seen).getD (pop16 p.t) 0 + (p.v : Nat)) = rkS W n (seen.push p.b) := by
  apply List.ext_getElem?
  intro j
  rw [List.getElem?_set, rkS_get W seen hk]
  have hl : (rkS W n seen).length = n + 1 := by simp [rkS]
  by_cases e : pop16 p.t = j
  · subst e
    rw [if_pos rfl, if_pos (by omega)]
    simp only [rkS, List.getElem?_map, List.getElem?_range hk, Option.map_some]
    rw [sumW_seen hn hp hs (fun q => q.v * popIs (pop16 p.t) q.t)]
    have : popIs (pop16 p.t) p.t = 1 := if_pos rfl
    rw [this]
    simp
  · rw [if_neg e]
    by_cases hj : j < n + 1
    · simp only [rkS, List.getElem?_map, List.getElem?_range hj, Option.map_some]
      rw [sumW_seen hn hp hs (fun q => q.v * popIs j q.t)]
      have : popIs j p.t = 0 := if_neg e
      rw [this]
      simp
    · simp [rkS, hj]
theorem pop_le {T n : Nat} (hn : n ≤ 16) (hT : T < 2 ^ n) : pop16 T ≤ n := by
  have key : ∀ m, sumN m (fun k => if T.testBit k then 1 else 0) ≤ min m n := by
    intro m
    induction m with
    | zero => simp [sumN]
    | succ m ih =>
      simp only [sumN]
      by_cases hm : m < n
      · split <;> omega
      · have : T.testBit m = false := Nat.testBit_lt_two_pow (Nat.lt_of_lt_of_le hT (Nat.pow_le_pow_right (by decide) (by omega)))
        rw [this]
        simp
        omega
  have := key 16
  unfold pop16
  omega
theorem addC_one (row : Nat → Bool) (T c : Nat) : addC row (fun _ => 1) T c ≤ 1 := by
  unfold addC
  split
  · exact Nat.le_refl _
  · omega
theorem sumW_mul (w : List RWay) (g : RWay → Nat) (k : Nat) : sumW w (fun q => g q * k) = sumW w g * k := by
  induction w with
  | nil => simp [sumW]
  | cons q w ih => rw [sumW_cons, sumW_cons, ih, Nat.add_mul]
theorem wv_le (w : List RWay) (T : Nat) : wv w T ≤ wE w (fun _ => 1) := by
  unfold wv
  cases h : w.find? fun p => p.t == T with
  | none => exact Nat.zero_le _
  | some p =>
    have h3 : p.v * 1 ≤ wE w fun _ => 1 := sumW_le (g := fun q => q.v * 1) (List.mem_of_find?_eq_some h)
    show p.v ≤ _
    omega
theorem zeros_flat (k : Nat) : (List.replicate k (List.map AV.v [Value.int .i64 0])).flatten = (List.replicate k (0 : Int)).map AV.i := by
  induction k with
  | zero => rfl
  | succ k ih => rw [List.replicate_succ, List.flatten_cons, ih]; rfl
structure RkInv (fb : Nat → Nat → Bool) (n : Nat) (l : List Nat) (W : List RWay) (ck : Nat) : Prop where
  nd : l.Nodup
  lt : ∀ r ∈ l, r < n
  ok : WaysOk n ck W
  sum : ∀ g, wE W g = rowsR fb n l g 0
abbrev brd (fb : Nat → Nat → Bool) (n : Nat) : Nat × (Bool × List AV) := (1, (true, bdN fb n))
def rkR (fb : Nat → Nat → Bool) (n : Nat) : AV := .ro true 1 (((List.range (n + 1)).map fun k => ((rkN fb n k : Nat) : Int)).map AV.i) (n + 1)
theorem plArr_old {fb : Nat → Nat → Bool} {n : Nat} {D : Nat × Nat → Bool} : ∀ e ∈ (plArr (lfA fb n D)).toList, e.born < (posP fb n n).length := by
  intro e he
  obtain ⟨q, hq, rfl⟩ := plArr_mem.1 he
  exact (lfA_mem hq).2.2
theorem plArr_keys {fb : Nat → Nat → Bool} {n : Nat} {D : Nat × Nat → Bool} (h8 : n ≤ 8) : ∀ e ∈ (plArr (lfA fb n D)).toList, ∃ q, keyOf Tryd.prog 46 e.key = some q := by
  intro e he
  obtain ⟨q, hq, rfl⟩ := plArr_mem.1 he
  have := (lfA_mem hq).1
  exact key_place (wf_int (by omega) (by omega)) (wf_int (by omega) (by omega))
/-- A place is asked for among those that are left. -/
theorem m_lfget {own : Bool} {d : Option Nat} {s : AS} {K : AS → Prop} {x i : Opd} {r a b n : Nat} {fb : Nat → Nat → Bool} {D : Nat × Nat → Bool} (h8 : n ≤ 8) (ha : a < n) (hb : b < n) (hx : s.ev x = .mp r) (hr : s.hp r = some (lfObj fb n D)) (hi : exV (s.ev i) = some (keyP a b))
    (k : K (s.put d (.b (fb a b && D (a, b))))) : aop1 Tryd.prog own ⟨d, .mgetk 46 (.bool false) false x i, none⟩ s K := by
  refine m_mgetk place_law (.inl ⟨r, hx, hr⟩) hi (key_place (wf_int (by omega) (by omega)) (wf_int (by omega) (by omega))) (plArr_keys h8) ?_ ?_ k
  · intro e he hk
    obtain ⟨q, hq, rfl⟩ := plArr_mem.1 he
    have h1 := plE_key hk
    have h2 := lfA_mem hq
    rw [h1] at h2
    have : (fb a b && D (a, b)) = true := by rw [h2.1.2.2, h2.2.1]; rfl
    rw [this]
    rfl
  · intro hno
    have : (fb a b && D (a, b)) = false := by
      rw [Bool.eq_false_iff]
      intro ht
      simp only [Bool.and_eq_true] at ht
      obtain ⟨q, hq, e⟩ := lfA_has (fb := fb) (n := n) (p := (a, b)) ⟨ha, hb, ht.1⟩ ht.2
      exact hno (plE q) (plArr_mem.2 ⟨q, hq, rfl⟩) (by unfold plE entP; rw [e])
    rw [this]
    rfl
/-- A place that is left is deleted. -/
theorem m_lfdel {own : Bool} {d : Option Nat} {s : AS} {K : AS → Prop} {x i : Opd} {r a b n : Nat} {fb : Nat → Nat → Bool} {D : Nat × Nat → Bool} (h8 : n ≤ 8) (ha : a < n) (hb : b < n) (hx : s.ev x = .mp r) (hr : s.hp r = some (lfObj fb n D)) (hi : exV (s.ev i) = some (keyP a b))
    (k : K ((s.mem r (lfObj fb n fun p => D p && !decide (p = (a, b)))).put d (.tup []))) : aop1 Tryd.prog own ⟨d, .mdel 46 x i, none⟩ s K := by
  refine m_mdel place_law hx hr hi (key_place (wf_int (by omega) (by omega)) (wf_int (by omega) (by omega))) (plArr_keys h8) (fun j e he hk => ?_) fun hno => ?_
  · obtain ⟨q, hq, rfl⟩ := plArr_get he
    have h1 := plE_key hk
    rw [lfA_erase hq, h1]
    exact k
  · have e : lfA fb n D = lfA fb n fun p => D p && !decide (p = (a, b)) := by
      unfold lfA
      refine List.filter_congr fun q hq => ?_
      by_cases h : D q.1 = true
      · have : q.1 ≠ (a, b) := fun e => hno (plE q) (plArr_mem.2 ⟨q, List.mem_filter.2 ⟨hq, h⟩, rfl⟩) (by unfold plE entP; rw [e])
        simp [this]
      · simp at h; simp [h]
    rw [e]
    exact k
theorem rookNumbers_spec (fb : Nat → Nat → Bool) (n : Nat) (h1 : 1 ≤ n) (h8 : n ≤ 8) : Sp Tryd.prog 35 [.agg (bdN fb n)] (rkR fb n) := by
  refine spec_of Tryd.func35 rfl cc35 rfl ?_
  unfold ac35
  repeat (first | (refine step_ops ?_; (first | (refine m_nils ?_) | (refine m_box rfl ?_ ?_; (· first | rfl | (simp [cellOk, Value.oneCell']; done))))) | refine end_ops ?_ | refine seq_ops ?_)
  refine AW_scopeL (α := List Nat × List RWay × Nat) 0 (fun x => RkInv fb n x.1 x.2.1 x.2.2)
    (fun x => st [(1, .pt 1 0), (3, .mp 100), (4, .mp 101)] [brd fb n, (100, wObj x.2.1 x.2.2), (101, lfObj fb n (notIn x.1))]) (fun x => n - x.1.length) rfl ?_ ?_
  · rintro ⟨l, W, ck⟩ ⟨hnd, hlt, hok, hsum⟩
    dsimp only at hnd hlt hok hsum ⊢
    repeat (first | (refine step_ops ?_; (refine m_mov (by conv => lhs; whnf) ?_)) | refine seq_ops ?_ | refine AW_seq ?_)
    refine step_ops ?_
    refine m_mrg rfl (by decide) rfl fun bm => ?_
    repeat (first | refine end_ops ?_ | refine AW_block ?_)
    refine AW_loop (α := Unit) (fun _ => True) (fun _ => st [(1, .pt 1 0), (3, .mp 100), (4, .mp 101), (20, .mit 20 (some 101) bm #[] 0)] [brd fb n, (100, wObj W ck), (101, lfObj fb n (notIn l)), (20, (true, [.ob (.mapIter (some bm) (posP fb n n).length #[] (posP fb n n).length)]))])
      (fun _ => 0) () trivial (weak_st ?_ ?_ rfl rfl) ?_
    · (repeat' (first | exact trivial | refine And.intro ?_ ?_)) <;> (first | rfl | skip)
    · (repeat' (first | exact trivial | refine And.intro ?_ ?_)) <;> (first | rfl | skip)
    rintro ⟨⟩ _
    refine AW_seq ?_
    refine AW_ops ?_
    refine step_ops ?_
    refine m_mnx rfl rfl (by decide) rfl plArr_old (Nat.le_refl _) (fun hall => ?_) (fun e he hs => ?_)
    · have hnone : ∀ r, r < n → r ∉ l → ∀ c, c < n → fb r c = false := by
        intro r hr hrl c hc
        rw [Bool.eq_false_iff]
        intro hf
        obtain ⟨q, hq, e⟩ := lfA_has (fb := fb) (n := n) (D := notIn l) (p := (r, c)) ⟨hr, hc, hf⟩ (by simp [notIn, hrl])
        have := hall (plE q) (plArr_mem.2 ⟨q, hq, rfl⟩)
        simp at this
      have hk : ∀ k, wE W (popIs k) = rkN fb n k := fun k => by rw [hsum, rkN_any (by omega) hnd hlt hnone]
      have hW1 : wE W (fun _ => 1) ≤ 43046721 := by
        have hlen := nodup_len hnd hlt
        rw [hsum]
        refine Nat.le_trans (rowsR_le (b := 1) (fun _ => Nat.le_refl _) l 0) ?_
        rw [Nat.mul_one]
        exact Nat.le_trans (Nat.pow_le_pow_left (by omega : n + 1 ≤ 9) _) (Nat.le_trans (Nat.pow_le_pow_right (by omega) (by omega : l.length ≤ 8)) (by decide))
      have hle : ∀ k, rkN fb n k ≤ 43046721 := fun k => by
        rw [← hk]
        refine Nat.le_trans (sumW_mono fun p _ => Nat.mul_le_mul_left p.v (h := ?_)) hW1
        show popIs k p.t ≤ 1
        unfold popIs; split <;> omega
      repeat (first | (refine step_ops ?_; (first | (refine m_add rfl rfl ?_ ?_ ?_; (· omega); (· omega)) | (apply m_ld_pt; (· rfl); (· rfl); (· rfl)) | (refine m_ext rfl rfl ?_) | (refine m_fa rfl ?_))) | refine end_ops ?_ | refine seq_ops ?_ | (refine cond_f rfl ?_ ?_; (· rfl)) | refine AW_seq ?_ | refine norm_then ?_ | refine exit_then ?_ | refine exit_round ?_ | refine AW_exit ?_ | refine exit_block ?_)
      refine step_ops ?_
      refine m_mk (n := n + 1) rfl rfl (by omega) (by omega) ?_
      repeat (first | (refine step_ops ?_; (refine m_mov (by conv => lhs; whnf) ?_)) | refine end_ops ?_ | refine seq_ops ?_ | refine AW_seq ?_)
      refine step_ops ?_
      refine m_mrg (q := 100) rfl (by decide) rfl fun bm2 => ?_
      repeat (first | refine end_ops ?_ | refine AW_block ?_)
      refine AW_loop (α := Array Nat) (fun _ => True)
        (fun seen => st [(1, .pt 1 0), (11, .sl 65 1 0 (n + 1)), (67, .mit 67 (some 100) bm2 #[] 0)]
          [brd fb n, (65, (true, (rkS W n seen).map AV.i)), (100, wObj W ck), (67, (true, [.ob (.mapIter (some bm2) ck seen ck)]))])
        (fun seen => leftW W seen) #[] trivial (weak_st ?_ ?_ rfl rfl) ?_
      · (repeat' (first | exact trivial | refine And.intro ?_ ?_)) <;> (first | rfl | skip)
      · (repeat' (first | exact trivial | refine And.intro ?_ ?_)) <;> (first | rfl | skip)
        rw [rkS_none]
        show some (true, (List.replicate (n + 1) (List.map AV.v [Value.int .i64 0])).flatten) = _
        rw [zeros_flat]
      rintro seen _
      refine AW_seq ?_
      refine AW_ops ?_
      refine step_ops ?_
      refine m_mnx (q := 100) (r := 67) (c0 := ck) rfl rfl (by decide) rfl (fun e he => ?_) (Nat.le_refl _) (fun hall2 => ?_) (fun e he hs => ?_)
      · obtain ⟨p, hp, rfl⟩ := wA_mem.1 he
        exact hok.old p hp
      · have hfin : rkS W n seen = (List.range (n + 1)).map fun k => ((rkN fb n k : Nat) : Int) := by
          refine List.map_congr_left fun k _ => ?_
          rw [← hk]
          congr 1
          refine sumW_congr fun q hq => ?_
          have h3 : seen.contains q.b = true := hall2 q.ent (wA_mem.2 ⟨q, hq, rfl⟩)
          rw [if_pos h3]
        rw [hfin]
        repeat (first | (refine step_ops ?_; (first | (refine m_mov (by conv => lhs; whnf) ?_) | (refine m_ext rfl rfl ?_))) | refine end_ops ?_ | refine seq_ops ?_ | (refine cond_f rfl ?_ ?_; (· rfl)) | refine AW_seq ?_ | refine AW_ret ?_ | refine ret_done ?_ | refine norm_then ?_ | refine exit_then ?_ | refine exit_round ?_ | refine AW_exit ?_ | refine exit_block ?_)
        exact outs_sl rfl (by simp) (allv_ints _)
      · obtain ⟨p, hp, rfl⟩ := wA_mem.1 he
        have hpt := hok.lt p hp
        have hpt512 : p.t < 512 := Nat.lt_of_lt_of_le hpt (Nat.pow_le_pow_right (by decide) (by omega : n ≤ 9))
        have hpop : pop16 p.t ≤ n := pop_le (by omega) hpt
        repeat (first | (refine step_ops ?_; (refine m_ext rfl rfl ?_)) | refine end_ops ?_ | refine seq_ops ?_ | (refine cond_t rfl ?_ ?_; (· rfl)) | refine skip_then ?_ | refine AW_seq ?_ | refine norm_then ?_ | refine AW_block ?_)
        refine step_ops ?_
        refine m_ment (q := 100) (r := 67) (e := p.ent) (ka := .u p.t) (va := .i (p.v : Nat)) rfl rfl (by decide) rfl he (wA_born hok.born) rfl rfl ?_
        repeat (first | (refine step_ops ?_; (first | (refine m_mov (by conv => lhs; whnf) ?_) | (refine m_ext rfl rfl ?_))) | refine end_ops ?_ | refine AW_ops ?_)
        (refine step_ops ?_); (apply m_call (sizeP_spec p.t hpt512)); (· repeat (first | exact lends_nil | (refine lends_cons ?_ ?_; (· exact lend_v))))
        have hgd : (rkS W n seen).getD (pop16 p.t) 0 = ((sumW W fun q => if seen.contains q.b then q.v * popIs (pop16 p.t) q.t else 0 : Nat) : Int) := rkS_get W seen (by omega)
        have hb1 : (sumW W fun q => if seen.contains q.b then q.v * popIs (pop16 p.t) q.t else 0) ≤ 43046721 := by
          refine Nat.le_trans (sumW_mono fun q _ => ?_) hW1
          show _ ≤ q.v * 1
          split
          · exact Nat.mul_le_mul_left _ (by unfold popIs; split <;> omega)
          · omega
        have hb2 : p.v ≤ 43046721 := by
          have h3 : p.v * 1 ≤ wE W fun _ => 1 := sumW_le (g := fun q => q.v * 1) hp
          omega
        have hbs := leftW_lt hp hs
        have hrl : (rkS W n seen).length = n + 1 := by simp [rkS]
        have hb3 : 0 ≤ (rkS W n seen).getD (pop16 p.t) 0 ∧ (rkS W n seen).getD (pop16 p.t) 0 ≤ 43046721 := by rw [hgd]; omega
        repeat (first | (refine step_ops ?_; (first | (refine m_mov (by conv => lhs; whnf) ?_) | (refine m_add rfl rfl ?_ ?_ ?_; (· omega); (· omega)) | (refine m_idx1_sl rfl rfl ?_ ?_; (· omega)) | (refine m_ld_pti rfl (by rfl) ?_ ?_; (· first | omega | (simp; omega))) | (apply m_st; (· rfl); (· rfl); (· rfl); (· first | omega | (simp; done) | (simp; omega)); (· rfl)))) | refine end_ops ?_ | refine norm_block ?_)
        refine next_round (seen.push p.b) trivial (weak_st ?_ ?_ rfl rfl) hbs
        · (repeat' (first | exact trivial | refine And.intro ?_ ?_)) <;> (first | rfl | skip)
        · (repeat' (first | exact trivial | refine And.intro ?_ ?_)) <;> (first | rfl | skip)
          rw [← rkS_set hok.born hp hs (by omega), List.map_set]
          rfl
    · obtain ⟨q, hq, rfl⟩ := plArr_mem.1 he
      obtain ⟨⟨hr, hc, hf⟩, hD, _⟩ := lfA_mem hq
      obtain ⟨⟨row, col⟩, stamp⟩ := q
      dsimp only at hr hc hf
      repeat (first | (refine step_ops ?_; (refine m_ext rfl rfl ?_)) | refine end_ops ?_ | refine seq_ops ?_ | (refine cond_t rfl ?_ ?_; (· rfl)) | refine skip_then ?_ | refine AW_seq ?_ | refine norm_then ?_ | refine AW_block ?_)
      refine step_ops ?_
      refine m_ment (e := plE ((row, col), stamp)) (ka := .agg [.i (row : Nat), .i (col : Nat)]) (va := .b true) rfl rfl (by decide) rfl he (lfA_born fb n _) rfl rfl ?_
      repeat (first | (refine step_ops ?_; (first | (refine m_mov (by conv => lhs; whnf) ?_) | (refine m_ext rfl rfl ?_) | (refine m_alloc ?_) | (refine m_stall rfl rfl rfl ?_ ?_ ?_ ?_; (· first | rfl | (simp [*]; done)); (· first | rfl | (simp [*]; done)); (· first | rfl | (simp [cellOk, Value.oneCell']; done))))) | refine end_ops ?_ | refine seq_ops ?_)
      refine step_ops ?_
      refine m_clone 102 (cloneWays_spec (wA W) ck) (.inl ⟨100, rfl, rfl⟩) rfl (by decide) ?_
      repeat (first | (refine step_ops ?_; (first | (refine m_mov (by conv => lhs; whnf) ?_) | (apply m_ld_pt; (· rfl); (· rfl); (· rfl)) | (refine m_fa rfl ?_))) | refine end_ops ?_ | refine seq_ops ?_ | refine AW_seq ?_ | refine AW_block ?_)
      have hrl' : row ∉ l := by
        have : (l.contains row) = false := by simpa [notIn] using hD
        simpa using this
      have hlen := nodup_len hnd hlt
      have hW1 : wE W (fun _ => 1) ≤ 43046721 := by
        rw [hsum]
        refine Nat.le_trans (rowsR_le (b := 1) (fun _ => Nat.le_refl _) l 0) ?_
        rw [Nat.mul_one]
        exact Nat.le_trans (Nat.pow_le_pow_left (by omega : n + 1 ≤ 9) _) (Nat.le_trans (Nat.pow_le_pow_right (by omega) (by omega : l.length ≤ 8)) (by decide))
      refine AW_loop (α := Nat × List RWay × Nat) (fun x => x.1 ≤ n ∧ WaysOk n x.2.2 x.2.1 ∧ ∀ g, wE x.2.1 g = sumW W fun q => q.v * (g q.t + sumN x.1 (addC (fb row) g q.t)))
        (fun x => st [(1, .pt 1 0), (3, .mp 100), (4, .mp 101), (5, .pt 5 0), (6, .mp 102), (28, .i (n : Nat)), (29, .i (x.1 : Nat))]
          [brd fb n, (5, (true, [.i (row : Nat), .i (col : Nat)])), (100, wObj W ck), (101, lfObj fb n (notIn2 l row x.1)), (102, wObj x.2.1 x.2.2)])
        (fun x => n - x.1) (0, W, ck) ⟨Nat.zero_le _, hok, fun g => rfl⟩ (weak_st ?_ ?_ rfl rfl) ?_
      · (repeat' (first | exact trivial | refine And.intro ?_ ?_)) <;> (first | rfl | skip)
      · (repeat' (first | exact trivial | refine And.intro ?_ ?_)) <;> (first | rfl | skip)
        show some (lfObj fb n (notIn l)) = some (lfObj fb n (notIn2 l row 0))
        congr 4
        funext p
        simp [notIn, notIn2]
      rintro ⟨c, L, ck2⟩ ⟨hcn, hokL, hsumL⟩
      dsimp only at hcn hokL hsumL ⊢
      by_cases hc8 : c < n
      · repeat (first | (refine step_ops ?_; (first | (refine m_mov (by conv => lhs; whnf) ?_) | (refine m_lss rfl rfl ?_) | (apply m_ld_pt; (· rfl); (· rfl); (· rfl)) | (refine m_alloc ?_) | (refine m_fa rfl ?_) | (refine m_bld_2 (by conv => lhs; whnf) (by conv => lhs; whnf) (by decide)  (by decide) (by rfl) (by rfl) ?_) | (refine m_ldall rfl rfl ?_ ?_; (· first | rfl | (simp; done) | (simp [*]; done))) | (refine m_stall rfl rfl rfl ?_ ?_ ?_ ?_; (· first | rfl | (simp [*]; done)); (· first | rfl | (simp [*]; done)); (· first | rfl | (simp [cellOk, Value.oneCell']; done))))) | refine end_ops ?_ | refine seq_ops ?_ | (refine cond_t rfl ?_ ?_; (· (refine decide_eq_true ?_; omega))) | refine skip_then ?_ | refine AW_seq ?_ | refine AW_block ?_)
        refine step_ops ?_
        refine m_lfget (a := row) (b := c) h8 hr hc8 rfl rfl rfl ?_
        have hD2 : notIn2 l row c (row, c) = true := by simp [notIn2, hrl']
        rw [hD2, Bool.and_true]
        have hlf : lfA fb n (fun p => notIn2 l row c p && !decide (p = (row, c))) = lfA fb n (notIn2 l row (c + 1)) := by
          congr 1
          funext p
          obtain ⟨i, j⟩ := p
          simp only [notIn2, Prod.mk.injEq]
          by_cases e1 : i = row
          · by_cases e2 : j = c
            · simp [e1, e2]
            · have : decide (j < c + 1) = decide (j < c) := decide_eq_decide.2 (by omega)
              simp [e1, e2, this]
          · simp [e1]
        by_cases hf2 : fb row c = true
        · repeat (first | (refine step_ops ?_; (first | (refine m_mov (by conv => lhs; whnf) ?_) | (refine m_not rfl ?_) | (refine m_ldall rfl rfl ?_ ?_; (· first | rfl | (simp; done) | (simp [*]; done))))) | refine end_ops ?_ | refine seq_ops ?_ | (refine cond_f rfl ?_ ?_; (· (simp [*]; done))) | refine skip_then ?_)
          refine step_ops ?_
          refine m_lfdel (a := row) (b := c) h8 hr hc8 rfl rfl rfl ?_
          repeat (first | (refine step_ops ?_; (refine m_mov (by conv => lhs; whnf) ?_)) | refine end_ops ?_ | refine seq_ops ?_)
          refine step_ops ?_
          refine m_mrg (q := 100) rfl (by decide) rfl fun bm3 => ?_
          repeat (first | refine end_ops ?_ | refine AW_block ?_)
          refine AW_loop (α := List RWay × Nat × Array Nat) (fun x => WaysOk n x.2.1 x.1 ∧ ∀ g, wE x.1 g = wE L g + sumW W fun q => if x.2.2.contains q.b then q.v * addC (fb row) g q.t c else 0)
            (fun x => st [(1, .pt 1 0), (3, .mp 100), (4, .mp 101), (5, .pt 5 0), (6, .mp 102), (7, .i (c : Nat)), (28, .i (n : Nat)), (29, .i (c : Nat)), (43, .mit 43 (some 100) bm3 #[] 0)]
              [brd fb n, (5, (true, [.i (row : Nat), .i (col : Nat)])), (43, (true, [.ob (.mapIter (some bm3) ck x.2.2 ck)])), (100, wObj W ck), (101, lfObj fb n (notIn2 l row (c + 1))), (102, wObj x.1 x.2.1)])
            (fun x => leftW W x.2.2) (L, ck2, #[]) ⟨hokL, fun g => by rw [sumW_none]; rfl⟩ (weak_st ?_ ?_ rfl rfl) ?_
          · (repeat' (first | exact trivial | refine And.intro ?_ ?_)) <;> (first | rfl | skip)
          · (repeat' (first | exact trivial | refine And.intro ?_ ?_)) <;> (first | rfl | skip)
            show some (true, [AV.ob (.map (plArr _) _)]) = _
            rw [hlf]
          rintro ⟨M, ck3, seen⟩ ⟨hokM, hsumM⟩
          dsimp only at hokM hsumM ⊢
          refine AW_seq ?_
          refine AW_ops ?_
          refine step_ops ?_
          refine m_mnx (q := 100) (r := 43) (c0 := ck) rfl rfl (by decide) rfl (fun e he => ?_) (Nat.le_refl _) (fun hall2 => ?_) (fun e he hs => ?_)
          · obtain ⟨p, hp, rfl⟩ := wA_mem.1 he
            exact hok.old p hp
          · repeat (first | (refine step_ops ?_; (first | (refine m_mov (by conv => lhs; whnf) ?_) | (refine m_add rfl rfl ?_ ?_ ?_; (· omega); (· omega)) | (refine m_ext rfl rfl ?_))) | refine end_ops ?_ | refine AW_ops ?_ | (refine cond_f rfl ?_ ?_; (· rfl)) | refine AW_seq ?_ | refine norm_then ?_ | refine exit_then ?_ | refine norm_block ?_ | refine exit_round ?_ | refine AW_exit ?_ | refine exit_block ?_)
            refine next_round (c + 1, M, ck3) ⟨by omega, hokM, fun g => ?_⟩ (weak_st ?_ ?_ rfl rfl) (by show n - (c + 1) < n - c; omega)
            · rw [hsumM, hsumL, ← sumW_add]
              refine sumW_congr fun q hq => ?_
              have h3 : seen.contains q.b = true := hall2 q.ent (wA_mem.2 ⟨q, hq, rfl⟩)
              rw [if_pos h3, ← Nat.mul_add, sumN, Nat.add_assoc]
            · (repeat' (first | exact trivial | refine And.intro ?_ ?_)) <;> (first | rfl | skip)
            · (repeat' (first | exact trivial | refine And.intro ?_ ?_)) <;> (first | rfl | skip)
          · obtain ⟨p, hp, rfl⟩ := wA_mem.1 he
            have hpt := hok.lt p hp
            have hpt16 : p.t < 65536 := Nat.lt_of_lt_of_le hpt (Nat.pow_le_pow_right (by decide) (by omega : n ≤ 16))
            have hb2 : p.v ≤ 43046721 := by
              have h3 : p.v * 1 ≤ wE W fun _ => 1 := sumW_le (g := fun q => q.v * 1) hp
              omega
            repeat (first | (refine step_ops ?_; (refine m_ext rfl rfl ?_)) | refine end_ops ?_ | refine seq_ops ?_ | (refine cond_t rfl ?_ ?_; (· rfl)) | refine skip_then ?_ | refine AW_seq ?_ | refine norm_then ?_ | refine AW_block ?_)
            refine step_ops ?_
            refine m_ment (q := 100) (r := 43) (e := p.ent) (ka := .u p.t) (va := .i (p.v : Nat)) rfl rfl (by decide) rfl he (wA_born hok.born) rfl rfl ?_
            repeat (first | (refine step_ops ?_; (first | (refine m_mov (by conv => lhs; whnf) ?_) | (refine m_ext rfl rfl ?_))) | refine end_ops ?_ | refine seq_ops ?_)
            (refine step_ops ?_); (apply m_call (setHas_spec p.t c hpt16 (by omega))); (· repeat (first | exact lends_nil | (refine lends_cons ?_ ?_; (· exact lend_v))))
            by_cases hbit : p.t.testBit c = true
            · repeat (first | (refine step_ops ?_; (refine m_not rfl ?_)) | refine end_ops ?_ | (refine cond_f rfl ?_ ?_; (· (simp [*]; done))) | refine norm_block ?_ | refine AW_skip ?_)
              refine next_round (M, ck3, seen.push p.b) ⟨hokM, fun g => ?_⟩ (weak_st ?_ ?_ rfl rfl) (leftW_lt hp hs)
              · rw [hsumM, sumW_seen hok.born hp hs (fun q => q.v * addC (fb row) g q.t c)]
                have : addC (fb row) g p.t c = 0 := by simp [addC, hbit]
                rw [this]
                omega
              · (repeat' (first | exact trivial | refine And.intro ?_ ?_)) <;> (first | rfl | skip)
              · (repeat' (first | exact trivial | refine And.intro ?_ ?_)) <;> (first | rfl | skip)
            · have hbit : p.t.testBit c = false := by simpa using hbit
              have hT := insC_lt hpt hc8
              have hb4 : wv M (insC p.t c) ≤ 1000000000 := by
                have hM1 : wE M (fun _ => 1) ≤ 1000000000 := by
                  rw [hsumM, hsumL, ← sumW_add]
                  refine Nat.le_trans (sumW_mono (h := fun q => q.v * 1 * 20) fun q _ => ?_) ?_
                  · have h5 : sumN c (addC (fb row) (fun _ => 1) q.t) ≤ c * 1 := by
                      rw [← sumN_const]
                      exact sumN_le fun k _ => addC_one _ _ _
                    have h6 : addC (fb row) (fun _ => 1) q.t c ≤ 1 := addC_one _ _ _
                    have h7 : q.v * (1 + sumN c (addC (fb row) (fun _ => 1) q.t)) ≤ q.v * 9 := Nat.mul_le_mul_left _ (by omega)
                    have h8 : (if seen.contains q.b then q.v * addC (fb row) (fun _ => 1) q.t c else 0) ≤ q.v * 1 := by
                      split
                      · exact Nat.mul_le_mul_left _ h6
                      · omega
                    omega
                  · rw [sumW_mul W (fun q => q.v * 1) 20]
                    show wE W (fun _ => 1) * 20 ≤ _
                    omega
                exact Nat.le_trans (wv_le M _) hM1
              repeat (first | (refine step_ops ?_; (first | (refine m_mov (by conv => lhs; whnf) ?_) | (refine m_not rfl ?_))) | refine end_ops ?_ | refine AW_ops ?_ | (refine cond_t rfl ?_ ?_; (· (simp [*]; done))))
              (refine step_ops ?_); (apply m_call (setWith_spec p.t c hpt16 (by omega))); (· repeat (first | exact lends_nil | (refine lends_cons ?_ ?_; (· exact lend_v))))
              refine step_ops ?_
              refine m_wget (T := insC p.t c) hokM rfl rfl rfl ?_
              repeat (refine step_ops ?_; (first | (refine m_mov (by conv => lhs; whnf) ?_) | (refine m_add rfl rfl ?_ ?_ ?_; (· omega); (· omega))))
              refine step_ops ?_
              refine m_wput (r := 102) (T := insC p.t c) (m := p.v) hokM hT rfl rfl rfl ?_ fun M' ck4 hokM' hsumM' => ?_
              · show AV.i _ = AV.i _
                push_cast
                rfl
              repeat (first | refine end_ops ?_ | refine norm_block ?_)
              refine next_round (M', ck4, seen.push p.b) ⟨hokM', fun g => ?_⟩ (weak_st ?_ ?_ rfl rfl) (leftW_lt hp hs)
              · rw [hsumM', hsumM, sumW_seen hok.born hp hs (fun q => q.v * addC (fb row) g q.t c)]
                have : addC (fb row) g p.t c = g (insC p.t c) := by simp [addC, hbit, hf2]
                rw [this]
                omega
              · (repeat' (first | exact trivial | refine And.intro ?_ ?_)) <;> (first | rfl | skip)
              · (repeat' (first | exact trivial | refine And.intro ?_ ?_)) <;> (first | rfl | skip)
        · have hf2 : fb row c = false := by simpa using hf2
          repeat (first | (refine step_ops ?_; (first | (refine m_mov (by conv => lhs; whnf) ?_) | (refine m_add rfl rfl ?_ ?_ ?_; (· omega); (· omega)) | (refine m_not rfl ?_))) | refine end_ops ?_ | refine AW_ops ?_ | (refine cond_t rfl ?_ ?_; (· (simp [*]; done))) | refine norm_then ?_ | refine exit_then ?_ | refine AW_exit ?_ | refine exit_block ?_)
          refine next_round (c + 1, L, ck2) ⟨by omega, hokL, fun g => ?_⟩ (weak_st ?_ ?_ rfl rfl) (by show n - (c + 1) < n - c; omega)
          · rw [hsumL]
            refine sumW_congr fun q _ => ?_
            have : addC (fb row) g q.t c = 0 := by simp [addC, hf2]
            rw [sumN, this]
            rfl
          · (repeat' (first | exact trivial | refine And.intro ?_ ?_)) <;> (first | rfl | skip)
          · (repeat' (first | exact trivial | refine And.intro ?_ ?_)) <;> (first | rfl | skip)
            show some (lfObj fb n (notIn2 l row c)) = some (lfObj fb n (notIn2 l row (c + 1)))
            unfold lfObj
            rw [lfA_congr (E := notIn2 l row (c + 1))]
            rintro ⟨i, j⟩ _ _ hff
            simp only [notIn2]
            by_cases e1 : i = row
            · by_cases e2 : j = c
              · subst e1 e2
                rw [hf2] at hff
                cases hff
              · have : decide (j < c + 1) = decide (j < c) := decide_eq_decide.2 (by omega)
                simp [e1, this]
            · simp [e1]
      · have hce : c = n := by omega
        subst hce
        repeat (first | (refine step_ops ?_; (first | (refine m_mov (by conv => lhs; whnf) ?_) | (refine m_lss rfl rfl ?_))) | refine end_ops ?_ | refine seq_ops ?_ | (refine cond_f rfl ?_ ?_; (· (refine decide_eq_false ?_; omega))) | refine AW_seq ?_ | refine norm_then ?_ | refine exit_then ?_ | refine exit_round ?_ | refine AW_exit ?_ | refine exit_block ?_)
        refine AW_goto ?_
        have hnd' : (l ++ [row]).Nodup := by
          rw [List.nodup_append]
          exact ⟨hnd, by simp, fun a ha b hb e => hrl' (by simp at hb; rw [← hb, ← e]; exact ha)⟩
        have hlt' : ∀ r ∈ l ++ [row], r < c := fun r hr' => by
          rcases List.mem_append.1 hr' with h | h
          · exact hlt r h
          · simp at h; omega
        have hlen' := nodup_len hnd' hlt'
        have hinv : RkInv fb c (l ++ [row]) L ck2 := ⟨hnd', hlt', hokL, fun g => by
          rw [rowsR_snoc, ← hsum, hsumL]
          rfl⟩
        refine goto_block (goto_round (goto_block (goto_then ?_)))
        refine goto_jump (l ++ [row], L, ck2) hinv (weak_stN (fNm 100 102) [1, 100, 101] rfl (by decide) (by decide) ?_ ?_ rfl rfl) ?_
        · (repeat' (first | exact trivial | refine And.intro ?_ ?_)) <;> (first | rfl | skip)
        · (repeat' (first | exact trivial | refine And.intro ?_ ?_)) <;> (first | rfl | skip)
          show some (lfObj fb c (notIn2 l row c)) = some (lfObj fb c (notIn (l ++ [row])))
          unfold lfObj
          rw [lfA_congr (E := notIn (l ++ [row]))]
          rintro ⟨i, j⟩ _ hj _
          dsimp only at hj
          simp only [notIn2, notIn, List.contains_append, Bool.not_or]
          congr 1
          by_cases e1 : i = row
          · simp [e1, hj]
          · simp [e1]
        · intro m hm
          cases hm
          show c - (l ++ [row]).length < c - l.length
          rw [List.length_append, List.length_singleton] at hlen' ⊢
          omega
  · intro pass
    repeat (first | (refine step_ops ?_; (refine m_mmk ?_)) | refine seq_ops ?_)
    refine step_ops ?_
    refine m_mput rfl rfl rfl rfl (by simp) (by simp) fun _ => ?_
    repeat (first | (refine step_ops ?_; (first | (refine m_mov (by conv => lhs; whnf) ?_) | (apply m_ld_pt; (· rfl); (· rfl); (· rfl)) | (refine m_fa rfl ?_))) | refine end_ops ?_ | refine seq_ops ?_)
    refine step_ops ?_
    refine m_clone 101 (clonePlaces_spec (mkEs (posP fb n n)) (posP fb n n).length) (.inr ⟨false, rfl⟩) rfl (by decide) ?_
    repeat (first | (refine step_ops ?_; (refine m_mov (by conv => lhs; whnf) ?_)) | refine end_ops ?_ | refine AW_seq ?_)
    refine AW_label ?_
    refine norm_then ?_
    refine AW_weak (weak_stN (fNm 100 14) [1, 100, 101] rfl (by decide) (by decide) ?_ ?_ rfl rfl) (pass ([], [⟨0, 1, 0⟩], 1) ⟨by simp, by simp, ways_one n, fun g => by simp [wE, sumW, rowsR]⟩)
    · (repeat' (first | exact trivial | refine And.intro ?_ ?_)) <;> (first | rfl | skip)
    · (repeat' (first | exact trivial | refine And.intro ?_ ?_)) <;> (first | rfl | skip)
      show some (true, [AV.ob (.map (mkEs (posP fb n n)) _)]) = some (lfObj fb n (notIn []))
      rw [← lfA_all]
      rfl
end Go.Proofs.YtmifianbkpiifaaDoor
namespace Go.Am
variable [Go.Am.CodeBlk]
/-- A list by its numbers. -/
def rgL (n : Nat) (f : Nat → Nat) : List Int := (List.range (n + 1)).map fun k => ((f k : Nat) : Int)
theorem rgL_len (n : Nat) (f : Nat → Nat) : (rgL n f).length = n + 1 := by simp [rgL]
theorem rgL_get {n k : Nat} (f : Nat → Nat) (h : k < n + 1) : (rgL n f).getD k 0 = (f k : Int) := by simp [rgL, h]
theorem rgL_congr {n : Nat} {f g : Nat → Nat} (h : ∀ k, k < n + 1 → f k = g k) : rgL n f = rgL n g := by
  refine List.map_congr_left fun k hk => ?_
  rw [h k (List.mem_range.1 hk)]
theorem rgL_zero (n : Nat) : List.replicate (n + 1) 0 = rgL n fun _ => 0 := by
  unfold rgL
  symm
  rw [List.eq_replicate_iff]
  refine ⟨by simp, fun b hb => ?_⟩
  obtain ⟨k, _, rfl⟩ := List.mem_map.1 hb
  rfl
theorem zerosL (n : Nat) : (List.replicate (n + 1) (List.map AV.v [Value.int .i64 0])).flatten = (rgL n fun _ => 0).map AV.i := by
  rw [← rgL_zero]
  generalize n + 1 = k
  induction k with
  | zero => rfl
  | succ k ih => rw [List.replicate_succ, List.flatten_cons, ih]; rfl
theorem m_mk0 {P : Program} {own : Bool} {s : AS} {K : AS → Prop} {x y : Opd} {r bs n : Nat} (hx : s.ev x = .i ((n + 1 : Nat) : Int)) (hy : s.ev y = .i ((n + 1 : Nat) : Int)) (h1 : (bs : Int) * ((n + 1 : Nat) : Int) ≤ 281474976710656) (h2 : ((n + 1 : Nat) : Int) ≤ 9223372036854775807)
    (k : K (((s.kill r).mem r (true, (rgL n fun _ => 0).map AV.i)).put (some r) (.sl r 1 0 (n + 1)))) : aop1 P own ⟨some r, .mk 1 bs [.int .i64 0] x y, none⟩ s K := by
  refine m_mk hx hy h1 h2 ?_
  rw [zerosL]
  exact k
end Go.Am
namespace Go.Proofs.YtmifianbkpiifaaDoor
variable [Go.Am.CodeBlk]
open Go.Am
attribute [local irreducible] AW Outs Weak Lends Lend Sp aops atree aop1 Then Round InBlock Done
attribute [local irreducible] SpH SpX DoneH DoneX
def rgR (n : Nat) (f : Nat → Nat) : AV := .ro true 1 ((rgL n f).map AV.i) (n + 1)
theorem rkG_le9 {B : List UInt8} (h : GoodBd B) {m : Nat} (hm : m ≤ 8) (S k : Nat) : rkG (fbB B) (sdB B) m S k ≤ 43046721 := by
  have hsd := good_sd h
  exact Nat.le_trans (rkG_le m S k) (Nat.le_trans (Nat.pow_le_pow_left (by omega : sdB B + 1 ≤ 9) _) (Nat.le_trans (Nat.pow_le_pow_right (by omega) hm) (by decide)))
end Go.Proofs.YtmifianbkpiifaaDoor
namespace Go.Proofs.YtmifianbkpiifaaDoor
variable [Go.Am.CodeBlk]
open Go.Am
attribute [local irreducible] AW Outs Weak Lends Lend Sp aops atree aop1 Then Round InBlock Done
attribute [local irreducible] SpH SpX DoneH DoneX
theorem rgR_new (n : Nat) (f : Nat → Nat) : rgR n f = newInts (rgL n f) := by
  unfold rgR newInts
  rw [rgL_len]
/-- The numbers of rooks of a text. -/
def rksB (B : List UInt8) : List Int := if GoodBd B then rgL (sdB B) (rkN (fbB B) (sdB B)) else []
def rksR (B : List UInt8) : AV := .tup [newInts (rksB B), .b (decide (GoodBd B))]
theorem rookNew_spec (B : List UInt8) (h : GoodBd B) : Sp Tryd.prog 35 [.agg [.i (sdB B : Nat), .rmp false (mkEs (plB B)) (plB B).length]] (newInts (rgL (sdB B) (rkN (fbB B) (sdB B)))) := by
  rw [← rgR_new]
  exact rookNumbers_spec (fbB B) (sdB B) (good_sd h).1 (good_sd h).2
theorem implRookNumbers_spec (B : List UInt8) (hB : B.length ≤ 1048576) : Sp Tryd.prog 11 [str B] (rksR B) := by
  have hr := readBoard_spec B hB
  unfold bdR bdV at hr
  unfold rksR rksB
  refine spec_of Tryd.func11 rfl cc11 rfl ?_
  unfold ac11
  by_cases h : GoodBd B
  · rw [if_pos h] at hr
    have hk := rookNew_spec B h
    rw [if_pos h]
    repeat (first | (refine step_ops ?_; (first | (refine m_mov (by conv => lhs; whnf) ?_) | (refine m_nils ?_))) | refine end_ops ?_ | refine seq_ops ?_)
    (refine step_ops ?_); (apply m_call (hr)); (· repeat (first | exact lends_nil | (refine lends_cons ?_ ?_; (· exact lend_v))))
    repeat (first | (refine step_ops ?_; (first | (refine m_mov (by conv => lhs; whnf) ?_) | (refine m_not rfl ?_) | (refine m_ext rfl rfl ?_) | (refine m_alloc ?_) | (refine m_ldall rfl rfl ?_ ?_; (· first | rfl | (simp; done) | (simp [*]; done))) | (refine m_stall rfl rfl rfl ?_ ?_ ?_ ?_; (· first | rfl | (simp [*]; done)); (· first | rfl | (simp [*]; done)); (· first | rfl | (simp [cellOk, Value.oneCell']; done))))) | refine end_ops ?_ | refine seq_ops ?_ | (refine cond_f rfl ?_ ?_; (· (refine nf ?_; assumption))) | refine skip_then ?_ | refine AW_seq ?_)
    refine step_ops ?_
    refine m_callo hk (lends_cons (lend_aggM rfl) lends_nil) (allv_ints _) ?_
    repeat (first | (refine step_ops ?_; (refine m_mov (by conv => lhs; whnf) ?_)) | refine end_ops ?_ | refine AW_ret ?_ | refine ret_done ?_)
    exact outs_tup2 (outs_ints rfl rfl rfl) (outs_b (by simp [h]))
  · rw [if_neg h] at hr
    rw [if_neg h]
    repeat (first | (refine step_ops ?_; (first | (refine m_mov (by conv => lhs; whnf) ?_) | (refine m_nils ?_))) | refine end_ops ?_ | refine seq_ops ?_)
    (refine step_ops ?_); (apply m_call (hr)); (· repeat (first | exact lends_nil | (refine lends_cons ?_ ?_; (· exact lend_v))))
    repeat (first | (refine step_ops ?_; (first | (refine m_mov (by conv => lhs; whnf) ?_) | (refine m_not rfl ?_) | (refine m_nils ?_) | (refine m_ext rfl rfl ?_) | (refine m_alloc ?_) | (refine m_stall rfl rfl rfl ?_ ?_ ?_ ?_; (· first | rfl | (simp [*]; done)); (· first | rfl | (simp [*]; done)); (· first | rfl | (simp [cellOk, Value.oneCell']; done))))) | refine end_ops ?_ | refine seq_ops ?_ | (refine cond_t rfl ?_ ?_; (· (refine nt ?_; assumption))) | refine AW_seq ?_ | refine AW_ret ?_ | refine ret_done ?_ | refine ret_then ?_)
    exact outs_tup2 (outs_ints rfl rfl rfl) (outs_b (by simp [h]))
end Go.Proofs.YtmifianbkpiifaaDoor
namespace Go.Am
variable [Go.Am.CodeBlk]
def fac : Nat → Int
  | 0 => 1
  | n + 1 => fac n * (n + 1)
theorem fac_le : ∀ n < 13, 1 ≤ fac n ∧ fac n ≤ 479001600 := by decide +kernel
/-- The two last numbers of exchanges without own coats. -/
def nn : Nat → Int × Int
  | 0 => (1, 0)
  | j + 1 => ((nn j).2, ((j : Int) + 2 - 1) * ((nn j).1 + (nn j).2))
def noneN (n : Nat) : Int := if n = 0 then 1 else (nn (n - 1)).2
def facs (g : Nat) : List Int := (List.range (g + 1)).map fac
/-- A row behind j steps from above. -/
def apIn (w : List Int) (g : Nat) : Nat → List Int
  | 0 => w
  | j + 1 => (apIn w g j).set (g - j) ((apIn w g j).getD (g - j) 0 - (apIn w g j).getD (g - j - 1) 0)
def apOut (g : Nat) : Nat → List Int
  | 0 => facs g
  | s + 1 => apIn (apOut g s) g g
theorem apIn_len (w : List Int) (g j : Nat) : (apIn w g j).length = w.length := by
  induction j with
  | zero => rfl
  | succ j ih => rw [apIn, List.length_set, ih]
theorem apOut_len (g s : Nat) : (apOut g s).length = g + 1 := by
  induction s with
  | zero => simp [apOut, facs]
  | succ s ih => rw [apOut, apIn_len, ih]
theorem getD_set (l : List Int) (n i : Nat) (a : Int) (h : n < l.length) : (l.set n a).getD i 0 = if i = n then a else l.getD i 0 := by
  rw [List.getD_eq_getElem?_getD, List.getD_eq_getElem?_getD, List.getElem?_set]
  by_cases e : n = i
  · subst e; simp [h]
  · have e' : ¬ i = n := fun h => e h.symm
    simp [e, e']
theorem apIn_get (w : List Int) (g j : Nat) (hj : j ≤ g) (hl : w.length = g + 1) (i : Nat) : (apIn w g j).getD i 0 = if g - j < i ∧ i ≤ g then w.getD i 0 - w.getD (i - 1) 0 else w.getD i 0 := by
  induction j generalizing i with
  | zero => rw [apIn, if_neg (by omega)]
  | succ j ih =>
    rw [apIn, getD_set _ _ _ _ (by rw [apIn_len]; omega), ih (by omega), ih (by omega), ih (by omega)]
    by_cases e : i = g - j
    · subst e
      rw [if_pos rfl, if_neg (by omega), if_neg (by omega), if_pos (by omega)]
    · rw [if_neg e]
      by_cases c : g - j < i ∧ i ≤ g
      · rw [if_pos c, if_pos (by omega)]
      · rw [if_neg c, if_neg (by omega)]
def Bound (w : List Int) (B : Int) : Prop := ∀ i, -B ≤ w.getD i 0 ∧ w.getD i 0 ≤ B
theorem apIn_bound {w : List Int} {g j : Nat} {B : Int} (_hB : 0 ≤ B) (hj : j ≤ g) (hl : w.length = g + 1) (h : Bound w B) : Bound (apIn w g j) (2 * B) := by
  intro i
  rw [apIn_get w g j hj hl]
  have h1 := h i
  have h2 := h (i - 1)
  split <;> omega
theorem facs_bound (g : Nat) (hg : g ≤ 12) : Bound (facs g) 479001600 := by
  intro i
  by_cases h : i < g + 1
  · have := fac_le i (by omega)
    have e : (facs g).getD i 0 = fac i := by simp [facs, h]
    rw [e]; omega
  · have e : (facs g).getD i 0 = 0 := by simp [facs, h]
    rw [e]; omega
def cap : Nat → Int
  | 0 => 479001600
  | s + 1 => 2 * cap s
theorem cap_le : ∀ s < 14, 0 ≤ cap s ∧ cap s ≤ 10000000000000 := by decide +kernel
theorem apOut_bound (g s : Nat) (hg : g ≤ 12) (hs : s ≤ 13) : Bound (apOut g s) (cap s) := by
  induction s with
  | zero => exact facs_bound g hg
  | succ s ih => exact apIn_bound (cap_le s (by omega)).1 (Nat.le_refl _) (apOut_len g s) (ih (by omega))
/-- The row asx it is filled. -/
def facW (g k : Nat) : List Int := (List.range k).map fac ++ List.replicate (g + 1 - k) 0
theorem facW_len (g k : Nat) (h : k ≤ g + 1) : (facW g k).length = g + 1 := by simp [facW]; omega
theorem facW_set (g k : Nat) (h : k < g + 1) : (facW g k).set k (fac k) = facW g (k + 1) := by
  unfold facW
  have e : g + 1 - k = (g + 1 - (k + 1)) + 1 := by omega
  rw [List.range_succ, List.map_append, e, List.replicate_succ, List.set_append_right _ _ (by simp)]
  simp
end Go.Am
namespace Go.Proofs.YtmifianbkpiifaaDoor
variable [Go.Am.CodeBlk]
open Go.Am
attribute [local irreducible] AW Outs Weak Lends Lend Sp aops atree aop1 Then Round InBlock Done
theorem factorial_spec (n : Nat) (h : n ≤ 12) : Sp Tryd.prog 55 [.i n] (.i (fac n)) := by
  refine spec_of Tryd.func55 rfl cc55 rfl ?_
  unfold ac55
  repeat (first | (refine step_ops ?_; (refine m_mov (by conv => lhs; whnf) ?_)) | refine end_ops ?_ | refine seq_ops ?_ | refine AW_seq ?_ | refine AW_block ?_)
  refine AW_loop (α := Nat) (fun j => j + 1 ≤ n ∨ j = 0) (fun j => st [(0, .i n), (3, .i (fac (j + 1))), (4, .i ((j : Int) + 2))] []) (fun j => n - j) 0 (.inr rfl) (weak_st ?_ ?_ rfl rfl) ?_
  · (repeat' (first | exact trivial | refine And.intro ?_ ?_)) <;> (first | rfl | skip)
  · trivial
  intro j hj
  by_cases hc : (j : Int) + 2 ≤ n
  · have hb := fac_le (j + 2) (by omega)
    have e : fac (j + 2) = fac (j + 1) * ((j : Int) + 2) := rfl
    rw [e] at hb
    repeat (first | (refine step_ops ?_; (first | (refine m_mov (by conv => lhs; whnf) ?_) | (refine m_leq rfl rfl ?_) | (refine m_add rfl rfl ?_ ?_ ?_; (· omega); (· omega)) | (refine m_mul rfl rfl ?_ ?_ ?_; (· first | omega | (simp; done)); (· first | omega | (simp; done))))) | refine end_ops ?_ | refine seq_ops ?_ | refine AW_ops ?_ | (refine cond_t rfl ?_ ?_; (· (refine decide_eq_true ?_; assumption))) | refine skip_then ?_ | refine AW_seq ?_ | refine norm_then ?_ | refine AW_block ?_ | refine norm_block ?_)
    refine next_round (j + 1) (by omega) (weak_st ?_ ?_ rfl rfl) ?_
    · (repeat' (first | exact trivial | refine And.intro ?_ ?_)) <;> (first | rfl | skip)
    · trivial
    · omega
  · repeat (first | (refine step_ops ?_; (first | (refine m_mov (by conv => lhs; whnf) ?_) | (refine m_leq rfl rfl ?_))) | refine end_ops ?_ | refine seq_ops ?_ | (refine cond_f rfl ?_ ?_; (· (refine decide_eq_false ?_; assumption))) | refine AW_seq ?_ | refine AW_ret ?_ | refine ret_done ?_ | refine norm_then ?_ | refine exit_then ?_ | refine exit_round ?_ | refine AW_exit ?_ | refine exit_block ?_)
    refine outs_i ?_
    rcases hj with hj | rfl
    · have : j + 1 = n := by omega
      rw [this]
    · have : n = 0 ∨ n = 1 := by omega
      rcases this with rfl | rfl <;> rfl
theorem countApart_spec (g h : Nat) (hg : g ≤ 12) (hh : h ≤ 12) : Sp Tryd.prog 47 [.i g, .i h] (.i ((apOut g h).getD g 0)) := by
  refine spec_of Tryd.func47 rfl cc47 rfl ?_
  unfold ac47
  repeat (first | (refine step_ops ?_; (first | (refine m_mov (by conv => lhs; whnf) ?_) | (refine m_add rfl rfl ?_ ?_ ?_; (· omega); (· omega)))) | refine end_ops ?_ | refine seq_ops ?_)
  refine step_ops ?_
  refine m_mk (n := g + 1) rfl rfl ?_ ?_ ?_
  · omega
  · omega
  repeat (first | (refine step_ops ?_; (first | (refine m_mov (by conv => lhs; whnf) ?_) | (refine m_len_sl rfl ?_))) | refine end_ops ?_ | refine seq_ops ?_ | refine AW_seq ?_ | refine AW_block ?_)
  refine AW_loop (α := Nat) (fun k => k ≤ g + 1) (fun k => st [(0, .i g), (1, .i h), (5, .sl 10 1 0 (g + 1)), (12, .i (g + 1 : Nat)), (13, .i k)] [(10, (true, (facW g k).map AV.i))]) (fun k => g + 1 - k) 0 (by omega) (weak_st ?_ ?_ rfl rfl) ?_
  · (repeat' (first | exact trivial | refine And.intro ?_ ?_)) <;> (first | rfl | skip)
  · refine ⟨?_, trivial⟩
    show some (true, (List.replicate (g + 1) (List.map AV.v [Value.int IntKind.i64 0])).flatten) = _
    simp [facW]
  · intro k hk
    have hl := facW_len g k hk
    by_cases hc : k < g + 1
    · repeat (first | (refine step_ops ?_; (first | (refine m_mov (by conv => lhs; whnf) ?_) | (refine m_lss rfl rfl ?_))) | refine end_ops ?_ | refine seq_ops ?_ | refine AW_ops ?_ | (refine cond_t rfl ?_ ?_; (· (refine decide_eq_true ?_; omega))) | refine skip_then ?_ | refine AW_seq ?_ | refine AW_block ?_)
      refine step_ops ?_; (apply m_call (factorial_spec k (by omega))); (· repeat (first | exact lends_nil | (refine lends_cons ?_ ?_; (· exact lend_v))))
      repeat (first | (refine step_ops ?_; (first | (refine m_mov (by conv => lhs; whnf) ?_) | (refine m_add rfl rfl ?_ ?_ ?_; (· omega); (· omega)) | (refine m_idx1_sl rfl rfl ?_ ?_; (· omega)) | (apply m_st; (· rfl); (· rfl); (· rfl); (· first | omega | (simp; done) | (simp; omega)); (· rfl)))) | refine end_ops ?_ | refine AW_ops ?_ | refine norm_then ?_ | refine norm_block ?_)
      refine next_round (k + 1) (by omega) (weak_st ?_ ?_ rfl rfl) ?_
      · (repeat' (first | exact trivial | refine And.intro ?_ ?_)) <;> (first | rfl | skip)
      · refine ⟨?_, trivial⟩
        show some (true, ((facW g k).map AV.i).set k (AV.i (fac k))) = _
        rw [← facW_set g k hc, List.map_set]
      · omega
    · repeat (first | (refine step_ops ?_; (first | (refine m_mov (by conv => lhs; whnf) ?_) | (refine m_lss rfl rfl ?_))) | refine end_ops ?_ | refine seq_ops ?_ | (refine cond_f rfl ?_ ?_; (· (refine decide_eq_false ?_; omega))) | refine AW_seq ?_ | refine norm_then ?_ | refine exit_then ?_ | refine AW_block ?_ | refine exit_round ?_ | refine AW_exit ?_ | refine exit_block ?_)
      obtain rfl : k = g + 1 := by omega
      refine AW_loop (α := Nat) (fun s => s ≤ h) (fun s => st [(0, .i g), (5, .sl 10 1 0 (g + 1)), (22, .i h), (23, .i s)] [(10, (true, (apOut g s).map AV.i))]) (fun s => h - s) 0 (by omega) (weak_st ?_ ?_ rfl rfl) ?_
      · (repeat' (first | exact trivial | refine And.intro ?_ ?_)) <;> (first | rfl | skip)
      · refine ⟨?_, trivial⟩
        show some (true, (facW g (g + 1)).map AV.i) = _
        simp [facW, apOut, facs]
      intro s hs
      have hlo := apOut_len g s
      by_cases hc : s < h
      · repeat (first | (refine step_ops ?_; (first | (refine m_mov (by conv => lhs; whnf) ?_) | (refine m_lss rfl rfl ?_))) | refine end_ops ?_ | refine seq_ops ?_ | (refine cond_t rfl ?_ ?_; (· (refine decide_eq_true ?_; omega))) | refine skip_then ?_ | refine AW_seq ?_ | refine AW_block ?_)
        refine AW_loop (α := Nat) (fun j => j ≤ g) (fun j => st [(0, .i g), (5, .sl 10 1 0 (g + 1)), (22, .i h), (23, .i s), (7, .i (g - j : Nat))] [(10, (true, (apIn (apOut g s) g j).map AV.i))]) (fun j => g - j) 0 (by omega) (weak_st ?_ ?_ rfl rfl) ?_
        · (repeat' (first | exact trivial | refine And.intro ?_ ?_)) <;> (first | rfl | skip)
        · exact ⟨rfl, trivial⟩
        intro j hj
        have hli := apIn_len (apOut g s) g j
        have hb := apIn_bound (cap_le s (by omega)).1 hj hlo (apOut_bound g s hg (by omega))
        have hcs := cap_le s (by omega)
        have hb1 := hb (g - j)
        have hb2 := hb (g - j - 1)
        by_cases hd : 0 < ((g - j : Nat) : Int)
        · have hm1 : ((g - j : Nat) : Int) - 1 = ((g - j - 1 : Nat) : Int) := by omega
          repeat (first | ((first | refine step_ops ?_ | refine step_tree ?_); (first | (refine m_mov (by conv => lhs; whnf) ?_) | (refine m_gtr rfl rfl ?_) | (refine m_sub rfl rfl ?_ ?_ ?_; (· omega); (· omega)) | (refine m_idx1_sl rfl rfl ?_ ?_; (· omega)) | (apply m_idx1_slj; (· rfl); (· rfl); (· assumption); (· omega)) | (refine m_ld_pti rfl (by rfl) ?_ ?_; (· first | omega | (simp; omega))) | (apply m_st; (· rfl); (· rfl); (· rfl); (· first | omega | (simp; done) | (simp; omega)); (· rfl)))) | refine end_ops ?_ | refine seq_ops ?_ | refine AW_ops ?_ | refine end_tree ?_ | refine AW_tree ?_ | (refine cond_t rfl ?_ ?_; (· (refine decide_eq_true ?_; assumption))) | refine skip_then ?_ | refine AW_seq ?_ | refine norm_then ?_ | refine AW_block ?_ | refine norm_block ?_)
          refine next_round (j + 1) (by omega) (weak_st ?_ ?_ rfl rfl) ?_
          · refine ⟨rfl, rfl, rfl, rfl, ?_, trivial⟩
            show AV.i (((g - j : Nat) : Int) - 1) = AV.i ((g - (j + 1) : Nat) : Int)
            rw [hm1]; rfl
          · refine ⟨?_, trivial⟩
            show some (true, ((apIn (apOut g s) g j).map AV.i).set (g - j) (AV.i _)) = _
            rw [apIn, List.map_set]
          · omega
        · repeat (first | (refine step_ops ?_; (first | (refine m_mov (by conv => lhs; whnf) ?_) | (refine m_gtr rfl rfl ?_) | (refine m_add rfl rfl ?_ ?_ ?_; (· omega); (· omega)))) | refine end_ops ?_ | refine seq_ops ?_ | refine AW_ops ?_ | (refine cond_f rfl ?_ ?_; (· (refine decide_eq_false ?_; assumption))) | refine AW_seq ?_ | refine norm_then ?_ | refine exit_then ?_ | refine norm_block ?_ | refine exit_round ?_ | refine AW_exit ?_ | refine exit_block ?_)
          have : j = g := by omega
          subst this
          refine next_round (s + 1) (by omega) (weak_st ?_ ?_ rfl rfl) ?_
          · (repeat' (first | exact trivial | refine And.intro ?_ ?_)) <;> (first | rfl | skip)
          · exact ⟨rfl, trivial⟩
          · omega
      · obtain rfl : s = h := by omega
        repeat (first | (refine step_ops ?_; (first | (refine m_mov (by conv => lhs; whnf) ?_) | (refine m_lss rfl rfl ?_) | (refine m_idx1_sl rfl rfl ?_ ?_; (· omega)) | (refine m_ld_pti rfl (by rfl) ?_ ?_; (· first | omega | (simp; omega))))) | refine end_ops ?_ | refine seq_ops ?_ | (refine cond_f rfl ?_ ?_; (· (refine decide_eq_false ?_; omega))) | refine AW_seq ?_ | refine AW_ret ?_ | refine ret_done ?_ | refine norm_then ?_ | refine exit_then ?_ | refine exit_round ?_ | refine AW_exit ?_ | refine exit_block ?_)
        exact outs_i rfl
end Go.Proofs.YtmifianbkpiifaaDoor
namespace Go.Proofs.YtmifianbkpiifaaDoor
variable [Go.Am.CodeBlk]
open Go.Am
attribute [local irreducible] AW Outs Weak Lends Lend Sp aops atree aop1 Then Round InBlock Done
theorem slicesClone_spec (L : List Int) (hL : L.length ≤ 1048576) (h1 : 1 ≤ L.length) : Sp Tryd.prog 62 [ints L] (newInts L) := by
  refine spec_of Tryd.func62 rfl cc62 rfl ?_
  unfold ac62
  repeat (first | (refine step_ops ?_; (first | (refine m_mov (by conv => lhs; whnf) ?_) | (refine m_isnil_ro rfl ?_ ?_; (· omega)) | (refine m_nils ?_) | (refine m_bsl0 ?_) | (refine m_appro rfl (by decide) rfl (by first | rfl | (simp; done) | (simp [*]; done) | (simp; omega)) rfl (oks_ints _) ?_ (by decide) ?_; (· first | omega | (simp; omega))))) | refine end_ops ?_ | refine seq_ops ?_ | (refine cond_f rfl ?_ ?_; (· rfl)) | refine skip_then ?_ | refine AW_seq ?_ | refine AW_ret ?_ | refine ret_done ?_)
  exact outs_ints rfl rfl (Nat.zero_add _)
end Go.Proofs.YtmifianbkpiifaaDoor
namespace Go.Am
variable [Go.Am.CodeBlk]
/-- What the machine makes of a number that is too large. -/
def w64 (x : Int) : Int := IntKind.i64.wrap x
section
variable {P : Program} {own : Bool} {s : AS} {K : AS → Prop} {d : Option Nat} {x y : Opd} {a b : Int}
theorem m_subw (hx : s.ev x = .i a) (hy : s.ev y = .i b) (k : K (s.put d (.i (w64 (a - b))))) : aop1 P own ⟨d, .bin .sub x y, none⟩ s K := ⟨_, _, _, hx, hy, rfl, k⟩
theorem m_mulw (hx : s.ev x = .i a) (hy : s.ev y = .i b) (k : K (s.put d (.i (w64 (a * b))))) : aop1 P own ⟨d, .bin .mul x y, none⟩ s K := ⟨_, _, _, hx, hy, rfl, k⟩
end
/-- Choices of k of n; behind j steps. -/
def chy (n k : Nat) : Nat → Int
  | 0 => 1
  | j + 1 => chy n k j * ((n : Int) - k + ((j : Int) + 1)) / ((j : Int) + 1)
theorem chy_bin : ∀ n < 9, ∀ k < n + 1, chy n k k = fac n / (fac k * fac (n - k)) ∧ (1 ≤ fac k * fac (n - k) ∧ fac k * fac (n - k) ≤ 40320) ∧ 1 ≤ fac n ∧ fac n ≤ 40320 := by decide +kernel
/-- What is left of those chosen behind j steps: of k, with the numbers of those that have more. -/
def hF (c : Int) (k : Nat) (rest : List Int) : Nat → Int
  | 0 => c
  | j + 1 => w64 (hF c k rest j - w64 (chy (k + 1 + j) k k * rest.getD j 0))
/-- The last numbers of hits. -/
def hL (C : Nat → Int) (n : Nat) : Nat → List Int
  | 0 => []
  | d + 1 => hF (C (n - d)) (n - d) (hL C n d) d :: hL C n d
theorem hL_len (C : Nat → Int) (n : Nat) : ∀ d, (hL C n d).length = d
  | 0 => rfl
  | d + 1 => by rw [hL, List.length_cons, hL_len C n d]
/-- What is chosen. -/
def chC (f : Nat → Nat) (n k : Nat) : Int := (f k : Int) * fac (n - k)
def chL (f : Nat → Nat) (n k : Nat) : List Int := (List.range k).map fun i => chC f n i
theorem chL_len (f : Nat → Nat) (n k : Nat) : (chL f n k).length = k := by simp [chL]
theorem chC_le {f : Nat → Nat} {n k : Nat} (hf : f k ≤ 43046721) (hn : n ≤ 8) : 0 ≤ chC f n k ∧ chC f n k ≤ 43046721 * 479001600 := by
  have h1 := fac_le (n - k) (by omega)
  unfold chC
  exact ⟨Int.mul_nonneg (by omega) (by omega), Int.mul_le_mul (by omega) h1.2 (by omega) (by omega)⟩
end Go.Am
namespace Go.Proofs.YtmifianbkpiifaaDoor
variable [Go.Am.CodeBlk]
open Go.Am
attribute [local irreducible] AW Outs Weak Lends Lend Sp aops atree aop1 Then Round InBlock Done
attribute [local irreducible] SpH SpX DoneH DoneX
theorem countChoicesY_spec (n k : Nat) (hn : n ≤ 8) (hk : k ≤ n) : Sp Tryd.prog 63 [.i n, .i k] (.i (chy n k k)) := by
  have hb := chy_bin n (by omega) k (by omega)
  rw [hb.1]
  refine spec_of Tryd.func63 rfl cc63 rfl ?_
  unfold ac63
  repeat (first | (refine step_ops ?_; (refine m_mov (by conv => lhs; whnf) ?_)) | refine end_ops ?_ | refine seq_ops ?_)
  (refine step_ops ?_); (apply m_call (factorial_spec n (by omega))); (· repeat (first | exact lends_nil | (refine lends_cons ?_ ?_; (· exact lend_v))))
  repeat (refine step_ops ?_; (refine m_mov (by conv => lhs; whnf) ?_))
  (refine step_ops ?_); (apply m_call (factorial_spec k (by omega))); (· repeat (first | exact lends_nil | (refine lends_cons ?_ ?_; (· exact lend_v))))
  repeat (refine step_ops ?_; (first | (refine m_mov (by conv => lhs; whnf) ?_) | (refine m_sub rfl rfl ?_ ?_ ?_; (· omega); (· omega))))
  rw [show (n : Int) - (k : Int) = ((n - k : Nat) : Int) by omega]
  (refine step_ops ?_); (apply m_call (factorial_spec (n - k) (by omega))); (· repeat (first | exact lends_nil | (refine lends_cons ?_ ?_; (· exact lend_v))))
  repeat (first | (refine step_ops ?_; (first | (refine m_mov (by conv => lhs; whnf) ?_) | (refine m_mul rfl rfl ?_ ?_ ?_; (· first | omega | (simp; done)); (· first | omega | (simp; done))) | (refine m_quo rfl rfl ?_ ?_ ?_ ?_; (· omega); (· omega); (· omega)))) | refine end_ops ?_ | refine AW_ret ?_ | refine ret_done ?_)
  exact outs_i rfl
theorem justSoManyY_spec (f : Nat → Nat) (n : Nat) (h1 : 1 ≤ n) (h8 : n ≤ 8) : Sp Tryd.prog 56 [ints (chL f n (n + 1))] (newInts (hL (chC f n) n (n + 1))) := by
  have hcl := chL_len f n (n + 1)
  refine spec_of Tryd.func56 rfl cc56 rfl ?_
  unfold ac56
  repeat (first | (refine step_ops ?_; (first | (refine m_mov (by conv => lhs; whnf) ?_) | (refine m_nils ?_))) | refine end_ops ?_ | refine seq_ops ?_)
  refine step_ops ?_; (apply m_callo (slicesClone_spec (chL f n (n + 1)) (by omega) (by omega))); (· repeat (first | exact lends_nil | (refine lends_cons ?_ ?_; (· (refine lend_ints ?_; first | rfl | omega))))); (· first | exact allv_ints _ | rfl | (simp; done))
  repeat (first | (refine step_ops ?_; (first | (refine m_mov (by conv => lhs; whnf) ?_) | (refine m_sub rfl rfl ?_ ?_ ?_; (· omega); (· omega)) | (refine m_len_sl rfl ?_))) | refine end_ops ?_ | refine seq_ops ?_ | refine AW_seq ?_ | refine AW_block ?_)
  refine AW_loop (α := Nat) (fun d => d ≤ n + 1) (fun d => st [(3, .sl 7 1 0 (n + 1)), (4, .i (((n + 1 - d : Nat) : Int) - 1))] [(7, (true, (chL f n (n + 1 - d) ++ hL (chC f n) n d).map AV.i))]) (fun d => n + 1 - d) 0 (by omega) (weak_st ?_ ?_ rfl rfl) ?_
  · (repeat' (first | exact trivial | refine And.intro ?_ ?_)) <;> (first | rfl | skip)
    · show AV.sl 7 1 0 (chL f n (n + 1)).length = _
      rw [hcl]
    · show AV.i (((chL f n (n + 1)).length : Nat) - 1 : Int) = _
      rw [hcl]
      rfl
  · (repeat' (first | exact trivial | refine And.intro ?_ ?_)) <;> (first | rfl | skip)
    show some (true, List.map AV.i (chL f n (n + 1))) = some (true, List.map AV.i (chL f n (n + 1) ++ []))
    rw [List.append_nil]
  intro d hd
  have hll := hL_len (chC f n) n d
  by_cases hc : d < n + 1
  · obtain ⟨k, hk⟩ : ∃ k, n - d = k := ⟨_, rfl⟩
    have hkd : n + 1 - d = k + 1 := by omega
    have hcs : chL f n (k + 1) = chL f n k ++ [chC f n k] := by simp [chL, List.range_succ]
    rw [hkd, show ((k + 1 : Nat) : Int) - 1 = (k : Int) by omega, hcs, List.append_assoc, List.singleton_append]
    have hlk := chL_len f n k
    repeat (first | (refine step_ops ?_; (first | (refine m_mov (by conv => lhs; whnf) ?_) | (refine m_geq rfl rfl ?_) | (refine m_add rfl rfl ?_ ?_ ?_; (· omega); (· omega)))) | refine end_ops ?_ | refine seq_ops ?_ | (refine cond_t rfl ?_ ?_; (· rfl)) | refine skip_then ?_ | refine AW_seq ?_ | refine AW_block ?_)
    refine AW_loop (α := Nat) (fun j => j ≤ d) (fun j => st [(3, .sl 7 1 0 (n + 1)), (4, .i k), (5, .i ((k + 1 + j : Nat) : Int))] [(7, (true, (chL f n k ++ hF (chC f n k) k (hL (chC f n) n d) j :: hL (chC f n) n d).map AV.i))]) (fun j => d - j) 0 (by omega) (weak_st ?_ ?_ rfl rfl) ?_
    · (repeat' (first | exact trivial | refine And.intro ?_ ?_)) <;> (first | rfl | skip)
    · (repeat' (first | exact trivial | refine And.intro ?_ ?_)) <;> (first | rfl | skip)
    intro j hj
    have hM : (chL f n k ++ hF (chC f n k) k (hL (chC f n) n d) j :: hL (chC f n) n d).length = n + 1 := by
      rw [List.length_append, List.length_cons, hll, hlk]; omega
    by_cases hc2 : j < d
    · have g1 : (chL f n k ++ hF (chC f n k) k (hL (chC f n) n d) j :: hL (chC f n) n d).getD k 0 = hF (chC f n k) k (hL (chC f n) n d) j := by
        rw [List.getD_eq_getElem?_getD, List.getElem?_append_right (by omega), hlk, Nat.sub_self]; rfl
      have g2 : (chL f n k ++ hF (chC f n k) k (hL (chC f n) n d) j :: hL (chC f n) n d).getD (k + 1 + j) 0 = (hL (chC f n) n d).getD j 0 := by
        rw [List.getD_eq_getElem?_getD, List.getElem?_append_right (by omega), hlk, show k + 1 + j - k = j + 1 by omega]; rfl
      repeat (first | ((first | refine step_ops ?_ | refine step_tree ?_); (first | (refine m_mov (by conv => lhs; whnf) ?_) | (refine m_lss rfl rfl ?_) | (refine m_len_sl rfl ?_) | (refine m_idx1_sl rfl rfl ?_ ?_; (· omega)) | (refine m_ld_pti rfl (by rfl) ?_ ?_; (· first | omega | (simp; omega))))) | refine end_ops ?_ | refine seq_ops ?_ | refine AW_tree ?_ | (refine cond_t rfl ?_ ?_; (· (refine decide_eq_true ?_; omega))) | refine skip_then ?_ | refine AW_seq ?_ | refine AW_block ?_)
      refine step_tree ?_; (apply m_call (countChoicesY_spec (k + 1 + j) k (by omega) (by omega))); (· repeat (first | exact lends_nil | (refine lends_cons ?_ ?_; (· exact lend_v))))
      repeat (refine step_tree ?_; (first | (refine m_mov (by conv => lhs; whnf) ?_) | (refine m_idx1_sl rfl rfl ?_ ?_; (· omega)) | (refine m_ld_pti rfl (by rfl) ?_ ?_; (· first | omega | (simp; omega)))))
      refine step_tree ?_
      refine m_mulw rfl rfl ?_
      refine step_tree ?_
      refine m_subw rfl rfl ?_
      repeat (first | ((first | refine step_ops ?_ | refine step_tree ?_); (first | (refine m_mov (by conv => lhs; whnf) ?_) | (refine m_add rfl rfl ?_ ?_ ?_; (· omega); (· omega)) | (refine m_idx1_sl rfl rfl ?_ ?_; (· omega)) | (apply m_st; (· rfl); (· rfl); (· rfl); (· first | omega | (simp; done) | (simp; omega)); (· rfl)))) | refine end_ops ?_ | refine AW_ops ?_ | refine end_tree ?_ | refine norm_then ?_ | refine norm_block ?_)
      refine next_round (j + 1) (by omega) (weak_st ?_ ?_ rfl rfl) (by omega)
      · (repeat' (first | exact trivial | refine And.intro ?_ ?_)) <;> (first | rfl | skip)
      · (repeat' (first | exact trivial | refine And.intro ?_ ?_)) <;> (first | rfl | skip)
        show some (true, List.set (List.map AV.i _) _ (AV.i _)) = some (true, List.map AV.i _)
        rw [g1, g2, ← List.map_set, List.set_append_right _ _ (by omega), hlk, Nat.sub_self, List.set_cons_zero]
        rfl
    · obtain rfl : j = d := by omega
      repeat (first | (refine step_ops ?_; (first | (refine m_mov (by conv => lhs; whnf) ?_) | (refine m_lss rfl rfl ?_) | (refine m_sub rfl rfl ?_ ?_ ?_; (· omega); (· omega)) | (refine m_len_sl rfl ?_))) | refine end_ops ?_ | refine seq_ops ?_ | refine AW_ops ?_ | (refine cond_f rfl ?_ ?_; (· (refine decide_eq_false ?_; omega))) | refine AW_seq ?_ | refine norm_then ?_ | refine exit_then ?_ | refine norm_block ?_ | refine exit_round ?_ | refine AW_exit ?_ | refine exit_block ?_)
      refine next_round (j + 1) (by omega) (weak_st ?_ ?_ rfl rfl) (by omega)
      · (repeat' (first | exact trivial | refine And.intro ?_ ?_)) <;> (first | rfl | skip)
        show AV.i ((k : Int) - 1) = AV.i (((n + 1 - (j + 1) : Nat) : Int) - 1)
        exact congrArg AV.i (by omega)
      · (repeat' (first | exact trivial | refine And.intro ?_ ?_)) <;> (first | rfl | skip)
        show some (true, List.map AV.i _) = some (true, List.map AV.i (chL f n (n + 1 - (j + 1)) ++ hL (chC f n) n (j + 1)))
        rw [hL, hk, show n + 1 - (j + 1) = k by omega]
  · obtain rfl : d = n + 1 := by omega
    rw [Nat.sub_self]
    repeat (first | (refine step_ops ?_; (first | (refine m_mov (by conv => lhs; whnf) ?_) | (refine m_geq rfl rfl ?_))) | refine end_ops ?_ | refine seq_ops ?_ | (refine cond_f rfl ?_ ?_; (· rfl)) | refine AW_seq ?_ | refine AW_ret ?_ | refine ret_done ?_ | refine norm_then ?_ | refine exit_then ?_ | refine exit_round ?_ | refine AW_exit ?_ | refine exit_block ?_)
    exact outs_ints rfl (by simp [chL]) hll.symm
theorem hitNumbers_spec (B : List UInt8) (h : GoodBd B) : Sp Tryd.prog 36 [.agg [.i (sdB B : Nat), .rmp false (mkEs (plB B)) (plB B).length]] (newInts (hL (chC (rkN (fbB B) (sdB B)) (sdB B)) (sdB B) (sdB B + 1))) := by
  have hsd := good_sd h
  have hk := rookNew_spec B h
  have hle : ∀ k, rkN (fbB B) (sdB B) k ≤ 43046721 := fun k => rkG_le9 h (by omega) 0 k
  generalize rkN (fbB B) (sdB B) = f at *
  have hlr := rgL_len (sdB B) f
  refine spec_of Tryd.func36 rfl cc36 rfl ?_
  unfold ac36
  repeat (first | (refine step_ops ?_; (first | (refine m_nils ?_) | (refine m_box rfl ?_ ?_; (· first | rfl | (simp [cellOk, Value.oneCell']; done))) | (refine m_ldall rfl rfl ?_ ?_; (· first | rfl | (simp; done) | (simp [*]; done))))) | refine end_ops ?_ | refine seq_ops ?_)
  refine step_ops ?_
  refine m_callo hk (lends_cons (lend_aggM rfl) lends_nil) (allv_ints _) ?_
  repeat (first | (refine step_ops ?_; (first | (refine m_mov (by conv => lhs; whnf) ?_) | (refine m_len_sl rfl ?_))) | refine end_ops ?_ | refine seq_ops ?_ | refine AW_seq ?_ | refine AW_block ?_)
  refine AW_loop (α := Nat) (fun k => k ≤ sdB B + 1) (fun k => st [(1, .pt 1 0), (3, .sl 6 1 0 (sdB B + 1)), (8, .i (sdB B + 1 : Nat)), (9, .i (k : Nat))]
    [(1, (true, [.i (sdB B : Nat), .rmp false (mkEs (plB B)) (plB B).length])), (6, (true, (chL f (sdB B) k ++ (rgL (sdB B) f).drop k).map AV.i))]) (fun k => sdB B + 1 - k) 0 (by omega) (weak_st ?_ ?_ rfl rfl) ?_
  · (repeat' (first | exact trivial | refine And.intro ?_ ?_)) <;> (first | rfl | skip)
    · show AV.sl 6 1 0 (rgL (sdB B) f).length = _
      rw [hlr]
    · show AV.i ((rgL (sdB B) f).length : Nat) = _
      rw [hlr]
  · (repeat' (first | exact trivial | refine And.intro ?_ ?_)) <;> (first | rfl | skip)
  rintro k hk2
  have hlk := chL_len f (sdB B) k
  by_cases hk1 : k < sdB B + 1
  · have hM : (chL f (sdB B) k ++ (rgL (sdB B) f).drop k).length = sdB B + 1 := by
      rw [List.length_append, List.length_drop, hlr, hlk]; omega
    have g1 : (chL f (sdB B) k ++ (rgL (sdB B) f).drop k).getD k 0 = (f k : Int) := by
      rw [List.getD_eq_getElem?_getD, List.getElem?_append_right (by omega), hlk, Nat.sub_self, List.getElem?_drop, Nat.add_zero, ← List.getD_eq_getElem?_getD]
      exact rgL_get f hk1
    have hb := chC_le (f := f) (n := sdB B) (k := k) (hle k) hsd.2
    unfold chC at hb
    rw [← g1] at hb
    repeat (first | ((first | refine step_ops ?_ | refine step_tree ?_); (first | (refine m_mov (by conv => lhs; whnf) ?_) | (refine m_lss rfl rfl ?_) | (refine m_sub rfl rfl ?_ ?_ ?_; (· omega); (· omega)) | (refine m_idx1_sl rfl rfl ?_ ?_; (· omega)) | (refine m_ld_pti rfl (by rfl) ?_ ?_; (· first | omega | (simp; omega))) | (apply m_ld_pt; (· rfl); (· rfl); (· rfl)) | (refine m_fa rfl ?_))) | refine end_ops ?_ | refine seq_ops ?_ | refine AW_tree ?_ | (refine cond_t rfl ?_ ?_; (· (refine decide_eq_true ?_; omega))) | refine skip_then ?_ | refine AW_seq ?_ | refine AW_block ?_)
    rw [show ((sdB B : Nat) : Int) - (k : Int) = ((sdB B - k : Nat) : Int) by omega]
    refine step_tree ?_; (apply m_call (factorial_spec (sdB B - k) (by omega))); (· repeat (first | exact lends_nil | (refine lends_cons ?_ ?_; (· exact lend_v))))
    repeat (first | ((first | refine step_ops ?_ | refine step_tree ?_); (first | (refine m_mov (by conv => lhs; whnf) ?_) | (refine m_add rfl rfl ?_ ?_ ?_; (· omega); (· omega)) | (refine m_mul rfl rfl ?_ ?_ ?_; (· first | omega | (simp; done)); (· first | omega | (simp; done))) | (refine m_idx1_sl rfl rfl ?_ ?_; (· omega)) | (apply m_st; (· rfl); (· rfl); (· rfl); (· first | omega | (simp; done) | (simp; omega)); (· rfl)))) | refine end_ops ?_ | refine AW_ops ?_ | refine end_tree ?_ | refine norm_then ?_ | refine norm_block ?_)
    refine next_round (k + 1) (by omega) (weak_st ?_ ?_ rfl rfl) (by omega)
    · (repeat' (first | exact trivial | refine And.intro ?_ ?_)) <;> (first | rfl | skip)
    · (repeat' (first | exact trivial | refine And.intro ?_ ?_)) <;> (first | rfl | skip)
      show some (true, List.set (List.map AV.i _) _ (AV.i _)) = some (true, List.map AV.i _)
      rw [← List.map_set, g1, List.set_append_right _ _ (by omega), hlk, Nat.sub_self]
      have e : (rgL (sdB B) f).drop k = (rgL (sdB B) f).getD k 0 :: (rgL (sdB B) f).drop (k + 1) := by
        rw [List.drop_eq_getElem_cons (by omega)]; simp [hlr, hk1]
      rw [e, List.set_cons_zero, show chL f (sdB B) (k + 1) = chL f (sdB B) k ++ [chC f (sdB B) k] by simp [chL, List.range_succ], List.append_assoc]
      rfl
  · have hke : k = sdB B + 1 := by omega
    subst hke
    rw [List.drop_eq_nil_of_le (by omega), List.append_nil]
    have hj := justSoManyY_spec f (sdB B) hsd.1 hsd.2
    have hl2 := hL_len (chC f (sdB B)) (sdB B) (sdB B + 1)
    repeat (first | (refine step_ops ?_; (first | (refine m_mov (by conv => lhs; whnf) ?_) | (refine m_lss rfl rfl ?_))) | refine end_ops ?_ | refine seq_ops ?_ | (refine cond_f rfl ?_ ?_; (· (refine decide_eq_false ?_; omega))) | refine AW_seq ?_ | refine norm_then ?_ | refine exit_then ?_ | refine exit_round ?_ | refine AW_exit ?_ | refine exit_block ?_)
    refine step_ops ?_
    refine m_callo hj (lends_cons (lend_sli (L := chL f (sdB B) (sdB B + 1)) rfl hlk.symm) lends_nil) (allv_ints _) ?_
    repeat (first | (refine step_ops ?_; (refine m_mov (by conv => lhs; whnf) ?_)) | refine end_ops ?_ | refine AW_ret ?_ | refine ret_done ?_)
    exact outs_ints rfl rfl rfl
end Go.Proofs.YtmifianbkpiifaaDoor
namespace Go.Am
variable [Go.Am.CodeBlk]
theorem fc_fac : ∀ n < 13, ((fcN n : Nat) : Int) = fac n := by decide +kernel
theorem chy_bi : ∀ n < 9, ∀ k < n + 1, chy n k k = ((bi n k : Nat) : Int) := by decide +kernel
theorem fcN_le8 : ∀ n < 9, fcN n ≤ 40320 := by decide +kernel
/-- The exchanges of all that hit so often. -/
def hitX (fb : Nat → Nat → Bool) (n k : Nat) : Nat := hitW fb n n 0 k
theorem hit_eq (fb : Nat → Nat → Bool) (n j : Nat) : sumN (n + 1) (fun k => bi k j * hitX fb n k) = rkN fb n j * fcN (n - j) := hits_rooks fb n n 0 j (free_all n)
/-- All of them; weighed; those that hit always. -/
theorem hit_all (fb : Nat → Nat → Bool) (n : Nat) : sumN (n + 1) (fun k => hitX fb n k) = fcN n := by
  have h := hit_eq fb n 0
  rw [show rkN fb n 0 = 1 from rkG_zero fb n n 0, Nat.one_mul] at h
  rw [← show fcN (n - 0) = fcN n from rfl, ← h]
  exact sumN_congr fun k _ => by cases k <;> simp [bi]
theorem sumN_part (f : Nat → Nat) (k : Nat) : ∀ d, sumN (k + d) f = sumN k f + sumN d fun j => f (k + j)
  | 0 => by simp [sumN]
  | d + 1 => by rw [← Nat.add_assoc, sumN, sumN_part f k d, sumN]; omega
theorem sumN_at {f : Nat → Nat} : ∀ {n k : Nat}, k < n → f k ≤ sumN n f
  | n + 1, k, h => by
    rw [sumN]
    by_cases hk : k = n
    · subst hk; omega
    · have := sumN_at (f := f) (show k < n by omega)
      omega
theorem hit_le (fb : Nat → Nat → Bool) {n k : Nat} (h8 : n ≤ 8) (hk : k ≤ n) : hitX fb n k ≤ 40320 := by
  have h := sumN_at (f := fun k => hitX fb n k) (show k < n + 1 by omega)
  rw [hit_all] at h
  have := fcN_le8 n (by omega)
  omega
/-- What is left of those chosen of k. -/
theorem hit_left (fb : Nat → Nat → Bool) {n k : Nat} (hk : k ≤ n) : hitX fb n k + sumN (n - k) (fun j => bi (k + 1 + j) k * hitX fb n (k + 1 + j)) = rkN fb n k * fcN (n - k) := by
  have h := hit_eq fb n k
  rw [show n + 1 = k + ((n - k) + 1) by omega, sumN_part, sumN_congr (g := fun _ => 0) fun j hj => by rw [bi_big j k hj, Nat.zero_mul], sumN_zero, sumN_succ'] at h
  rw [← h, show k + 0 = k from rfl, bi_self]
  have : sumN (n - k) (fun j => bi (k + (j + 1)) k * hitX fb n (k + (j + 1))) = sumN (n - k) (fun j => bi (k + 1 + j) k * hitX fb n (k + 1 + j)) := sumN_congr fun j _ => by rw [show k + (j + 1) = k + 1 + j by omega]
  omega
theorem w64_in {x : Int} (h0 : -9223372036854775808 ≤ x) (h1 : x ≤ 9223372036854775807) : w64 x = x := by
  unfold w64
  rw [IntKind.wrap_i64]
  omega
/-- The last d of the numbers of hits. -/
def hitLs (fb : Nat → Nat → Bool) (n d : Nat) : List Int := (List.range d).map fun i => ((hitX fb n (n + 1 - d + i) : Nat) : Int)
theorem hitLs_get (fb : Nat → Nat → Bool) {n d j : Nat} (h : j < d) : (hitLs fb n d).getD j 0 = ((hitX fb n (n + 1 - d + j) : Nat) : Int) := by simp [hitLs, h]
theorem hitLs_succ (fb : Nat → Nat → Bool) {n d : Nat} (h : d ≤ n) : hitLs fb n (d + 1) = ((hitX fb n (n - d) : Nat) : Int) :: hitLs fb n d := by
  unfold hitLs
  rw [List.range_succ_eq_map, List.map_cons, List.map_map, show n + 1 - (d + 1) + 0 = n - d by omega]
  congr 1
  refine List.map_congr_left fun i _ => ?_
  show ((hitX fb n (n + 1 - (d + 1) + (i + 1)) : Nat) : Int) = _
  rw [show n + 1 - (d + 1) + (i + 1) = n + 1 - d + i by omega]
theorem bi_le8 : ∀ n < 9, ∀ k < n + 1, bi n k ≤ 70 := by decide +kernel
theorem hF_part (fb : Nat → Nat → Bool) {n k : Nat} (h8 : n ≤ 8) (hk : k ≤ n) : ∀ j, j ≤ n - k →
    hF (chC (rkN fb n) n k) k (hitLs fb n (n - k)) j = ((rkN fb n k * fcN (n - k) : Nat) : Int) - ((sumN j (fun j => bi (k + 1 + j) k * hitX fb n (k + 1 + j)) : Nat) : Int)
  | 0, _ => by
    rw [hF, chC, ← fc_fac (n - k) (by omega)]
    simp [sumN]
  | j + 1, h => by
    have hl := hit_left fb hk
    have hsum : sumN (n - k) (fun j => bi (k + 1 + j) k * hitX fb n (k + 1 + j)) = sumN (j + 1) (fun j => bi (k + 1 + j) k * hitX fb n (k + 1 + j)) + sumN (n - k - (j + 1)) (fun i => bi (k + 1 + (j + 1 + i)) k * hitX fb n (k + 1 + (j + 1 + i))) := by
      rw [← sumN_part (fun j => bi (k + 1 + j) k * hitX fb n (k + 1 + j)), show j + 1 + (n - k - (j + 1)) = n - k by omega]
    have htot : rkN fb n k * fcN (n - k) ≤ 43046721 * 40320 := by
      have h1 : rkN fb n k ≤ (n + 1) ^ n := rkG_le n 0 k
      have h2 : (n + 1) ^ n ≤ (8 + 1) ^ 8 := Nat.le_trans (Nat.pow_le_pow_left (show n + 1 ≤ 8 + 1 by omega) n) (Nat.pow_le_pow_right (by omega) h8)
      exact Nat.mul_le_mul (by omega) (fcN_le8 _ (by omega))
    have hb := bi_le8 (k + 1 + j) (by omega) k (by omega)
    have hh := hit_le fb (k := k + 1 + j) h8 (by omega)
    have hp : bi (k + 1 + j) k * hitX fb n (k + 1 + j) ≤ 70 * 40320 := Nat.mul_le_mul hb hh
    rw [hF, hF_part fb h8 hk j (by omega), hitLs_get fb (show j < n - k by omega), show n + 1 - (n - k) + j = k + 1 + j by omega, chy_bi (k + 1 + j) (by omega) k (by omega)]
    have e1 : ((bi (k + 1 + j) k : Nat) : Int) * ((hitX fb n (k + 1 + j) : Nat) : Int) = ((bi (k + 1 + j) k * hitX fb n (k + 1 + j) : Nat) : Int) := (Int.natCast_mul _ _).symm
    rw [e1]
    have es : sumN (j + 1) (fun j => bi (k + 1 + j) k * hitX fb n (k + 1 + j)) = sumN j (fun j => bi (k + 1 + j) k * hitX fb n (k + 1 + j)) + bi (k + 1 + j) k * hitX fb n (k + 1 + j) := rfl
    rw [es] at hsum ⊢
    generalize bi (k + 1 + j) k * hitX fb n (k + 1 + j) = p at *
    generalize sumN j (fun j => bi (k + 1 + j) k * hitX fb n (k + 1 + j)) = q at *
    generalize rkN fb n k * fcN (n - k) = T at *
    rw [w64_in (x := ((p : Nat) : Int)) (by omega) (by omega), w64_in (by omega) (by omega)]
    omega
/-- The numbers of hits are those of the exchanges. -/
theorem hL_hits (fb : Nat → Nat → Bool) {n : Nat} (h8 : n ≤ 8) : ∀ d, d ≤ n + 1 → hL (chC (rkN fb n) n) n d = hitLs fb n d
  | 0, _ => rfl
  | d + 1, h => by
    rw [hL, hL_hits fb h8 d (by omega), hitLs_succ fb (show d ≤ n by omega)]
    congr 1
    obtain ⟨k, hk⟩ : ∃ k, n - d = k := ⟨_, rfl⟩
    have hd : d = n - k := by omega
    have hp := hF_part fb h8 (show k ≤ n by omega) (n - k) (Nat.le_refl _)
    have hl := hit_left fb (show k ≤ n by omega)
    rw [hk, hd, hp]
    omega
end Go.Am
namespace Go.Am
variable [Go.Am.CodeBlk]
/-- What hits one board does not hit the other one. -/
theorem hitW_not (fb : Nat → Nat → Bool) (n : Nat) : ∀ m S k, k ≤ m → hitW (fun i j => !fb i j) n m S k = hitW fb n m S (m - k)
  | 0, S, k, h => by
    obtain rfl : k = 0 := by omega
    rfl
  | m + 1, S, 0, _ => by
    rw [hitW, show m + 1 - 0 = m + 1 from rfl, hitW]
    refine sumF_congr fun j _ _ => ?_
    cases fb (n - (m + 1)) j
    · simp only [Bool.not_false, if_true, Bool.false_eq_true, if_false]
      exact (hitW_big fb n m _ (m + 1) (by omega)).symm
    · simp only [Bool.not_true, Bool.false_eq_true, if_false, if_true]
      rw [hitW_not fb n m _ 0 (Nat.zero_le _)]
      rfl
  | m + 1, S, q + 1, h => by
    rw [hitW, show m + 1 - (q + 1) = m - q by omega, hitW]
    refine sumF_congr fun j _ _ => ?_
    cases fb (n - (m + 1)) j
    · simp only [Bool.not_false, if_true, Bool.false_eq_true, if_false]
      exact hitW_not fb n m _ q (by omega)
    · simp only [Bool.not_true, Bool.false_eq_true, if_false, if_true]
      rcases Nat.lt_or_ge q m with c | c
      · rw [hitW_not fb n m _ (q + 1) (by omega)]
        obtain ⟨p, hp⟩ : ∃ p, m - q = p + 1 := ⟨m - q - 1, by omega⟩
        rw [hp, show m - (q + 1) = p by omega]
      · rw [show m - q = 0 by omega, hitW_big _ n m _ (q + 1) (by omega)]
theorem hitX_not (fb : Nat → Nat → Bool) {n k : Nat} (hk : k ≤ n) : hitX (fun i j => !fb i j) n k = hitX fb n (n - k) := hitW_not fb n n 0 k hk
theorem sumF_le {n S : Nat} {f g : Nat → Nat} (h : ∀ c, c < n → f c ≤ g c) : sumF n S f ≤ sumF n S g := by
  unfold sumF
  refine sumN_le fun c hc => ?_
  split
  · exact Nat.le_refl _
  · exact h c hc
/-- A board that forbids more allows no more. -/
theorem hitW_more {fb fb2 : Nat → Nat → Bool} (n : Nat) (h : ∀ i j, fb i j = true → fb2 i j = true) : ∀ m S, hitW fb2 n m S 0 ≤ hitW fb n m S 0
  | 0, _ => Nat.le_refl _
  | m + 1, S => by
    rw [hitW, hitW]
    refine sumF_le fun j _ => ?_
    cases h1 : fb2 (n - (m + 1)) j
    · cases h2 : fb (n - (m + 1)) j
      · simp only [Bool.false_eq_true, if_false]
        exact hitW_more n h m _
      · rw [h _ _ h2] at h1; cases h1
    · simp only [if_true]
      exact Nat.zero_le _
/- Rooks put on places, one place after the other. -/
/-- No rook on a place, or one. -/
def stepP (p : Nat × Nat) (g : Nat → Nat → Nat → Nat) (R C k : Nat) : Nat := g R C k + if R.testBit p.1 || C.testBit p.2 then 0 else (match k with | 0 => 0 | q + 1 => g (insC R p.1) (insC C p.2) q)
def plW : List (Nat × Nat) → Nat → Nat → Nat → Nat
  | [], _, _, k => if k = 0 then 1 else 0
  | p :: l, R, C, k => stepP p (plW l) R C k
theorem stepP_comm (p q : Nat × Nat) (g : Nat → Nat → Nat → Nat) (R C k : Nat) : stepP p (stepP q g) R C k = stepP q (stepP p g) R C k := by
  unfold stepP
  cases k with
  | zero => simp
  | succ k =>
    simp only [insC_bit]
    have e1 : insC (insC R p.1) q.1 = insC (insC R q.1) p.1 := insC_comm _ _ _
    have e2 : insC (insC C p.2) q.2 = insC (insC C q.2) p.2 := insC_comm _ _ _
    rw [e1, e2]
    have d1 : decide (p.1 = q.1) = decide (q.1 = p.1) := decide_eq_decide.2 eq_comm
    have d2 : decide (p.2 = q.2) = decide (q.2 = p.2) := decide_eq_decide.2 eq_comm
    rw [d1, d2]
    generalize decide (q.1 = p.1) = b1
    generalize decide (q.2 = p.2) = b2
    cases R.testBit p.1 <;> cases C.testBit p.2 <;> cases R.testBit q.1 <;> cases C.testBit q.2 <;> cases b1 <;> cases b2 <;> simp <;> omega
theorem plW_perm {l m : List (Nat × Nat)} (h : l.Perm m) : plW l = plW m := by
  induction h with
  | nil => rfl
  | cons a _ ih =>
    funext R C k
    rw [plW, plW, ih]
  | swap a b l =>
    funext R C k
    exact stepP_comm b a (plW l) R C k
  | trans _ _ ih1 ih2 => rw [ih1, ih2]
theorem plW_turn : ∀ (l : List (Nat × Nat)) (R C k : Nat), plW (l.map fun p => (p.2, p.1)) R C k = plW l C R k
  | [], _, _, _ => rfl
  | p :: l, R, C, k => by
    rw [List.map_cons, plW, plW]
    unfold stepP
    rw [plW_turn l R C k]
    cases k with
    | zero => simp
    | succ k =>
      dsimp only
      rw [plW_turn l _ _ k, Bool.or_comm]
/-- Rows that no place is in don't matter. -/
theorem plW_row {i : Nat} : ∀ (l : List (Nat × Nat)) (R C k : Nat), (∀ p ∈ l, p.1 ≠ i) → plW l (insC R i) C k = plW l R C k
  | [], _, _, _, _ => rfl
  | p :: l, R, C, k, h => by
    have hp := h p (by simp)
    have hl : ∀ q ∈ l, q.1 ≠ i := fun q hq => h q (by simp [hq])
    rw [plW, plW]
    unfold stepP
    rw [plW_row l R C k hl, insC_bit]
    cases k with
    | zero => simp
    | succ k =>
      dsimp only
      rw [insC_comm, plW_row l _ _ k hl, show decide (i = p.1) = false from decide_eq_false fun e => hp e.symm, Bool.or_false]
/-- The places of one row, ahead of others. -/
theorem plW_rowP (fb : Nat → Nat → Bool) (i : Nat) {l : List (Nat × Nat)} (hl : ∀ p ∈ l, p.1 ≠ i) (R C : Nat) (hR : R.testBit i = false) : ∀ (c k : Nat), plW (l ++ rowP fb i c) R C k = plW l R C k + sumN c fun j => if fb i j && !C.testBit j then (match k with | 0 => 0 | q + 1 => plW l R (insC C j) q) else 0
  | 0, k => by simp [rowP, sumN]
  | c + 1, k => by
    rw [rowP_snoc, sumN]
    cases hf : fb i c
    · simp only [Bool.false_eq_true, if_false, List.append_nil, Bool.false_and, Nat.add_zero]
      exact plW_rowP fb i hl R C hR c k
    · simp only [if_true, Bool.true_and]
      have hp : (l ++ (rowP fb i c ++ [(i, c)])).Perm ((i, c) :: (l ++ rowP fb i c)) := by
        rw [← List.append_assoc]
        exact List.perm_append_comm.trans (List.Perm.refl _)
      rw [plW_perm hp, plW]
      unfold stepP
      rw [plW_rowP fb i hl R C hR c k, hR, Bool.false_or]
      have hrow : ∀ q, plW (l ++ rowP fb i c) (insC R i) (insC C c) q = plW l R (insC C c) q := by
        intro q
        have hz : ∀ (d q : Nat) (C2 : Nat), plW (l ++ rowP fb i d) (insC R i) C2 q = plW l R C2 q := by
          intro d
          induction d with
          | zero => intro q C2; simp only [rowP, List.range_zero, List.filter_nil, List.map_nil, List.append_nil]; exact plW_row l R C2 q hl
          | succ d ih =>
            intro q C2
            rw [rowP_snoc]
            cases fb i d
            · simp only [Bool.false_eq_true, if_false, List.append_nil]
              exact ih q C2
            · simp only [if_true]
              have hp2 : (l ++ (rowP fb i d ++ [(i, d)])).Perm ((i, d) :: (l ++ rowP fb i d)) := by
                rw [← List.append_assoc]
                exact List.perm_append_comm.trans (List.Perm.refl _)
              rw [plW_perm hp2, plW]
              unfold stepP
              rw [ih q C2, insC_bit]
              simp
        exact hz c q _
      cases C.testBit c
      · simp only [Bool.false_eq_true, if_false, Bool.not_false, if_true]
        cases k with
        | zero => simp
        | succ k =>
          dsimp only
          rw [hrow k]
          omega
      · simp
/-- The places of the last rows. -/
def lastP (fb : Nat → Nat → Bool) (n : Nat) : Nat → List (Nat × Nat)
  | 0 => []
  | m + 1 => lastP fb n m ++ rowP fb (n - (m + 1)) n
theorem mem_lastP {fb : Nat → Nat → Bool} {n : Nat} {p : Nat × Nat} : ∀ {m}, m ≤ n → (p ∈ lastP fb n m ↔ n - m ≤ p.1 ∧ p.1 < n ∧ p.2 < n ∧ fb p.1 p.2 = true)
  | 0, _ => by
    simp only [lastP, List.not_mem_nil, false_iff]
    omega
  | m + 1, h => by
    rw [lastP, List.mem_append, mem_lastP (show m ≤ n by omega), mem_rowP]
    constructor
    · rintro (⟨h1, h2⟩ | ⟨h1, h2, h3⟩)
      · exact ⟨by omega, h2⟩
      · exact ⟨by omega, by omega, h2, by rw [h1]; exact h3⟩
    · rintro ⟨h1, h2, h3, h4⟩
      rcases Nat.lt_or_ge p.1 (n - m) with c | c
      · have : p.1 = n - (m + 1) := by omega
        exact .inr ⟨this, h3, by rw [← this]; exact h4⟩
      · exact .inl ⟨c, h2, h3, h4⟩
theorem rk_places (fb : Nat → Nat → Bool) (n : Nat) : ∀ m S k, m ≤ n → rkG fb n m S k = plW (lastP fb n m) 0 S k
  | 0, _, _, _ => rfl
  | m + 1, S, k, h => by
    rw [rkG, lastP, plW_rowP fb (n - (m + 1)) (fun p hp => ?_) 0 S (Nat.zero_testBit _) n k, rk_places fb n m S k (by omega)]
    · congr 1
      refine sumN_congr fun j _ => ?_
      split
      · cases k with
        | zero => rfl
        | succ q => exact rk_places fb n m _ q (by omega)
      · rfl
    · have := (mem_lastP (show m ≤ n by omega)).1 hp
      omega
theorem rowP_nodup (fb : Nat → Nat → Bool) (i k : Nat) : (rowP fb i k).Nodup := by
  unfold rowP
  refine List.Pairwise.map _ (fun a b (hab : a ≠ b) e => hab (by cases e; rfl)) (List.Pairwise.filter _ List.nodup_range)
theorem lastP_nodup (fb : Nat → Nat → Bool) (n : Nat) : ∀ m, m ≤ n → (lastP fb n m).Nodup
  | 0, _ => List.nodup_nil
  | m + 1, h => by
    rw [lastP, List.nodup_append]
    refine ⟨lastP_nodup fb n m (by omega), rowP_nodup _ _ _, fun a ha b hb e => ?_⟩
    subst e
    have h1 := (mem_lastP (show m ≤ n by omega)).1 ha
    have h2 := mem_rowP.1 hb
    omega
/-- Turned boards have asx many rooks. -/
theorem rk_turn (fb : Nat → Nat → Bool) (n k : Nat) : rkN (fun i j => fb j i) n k = rkN fb n k := by
  unfold rkN
  rw [rk_places _ n n 0 k (Nat.le_refl _), rk_places _ n n 0 k (Nat.le_refl _), ← plW_turn (lastP fb n n) 0 0 k]
  have hp : (lastP (fun i j => fb j i) n n).Perm ((lastP fb n n).map fun p => (p.2, p.1)) := by
    refine (List.perm_ext_iff_of_nodup (lastP_nodup _ n n (Nat.le_refl _)) ?_).2 fun a => ?_
    · exact List.Pairwise.map _ (fun a b (hab : a ≠ b) e => hab (by
        obtain ⟨a1, a2⟩ := a
        obtain ⟨b1, b2⟩ := b
        simp only [Prod.mk.injEq] at e ⊢
        exact ⟨e.2, e.1⟩)) (lastP_nodup fb n n (Nat.le_refl _))
    · rw [mem_lastP (Nat.le_refl _), List.mem_map]
      constructor
      · rintro ⟨_, h2, h3, h4⟩
        exact ⟨(a.2, a.1), (mem_lastP (Nat.le_refl _)).2 ⟨by omega, h3, h2, h4⟩, rfl⟩
      · rintro ⟨q, hq, rfl⟩
        obtain ⟨_, h2, h3, h4⟩ := (mem_lastP (Nat.le_refl _)).1 hq
        exact ⟨by omega, h3, h2, h4⟩
  rw [plW_perm hp]
end Go.Am
namespace Go.Am
variable [Go.Am.CodeBlk]
/-- Columns that no place is in don't matter. -/
theorem plW_col {j : Nat} (l : List (Nat × Nat)) (R C k : Nat) (h : ∀ p ∈ l, p.2 ≠ j) : plW l R (insC C j) k = plW l R C k := by
  rw [← plW_turn l (insC C j) R k, ← plW_turn l C R k]
  exact plW_row _ C R k fun p hp => by
    obtain ⟨q, hq, rfl⟩ := List.mem_map.1 hp
    exact h q hq
/-- What two lists of numbers make together. -/
def conv (f g : Nat → Nat) (k : Nat) : Nat := sumN (k + 1) fun i => f i * g (k - i)
theorem conv_add (f g h : Nat → Nat) (k : Nat) : conv (fun i => f i + g i) h k = conv f h k + conv g h k := by
  unfold conv
  rw [← sumN_add]
  exact sumN_congr fun i _ => Nat.add_mul _ _ _
theorem conv_zero (h : Nat → Nat) (k : Nat) : conv (fun _ => 0) h k = 0 := by
  unfold conv
  rw [sumN_congr (g := fun _ => 0) fun i _ => Nat.zero_mul _, sumN_zero]
theorem conv_one (h : Nat → Nat) (k : Nat) : conv (fun i => if i = 0 then 1 else 0) h k = h k := by
  unfold conv
  rw [sumN_succ', sumN_congr (g := fun _ => 0) fun i _ => by simp, sumN_zero]
  simp
theorem conv_up (f h : Nat → Nat) : ∀ k, conv (fun i => match i with | 0 => 0 | q + 1 => f q) h k = match k with | 0 => 0 | q + 1 => conv f h q
  | 0 => by simp [conv, sumN]
  | k + 1 => by
    unfold conv
    rw [sumN_succ']
    dsimp only
    rw [Nat.zero_mul, Nat.zero_add]
    exact sumN_congr fun i _ => by rw [show k + 1 - (i + 1) = k - i by omega]
theorem plW_join {l2 : List (Nat × Nat)} : ∀ (l1 : List (Nat × Nat)) (R C k : Nat), (∀ p ∈ l1, ∀ q ∈ l2, q.1 ≠ p.1 ∧ q.2 ≠ p.2) → plW (l1 ++ l2) R C k = conv (plW l1 R C) (plW l2 R C) k
  | [], R, C, k, _ => (conv_one (plW l2 R C) k).symm
  | p :: l1, R, C, k, h => by
    have hl : ∀ p ∈ l1, ∀ q ∈ l2, q.1 ≠ p.1 ∧ q.2 ≠ p.2 := fun p2 hp2 => h p2 (by simp [hp2])
    have hp := h p (by simp)
    have e : plW (p :: l1) R C = fun i => plW l1 R C i + (match i with | 0 => 0 | q + 1 => if R.testBit p.1 || C.testBit p.2 then 0 else plW l1 (insC R p.1) (insC C p.2) q) := by
      funext i
      rw [plW]
      unfold stepP
      cases i with
      | zero => simp
      | succ i => rfl
    rw [List.cons_append, plW, e, conv_add, conv_up]
    unfold stepP
    rw [plW_join l1 R C k hl]
    congr 1
    cases k with
    | zero => simp
    | succ k =>
      dsimp only
      cases R.testBit p.1 || C.testBit p.2
      · simp only [Bool.false_eq_true, if_false]
        rw [plW_join l1 _ _ k hl]
        have e2 : plW l2 (insC R p.1) (insC C p.2) = plW l2 R C := by
          funext i
          rw [plW_row l2 R _ i fun q hq => (hp q hq).1, plW_col l2 R C i fun q hq => (hp q hq).2]
        rw [e2]
      · simp only [if_true]
        exact (conv_zero _ _).symm
theorem plW_move (d : Nat) : ∀ (l : List (Nat × Nat)) (R C R2 C2 k : Nat), (∀ x, R2.testBit (x + d) = R.testBit x) → (∀ x, C2.testBit (x + d) = C.testBit x) → plW (l.map fun p => (p.1 + d, p.2 + d)) R2 C2 k = plW l R C k
  | [], _, _, _, _, _, _, _ => rfl
  | p :: l, R, C, R2, C2, k, hR, hC => by
    rw [List.map_cons, plW, plW]
    unfold stepP
    dsimp only
    rw [plW_move d l R C R2 C2 k hR hC, hR, hC]
    cases k with
    | zero => rfl
    | succ k =>
      dsimp only
      rw [plW_move d l (insC R p.1) (insC C p.2) _ _ k (fun x => ?_) fun x => ?_]
      · rw [insC_bit, insC_bit, hR]
        congr 1
        exact decide_eq_decide.2 ⟨fun e => by omega, fun e => by omega⟩
      · rw [insC_bit, insC_bit, hC]
        congr 1
        exact decide_eq_decide.2 ⟨fun e => by omega, fun e => by omega⟩
/-- A board joined of two. -/
def joinF (fa fb : Nat → Nat → Bool) (a i j : Nat) : Bool := if i < a then decide (j < a) && fa i j else decide (a ≤ j) && fb (i - a) (j - a)
theorem rk_join (fa fb : Nat → Nat → Bool) (a b k : Nat) : rkN (joinF fa fb a) (a + b) k = conv (rkN fa a) (rkN fb b) k := by
  have ea : rkN fa a = plW (lastP fa a a) 0 0 := by
    funext i
    exact rk_places fa a a 0 i (Nat.le_refl _)
  have eb : rkN fb b = plW ((lastP fb b b).map fun p => (p.1 + a, p.2 + a)) 0 0 := by
    funext i
    rw [plW_move a (lastP fb b b) 0 0 0 0 i (fun x => by simp) fun x => by simp]
    exact rk_places fb b b 0 i (Nat.le_refl _)
  rw [ea, eb, ← plW_join]
  · unfold rkN
    rw [rk_places _ (a + b) (a + b) 0 k (Nat.le_refl _)]
    have hn2 : ((lastP fb b b).map fun p => (p.1 + a, p.2 + a)).Nodup := List.Pairwise.map _ (fun x y (hxy : x ≠ y) e => hxy (by
      obtain ⟨x1, x2⟩ := x
      obtain ⟨y1, y2⟩ := y
      simp only [Prod.mk.injEq] at e ⊢
      omega)) (lastP_nodup fb b b (Nat.le_refl _))
    have hp : (lastP (joinF fa fb a) (a + b) (a + b)).Perm (lastP fa a a ++ (lastP fb b b).map fun p => (p.1 + a, p.2 + a)) := by
      refine (List.perm_ext_iff_of_nodup (lastP_nodup _ _ _ (Nat.le_refl _)) (List.nodup_append.2 ⟨lastP_nodup fa a a (Nat.le_refl _), hn2, fun x hx y hy e => ?_⟩)).2 fun p => ?_
      · subst e
        have h1 := (mem_lastP (Nat.le_refl _)).1 hx
        obtain ⟨q, _, rfl⟩ := List.mem_map.1 hy
        dsimp only at h1
        omega
      · rw [mem_lastP (Nat.le_refl _), List.mem_append, mem_lastP (Nat.le_refl _), List.mem_map]
        unfold joinF
        constructor
        · rintro ⟨_, h2, h3, h4⟩
          by_cases hc : p.1 < a
          · rw [if_pos hc, Bool.and_eq_true, decide_eq_true_eq] at h4
            exact .inl ⟨by omega, hc, h4.1, h4.2⟩
          · rw [if_neg hc, Bool.and_eq_true, decide_eq_true_eq] at h4
            refine .inr ⟨(p.1 - a, p.2 - a), (mem_lastP (Nat.le_refl _)).2 ⟨by omega, by dsimp only; omega, by dsimp only; omega, h4.2⟩, ?_⟩
            obtain ⟨p1, p2⟩ := p
            simp only [Prod.mk.injEq]
            dsimp only at hc h4
            omega
        · rintro (⟨_, h2, h3, h4⟩ | ⟨q, hq, rfl⟩)
          · refine ⟨by omega, by omega, by omega, ?_⟩
            rw [if_pos h2, Bool.and_eq_true, decide_eq_true_eq]
            exact ⟨h3, h4⟩
          · obtain ⟨_, h2, h3, h4⟩ := (mem_lastP (Nat.le_refl _)).1 hq
            refine ⟨by omega, by dsimp only; omega, by dsimp only; omega, ?_⟩
            dsimp only
            rw [if_neg (by omega), Bool.and_eq_true, decide_eq_true_eq, show q.1 + a - a = q.1 by omega, show q.2 + a - a = q.2 by omega]
            exact ⟨by omega, h4⟩
    rw [plW_perm hp]
  · intro p hp q hq
    obtain ⟨_, h2, h3, _⟩ := (mem_lastP (Nat.le_refl _)).1 hp
    obtain ⟨r, _, rfl⟩ := List.mem_map.1 hq
    dsimp only
    omega
/-- Only the places of the board count. -/
theorem hitW_congr {f g : Nat → Nat → Bool} {n : Nat} (h : ∀ i j, i < n → j < n → f i j = g i j) : ∀ m S k, m ≤ n → hitW f n m S k = hitW g n m S k
  | 0, _, _, _ => rfl
  | m + 1, S, k, hm => by
    rw [hitW, hitW]
    refine sumF_congr fun j hj _ => ?_
    rw [h (n - (m + 1)) j (by omega) hj, hitW_congr h m _ k (by omega)]
    cases k with
    | zero => rfl
    | succ q =>
      dsimp only
      rw [hitW_congr h m _ q (by omega)]
theorem rkG_congr {f g : Nat → Nat → Bool} {n : Nat} (h : ∀ i j, i < n → j < n → f i j = g i j) : ∀ m S k, m ≤ n → rkG f n m S k = rkG g n m S k
  | 0, _, _, _ => rfl
  | m + 1, S, k, hm => by
    rw [rkG, rkG, rkG_congr h m S k (by omega)]
    congr 1
    refine sumN_congr fun j hj => ?_
    rw [h (n - (m + 1)) j (by omega) hj]
    cases k with
    | zero => rfl
    | succ q =>
      dsimp only
      rw [rkG_congr h m _ q (by omega)]
/-- Boards of own coats: those allowed are those without own coats. -/
def ownFb (i j : Nat) : Bool := i == j
theorem own_none : ∀ n < 9, 1 ≤ n → (hL (chC (rkN ownFb n) n) n (n + 1)).getD 0 0 = ((hitX ownFb n 0 : Nat) : Int) := by
  intro n hn h1
  rw [hL_hits ownFb (by omega) (n + 1) (Nat.le_refl _), hitLs_get ownFb (by omega)]
  rw [show n + 1 - (n + 1) + 0 = 0 by omega]
end Go.Am
namespace Go.Am
variable [Go.Am.CodeBlk]
theorem splitB_join : ∀ (l : List (List UInt8)), l ≠ [] → (∀ r ∈ l, (47 : UInt8) ∉ r) → splitB (joinB l) = l
  | [], h, _ => absurd rfl h
  | [r], _, hr => by
    have e : joinB [r] = r := by simp [joinB]
    rw [e, splitB_one (hr r (by simp))]
  | r :: s :: l, _, hr => by
    rw [joinB_cons (by simp), splitB_cut (hr r (by simp)), splitB_join (s :: l) (by simp) fun x hx => hr x (by simp [hx])]
def rowsT (fb : Nat → Nat → Bool) (n k : Nat) : List (List UInt8) := (List.range k).map fun i => rowT fb i n
theorem rowsT_len (fb : Nat → Nat → Bool) (n k : Nat) : (rowsT fb n k).length = k := by simp [rowsT]
theorem bdT_join (fb : Nat → Nat → Bool) (n : Nat) : ∀ k, bdT fb n k = joinB (rowsT fb n k)
  | 0 => rfl
  | k + 1 => by
    have e : rowsT fb n (k + 1) = rowsT fb n k ++ [rowT fb k n] := by simp [rowsT, List.range_succ]
    rw [bdT, bdT_join fb n k, e, joinB_snoc, rowsT_len]
theorem bdT_split (fb : Nat → Nat → Bool) (n : Nat) {k : Nat} (hk : 0 < k) : splitB (bdT fb n k) = rowsT fb n k := by
  rw [bdT_join]
  refine splitB_join _ (fun e => ?_) fun r hr => ?_
  · have := rowsT_len fb n k
    rw [e] at this
    simp at this
    omega
  · unfold rowsT at hr
    obtain ⟨i, _, rfl⟩ := List.mem_map.1 hr
    exact rowT_no fb i n
theorem bdT_side (fb : Nat → Nat → Bool) (n : Nat) {k : Nat} (hk : 0 < k) : sdB (bdT fb n k) = k := by
  have h := splitB_len (bdT fb n k)
  rw [bdT_split fb n hk, rowsT_len] at h
  unfold sdB
  omega
theorem bdT_good (fb : Nat → Nat → Bool) {n : Nat} (h1 : 1 ≤ n) (h8 : n ≤ 8) : GoodBd (bdT fb n n) := by
  have hs := bdT_side fb n h1
  unfold sdB at hs
  refine ⟨by omega, fun r hr => ?_⟩
  rw [bdT_split fb n h1] at hr
  unfold rowsT at hr
  obtain ⟨i, _, rfl⟩ := List.mem_map.1 hr
  refine ⟨by rw [rowT_len]; omega, fun c hc => ?_⟩
  unfold rowT at hc
  obtain ⟨j, _, rfl⟩ := List.mem_map.1 hc
  unfold sgn
  split
  · exact .inr rfl
  · exact .inl rfl
theorem bdT_fb (fb : Nat → Nat → Bool) {n i j : Nat} (hi : i < n) (hj : j < n) : fbB (bdT fb n n) i j = fb i j := by
  unfold fbB
  rw [bdT_split fb n (by omega)]
  have e : (rowsT fb n n).getD i [] = rowT fb i n := by simp [rowsT, hi]
  have e2 : (rowT fb i n).getD j 0 = sgn (fb i j) := by simp [rowT, hj]
  rw [e, e2]
  unfold sgn
  cases fb i j <;> decide
theorem bdT_same {f g : Nat → Nat → Bool} {n : Nat} (h : ∀ i j, i < n → j < n → f i j = g i j) : ∀ k, k ≤ n → bdT f n k = bdT g n k
  | 0, _ => rfl
  | k + 1, hk => by
    rw [bdT, bdT, bdT_same h k (by omega)]
    congr 1
    unfold rowT
    exact List.map_congr_left fun j hj => by rw [h k j (by omega) (List.mem_range.1 hj)]
/-- The numbers of rooks and of hits of a board that was made. -/
theorem rk_made (fb : Nat → Nat → Bool) {n : Nat} (h1 : 1 ≤ n) (k : Nat) : rkN (fbB (bdT fb n n)) (sdB (bdT fb n n)) k = rkN fb n k := by
  rw [bdT_side fb n h1]
  exact rkG_congr (fun i j hi hj => bdT_fb fb hi hj) n 0 k (Nat.le_refl _)
theorem hit_made (fb : Nat → Nat → Bool) {n : Nat} (h1 : 1 ≤ n) (k : Nat) : hitX (fbB (bdT fb n n)) (sdB (bdT fb n n)) k = hitX fb n k := by
  rw [bdT_side fb n h1]
  exact hitW_congr (fun i j hi hj => bdT_fb fb hi hj) n 0 k (Nat.le_refl _)
end Go.Am
namespace Go.Proofs.YtmifianbkpiifaaDoor
variable [Go.Am.CodeBlk]
open Go.Am
attribute [local irreducible] AW Outs Weak Lends Lend Sp aops atree aop1 Then Round InBlock Done
/-- A board and an exchange of its side. -/
def Asked (B : List UInt8) (L : List Int) : Prop := GoodBd B ∧ IsEx L ∧ L.length = sdB B
instance (B : List UInt8) (L : List Int) : Decidable (Asked B L) := inferInstanceAs (Decidable (_ ∧ _))
end Go.Proofs.YtmifianbkpiifaaDoor
namespace Go.Am
variable [Go.Am.CodeBlk]
section
variable (fits : List Int → Nat → Bool) (n : Nat)
/-- All that go on from l by k more, in order. -/
def goOn : Nat → List Int → List (List Int)
  | 0, l => [l]
  | k + 1, l => ((List.range n).filter fun x => fits l x).flatMap fun (x : Nat) => goOn k (l ++ [(x : Int)])
end
end Go.Am
namespace Go.Proofs.YtmifianbkpiifaaDoor
variable [Go.Am.CodeBlk]
open Go.Am
attribute [local irreducible] AW Outs Weak Lends Lend Sp aops atree aop1 Then Round InBlock Done
/-- May the guest behind those of l take coat x? -/
def fitsA (B : List UInt8) (l : List Int) (x : Nat) : Bool := !fbB B l.length x && !decide ((x : Int) ∈ l)
end Go.Proofs.YtmifianbkpiifaaDoor
namespace Go.Proofs.YtmifianbkpiifaaDoor
variable [Go.Am.CodeBlk]
open Go.Am
attribute [local irreducible] AW Outs Weak Lends Lend Sp aops atree aop1 Then Round InBlock Done
theorem boardText_spec {f : FuncId} {fl : List AV} {n : Nat} {fb : Nat → Nat → Bool} (A : AsksP Tryd.prog f fl n fb) (hn : n ≤ 16) :
    Sp Tryd.prog 28 [.i n, .fn f fl 0] (str (bdT fb n n)) := by
  refine spec_of Tryd.func28 rfl cc28 rfl ?_
  unfold ac28
  repeat (first | (refine step_ops ?_; (first | (refine m_mov (by conv => lhs; whnf) ?_) | (refine m_nils ?_))) | refine end_ops ?_ | refine seq_ops ?_ | refine AW_seq ?_ | refine AW_block ?_)
  refine AW_loop (α := Nat) (fun k => k ≤ n) (fun k => st [(0, .i n), (1, .fn f fl 0), (5, .sl 5 1 0 (bdT fb n k).length), (8, .i n), (9, .i k)] [(5, (true, byteVs (bdT fb n k)))]) (fun k => n - k) 0 (by omega) (weak_st ?_ ?_ ?_ rfl) ?_
  · (repeat' (first | exact trivial | refine And.intro ?_ ?_)) <;> (first | rfl | skip)
    all_goals (simp (disch := decide) [tm_put_ne', tm_put_none, tm_mem, tm_kill, tm_mv, tm_st, tm_en0, tm_en1, tm_en2, tm_en3, tm_en4, Am.look, kill_fn A.nokill, mv_fn A.nokill])
  · exact ⟨rfl, trivial⟩
  · simp [refsT, refsV, A.norefs, Am.look]
  intro k hk
  have hbl := bdT_len fb n k
  have hbv : (byteVs (bdT fb n k)).length = (bdT fb n k).length := by simp [byteVs]
  have hsz : k * (n + 1) ≤ 16 * 17 := Nat.mul_le_mul (by omega) (by omega)
  by_cases hc : k < n
  · have hpre : ∃ pre, pre = bdT fb n k ++ (if 0 < k then [47] else []) := ⟨_, rfl⟩
    obtain ⟨pre, hpr⟩ := hpre
    have hplen : pre.length ≤ 16 * 17 + 1 := by
      rw [hpr, List.length_append]
      have : (if 0 < k then [(47 : UInt8)] else []).length ≤ 1 := by split <;> simp
      omega
    have hpb : (byteVs pre).length = pre.length := by simp [byteVs]
    rcases Nat.eq_zero_or_pos k with hk0 | hk0
    case' inl =>
      rw [if_neg (by omega), List.append_nil] at hpr
      repeat (first | (refine step_ops ?_; (first | (refine m_mov (by conv => lhs; whnf) ?_) | (refine m_lss rfl rfl ?_) | (refine m_gtr rfl rfl ?_))) | refine end_ops ?_ | refine seq_ops ?_ | (refine cond_t rfl ?_ ?_; (· (refine decide_eq_true ?_; omega))) | (refine cond_f rfl ?_ ?_; (· (refine decide_eq_false ?_; omega))) | refine skip_then ?_ | refine AW_seq ?_ | refine AW_block ?_)
      refine AW_weak (weak_st (l := [(0, .i n), (1, .fn f fl 0), (5, .sl 5 1 0 pre.length), (6, .i k), (8, .i n), (9, .i k), (17, .i n), (18, .i (0 : Nat))]) (h := [(5, (true, byteVs pre))]) ?_ ?_ ?_ rfl) ?_
      · rw [hpr]
        (repeat' (first | exact trivial | refine And.intro ?_ ?_)) <;> (first | rfl | skip)
        all_goals (simp (disch := decide) [tm_put_ne', tm_put_none, tm_mem, tm_kill, tm_mv, tm_st, tm_en0, tm_en1, tm_en2, tm_en3, tm_en4, Am.look, kill_fn A.nokill, mv_fn A.nokill])
      · rw [hpr]
        exact ⟨rfl, trivial⟩
      · simp [refsT, refsV, A.norefs, Am.look]
    case' inr =>
      rw [if_pos hk0] at hpr
      repeat (first | (refine step_ops ?_; (first | (refine m_mov (by conv => lhs; whnf) ?_) | (refine m_lss rfl rfl ?_) | (refine m_gtr rfl rfl ?_) | (refine m_bsl1 rfl rfl ?_) | (refine m_app1 rfl (by decide) rfl (by first | (simp; done) | (simp [*]; done) | (simp; omega)) rfl rfl rfl ?_ (by decide) ?_; (· first | omega | (simp; omega))))) | refine end_ops ?_ | refine seq_ops ?_ | refine AW_ops ?_ | (refine cond_t rfl ?_ ?_; (· (refine decide_eq_true ?_; omega))) | refine skip_then ?_ | refine AW_seq ?_ | refine norm_then ?_ | refine AW_block ?_)
      refine AW_weak (Weak.trans (weak_move (r := 16) (q := 5) rfl (by decide) (by decide)) (weak_st (l := [(0, .i n), (1, .fn f fl 0), (5, .sl 5 1 0 pre.length), (6, .i k), (8, .i n), (9, .i k), (17, .i n), (18, .i (0 : Nat))]) (h := [(5, (true, byteVs pre))]) ?_ ?_ ?_ rfl)) ?_
      · rw [show pre.length = (bdT fb n k).length + 1 by rw [hpr, List.length_append]; rfl]
        (repeat' (first | exact trivial | refine And.intro ?_ ?_)) <;> (first | rfl | skip)
        all_goals (simp (disch := decide) [tm_put_ne', tm_put_none, tm_mem, tm_kill, tm_mv, tm_st, tm_en0, tm_en1, tm_en2, tm_en3, tm_en4, Am.look, kill_fn A.nokill, mv_fn A.nokill])
      · rw [hpr, byteVs_snoc]
        exact ⟨rfl, trivial⟩
      · simp [refsT, refsV, A.norefs, Am.look]
    all_goals
      refine AW_loop (α := Nat) (fun j => j ≤ n) (fun j => st [(0, .i n), (1, .fn f fl 0), (5, .sl 5 1 0 (pre ++ rowT fb k j).length), (6, .i k), (8, .i n), (9, .i k), (17, .i n), (18, .i j)] [(5, (true, byteVs (pre ++ rowT fb k j)))]) (fun j => n - j) 0 (by omega) (weak_st ?_ ?_ ?_ rfl) ?_
      · rw [show pre ++ rowT fb k 0 = pre by simp [rowT]]
        (repeat' (first | exact trivial | refine And.intro ?_ ?_)) <;> (first | rfl | skip)
        all_goals (simp (disch := decide) [tm_put_ne', tm_put_none, tm_mem, tm_kill, tm_mv, tm_st, tm_en0, tm_en1, tm_en2, tm_en3, tm_en4, Am.look, kill_fn A.nokill, mv_fn A.nokill])
      · rw [show pre ++ rowT fb k 0 = pre by simp [rowT]]
        exact ⟨rfl, trivial⟩
      · simp [refsT, refsV, A.norefs, Am.look]
      intro j hj
      have hrl : (pre ++ rowT fb k j).length = pre.length + j := by rw [List.length_append, rowT_len]
      have hrv : (byteVs (pre ++ rowT fb k j)).length = pre.length + (rowT fb k j).length := by simp [byteVs]
      have hl5 : (pre ++ rowT fb k (j + 1)).length = (pre ++ rowT fb k j).length + 1 := by rw [rowT_snoc, ← List.append_assoc, List.length_append]; rfl
      have hv5 : byteVs (pre ++ rowT fb k (j + 1)) = byteVs (pre ++ rowT fb k j) ++ [.v (.int .u8 (sgn (fb k j)).toNat)] := by rw [rowT_snoc, ← List.append_assoc, byteVs_snoc]
      by_cases hcj : j < n
      · repeat (first | (refine step_ops ?_; (first | (refine m_mov (by conv => lhs; whnf) ?_) | (refine m_lss rfl rfl ?_) | (refine m_bld_2 (by conv => lhs; whnf) (by conv => lhs; whnf) (by decide)  (by decide) (by rfl) (by rfl) ?_))) | refine end_ops ?_ | refine seq_ops ?_ | (refine cond_t rfl ?_ ?_; (· (refine decide_eq_true ?_; omega))) | refine skip_then ?_ | refine AW_seq ?_ | refine AW_block ?_)
        refine step_ops ?_
        refine m_callf rfl A.call (A.spec k j hc hcj) ?_ ?_
        · exact lends_cons (lend_agg rfl) (lends_self A.bears _)
        by_cases hb : fb k j = true
        · repeat (first | (refine step_ops ?_; (first | (refine m_mov (by conv => lhs; whnf) ?_) | (refine m_add rfl rfl ?_ ?_ ?_; (· omega); (· omega)) | (refine m_bsl1 rfl rfl ?_) | (refine m_app1 rfl (by decide) rfl (by first | (simp; done) | (simp [*]; done) | (simp; omega)) rfl rfl rfl ?_ (by decide) ?_; (· first | omega | (simp; omega))))) | refine end_ops ?_ | refine AW_ops ?_ | (refine cond_t rfl ?_ ?_; (· assumption)) | refine norm_then ?_ | refine norm_block ?_)
          refine next_round (j + 1) (by omega) (Weak.trans (weak_move (r := 28) (q := 5) rfl (by decide) (by decide)) (weak_st ?_ ?_ ?_ rfl)) ?_
          · rw [hl5]
            (repeat' (first | exact trivial | refine And.intro ?_ ?_)) <;> (first | rfl | skip)
            all_goals (simp (disch := decide) [tm_put_ne', tm_put_none, tm_mem, tm_kill, tm_mv, tm_st, tm_en0, tm_en1, tm_en2, tm_en3, tm_en4, Am.look, kill_fn A.nokill, mv_fn A.nokill])
          · rw [hv5, hb]
            exact ⟨rfl, trivial⟩
          · simp [refsT, refsV, A.norefs, Am.look]
          · omega
        · have hb : fb k j = false := by simpa using hb
          repeat (first | (refine step_ops ?_; (first | (refine m_mov (by conv => lhs; whnf) ?_) | (refine m_add rfl rfl ?_ ?_ ?_; (· omega); (· omega)) | (refine m_bsl1 rfl rfl ?_) | (refine m_app1 rfl (by decide) rfl (by first | (simp; done) | (simp [*]; done) | (simp; omega)) rfl rfl rfl ?_ (by decide) ?_; (· first | omega | (simp; omega))))) | refine end_ops ?_ | refine AW_ops ?_ | (refine cond_f rfl ?_ ?_; (· assumption)) | refine norm_then ?_ | refine norm_block ?_)
          refine next_round (j + 1) (by omega) (Weak.trans (weak_move (r := 31) (q := 5) rfl (by decide) (by decide)) (weak_st ?_ ?_ ?_ rfl)) ?_
          · rw [hl5]
            (repeat' (first | exact trivial | refine And.intro ?_ ?_)) <;> (first | rfl | skip)
            all_goals (simp (disch := decide) [tm_put_ne', tm_put_none, tm_mem, tm_kill, tm_mv, tm_st, tm_en0, tm_en1, tm_en2, tm_en3, tm_en4, Am.look, kill_fn A.nokill, mv_fn A.nokill])
          · rw [hv5, hb]
            exact ⟨rfl, trivial⟩
          · simp [refsT, refsV, A.norefs, Am.look]
          · omega
      · obtain rfl : j = n := by omega
        have e : pre ++ rowT fb k j = bdT fb j (k + 1) := by
          simp only [bdT]
          rw [hpr]
          try rw [if_pos hk0]
          try rw [if_neg (by omega), List.append_nil]
        rw [e]
        repeat (first | (refine step_ops ?_; (first | (refine m_mov (by conv => lhs; whnf) ?_) | (refine m_lss rfl rfl ?_) | (refine m_add rfl rfl ?_ ?_ ?_; (· omega); (· omega)))) | refine end_ops ?_ | refine seq_ops ?_ | refine AW_ops ?_ | (refine cond_f rfl ?_ ?_; (· (refine decide_eq_false ?_; omega))) | refine AW_seq ?_ | refine norm_then ?_ | refine exit_then ?_ | refine norm_block ?_ | refine exit_round ?_ | refine AW_exit ?_ | refine exit_block ?_)
        refine next_round (k + 1) (by omega) (weak_st ?_ ?_ ?_ rfl) ?_
        · (repeat' (first | exact trivial | refine And.intro ?_ ?_)) <;> (first | rfl | skip)
          all_goals (simp (disch := decide) [tm_put_ne', tm_put_none, tm_mem, tm_kill, tm_mv, tm_st, tm_en0, tm_en1, tm_en2, tm_en3, tm_en4, Am.look, kill_fn A.nokill, mv_fn A.nokill])
        · exact ⟨rfl, trivial⟩
        · simp [refsT, refsV, A.norefs, Am.look]
        · omega
  · obtain rfl : k = n := by omega
    repeat (first | (refine step_ops ?_; (first | (refine m_mov (by conv => lhs; whnf) ?_) | (refine m_lss rfl rfl ?_) | (refine m_bts_sl rfl rfl ?_ ?_; (· first | rfl | omega | (simp; done))))) | refine end_ops ?_ | refine seq_ops ?_ | (refine cond_f rfl ?_ ?_; (· (refine decide_eq_false ?_; omega))) | refine AW_seq ?_ | refine AW_ret ?_ | refine ret_done ?_ | refine norm_then ?_ | refine exit_then ?_ | refine exit_round ?_ | refine AW_exit ?_ | refine exit_block ?_)
    exact outs_v
end Go.Proofs.YtmifianbkpiifaaDoor
namespace Go.Proofs.YtmifianbkpiifaaDoor
variable [Go.Am.CodeBlk]
open Go.Am
attribute [local irreducible] AW Outs Weak Lends Lend Sp aops atree aop1 Then Round InBlock Done
def sideR (B : List UInt8) : AV := .tup [.i (if GoodBd B then (sdB B : Nat) else (0 : Int)), .b (decide (GoodBd B))]
theorem implSideOf_spec (B : List UInt8) (hB : B.length ≤ 1048576) : Sp Tryd.prog 8 [str B] (sideR B) := by
  have hr := readBoard_spec B hB
  unfold bdR bdV at hr
  unfold sideR
  refine spec_of Tryd.func8 rfl cc8 rfl ?_
  unfold ac8
  by_cases h : GoodBd B
  · rw [if_pos h] at hr ⊢
    repeat (first | (refine step_ops ?_; (refine m_mov (by conv => lhs; whnf) ?_)) | refine end_ops ?_ | refine seq_ops ?_)
    (refine step_ops ?_); (apply m_call (hr)); (· repeat (first | exact lends_nil | (refine lends_cons ?_ ?_; (· exact lend_v))))
    repeat (first | (refine step_ops ?_; (first | (refine m_mov (by conv => lhs; whnf) ?_) | (apply m_ld_pt; (· rfl); (· rfl); (· rfl)) | (refine m_ext rfl rfl ?_) | (refine m_alloc ?_) | (refine m_fa rfl ?_) | (refine m_stall rfl rfl rfl ?_ ?_ ?_ ?_; (· first | rfl | (simp [*]; done)); (· first | rfl | (simp [*]; done)); (· first | rfl | (simp [cellOk, Value.oneCell']; done))))) | refine end_ops ?_ | refine seq_ops ?_ | refine AW_ret ?_ | refine ret_done ?_)
    exact outs_tup2 (outs_i rfl) (outs_b rfl)
  · rw [if_neg h] at hr ⊢
    repeat (first | (refine step_ops ?_; (refine m_mov (by conv => lhs; whnf) ?_)) | refine end_ops ?_ | refine seq_ops ?_)
    (refine step_ops ?_); (apply m_call (hr)); (· repeat (first | exact lends_nil | (refine lends_cons ?_ ?_; (· exact lend_v))))
    repeat (first | (refine step_ops ?_; (first | (refine m_mov (by conv => lhs; whnf) ?_) | (apply m_ld_pt; (· rfl); (· rfl); (· rfl)) | (refine m_ext rfl rfl ?_) | (refine m_alloc ?_) | (refine m_fa rfl ?_) | (refine m_stall rfl rfl rfl ?_ ?_ ?_ ?_; (· first | rfl | (simp [*]; done)); (· first | rfl | (simp [*]; done)); (· first | rfl | (simp [cellOk, Value.oneCell']; done))))) | refine end_ops ?_ | refine seq_ops ?_ | refine AW_ret ?_ | refine ret_done ?_)
    exact outs_tup2 (outs_i rfl) (outs_b rfl)
theorem specSideOf_spec (B : List UInt8) (hB : B.length ≤ 1048576) : Sp Tryd.prog 9 [str B] (sideR B) := by
  unfold sideR
  refine spec_of Tryd.func9 rfl cc9 rfl ?_
  unfold ac9
  by_cases h : GoodBd B
  · rw [if_pos h]
    repeat (first | (refine step_ops ?_; (refine m_mov (by conv => lhs; whnf) ?_)) | refine end_ops ?_ | refine seq_ops ?_ | refine AW_seq ?_)
    (refine step_ops ?_); (apply m_call (bdGood_spec B hB)); (· repeat (first | exact lends_nil | (refine lends_cons ?_ ?_; (· exact lend_v))))
    repeat (first | (refine step_ops ?_; (first | (refine m_mov (by conv => lhs; whnf) ?_) | (refine m_not rfl ?_))) | refine end_ops ?_ | refine seq_ops ?_ | (refine cond_f rfl ?_ ?_; (· (refine nf ?_; assumption))) | refine skip_then ?_)
    (refine step_ops ?_); (apply m_call (bdSide_spec B hB)); (· repeat (first | exact lends_nil | (refine lends_cons ?_ ?_; (· exact lend_v))))
    repeat (first | (refine step_ops ?_; (refine m_mov (by conv => lhs; whnf) ?_)) | refine end_ops ?_ | refine AW_ret ?_ | refine ret_done ?_)
    exact outs_tup2 (outs_i rfl) (outs_b (decide_eq_true h).symm)
  · rw [if_neg h]
    repeat (first | (refine step_ops ?_; (refine m_mov (by conv => lhs; whnf) ?_)) | refine end_ops ?_ | refine seq_ops ?_ | refine AW_seq ?_)
    (refine step_ops ?_); (apply m_call (bdGood_spec B hB)); (· repeat (first | exact lends_nil | (refine lends_cons ?_ ?_; (· exact lend_v))))
    repeat (first | (refine step_ops ?_; (first | (refine m_mov (by conv => lhs; whnf) ?_) | (refine m_not rfl ?_))) | refine end_ops ?_ | refine seq_ops ?_ | (refine cond_t rfl ?_ ?_; (· (refine nt ?_; assumption))) | refine AW_ret ?_ | refine ret_done ?_ | refine ret_then ?_)
    exact outs_tup2 (outs_i rfl) (outs_b (decide_eq_false h).symm)
/-- A sign and the other one. -/
def swp (c : UInt8) : UInt8 := if c = 46 then 35 else if c = 35 then 46 else 47
theorem swp_row (fb : Nat → Nat → Bool) (i k : Nat) : (rowT fb i k).map swp = rowT (fun i j => !fb i j) i k := by
  simp only [rowT, List.map_map]
  apply List.map_congr_left
  intro j _
  show swp (sgn (fb i j)) = sgn (!fb i j)
  cases fb i j <;> rfl
theorem swp_bd (fb : Nat → Nat → Bool) (n k : Nat) : (bdT fb n k).map swp = bdT (fun i j => !fb i j) n k := by
  induction k with
  | zero => rfl
  | succ k ih =>
    simp only [bdT, List.map_append, ih, swp_row]
    congr 2
    split <;> rfl
/-- What OtherBoard tells. -/
def othB (B : List UInt8) : List UInt8 := if GoodBd B then B.map swp else []
def txR (B C : List UInt8) : AV := .tup [str C, .b (decide (GoodBd B))]
theorem specOtherBoard_spec (B : List UInt8) (hB : B.length ≤ 1048576) : Sp Tryd.prog 7 [str B] (txR B (othB B)) := by
  unfold txR othB
  refine spec_of Tryd.func7 rfl cc7 rfl ?_
  unfold ac7
  by_cases h : GoodBd B
  · rw [if_pos h]
    repeat (first | (refine step_ops ?_; (refine m_mov (by conv => lhs; whnf) ?_)) | refine end_ops ?_ | refine seq_ops ?_ | refine AW_seq ?_)
    (refine step_ops ?_); (apply m_call (bdGood_spec B hB)); (· repeat (first | exact lends_nil | (refine lends_cons ?_ ?_; (· exact lend_v))))
    repeat (first | (refine step_ops ?_; (first | (refine m_mov (by conv => lhs; whnf) ?_) | (refine m_not rfl ?_))) | refine end_ops ?_ | refine seq_ops ?_ | (refine cond_f rfl ?_ ?_; (· (refine nf ?_; assumption))) | refine skip_then ?_ | refine AW_seq ?_ | refine AW_block ?_)
    refine AW_loop (α := Nat) (fun k => k ≤ B.length) (fun k => st [(0, str B), (4, str ((B.take k).map swp)), (5, .i k)] []) (fun k => B.length - k) 0 (Nat.zero_le _) (weak_st ?_ ?_ rfl rfl) ?_
    · (repeat' (first | exact trivial | refine And.intro ?_ ?_)) <;> (first | rfl | skip)
    · trivial
    intro k hk
    have hml : ((B.take k).map swp).length = k := by simp; omega
    have h1l : ([47] : List UInt8).length = 1 := rfl
    have h2l : ([46] : List UInt8).length = 1 := rfl
    have h3l : ([35] : List UInt8).length = 1 := rfl
    by_cases hc : k < B.length
    · have hts : (B.take (k + 1)).map swp = (B.take k).map swp ++ [swp (B.getD k 0)] := by rw [take_snoc B k 0 hc, List.map_append]; rfl
      generalize (B.take k).map swp = M at *
      by_cases h46 : B.getD k 0 = 46
      · have h46' : ((B.getD k 0).toNat : Int) = 46 := by rw [h46]; rfl
        rw [h46] at hts
        repeat (first | (refine step_ops ?_; (first | (refine m_mov (by conv => lhs; whnf) ?_) | (refine m_lss rfl rfl ?_) | (refine m_eqk rfl rfl ?_) | (refine m_add rfl rfl ?_ ?_ ?_; (· omega); (· omega)) | (refine m_adds rfl rfl ?_ ?_; (· first | omega | (simp; omega))) | (refine m_slen rfl ?_) | (refine m_six' rfl rfl ?_ ?_; (· first | omega | (simp; omega))))) | refine end_ops ?_ | refine seq_ops ?_ | refine AW_ops ?_ | (refine cond_t rfl ?_ ?_; (· first | (refine decide_eq_true ?_; assumption) | (refine decide_eq_true ?_; omega))) | refine skip_then ?_ | refine AW_seq ?_ | refine norm_then ?_ | refine AW_block ?_ | refine norm_block ?_)
        refine next_round (k + 1) hc (weak_st ?_ ?_ rfl rfl) ?_
        · rw [hts]
          (repeat' (first | exact trivial | refine And.intro ?_ ?_)) <;> (first | rfl | skip)
        · trivial
        · omega
      · have h46' : ¬ ((B.getD k 0).toNat : Int) = 46 := fun e => h46 (u8_eq (n := 46) (by omega) 46 rfl)
        by_cases h35 : B.getD k 0 = 35
        · have h35' : ((B.getD k 0).toNat : Int) = 35 := by rw [h35]; rfl
          rw [h35] at hts
          repeat (first | (refine step_ops ?_; (first | (refine m_mov (by conv => lhs; whnf) ?_) | (refine m_lss rfl rfl ?_) | (refine m_eqk rfl rfl ?_) | (refine m_add rfl rfl ?_ ?_ ?_; (· omega); (· omega)) | (refine m_adds rfl rfl ?_ ?_; (· first | omega | (simp; omega))) | (refine m_slen rfl ?_) | (refine m_six' rfl rfl ?_ ?_; (· first | omega | (simp; omega))))) | refine end_ops ?_ | refine seq_ops ?_ | refine AW_ops ?_ | (refine cond_t rfl ?_ ?_; (· first | (refine decide_eq_true ?_; assumption) | (refine decide_eq_true ?_; omega))) | (refine cond_f rfl ?_ ?_; (· (refine decide_eq_false ?_; assumption))) | refine skip_then ?_ | refine AW_seq ?_ | refine norm_then ?_ | refine AW_block ?_ | refine norm_block ?_)
          refine next_round (k + 1) hc (weak_st ?_ ?_ rfl rfl) ?_
          · rw [hts]
            (repeat' (first | exact trivial | refine And.intro ?_ ?_)) <;> (first | rfl | skip)
          · trivial
          · omega
        · have h35' : ¬ ((B.getD k 0).toNat : Int) = 35 := fun e => h35 (u8_eq (n := 35) (by omega) 35 rfl)
          have hsw : swp (B.getD k 0) = 47 := by unfold swp; rw [if_neg h46, if_neg h35]
          rw [hsw] at hts
          repeat (first | (refine step_ops ?_; (first | (refine m_mov (by conv => lhs; whnf) ?_) | (refine m_lss rfl rfl ?_) | (refine m_eqk rfl rfl ?_) | (refine m_add rfl rfl ?_ ?_ ?_; (· omega); (· omega)) | (refine m_adds rfl rfl ?_ ?_; (· first | omega | (simp; omega))) | (refine m_slen rfl ?_) | (refine m_six' rfl rfl ?_ ?_; (· first | omega | (simp; omega))))) | refine end_ops ?_ | refine seq_ops ?_ | refine AW_ops ?_ | (refine cond_t rfl ?_ ?_; (· (refine decide_eq_true ?_; omega))) | (refine cond_f rfl ?_ ?_; (· (refine decide_eq_false ?_; assumption))) | refine skip_then ?_ | refine AW_seq ?_ | refine norm_then ?_ | refine AW_block ?_ | refine norm_block ?_)
          refine next_round (k + 1) hc (weak_st ?_ ?_ rfl rfl) ?_
          · rw [hts]
            (repeat' (first | exact trivial | refine And.intro ?_ ?_)) <;> (first | rfl | skip)
          · trivial
          · omega
    · obtain rfl : k = B.length := by omega
      rw [List.take_length]
      repeat (first | (refine step_ops ?_; (first | (refine m_mov (by conv => lhs; whnf) ?_) | (refine m_lss rfl rfl ?_) | (refine m_slen rfl ?_))) | refine end_ops ?_ | refine seq_ops ?_ | (refine cond_f rfl ?_ ?_; (· (refine decide_eq_false ?_; omega))) | refine AW_seq ?_ | refine AW_ret ?_ | refine ret_done ?_ | refine norm_then ?_ | refine exit_then ?_ | refine exit_round ?_ | refine AW_exit ?_ | refine exit_block ?_)
      exact outs_tup2 outs_v (outs_b (decide_eq_true h).symm)
  · rw [if_neg h]
    repeat (first | (refine step_ops ?_; (refine m_mov (by conv => lhs; whnf) ?_)) | refine end_ops ?_ | refine seq_ops ?_ | refine AW_seq ?_)
    (refine step_ops ?_); (apply m_call (bdGood_spec B hB)); (· repeat (first | exact lends_nil | (refine lends_cons ?_ ?_; (· exact lend_v))))
    repeat (first | (refine step_ops ?_; (first | (refine m_mov (by conv => lhs; whnf) ?_) | (refine m_not rfl ?_))) | refine end_ops ?_ | refine seq_ops ?_ | (refine cond_t rfl ?_ ?_; (· (refine nt ?_; assumption))) | refine AW_ret ?_ | refine ret_done ?_ | refine ret_then ?_)
    exact outs_tup2 outs_v (outs_b (decide_eq_false h).symm)
/-- A board that was read, asx closures see it. -/
def capB (B : List UInt8) : AV := .rp [.i (sdB B : Nat), .rmp false (mkEs (plB B)) (plB B).length]
theorem capB_bears (B : List UInt8) : Go.Am.Bears [capB B] := bears_rpM (cs := [.i (sdB B : Nat), .rmp false (mkEs (plB B)) (plB B).length]) rfl rfl
theorem plB_lt {B : List UInt8} (h : GoodBd B) : ∀ p ∈ plB B, p.1 < 1000 ∧ p.2 < 1000 := by
  intro p hp
  have := mem_posP.1 hp
  have := good_sd h
  omega
theorem hasP_at (B : List UInt8) {i j : Nat} (hi : i < sdB B) (hj : j < sdB B) : hasP (plB B) (i : Nat) (j : Nat) = fbB B i j := by
  unfold plB
  rw [hasP_pos, decide_eq_true (by omega)]
  simp
theorem otherFn_spec (B : List UInt8) (h : GoodBd B) (i j : Nat) (hi : i < sdB B) (hj : j < sdB B) : Sp Tryd.prog 34 [.agg [.i (i : Nat), .i (j : Nat)], capB B] (.b (!fbB B i j)) := by
  have hsd := good_sd h
  have hat := hasP_at B hi hj
  have hlt := plB_lt h
  unfold capB
  refine spec_of Tryd.func34 rfl cc34 rfl ?_
  unfold ac34
  repeat (first | (refine step_ops ?_; (first | (refine m_mov (by conv => lhs; whnf) ?_) | (apply m_ld_rp; (· rfl); (· rfl)) | (refine m_fa_rp rfl ?_) | (refine m_box rfl ?_ ?_; (· first | rfl | (simp [cellOk, Value.oneCell']; done))) | (refine m_ldall rfl rfl ?_ ?_; (· first | rfl | (simp; done) | (simp [*]; done))))) | refine end_ops ?_ | refine seq_ops ?_)
  refine step_ops ?_
  refine m_place (a := (i : Nat)) (b := (j : Nat)) hlt (.inr ⟨false, rfl⟩) rfl (by omega) (by omega) ?_
  rw [hat]
  repeat (first | (refine step_ops ?_; (first | (refine m_mov (by conv => lhs; whnf) ?_) | (refine m_not rfl ?_))) | refine end_ops ?_ | refine AW_ret ?_ | refine ret_done ?_)
  exact outs_b rfl
theorem other_asks (B : List UInt8) (h : GoodBd B) : AsksP Tryd.prog 34 [capB B] (sdB B) (fun i j => !fbB B i j) where
  call := ⟨_, Tryd.func34, by rfl, by rfl⟩
  bears := capB_bears B
  norefs := fun _ => rfl
  nokill := fun _ => rfl
  spec := fun i j hi hj => otherFn_spec B h i j hi hj
theorem implOtherBoard_spec (B : List UInt8) (hB : B.length ≤ 1048576) : Sp Tryd.prog 6 [str B] (txR B (othB B)) := by
  have hr := readBoard_spec B hB
  unfold bdR bdV at hr
  unfold txR othB
  refine spec_of Tryd.func6 rfl cc6 rfl ?_
  unfold ac6
  by_cases h : GoodBd B
  · rw [if_pos h] at hr ⊢
    have hsd := good_sd h
    have hs := boardText_spec (other_asks B h) (by omega)
    rw [← swp_bd, ← good_text h] at hs
    repeat (first | (refine step_ops ?_; (refine m_mov (by conv => lhs; whnf) ?_)) | refine end_ops ?_ | refine seq_ops ?_)
    (refine step_ops ?_); (apply m_call (hr)); (· repeat (first | exact lends_nil | (refine lends_cons ?_ ?_; (· exact lend_v))))
    repeat (first | (refine step_ops ?_; (first | (refine m_mov (by conv => lhs; whnf) ?_) | (refine m_not rfl ?_) | (apply m_ld_pt; (· rfl); (· rfl); (· rfl)) | (refine m_mkf ?_) | (refine m_ext rfl rfl ?_) | (refine m_alloc ?_) | (refine m_fa rfl ?_) | (refine m_stall rfl rfl rfl ?_ ?_ ?_ ?_; (· first | rfl | (simp [*]; done)); (· first | rfl | (simp [*]; done)); (· first | rfl | (simp [cellOk, Value.oneCell']; done))))) | refine end_ops ?_ | refine seq_ops ?_ | (refine cond_f rfl ?_ ?_; (· (refine nf ?_; assumption))) | refine skip_then ?_ | refine AW_seq ?_)
    refine step_ops ?_
    refine m_call hs ?_ ?_
    · refine lends_cons lend_v (lends_cons (lend_fn (lends_cons ?_ lends_nil)) lends_nil)
      exact lend_ptM (cs := [.i (sdB B : Nat), .rmp true (mkEs (plB B)) (plB B).length]) rfl rfl
    repeat (first | (refine step_ops ?_; (refine m_mov (by conv => lhs; whnf) ?_)) | refine end_ops ?_ | refine AW_ret ?_ | refine ret_done ?_)
    exact outs_tup2 outs_v (outs_b (decide_eq_true h).symm)
  · rw [if_neg h] at hr ⊢
    repeat (first | (refine step_ops ?_; (refine m_mov (by conv => lhs; whnf) ?_)) | refine end_ops ?_ | refine seq_ops ?_)
    (refine step_ops ?_); (apply m_call (hr)); (· repeat (first | exact lends_nil | (refine lends_cons ?_ ?_; (· exact lend_v))))
    repeat (first | (refine step_ops ?_; (first | (refine m_mov (by conv => lhs; whnf) ?_) | (refine m_not rfl ?_) | (refine m_ext rfl rfl ?_) | (refine m_alloc ?_) | (refine m_stall rfl rfl rfl ?_ ?_ ?_ ?_; (· first | rfl | (simp [*]; done)); (· first | rfl | (simp [*]; done)); (· first | rfl | (simp [cellOk, Value.oneCell']; done))))) | refine end_ops ?_ | refine seq_ops ?_ | (refine cond_t rfl ?_ ?_; (· (refine nt ?_; assumption))) | refine AW_seq ?_ | refine AW_ret ?_ | refine ret_done ?_ | refine ret_then ?_)
    exact outs_tup2 outs_v (outs_b (decide_eq_false h).symm)
end Go.Proofs.YtmifianbkpiifaaDoor
namespace Go.Am
variable [Go.Am.CodeBlk]
/-- The set of what stands in a list. -/
def setI (l : List Int) : Nat := l.foldl (fun T x => insC T x.toNat) 0
theorem setI_snoc (l : List Int) (x : Nat) : setI (l ++ [(x : Int)]) = insC (setI l) x := by
  unfold setI
  rw [List.foldl_append]
  rfl
theorem foldI_bit (i : Nat) : ∀ (l : List Int) (T : Nat), (∀ x ∈ l, 0 ≤ x) → (l.foldl (fun T x => insC T x.toNat) T).testBit i = (T.testBit i || decide ((i : Int) ∈ l))
  | [], T, _ => by simp
  | x :: l, T, h => by
    have hx := h x (by simp)
    obtain ⟨y, rfl⟩ := Int.eq_ofNat_of_zero_le hx
    rw [List.foldl_cons, foldI_bit i l _ fun z hz => h z (by simp [hz]), insC_bit, Int.toNat_natCast]
    have e : decide ((i : Int) ∈ ((y : Int) :: l)) = (decide (y = i) || decide ((i : Int) ∈ l)) := by
      rw [Bool.eq_iff_iff]
      simp only [decide_eq_true_eq, List.mem_cons, Bool.or_eq_true]
      have : ((i : Int) = (y : Int)) ↔ y = i := by omega
      rw [this]
    rw [e, Bool.or_assoc]
theorem setI_bit (i : Nat) {l : List Int} (h : ∀ x ∈ l, 0 ≤ x) : (setI l).testBit i = decide ((i : Int) ∈ l) := by
  unfold setI
  rw [foldI_bit i l 0 h]
  simp
theorem goA_len {fb : Nat → Nat → Bool} {fits : List Int → Nat → Bool} {n : Nat} (hf : ∀ l x, fits l x = (!fb l.length x && !decide ((x : Int) ∈ l))) : ∀ (u : Nat) (l : List Int), (∀ x ∈ l, 0 ≤ x) → l.length + u = n → (goOn fits n u l).length = hitW fb n u (setI l) 0
  | 0, l, _, _ => rfl
  | u + 1, l, h, hl => by
    have key : ∀ x, x ≤ n → (((List.range x).filter fun x => fits l x).flatMap fun (x : Nat) => goOn fits n u (l ++ [(x : Int)])).length = sumN x fun j => if (setI l).testBit j then 0 else if fb (n - (u + 1)) j then 0 else hitW fb n u (insC (setI l) j) 0 := by
      intro x
      induction x with
      | zero => intro _; rfl
      | succ x ih =>
        intro hx
        rw [List.range_succ, List.filter_append, List.flatMap_append, List.length_append, ih (by omega), sumN]
        congr 1
        rw [show n - (u + 1) = l.length by omega, setI_bit x h]
        have hfx := hf l x
        cases h1 : fb l.length x
        · by_cases h2 : (x : Int) ∈ l
          · rw [h1, decide_eq_true h2] at hfx
            rw [List.filter_cons_of_neg (by rw [hfx]; decide)]
            simp [h2]
          · rw [h1, decide_eq_false h2] at hfx
            rw [List.filter_cons_of_pos (by rw [hfx]; decide)]
            simp only [List.filter_nil, List.flatMap_cons, List.flatMap_nil, List.append_nil, h2, decide_false, Bool.false_eq_true, if_false]
            rw [goA_len hf u (l ++ [(x : Int)]) (fun y hy => ?_) (by simp; omega), setI_snoc]
            rw [List.mem_append, List.mem_singleton] at hy
            rcases hy with hy | rfl
            · exact h y hy
            · omega
        · rw [h1] at hfx
          rw [List.filter_cons_of_neg (by rw [hfx]; simp)]
          simp
    rw [goOn, key n (Nat.le_refl _)]
    rfl
end Go.Am
namespace Go.Proofs.YtmifianbkpiifaaDoor
variable [Go.Am.CodeBlk]
open Go.Am
/-- The exchanges that a board allows. -/
def allB (B : List UInt8) : List (List Int) := goOn (fitsA B) (sdB B) (sdB B) []
theorem allB_len (B : List UInt8) : (allB B).length = hitX (fbB B) (sdB B) 0 := goA_len (fun _ _ => rfl) (sdB B) [] (by simp) (by simp)
end Go.Proofs.YtmifianbkpiifaaDoor
namespace Go.Am
variable [Go.Am.CodeBlk]
/-- Places asx rows of two numbers. -/
def rowsP (l : List (Nat × Nat)) : List (List Int) := l.map fun p => [(p.1 : Int), (p.2 : Int)]
theorem rowsP_app (a b : List (Nat × Nat)) : rowsP (a ++ b) = rowsP a ++ rowsP b := List.map_append ..
theorem rowsP_row (l : List (Nat × Nat)) : ∀ r ∈ rowsP l, r.length = 2 := by
  intro r hr
  simp only [rowsP, List.mem_map] at hr
  obtain ⟨p, _, rfl⟩ := hr
  rfl
theorem rowP_len (fb : Nat → Nat → Bool) (i k : Nat) : (rowP fb i k).length ≤ k := by
  simp only [rowP, List.length_map]
  exact Nat.le_trans (List.length_filter_le _ _) (by simp)
theorem posP_len (fb : Nat → Nat → Bool) (n k : Nat) : (posP fb n k).length ≤ k * n := by
  induction k with
  | zero => simp [posP]
  | succ k ih =>
    have := rowP_len fb k n
    simp only [posP, List.length_append, Nat.succ_mul]
    omega
/-- The rows of the first k rows of a board, and of j places more. -/
def posM (fb : Nat → Nat → Bool) (n k j : Nat) : List (List Int) := rowsP (posP fb n k ++ rowP fb k j)
theorem posM_zero (fb : Nat → Nat → Bool) (n : Nat) : posM fb n 0 0 = [] := rfl
theorem posM_end (fb : Nat → Nat → Bool) (n k : Nat) : posM fb n (k + 1) 0 = posM fb n k n := by
  show rowsP ((posP fb n k ++ rowP fb k n) ++ rowP fb (k + 1) 0) = _
  rw [show rowP fb (k + 1) 0 = [] from rfl, List.append_nil]
  rfl
theorem posM_snoc (fb : Nat → Nat → Bool) (n k j : Nat) : posM fb n k (j + 1) = posM fb n k j ++ if fb k j then [[(k : Int), (j : Int)]] else [] := by
  simp only [posM, rowP_snoc, ← List.append_assoc]
  rw [rowsP_app]
  split <;> simp [rowsP]
theorem posM_len {fb : Nat → Nat → Bool} {n k j : Nat} (hn : n ≤ 8) (hk : k ≤ n) (hj : j ≤ n) : (posM fb n k j).length ≤ 72 := by
  have h1 := posP_len fb n k
  have h2 := rowP_len fb k j
  have h3 : k * n ≤ 8 * 8 := Nat.mul_le_mul (by omega) hn
  simp only [posM, rowsP, List.length_map, List.length_append]
  omega
theorem posM_row (fb : Nat → Nat → Bool) (n k j : Nat) : ∀ r ∈ posM fb n k j, r.length = 2 := rowsP_row _
end Go.Am
namespace Go.Proofs.YtmifianbkpiifaaDoor
variable [Go.Am.CodeBlk]
open Go.Am
attribute [local irreducible] AW Outs Weak Lends Lend Sp aops atree aop1 Then Round InBlock Done
attribute [local irreducible] SpM DoneM SpH DoneH
theorem plF_lt {B : List UInt8} (h : GoodBd B) : ∀ p ∈ plB B, p.1 < 1000 ∧ p.2 < 1000 := by
  intro p hp
  have := mem_posP.1 hp
  have := good_sd h
  omega
theorem hasF_at (B : List UInt8) {i j : Nat} (hi : i < sdB B) (hj : j < sdB B) : hasP (plB B) (i : Nat) (j : Nat) = fbB B i j := by
  unfold plB
  rw [hasP_pos, decide_eq_true (by omega)]
  simp
/-- What ForbiddenOf tells. -/
def plM (B : List UInt8) : List (List Int) := posM (fbB B) (sdB B) (sdB B) 0
def fobR (B : List UInt8) : List (List Int) := if GoodBd B then plM B else []
theorem bdPlaces_spec (B : List UInt8) (h : GoodBd B) (hB : B.length ≤ 1048576) : SpH Tryd.prog 31 [str B] (fun _ => none) (.sl nbase 1 0 (plM B).length) (matO (plM B)) := by
  have hpb : pbase = 4000000 := rfl
  have hsd := good_sd h
  refine specH_of Tryd.func31 rfl cc31 rfl (by first | exact static_mat1 _ | exact static_mat2 _ _ | assumption) ?_
  unfold ac31
  repeat (first | (refine step_ops ?_; (first | (refine m_mov (by conv => lhs; whnf) ?_) | (refine m_nils ?_))) | refine end_ops ?_ | refine seq_ops ?_ | refine AW_seq ?_ | refine AW_block ?_)
  refine AW_loop (α := Nat) (fun k => k ≤ sdB B) (fun k => stM [(0, str B), (3, .sl 3 1 0 (posM (fbB B) (sdB B) k 0).length), (4, .i k)] [] 3 1000 (posM (fbB B) (sdB B) k 0)) (fun k => sdB B - k) 0 (Nat.zero_le _)
    (weak_keep id ?_ ?_ rfl rfl rfl (.inl (by simp [posM_zero, pbase])) rfl rfl rfl (.inr ⟨rfl, rfl⟩) (fun j hj => by simp [posM_zero] at hj)) ?_
  · (repeat' (first | exact trivial | refine And.intro ?_ ?_)) <;> (first | rfl | skip)
  · trivial
  intro k hk
  have hrl := rowsC_len 1000 (posM (fbB B) (sdB B) k 0)
  have hpl := posM_len (fb := fbB B) (n := sdB B) (k := k) (j := 0) (by omega) hk (by omega)
  by_cases hc : k < sdB B
  · repeat (first | (refine step_ops ?_; (refine m_mov (by conv => lhs; whnf) ?_)) | refine seq_ops ?_ | refine AW_seq ?_)
    (refine step_ops ?_); (apply m_call (bdSide_spec B hB)); (· repeat (first | exact lends_nil | (refine lends_cons ?_ ?_; (· exact lend_v))))
    repeat (first | (refine step_ops ?_; (first | (refine m_mov (by conv => lhs; whnf) ?_) | (refine m_lss rfl rfl ?_))) | refine end_ops ?_ | refine seq_ops ?_ | (refine cond_t rfl ?_ ?_; (· (refine decide_eq_true ?_; omega))) | refine skip_then ?_ | refine AW_seq ?_ | refine AW_block ?_)
    refine AW_loop (α := Nat) (fun j => j ≤ sdB B) (fun j => stM [(0, str B), (3, .sl 3 1 0 (posM (fbB B) (sdB B) k j).length), (4, .i k), (5, .i j)] [] 3 1000 (posM (fbB B) (sdB B) k j)) (fun j => sdB B - j) 0 (Nat.zero_le _)
      (weak_keep id ?_ ?_ rfl rfl rfl (.inl (by omega)) rfl rfl rfl (.inl ⟨rfl, rfl⟩) ?_) ?_
    · (repeat' (first | exact trivial | refine And.intro ?_ ?_)) <;> (first | rfl | skip)
    · trivial
    · (intro j hj; simp (disch := first | omega | assumption) only [hp_put, hp_mem_ne, hp_kill_ne]; first | exact stM_row rfl hj | (rw [stM_row rfl hj]; rfl))
    intro j hj
    have hrl := rowsC_len 1000 (posM (fbB B) (sdB B) k j)
    have hpl := posM_len (fb := fbB B) (n := sdB B) (k := k) (j := j) (by omega) hk hj
    have hsn := posM_snoc (fbB B) (sdB B) k j
    have hen := posM_end (fbB B) (sdB B) k
    by_cases hcj : j < sdB B
    · by_cases hf : fbB B k j = true
      · rw [hf, if_pos rfl] at hsn
        generalize posM (fbB B) (sdB B) k j = R at *
        repeat (first | (refine step_ops ?_; (refine m_mov (by conv => lhs; whnf) ?_)) | refine seq_ops ?_ | refine AW_seq ?_)
        (refine step_ops ?_); (apply m_call (bdSide_spec B hB)); (· repeat (first | exact lends_nil | (refine lends_cons ?_ ?_; (· exact lend_v))))
        repeat (first | (refine step_ops ?_; (first | (refine m_mov (by conv => lhs; whnf) ?_) | (refine m_lss rfl rfl ?_))) | refine end_ops ?_ | refine seq_ops ?_ | (refine cond_t rfl ?_ ?_; (· (refine decide_eq_true ?_; omega))) | refine skip_then ?_ | refine AW_seq ?_ | refine AW_block ?_)
        (refine step_ops ?_); (apply m_call (bdAt_spec B h k j hc hcj)); (· repeat (first | exact lends_nil | (refine lends_cons ?_ ?_; (· exact lend_v))))
        repeat (first | (refine step_ops ?_; (refine m_mov (by conv => lhs; whnf) ?_)) | refine end_ops ?_ | refine AW_ops ?_ | (refine cond_t rfl ?_ ?_; (· assumption)))
        refine step_ops ?_
        refine m_bsl2i rfl rfl ?_
        refine step_ops ?_
        refine m_bsl1d rfl rfl ?_
        refine step_ops ?_
        refine m_app1d rfl (by decide) rfl ?_ rfl rfl rfl ?_ (by decide) ?_
        · simp [rowsC_kill, rowsC_len]
        · omega
        repeat (first | (refine step_ops ?_; (first | (refine m_mov (by conv => lhs; whnf) ?_) | (refine m_add rfl rfl ?_ ?_ ?_; (· omega); (· omega)))) | refine end_ops ?_ | refine AW_ops ?_ | refine norm_then ?_ | refine norm_block ?_)
        refine next_round (j + 1) hcj ?_ ?_
        · rw [hsn, List.length_append]
          refine weak_push (fun r => if r = 3 then 27 else r) 25 ?_ ?_ rfl rfl rfl (by omega) rfl rfl (by decide) rfl rfl ?_ ?_ ?_
          · (repeat' (first | exact trivial | refine And.intro ?_ ?_)) <;> (first | rfl | skip)
          · trivial
          · simp [rowsC_kill, killL_append, killL]
            rfl
          · rfl
          · (intro j hj; simp (disch := first | omega | assumption) only [hp_put, hp_mem_ne, hp_kill_ne]; first | exact stM_row rfl hj | (rw [stM_row rfl hj]; rfl))
        · omega
      · have hf : fbB B k j = false := by simpa using hf
        rw [hf, if_neg (by simp), List.append_nil] at hsn
        generalize posM (fbB B) (sdB B) k j = R at *
        repeat (first | (refine step_ops ?_; (refine m_mov (by conv => lhs; whnf) ?_)) | refine seq_ops ?_ | refine AW_seq ?_)
        (refine step_ops ?_); (apply m_call (bdSide_spec B hB)); (· repeat (first | exact lends_nil | (refine lends_cons ?_ ?_; (· exact lend_v))))
        repeat (first | (refine step_ops ?_; (first | (refine m_mov (by conv => lhs; whnf) ?_) | (refine m_lss rfl rfl ?_))) | refine end_ops ?_ | refine seq_ops ?_ | (refine cond_t rfl ?_ ?_; (· (refine decide_eq_true ?_; omega))) | refine skip_then ?_ | refine AW_seq ?_ | refine AW_block ?_)
        (refine step_ops ?_); (apply m_call (bdAt_spec B h k j hc hcj)); (· repeat (first | exact lends_nil | (refine lends_cons ?_ ?_; (· exact lend_v))))
        repeat (first | (refine step_ops ?_; (first | (refine m_mov (by conv => lhs; whnf) ?_) | (refine m_add rfl rfl ?_ ?_ ?_; (· omega); (· omega)))) | refine end_ops ?_ | refine AW_ops ?_ | (refine cond_f rfl ?_ ?_; (· assumption)) | refine norm_then ?_ | refine norm_block ?_ | refine AW_skip ?_)
        refine next_round (j + 1) hcj ?_ ?_
        · rw [hsn]
          refine weak_keep id ?_ ?_ rfl rfl rfl (.inl (by omega)) rfl rfl rfl (.inl ⟨rfl, rfl⟩) ?_
          · (repeat' (first | exact trivial | refine And.intro ?_ ?_)) <;> (first | rfl | skip)
          · trivial
          · (intro j hj; simp (disch := first | omega | assumption) only [hp_put, hp_mem_ne, hp_kill_ne]; first | exact stM_row rfl hj | (rw [stM_row rfl hj]; rfl))
        · omega
    · obtain rfl : j = sdB B := by omega
      repeat (first | (refine step_ops ?_; (refine m_mov (by conv => lhs; whnf) ?_)) | refine seq_ops ?_ | refine AW_seq ?_)
      (refine step_ops ?_); (apply m_call (bdSide_spec B hB)); (· repeat (first | exact lends_nil | (refine lends_cons ?_ ?_; (· exact lend_v))))
      repeat (first | (refine step_ops ?_; (first | (refine m_mov (by conv => lhs; whnf) ?_) | (refine m_lss rfl rfl ?_) | (refine m_add rfl rfl ?_ ?_ ?_; (· omega); (· omega)))) | refine end_ops ?_ | refine AW_ops ?_ | (refine cond_f rfl ?_ ?_; (· (refine decide_eq_false ?_; omega))) | refine norm_then ?_ | refine exit_then ?_ | refine norm_block ?_ | refine exit_round ?_ | refine AW_exit ?_ | refine exit_block ?_)
      refine next_round (k + 1) hc ?_ ?_
      · rw [hen]
        refine weak_keep id ?_ ?_ rfl rfl rfl (.inl (by omega)) rfl rfl rfl (.inl ⟨rfl, rfl⟩) ?_
        · (repeat' (first | exact trivial | refine And.intro ?_ ?_)) <;> (first | rfl | skip)
        · trivial
        · (intro j hj; simp (disch := first | omega | assumption) only [hp_put, hp_mem_ne, hp_kill_ne]; first | exact stM_row rfl hj | (rw [stM_row rfl hj]; rfl))
      · omega
  · obtain rfl : k = sdB B := by omega
    repeat (first | (refine step_ops ?_; (refine m_mov (by conv => lhs; whnf) ?_)) | refine seq_ops ?_ | refine AW_seq ?_)
    (refine step_ops ?_); (apply m_call (bdSide_spec B hB)); (· repeat (first | exact lends_nil | (refine lends_cons ?_ ?_; (· exact lend_v))))
    repeat (first | (refine step_ops ?_; (first | (refine m_mov (by conv => lhs; whnf) ?_) | (refine m_lss rfl rfl ?_))) | refine end_ops ?_ | refine seq_ops ?_ | (refine cond_f rfl ?_ ?_; (· (refine decide_eq_false ?_; omega))) | refine AW_ret ?_ | refine norm_then ?_ | refine exit_then ?_ | refine exit_round ?_ | refine AW_exit ?_ | refine exit_block ?_)
    refine ret_mat (r0 := 3) (b := 1000) (by omega) (by omega) (by show 1000 + (posM (fbB B) (sdB B) (sdB B) 0).length ≤ pbase; omega) rfl rfl ?_
    unfold plM
    (intro j hj; simp (disch := first | omega | assumption) only [hp_put, hp_mem_ne, hp_kill_ne]; first | exact stM_row rfl hj | (rw [stM_row rfl hj]; rfl))
end Go.Proofs.YtmifianbkpiifaaDoor
namespace Go.Proofs.YtmifianbkpiifaaDoor
variable [Go.Am.CodeBlk]
open Go.Am
attribute [local irreducible] AW Outs Weak Lends Lend Sp aops atree aop1 Then Round InBlock Done
attribute [local irreducible] SpH DoneH
theorem oSame_self (L : List Int) (hL : L.length ≤ 1048576) : Sp Tryd.prog 14 [ints L, ints L] (.b true) := by
  refine spec_of Tryd.func14 rfl cc14 rfl ?_
  unfold ac14
  repeat (first | (refine step_ops ?_; (first | (refine m_mov (by conv => lhs; whnf) ?_) | (refine m_neq rfl rfl ?_) | (refine m_len_ro rfl ?_))) | refine end_ops ?_ | refine seq_ops ?_ | (refine cond_f rfl ?_ ?_; (· (refine decide_eq_false ?_; omega))) | refine skip_then ?_ | refine AW_seq ?_ | refine AW_block ?_)
  refine AW_loop (α := Nat) (fun k => k ≤ L.length) (fun k => st [(0, ints L), (1, ints L), (12, .i L.length), (13, .i k)] []) (fun k => L.length - k) 0 (by omega) (weak_st ?_ ?_ rfl rfl) ?_
  · (repeat' (first | exact trivial | refine And.intro ?_ ?_)) <;> (first | rfl | skip)
  · trivial
  intro k hk
  by_cases hc : k < L.length
  · repeat (first | ((first | refine step_ops ?_ | refine step_tree ?_); (first | (refine m_mov (by conv => lhs; whnf) ?_) | (refine m_lss rfl rfl ?_) | (refine m_neq rfl rfl ?_) | (refine m_add rfl rfl ?_ ?_ ?_; (· omega); (· omega)) | (refine m_idx1_ro rfl rfl ?_ ?_; (· omega)) | (refine m_ld_rpi rfl ?_ ?_; (· omega)))) | refine end_ops ?_ | refine seq_ops ?_ | refine AW_ops ?_ | refine end_tree ?_ | refine seq_tree ?_ | (refine cond_t rfl ?_ ?_; (· (refine decide_eq_true ?_; omega))) | (refine cond_f rfl ?_ ?_; (· (refine decide_eq_false ?_; omega))) | refine skip_then ?_ | refine AW_seq ?_ | refine norm_then ?_ | refine AW_block ?_ | refine norm_block ?_ | refine AW_skip ?_)
    refine next_round (k + 1) (by omega) (weak_st ?_ ?_ rfl rfl) ?_
    · (repeat' (first | exact trivial | refine And.intro ?_ ?_)) <;> (first | rfl | skip)
    · trivial
    · omega
  · repeat (first | (refine step_ops ?_; (first | (refine m_mov (by conv => lhs; whnf) ?_) | (refine m_lss rfl rfl ?_))) | refine end_ops ?_ | refine seq_ops ?_ | (refine cond_f rfl ?_ ?_; (· (refine decide_eq_false ?_; omega))) | refine AW_seq ?_ | refine AW_ret ?_ | refine ret_done ?_ | refine norm_then ?_ | refine exit_then ?_ | refine exit_round ?_ | refine AW_exit ?_ | refine exit_block ?_)
    exact outs_b rfl
end Go.Proofs.YtmifianbkpiifaaDoor
namespace Go.Proofs.YtmifianbkpiifaaDoor
variable [Go.Am.CodeBlk]
open Go.Am
attribute [local irreducible] AW Outs Weak Lends Lend Sp aops atree aop1 Then Round InBlock Done
attribute [local irreducible] SpH SpX DoneH DoneX
/-- The numbers of hits of a text. -/
def hitL (B : List UInt8) : List Int := hL (chC (rkN (fbB B) (sdB B)) (sdB B)) (sdB B) (sdB B + 1)
theorem hitL_len (B : List UInt8) : (hitL B).length = sdB B + 1 := hL_len _ _ _
def hitB (B : List UInt8) : List Int := if GoodBd B then hitL B else []
def hitR (B : List UInt8) : AV := .tup [newInts (hitB B), .b (decide (GoodBd B))]
theorem implHitNumbers_spec (B : List UInt8) (hB : B.length ≤ 1048576) : Sp Tryd.prog 12 [str B] (hitR B) := by
  have hr := readBoard_spec B hB
  unfold bdR bdV at hr
  unfold hitR hitB
  refine spec_of Tryd.func12 rfl cc12 rfl ?_
  unfold ac12
  by_cases h : GoodBd B
  · rw [if_pos h] at hr
    have hk := hitNumbers_spec B h
    change Sp _ _ _ (newInts (hitL B)) at hk
    rw [if_pos h]
    repeat (first | (refine step_ops ?_; (first | (refine m_mov (by conv => lhs; whnf) ?_) | (refine m_nils ?_))) | refine end_ops ?_ | refine seq_ops ?_)
    (refine step_ops ?_); (apply m_call (hr)); (· repeat (first | exact lends_nil | (refine lends_cons ?_ ?_; (· exact lend_v))))
    repeat (first | (refine step_ops ?_; (first | (refine m_mov (by conv => lhs; whnf) ?_) | (refine m_not rfl ?_) | (refine m_ext rfl rfl ?_) | (refine m_alloc ?_) | (refine m_ldall rfl rfl ?_ ?_; (· first | rfl | (simp; done) | (simp [*]; done))) | (refine m_stall rfl rfl rfl ?_ ?_ ?_ ?_; (· first | rfl | (simp [*]; done)); (· first | rfl | (simp [*]; done)); (· first | rfl | (simp [cellOk, Value.oneCell']; done))))) | refine end_ops ?_ | refine seq_ops ?_ | (refine cond_f rfl ?_ ?_; (· (refine nf ?_; assumption))) | refine skip_then ?_ | refine AW_seq ?_)
    refine step_ops ?_
    refine m_callo hk (lends_cons (lend_aggM rfl) lends_nil) (allv_ints _) ?_
    repeat (first | (refine step_ops ?_; (refine m_mov (by conv => lhs; whnf) ?_)) | refine end_ops ?_ | refine AW_ret ?_ | refine ret_done ?_)
    exact outs_tup2 (outs_ints rfl rfl rfl) (outs_b (by simp [h]))
  · rw [if_neg h] at hr
    rw [if_neg h]
    repeat (first | (refine step_ops ?_; (first | (refine m_mov (by conv => lhs; whnf) ?_) | (refine m_nils ?_))) | refine end_ops ?_ | refine seq_ops ?_)
    (refine step_ops ?_); (apply m_call (hr)); (· repeat (first | exact lends_nil | (refine lends_cons ?_ ?_; (· exact lend_v))))
    repeat (first | (refine step_ops ?_; (first | (refine m_mov (by conv => lhs; whnf) ?_) | (refine m_not rfl ?_) | (refine m_nils ?_) | (refine m_ext rfl rfl ?_) | (refine m_alloc ?_) | (refine m_stall rfl rfl rfl ?_ ?_ ?_ ?_; (· first | rfl | (simp [*]; done)); (· first | rfl | (simp [*]; done)); (· first | rfl | (simp [cellOk, Value.oneCell']; done))))) | refine end_ops ?_ | refine seq_ops ?_ | (refine cond_t rfl ?_ ?_; (· (refine nt ?_; assumption))) | refine AW_seq ?_ | refine AW_ret ?_ | refine ret_done ?_ | refine ret_then ?_)
    exact outs_tup2 (outs_ints rfl rfl rfl) (outs_b (by simp [h]))
def allwR (B : List UInt8) : AV := .tup [.i (if GoodBd B then (hitL B).getD 0 0 else 0), .b (decide (GoodBd B))]
theorem implCountAllowed_spec (B : List UInt8) (hB : B.length ≤ 1048576) : Sp Tryd.prog 26 [str B] (allwR B) := by
  have hr := readBoard_spec B hB
  unfold bdR bdV at hr
  unfold allwR
  refine spec_of Tryd.func26 rfl cc26 rfl ?_
  unfold ac26
  by_cases h : GoodBd B
  · rw [if_pos h] at hr
    have hk := hitNumbers_spec B h
    change Sp _ _ _ (newInts (hitL B)) at hk
    have hl := hitL_len B
    rw [if_pos h]
    repeat (first | (refine step_ops ?_; (refine m_mov (by conv => lhs; whnf) ?_)) | refine end_ops ?_ | refine seq_ops ?_)
    (refine step_ops ?_); (apply m_call (hr)); (· repeat (first | exact lends_nil | (refine lends_cons ?_ ?_; (· exact lend_v))))
    repeat (first | (refine step_ops ?_; (first | (refine m_mov (by conv => lhs; whnf) ?_) | (refine m_not rfl ?_) | (refine m_ext rfl rfl ?_) | (refine m_alloc ?_) | (refine m_ldall rfl rfl ?_ ?_; (· first | rfl | (simp; done) | (simp [*]; done))) | (refine m_stall rfl rfl rfl ?_ ?_ ?_ ?_; (· first | rfl | (simp [*]; done)); (· first | rfl | (simp [*]; done)); (· first | rfl | (simp [cellOk, Value.oneCell']; done))))) | refine end_ops ?_ | refine seq_ops ?_ | (refine cond_f rfl ?_ ?_; (· (refine nf ?_; assumption))) | refine skip_then ?_ | refine AW_seq ?_)
    refine step_ops ?_
    refine m_call hk (lends_cons (lend_aggM rfl) lends_nil) ?_
    repeat (first | (refine step_ops ?_; (first | (refine m_mov (by conv => lhs; whnf) ?_) | (refine m_idx_ro rfl rfl ?_ ?_ ?_; (· omega); (· omega)) | (refine m_ld_rpi rfl ?_ ?_; (· omega)))) | refine end_ops ?_ | refine AW_ret ?_ | refine ret_done ?_)
    exact outs_tup2 (outs_i rfl) (outs_b (by simp [h]))
  · rw [if_neg h] at hr
    rw [if_neg h]
    repeat (first | (refine step_ops ?_; (refine m_mov (by conv => lhs; whnf) ?_)) | refine end_ops ?_ | refine seq_ops ?_)
    (refine step_ops ?_); (apply m_call (hr)); (· repeat (first | exact lends_nil | (refine lends_cons ?_ ?_; (· exact lend_v))))
    repeat (first | (refine step_ops ?_; (first | (refine m_mov (by conv => lhs; whnf) ?_) | (refine m_not rfl ?_) | (refine m_ext rfl rfl ?_) | (refine m_alloc ?_) | (refine m_stall rfl rfl rfl ?_ ?_ ?_ ?_; (· first | rfl | (simp [*]; done)); (· first | rfl | (simp [*]; done)); (· first | rfl | (simp [cellOk, Value.oneCell']; done))))) | refine end_ops ?_ | refine seq_ops ?_ | (refine cond_t rfl ?_ ?_; (· (refine nt ?_; assumption))) | refine AW_seq ?_ | refine AW_ret ?_ | refine ret_done ?_ | refine ret_then ?_)
    exact outs_tup2 (outs_i rfl) (outs_b (by simp [h]))
end Go.Proofs.YtmifianbkpiifaaDoor
namespace Go.Proofs.YtmifianbkpiifaaDoor
variable [Go.Am.CodeBlk]
open Go.Am
theorem rowP_count (fb : Nat → Nat → Bool) (i : Nat) : ∀ k, (rowP fb i k).length = sumN k fun j => if fb i j then 1 else 0
  | 0 => rfl
  | k + 1 => by
    rw [rowP_snoc, List.length_append, rowP_count fb i k, sumN]
    cases fb i k <;> rfl
theorem posP_count (fb : Nat → Nat → Bool) (n : Nat) : ∀ k, (posP fb n k).length = sumN k fun i => sumN n fun j => if fb i j then 1 else 0
  | 0 => rfl
  | k + 1 => by rw [posP, List.length_append, posP_count fb n k, rowP_count, sumN]
theorem rk_one (fb : Nat → Nat → Bool) (n : Nat) : ∀ m, m ≤ n → rkG fb n m 0 1 = sumN m fun i => sumN n fun j => if fb (n - m + i) j then 1 else 0
  | 0, _ => rfl
  | m + 1, h => by
    rw [rkG, rk_one fb n m (by omega), sumN_succ']
    have e1 : sumN n (fun j => if fb (n - (m + 1)) j && !(0 : Nat).testBit j then (match 1 with | 0 => 0 | q + 1 => rkG fb n m (insC 0 j) q) else 0) = sumN n fun j => if fb (n - (m + 1) + 0) j then 1 else 0 := by
      refine sumN_congr fun j _ => ?_
      rw [Nat.zero_testBit, Nat.add_zero]
      cases fb (n - (m + 1)) j
      · rfl
      · exact rkG_zero fb n m _
    have e2 : sumN m (fun i => sumN n fun j => if fb (n - m + i) j then 1 else 0) = sumN m fun i => sumN n fun j => if fb (n - (m + 1) + (i + 1)) j then 1 else 0 := sumN_congr fun i _ => by rw [show n - m + i = n - (m + 1) + (i + 1) by omega]
    rw [e1, e2]
    omega
/-- As many places asx ways to put one rook. -/
theorem plM_count (B : List UInt8) : (plM B).length = rkN (fbB B) (sdB B) 1 := by
  unfold plM posM rowsP rkN
  rw [List.length_map, List.length_append, posP_count, rk_one _ _ _ (Nat.le_refl _), rowP_count, Nat.sub_self, show sumN 0 (fun j => if fbB B (sdB B) j then 1 else 0) = 0 from rfl, Nat.add_zero]
  exact sumN_congr fun i _ => by rw [Nat.zero_add]
/-- The numbers of hits are those of the exchanges; what they add up to. -/
theorem hitL_is {B : List UInt8} (h : GoodBd B) : hitL B = (List.range (sdB B + 1)).map fun k => ((hitX (fbB B) (sdB B) k : Nat) : Int) := by
  have hsd := good_sd h
  unfold hitL
  rw [hL_hits _ hsd.2 _ (Nat.le_refl _)]
  unfold hitLs
  exact List.map_congr_left fun i _ => by rw [show sdB B + 1 - (sdB B + 1) + i = i by omega]
theorem allw_is {B : List UInt8} (h : GoodBd B) : (hitL B).getD 0 0 = ((allB B).length : Nat) := by
  rw [hitL_is h, allB_len]
  simp
end Go.Proofs.YtmifianbkpiifaaDoor
namespace Go.Proofs.YtmifianbkpiifaaDoor
variable [Go.Am.CodeBlk]
open Go.Am
attribute [local irreducible] AW Outs Weak Lends Lend Sp aops atree aop1 Then Round InBlock Done
theorem bdMake_spec (n : Nat) (ps : List (List Int)) (hn : n ≤ 16) (hps : ps.length ≤ 1000) (hr : ∀ r ∈ ps, r.length = 2) : Sp Tryd.prog 32 [.i n, roM ps] (str (bdT (inB ps) n n)) := by
  refine spec_of Tryd.func32 rfl cc32 rfl ?_
  unfold ac32
  repeat (first | (refine step_ops ?_; (refine m_mov (by conv => lhs; whnf) ?_)) | refine end_ops ?_ | refine seq_ops ?_ | refine AW_seq ?_ | refine AW_block ?_)
  refine AW_loop (α := Nat) (fun k => k ≤ n) (fun k => st [(0, .i n), (1, roM ps), (5, str (bdT (inB ps) n k)), (6, .i k)] []) (fun k => n - k) 0 (by omega) (weak_st ?_ ?_ rfl rfl) ?_
  · (repeat' (first | exact trivial | refine And.intro ?_ ?_)) <;> (first | rfl | skip)
  · exact trivial
  intro k hk
  have hbl := bdT_len (inB ps) n k
  have hsz : k * (n + 1) ≤ 16 * 17 := Nat.mul_le_mul (by omega) (by omega)
  by_cases hc : k < n
  · have hpre : ∃ pre, pre = bdT (inB ps) n k ++ (if 0 < k then [47] else []) := ⟨_, rfl⟩
    obtain ⟨pre, hpr⟩ := hpre
    have hplen : pre.length ≤ 16 * 17 + 1 := by
      rw [hpr, List.length_append]
      have : (if 0 < k then [(47 : UInt8)] else []).length ≤ 1 := by split <;> simp
      omega
    rcases Nat.eq_zero_or_pos k with hk0 | hk0
    case' inl =>
      rw [if_neg (by omega), List.append_nil] at hpr
      repeat (first | (refine step_ops ?_; (first | (refine m_mov (by conv => lhs; whnf) ?_) | (refine m_lss rfl rfl ?_) | (refine m_gtr rfl rfl ?_))) | refine end_ops ?_ | refine seq_ops ?_ | (refine cond_t rfl ?_ ?_; (· (refine decide_eq_true ?_; omega))) | (refine cond_f rfl ?_ ?_; (· (refine decide_eq_false ?_; omega))) | refine skip_then ?_ | refine AW_seq ?_ | refine AW_block ?_)
      refine AW_weak (weak_st (l := [(0, .i n), (1, roM ps), (5, str pre), (6, .i k), (7, .i (0 : Nat))]) (h := []) ?_ ?_ rfl rfl) ?_
      · rw [hpr]
        (repeat' (first | exact trivial | refine And.intro ?_ ?_)) <;> (first | rfl | skip)
      · exact trivial
    case' inr =>
      rw [if_pos hk0] at hpr
      repeat (first | (refine step_ops ?_; (first | (refine m_mov (by conv => lhs; whnf) ?_) | (refine m_lss rfl rfl ?_) | (refine m_gtr rfl rfl ?_) | (refine m_adds rfl rfl ?_ ?_; (· first | omega | (simp; omega))))) | refine end_ops ?_ | refine seq_ops ?_ | refine AW_ops ?_ | (refine cond_t rfl ?_ ?_; (· (refine decide_eq_true ?_; omega))) | refine skip_then ?_ | refine AW_seq ?_ | refine norm_then ?_ | refine AW_block ?_)
      refine AW_weak (weak_st (l := [(0, .i n), (1, roM ps), (5, str pre), (6, .i k), (7, .i (0 : Nat))]) (h := []) ?_ ?_ rfl rfl) ?_
      · rw [hpr]
        (repeat' (first | exact trivial | refine And.intro ?_ ?_)) <;> (first | rfl | skip)
      · exact trivial
    all_goals
      refine AW_loop (α := Nat) (fun j => j ≤ n) (fun j => st [(0, .i n), (1, roM ps), (5, str (pre ++ rowT (inB ps) k j)), (6, .i k), (7, .i j)] []) (fun j => n - j) 0 (by omega) (weak_st ?_ ?_ rfl rfl) ?_
      · rw [show pre ++ rowT (inB ps) k 0 = pre by simp [rowT]]
        (repeat' (first | exact trivial | refine And.intro ?_ ?_)) <;> (first | rfl | skip)
      · exact trivial
      intro j hj
      have hrl : (pre ++ rowT (inB ps) k j).length = pre.length + j := by rw [List.length_append, rowT_len]
      have hrl2 : (rowT (inB ps) k j).length = j := rowT_len _ _ _
      have hl5 : pre ++ rowT (inB ps) k (j + 1) = (pre ++ rowT (inB ps) k j) ++ [sgn (inB ps k j)] := by rw [rowT_snoc, ← List.append_assoc]
      by_cases hcj : j < n
      · repeat (first | (refine step_ops ?_; (first | (refine m_mov (by conv => lhs; whnf) ?_) | (refine m_lss rfl rfl ?_) | (refine m_len_ro rfl ?_))) | refine end_ops ?_ | refine seq_ops ?_ | (refine cond_t rfl ?_ ?_; (· (refine decide_eq_true ?_; omega))) | refine skip_then ?_ | refine AW_seq ?_ | refine AW_block ?_)
        refine AW_loop (α := Nat) (fun m => m ≤ ps.length) (fun m => st [(0, .i n), (1, roM ps), (5, str (pre ++ rowT (inB ps) k j)), (6, .i k), (7, .i j), (8, str [sgn (inB (ps.take m) k j)]), (25, roM ps), (26, .i ps.length), (27, .i m)] []) (fun m => ps.length - m) 0 (by omega) (weak_st ?_ ?_ rfl rfl) ?_
        · (repeat' (first | exact trivial | refine And.intro ?_ ?_)) <;> (first | rfl | skip)
        · exact trivial
        intro m hm
        by_cases hcm : m < ps.length
        · have hrow : (ps.getD m []).length = 2 := hr _ (getD_memL hcm)
          have hst : inB (ps.take (m + 1)) k j = (inB (ps.take m) k j || (decide ((ps.getD m []).getD 0 0 = (k : Int)) && decide ((ps.getD m []).getD 1 0 = (j : Int)))) := any_take_snoc ps _ [] m hcm
          obtain ⟨row, hrw⟩ : ∃ row, row = ps.getD m [] := ⟨_, rfl⟩
          rw [← hrw] at hst hrow
          by_cases h1 : row.getD 0 0 = (k : Int)
          · by_cases h2 : row.getD 1 0 = (j : Int)
            · rw [decide_eq_true h1, decide_eq_true h2, Bool.and_self, Bool.or_true] at hst
              repeat (first | (refine step_ops ?_; (first | (refine m_lss rfl rfl ?_) | (refine m_idx1_ro rfl rfl ?_ ?_; (· omega)))) | refine end_ops ?_ | refine seq_ops ?_ | (refine cond_t rfl ?_ ?_; (· (refine decide_eq_true ?_; omega))) | refine skip_then ?_ | refine AW_seq ?_ | refine AW_block ?_)
              refine step_ops ?_
              refine m_ld_rp rfl (roM_at hcm) ?_
              rw [← hrw]
              repeat (first | (refine step_ops ?_; ((try (refine g_yes rfl ?_ ?_; (· (refine decide_eq_true ?_; assumption)))); (first | (refine m_mov (by conv => lhs; whnf) ?_) | (refine m_eql rfl rfl ?_) | (refine m_add rfl rfl ?_ ?_ ?_; (· omega); (· omega)) | (refine m_idx_ro rfl rfl ?_ ?_ ?_; (· omega); (· omega)) | (refine m_ld_rpi rfl ?_ ?_; (· omega)) | (refine m_pick_t rfl ?_ (by conv => lhs; whnf) ?_; (· (refine decide_eq_true ?_; assumption)))))) | refine end_ops ?_ | refine seq_ops ?_ | refine AW_ops ?_ | (refine cond_t rfl ?_ ?_; (· (refine decide_eq_true ?_; assumption))) | refine norm_then ?_ | refine norm_block ?_)
              refine next_round (m + 1) (by omega) (weak_st ?_ ?_ rfl rfl) ?_
              · rw [hst]
                (repeat' (first | exact trivial | refine And.intro ?_ ?_)) <;> (first | rfl | skip)
              · exact trivial
              · omega
            · rw [decide_eq_false h2, Bool.and_false, Bool.or_false] at hst
              repeat (first | (refine step_ops ?_; (first | (refine m_lss rfl rfl ?_) | (refine m_idx1_ro rfl rfl ?_ ?_; (· omega)))) | refine end_ops ?_ | refine seq_ops ?_ | (refine cond_t rfl ?_ ?_; (· (refine decide_eq_true ?_; omega))) | refine skip_then ?_ | refine AW_seq ?_ | refine AW_block ?_)
              refine step_ops ?_
              refine m_ld_rp rfl (roM_at hcm) ?_
              rw [← hrw]
              repeat (first | (refine step_ops ?_; ((try (refine g_yes rfl ?_ ?_; (· (refine decide_eq_true ?_; assumption)))); (first | (refine m_mov (by conv => lhs; whnf) ?_) | (refine m_eql rfl rfl ?_) | (refine m_add rfl rfl ?_ ?_ ?_; (· omega); (· omega)) | (refine m_idx_ro rfl rfl ?_ ?_ ?_; (· omega); (· omega)) | (refine m_ld_rpi rfl ?_ ?_; (· omega)) | (refine m_pick_t rfl ?_ (by conv => lhs; whnf) ?_; (· (refine decide_eq_true ?_; assumption)))))) | refine end_ops ?_ | refine seq_ops ?_ | refine AW_ops ?_ | (refine cond_f rfl ?_ ?_; (· (refine decide_eq_false ?_; assumption))) | refine norm_then ?_ | refine norm_block ?_ | refine AW_skip ?_)
              refine next_round (m + 1) (by omega) (weak_st ?_ ?_ rfl rfl) ?_
              · rw [hst]
                (repeat' (first | exact trivial | refine And.intro ?_ ?_)) <;> (first | rfl | skip)
              · exact trivial
              · omega
          · rw [decide_eq_false h1, Bool.false_and, Bool.or_false] at hst
            repeat (first | (refine step_ops ?_; (first | (refine m_lss rfl rfl ?_) | (refine m_idx1_ro rfl rfl ?_ ?_; (· omega)))) | refine end_ops ?_ | refine seq_ops ?_ | (refine cond_t rfl ?_ ?_; (· (refine decide_eq_true ?_; omega))) | refine skip_then ?_ | refine AW_seq ?_ | refine AW_block ?_)
            refine step_ops ?_
            refine m_ld_rp rfl (roM_at hcm) ?_
            rw [← hrw]
            repeat (first | (refine step_ops ?_; (first | (first | (refine m_mov (by conv => lhs; whnf) ?_) | (refine m_eql rfl rfl ?_) | (refine m_add rfl rfl ?_ ?_ ?_; (· omega); (· omega)) | (refine m_idx_ro rfl rfl ?_ ?_ ?_; (· omega); (· omega)) | (refine m_ld_rpi rfl ?_ ?_; (· omega)) | (refine m_pick_f rfl ?_ (by conv => lhs; whnf) ?_; (· (refine decide_eq_false ?_; assumption)))) | (refine g_noT rfl ?_ ?_; (· (refine decide_eq_false ?_; assumption))))) | refine end_ops ?_ | refine seq_ops ?_ | refine AW_ops ?_ | (refine cond_f rfl ?_ ?_; (· rfl)) | refine norm_then ?_ | refine norm_block ?_ | refine AW_skip ?_)
            refine next_round (m + 1) (by omega) (weak_st ?_ ?_ rfl rfl) ?_
            · rw [hst]
              (repeat' (first | exact trivial | refine And.intro ?_ ?_)) <;> (first | rfl | skip)
            · exact trivial
            · omega
        · obtain rfl : m = ps.length := by omega
          rw [List.take_length]
          repeat (first | (refine step_ops ?_; (first | (refine m_mov (by conv => lhs; whnf) ?_) | (refine m_lss rfl rfl ?_) | (refine m_add rfl rfl ?_ ?_ ?_; (· omega); (· omega)) | (refine m_adds rfl rfl ?_ ?_; (· first | omega | (simp; omega))))) | refine end_ops ?_ | refine seq_ops ?_ | refine AW_ops ?_ | (refine cond_f rfl ?_ ?_; (· (refine decide_eq_false ?_; omega))) | refine AW_seq ?_ | refine norm_then ?_ | refine exit_then ?_ | refine norm_block ?_ | refine exit_round ?_ | refine AW_exit ?_ | refine exit_block ?_)
          refine next_round (j + 1) (by omega) (weak_st ?_ ?_ rfl rfl) ?_
          · rw [hl5]
            (repeat' (first | exact trivial | refine And.intro ?_ ?_)) <;> (first | rfl | skip)
          · exact trivial
          · omega
      · obtain rfl : j = n := by omega
        have e : pre ++ rowT (inB ps) k j = bdT (inB ps) j (k + 1) := by
          simp only [bdT]
          rw [hpr]
          try rw [if_pos hk0]
          try rw [if_neg (by omega), List.append_nil]
        rw [e]
        repeat (first | (refine step_ops ?_; (first | (refine m_mov (by conv => lhs; whnf) ?_) | (refine m_lss rfl rfl ?_) | (refine m_add rfl rfl ?_ ?_ ?_; (· omega); (· omega)))) | refine end_ops ?_ | refine seq_ops ?_ | refine AW_ops ?_ | (refine cond_f rfl ?_ ?_; (· (refine decide_eq_false ?_; omega))) | refine AW_seq ?_ | refine norm_then ?_ | refine exit_then ?_ | refine norm_block ?_ | refine exit_round ?_ | refine AW_exit ?_ | refine exit_block ?_)
        refine next_round (k + 1) (by omega) (weak_st ?_ ?_ rfl rfl) ?_
        · (repeat' (first | exact trivial | refine And.intro ?_ ?_)) <;> (first | rfl | skip)
        · exact trivial
        · omega
  · obtain rfl : k = n := by omega
    repeat (first | (refine step_ops ?_; (first | (refine m_mov (by conv => lhs; whnf) ?_) | (refine m_lss rfl rfl ?_))) | refine end_ops ?_ | refine seq_ops ?_ | (refine cond_f rfl ?_ ?_; (· (refine decide_eq_false ?_; omega))) | refine AW_seq ?_ | refine AW_ret ?_ | refine ret_done ?_ | refine norm_then ?_ | refine exit_then ?_ | refine exit_round ?_ | refine AW_exit ?_ | refine exit_block ?_)
    exact outs_v
end Go.Proofs.YtmifianbkpiifaaDoor
namespace Go.Am
variable [Go.Am.CodeBlk]
theorem inB_rowsP (l : List (Nat × Nat)) (i j : Nat) : inB (rowsP l) i j = hasP l i j := by
  simp only [inB, rowsP, hasP, List.any_map]
  rfl
/-- Rows of two numbers, turned. -/
def trn (p : List Int) : List Int := [p.getD 1 0, p.getD 0 0]
theorem inB_trn (R : List (List Int)) (i j : Nat) : inB (R.map trn) i j = inB R j i := by
  simp only [inB, List.any_map]
  congr 1
  funext p
  show (decide (p.getD 1 0 = (i : Int)) && decide (p.getD 0 0 = (j : Int))) = _
  rw [Bool.and_comm]
theorem rowF_at {rows : List (List Int)} {k : Nat} (h : k < rows.length) : ((rows.map newInts).drop k)[0]? = some (newInts (rows.getD k [])) := by
  simp [h]
theorem take_map_snoc {α β : Type} (f : α → β) (l : List α) (d : α) (k : Nat) (h : k < l.length) : (l.take (k + 1)).map f = (l.take k).map f ++ [f (l.getD k d)] := by
  rw [take_snoc l k d h, List.map_append]
  rfl
end Go.Am
namespace Go.Proofs.YtmifianbkpiifaaDoor
variable [Go.Am.CodeBlk]
open Go.Am
attribute [local irreducible] AW Outs Weak Lends Lend Sp aops atree aop1 Then Round InBlock Done
attribute [local irreducible] SpM DoneM SpH DoneH
theorem bdPlaces_read (B : List UInt8) (h : GoodBd B) (hB : B.length ≤ 1048576) : Sp Tryd.prog 31 [str B] (roF (plM B)) := sp_mat1 (bdPlaces_spec B h hB)
theorem plM_len {B : List UInt8} (h : GoodBd B) : (plM B).length ≤ 72 := by
  have := good_sd h
  exact posM_len (by omega) (by omega) (by omega)
theorem plM_in (B : List UInt8) (i j : Nat) : inB (plM B) i j = hasP (plB B) i j := by
  show inB (rowsP (plB B ++ [])) i j = _
  rw [List.append_nil, inB_rowsP]
def trnB (B : List UInt8) : List UInt8 := if GoodBd B then bdT (fun i j => hasP (plB B) j i) (sdB B) (sdB B) else []
def tbR (B : List UInt8) : AV := .tup [str (trnB B), .b (decide (GoodBd B))]
theorem specTurnedBoard_spec (B : List UInt8) (hB : B.length ≤ 1048576) : Sp Tryd.prog 5 [str B] (tbR B) := by
  have hpb : pbase = 4000000 := rfl
  unfold tbR trnB
  refine spec_of Tryd.func5 rfl cc5 rfl ?_
  unfold ac5
  by_cases h : GoodBd B
  · rw [if_pos h, decide_eq_true h]
    have hsd := good_sd h
    have hpl := plM_len h
    have hrows : ∀ r ∈ plM B, r.length = 2 := posM_row _ _ _ _
    have hbd : ∀ R : List (List Int), R = plM B → bdT (fun i j => hasP (plB B) j i) (sdB B) (sdB B) = bdT (inB (R.map trn)) (sdB B) (sdB B) := by
      rintro _ rfl
      exact bdT_congr (fun i j _ _ => by rw [inB_trn, plM_in]) (Nat.le_refl _)
    have hrd := bdPlaces_read B h hB
    generalize hR : plM B = R at *
    rw [hbd R rfl]
    repeat (first | (refine step_ops ?_; (refine m_mov (by conv => lhs; whnf) ?_)) | refine end_ops ?_ | refine seq_ops ?_ | refine AW_seq ?_)
    refine step_ops ?_; (apply m_call (bdGood_spec B hB)); (· repeat (first | exact lends_nil | (refine lends_cons ?_ ?_; (· exact lend_v))))
    repeat (first | (refine step_ops ?_; (first | (refine m_mov (by conv => lhs; whnf) ?_) | (refine m_not rfl ?_) | (refine m_nils ?_))) | refine end_ops ?_ | refine seq_ops ?_ | (refine cond_f rfl ?_ ?_; (· (refine nf ?_; assumption))) | refine skip_then ?_ | refine AW_seq ?_)
    refine step_ops ?_; (apply m_call (hrd)); (· repeat (first | exact lends_nil | (refine lends_cons ?_ ?_; (· exact lend_v))))
    repeat (first | (refine step_ops ?_; (first | (refine m_mov (by conv => lhs; whnf) ?_) | (refine m_len_ro rfl ?_))) | refine end_ops ?_ | refine AW_block ?_)
    refine AW_loop (α := Nat) (fun k => k ≤ R.length) (fun k => stM [(0, str B), (4, .sl 4 1 0 ((R.take k).map trn).length), (11, roF R), (12, .i R.length), (13, .i k)] [] 4 1000 ((R.take k).map trn)) (fun k => R.length - k) 0 (Nat.zero_le _)
      (weak_keep id ?_ ?_ rfl rfl rfl (.inl (by simp [pbase])) rfl rfl rfl (.inr ⟨rfl, rfl⟩) (fun j hj => by simp at hj)) ?_
    · (repeat' (first | exact trivial | refine And.intro ?_ ?_)) <;> (first | rfl | skip)
    · trivial
    intro k hk
    have hrl := rowsC_len 1000 ((R.take k).map trn)
    have hml : ((R.take k).map trn).length = k := by simp; omega
    by_cases hc : k < R.length
    · have hsn := take_map_snoc trn R [] k hc
      obtain ⟨row, hrw⟩ : ∃ row, row = R.getD k [] := ⟨_, rfl⟩
      have hlen : row.length = 2 := by rw [hrw]; exact hrows _ (getD_memL hc)
      rw [← hrw] at hsn
      generalize (R.take k).map trn = T at *
      repeat (first | (refine step_ops ?_; (first | (refine m_lss rfl rfl ?_) | (refine m_idx1_ro rfl rfl ?_ ?_; (· omega)))) | refine end_ops ?_ | refine seq_ops ?_ | (refine cond_t rfl ?_ ?_; (· (refine decide_eq_true ?_; omega))) | refine skip_then ?_ | refine AW_seq ?_ | refine AW_block ?_)
      refine step_ops ?_
      refine m_ld_rp rfl (rowF_at hc) ?_
      rw [← hrw]
      repeat' (first | ((first | ((first | refine step_ops ?_ | refine step_tree ?_); (first | (refine m_mov (by conv => lhs; whnf) ?_) | (refine m_add rfl rfl ?_ ?_ ?_; (· omega); (· omega)) | (refine m_idx_ro rfl rfl ?_ ?_ ?_; (· omega); (· omega)) | (refine m_ld_rpi rfl ?_ ?_; (· omega)))) | refine end_ops ?_ | refine AW_ops ?_ | refine end_tree ?_ | refine AW_tree ?_ | refine norm_then ?_ | refine norm_block ?_)) | (refine step_two ?_ ?_) | (refine step_tree ?_; refine m_bsl2i rfl rfl ?_) | (refine step_tree ?_; refine m_bsl1d rfl rfl ?_) | (refine step_tree ?_; refine m_app1d rfl (by decide) rfl ?_ rfl rfl rfl ?_ (by decide) ?_; (· simp [rowsC_kill, rowsC_len]); (· omega)))
      all_goals
        refine next_round (k + 1) (by omega) ?_ ?_
        · rw [hsn, List.length_append]
          refine weak_push (fun r => if r = 4 then 26 else r) 24 ?_ ?_ rfl rfl rfl (by omega) rfl rfl (by decide) rfl rfl ?_ ?_ ?_
          · (repeat' (first | exact trivial | refine And.intro ?_ ?_)) <;> (first | rfl | skip)
          · trivial
          · simp [rowsC_kill, killL_append, killL]
            rfl
          · rfl
          · (intro j hj; simp (disch := first | omega | assumption) only [hp_put, hp_mem_ne, hp_kill_ne]; first | exact stM_row rfl hj | (rw [stM_row rfl hj]; rfl))
        · omega
    · obtain rfl : k = R.length := by omega
      rw [List.take_length]
      have hml : (R.map trn).length = R.length := by simp
      have htr : ∀ r ∈ R.map trn, r.length = 2 := by
        intro r hr
        obtain ⟨p, _, rfl⟩ := List.mem_map.1 hr
        rfl
      generalize R.map trn = T at *
      repeat (first | (refine step_ops ?_; (first | (refine m_mov (by conv => lhs; whnf) ?_) | (refine m_lss rfl rfl ?_))) | refine end_ops ?_ | refine seq_ops ?_ | (refine cond_f rfl ?_ ?_; (· (refine decide_eq_false ?_; omega))) | refine AW_seq ?_ | refine norm_then ?_ | refine exit_then ?_ | refine exit_round ?_ | refine AW_exit ?_ | refine exit_block ?_)
      refine step_ops ?_; (apply m_call (bdSide_spec B hB)); (· repeat (first | exact lends_nil | (refine lends_cons ?_ ?_; (· exact lend_v))))
      repeat (refine step_ops ?_; (refine m_mov (by conv => lhs; whnf) ?_))
      refine step_ops ?_
      refine m_call (bdMake_spec (sdB B) T (by omega) (by omega) htr) ?_ ?_
      · refine lends_cons lend_v (lends_cons ?_ lends_nil)
        refine lend_mat rfl ?_
        (intro j hj; simp (disch := first | omega | assumption) only [hp_put, hp_mem_ne, hp_kill_ne]; first | exact stM_row rfl hj | (rw [stM_row rfl hj]; rfl))
      repeat (first | (refine step_ops ?_; (refine m_mov (by conv => lhs; whnf) ?_)) | refine end_ops ?_ | refine AW_ret ?_ | refine ret_done ?_)
      exact outs_tup2 outs_v (outs_b rfl)
  · rw [if_neg h, decide_eq_false h]
    repeat (first | (refine step_ops ?_; (refine m_mov (by conv => lhs; whnf) ?_)) | refine end_ops ?_ | refine seq_ops ?_ | refine AW_seq ?_)
    refine step_ops ?_; (apply m_call (bdGood_spec B hB)); (· repeat (first | exact lends_nil | (refine lends_cons ?_ ?_; (· exact lend_v))))
    repeat (first | (refine step_ops ?_; (first | (refine m_mov (by conv => lhs; whnf) ?_) | (refine m_not rfl ?_))) | refine end_ops ?_ | refine seq_ops ?_ | (refine cond_t rfl ?_ ?_; (· (refine nt ?_; assumption))) | refine AW_ret ?_ | refine ret_done ?_ | refine ret_then ?_)
    exact outs_tup2 outs_v (outs_b rfl)
/-- A board that was read, asx closures see it. -/
def capT (B : List UInt8) : AV := .rp [.i (sdB B : Nat), .rmp false (mkEs (plB B)) (plB B).length]
theorem capT_bears (B : List UInt8) : Go.Am.Bears [capT B] := bears_rpM (cs := [.i (sdB B : Nat), .rmp false (mkEs (plB B)) (plB B).length]) rfl rfl
theorem turnFn_spec (B : List UInt8) (h : GoodBd B) (i j : Nat) (hi : i < sdB B) (hj : j < sdB B) : Sp Tryd.prog 29 [.agg [.i (i : Nat), .i (j : Nat)], capT B] (.b (hasP (plB B) (j : Nat) (i : Nat))) := by
  have hsd := good_sd h
  have hlt := plF_lt h
  unfold capT
  refine spec_of Tryd.func29 rfl cc29 rfl ?_
  unfold ac29
  repeat (first | (refine step_ops ?_; (first | (refine m_mov (by conv => lhs; whnf) ?_) | (apply m_ld_rp; (· rfl); (· rfl)) | (apply m_ld_pt; (· rfl); (· rfl); (· rfl)) | (refine m_fa rfl ?_) | (refine m_fa_rp rfl ?_) | (refine m_bld_2 (by conv => lhs; whnf) (by conv => lhs; whnf) (by decide)  (by decide) (by rfl) (by rfl) ?_) | (refine m_box rfl ?_ ?_; (· first | rfl | (simp [cellOk, Value.oneCell']; done))))) | refine end_ops ?_ | refine seq_ops ?_)
  refine step_ops ?_
  refine m_place (a := (j : Nat)) (b := (i : Nat)) hlt (.inr ⟨false, rfl⟩) rfl (by omega) (by omega) ?_
  repeat (first | (refine step_ops ?_; (refine m_mov (by conv => lhs; whnf) ?_)) | refine end_ops ?_ | refine AW_ret ?_ | refine ret_done ?_)
  exact outs_b rfl
theorem turn_asks (B : List UInt8) (h : GoodBd B) : AsksP Tryd.prog 29 [capT B] (sdB B) (fun i j => hasP (plB B) j i) where
  call := ⟨_, Tryd.func29, by rfl, by rfl⟩
  bears := capT_bears B
  norefs := fun _ => rfl
  nokill := fun _ => rfl
  spec := fun i j hi hj => turnFn_spec B h i j hi hj
theorem implTurnedBoard_spec (B : List UInt8) (hB : B.length ≤ 1048576) : Sp Tryd.prog 4 [str B] (tbR B) := by
  have hr := readBoard_spec B hB
  unfold bdR bdV at hr
  unfold tbR trnB
  refine spec_of Tryd.func4 rfl cc4 rfl ?_
  unfold ac4
  by_cases h : GoodBd B
  · rw [if_pos h] at hr ⊢
    have hsd := good_sd h
    have hs := boardText_spec (turn_asks B h) (by omega)
    repeat (first | (refine step_ops ?_; (refine m_mov (by conv => lhs; whnf) ?_)) | refine end_ops ?_ | refine seq_ops ?_)
    (refine step_ops ?_); (apply m_call (hr)); (· repeat (first | exact lends_nil | (refine lends_cons ?_ ?_; (· exact lend_v))))
    repeat (first | (refine step_ops ?_; (first | (refine m_mov (by conv => lhs; whnf) ?_) | (refine m_not rfl ?_) | (apply m_ld_pt; (· rfl); (· rfl); (· rfl)) | (refine m_mkf ?_) | (refine m_ext rfl rfl ?_) | (refine m_alloc ?_) | (refine m_fa rfl ?_) | (refine m_stall rfl rfl rfl ?_ ?_ ?_ ?_; (· first | rfl | (simp [*]; done)); (· first | rfl | (simp [*]; done)); (· first | rfl | (simp [cellOk, Value.oneCell']; done))))) | refine end_ops ?_ | refine seq_ops ?_ | (refine cond_f rfl ?_ ?_; (· (refine nf ?_; assumption))) | refine skip_then ?_ | refine AW_seq ?_)
    refine step_ops ?_
    refine m_call hs ?_ ?_
    · refine lends_cons lend_v (lends_cons (lend_fn (lends_cons ?_ lends_nil)) lends_nil)
      exact lend_ptM (cs := [.i (sdB B : Nat), .rmp true (mkEs (plB B)) (plB B).length]) rfl rfl
    repeat (first | (refine step_ops ?_; (refine m_mov (by conv => lhs; whnf) ?_)) | refine end_ops ?_ | refine AW_ret ?_ | refine ret_done ?_)
    exact outs_tup2 outs_v (outs_b (decide_eq_true h).symm)
  · rw [if_neg h] at hr ⊢
    repeat (first | (refine step_ops ?_; (refine m_mov (by conv => lhs; whnf) ?_)) | refine end_ops ?_ | refine seq_ops ?_)
    (refine step_ops ?_); (apply m_call (hr)); (· repeat (first | exact lends_nil | (refine lends_cons ?_ ?_; (· exact lend_v))))
    repeat (first | (refine step_ops ?_; (first | (refine m_mov (by conv => lhs; whnf) ?_) | (refine m_not rfl ?_) | (refine m_ext rfl rfl ?_) | (refine m_alloc ?_) | (refine m_stall rfl rfl rfl ?_ ?_ ?_ ?_; (· first | rfl | (simp [*]; done)); (· first | rfl | (simp [*]; done)); (· first | rfl | (simp [cellOk, Value.oneCell']; done))))) | refine end_ops ?_ | refine seq_ops ?_ | (refine cond_t rfl ?_ ?_; (· (refine nt ?_; assumption))) | refine AW_seq ?_ | refine AW_ret ?_ | refine ret_done ?_ | refine ret_then ?_)
    exact outs_tup2 outs_v (outs_b (decide_eq_false h).symm)
end Go.Proofs.YtmifianbkpiifaaDoor
namespace Go.Am
variable [Go.Am.CodeBlk]
/-- Rows of two numbers, moved. -/
def mvd (n : Int) (p : List Int) : List Int := [p.getD 0 0 + n, p.getD 1 0 + n]
theorem inB_app (R S : List (List Int)) (i j : Nat) : inB (R ++ S) i j = (inB R i j || inB S i j) := by simp [inB, List.any_append]
theorem inB_mvd (l : List (Nat × Nat)) (n : Int) (i j : Nat) : inB ((rowsP l).map (mvd n)) i j = hasP l ((i : Int) - n) ((j : Int) - n) := by
  simp only [inB, rowsP, hasP, List.map_map, List.any_map]
  congr 1
  funext p
  show (decide ((p.1 : Int) + n = (i : Int)) && decide ((p.2 : Int) + n = (j : Int))) = (decide ((p.1 : Int) = (i : Int) - n) && decide ((p.2 : Int) = (j : Int) - n))
  congr 1
  · rw [Bool.eq_iff_iff]; simp only [decide_eq_true_eq]; omega
  · rw [Bool.eq_iff_iff]; simp only [decide_eq_true_eq]; omega
end Go.Am
namespace Go.Proofs.YtmifianbkpiifaaDoor
variable [Go.Am.CodeBlk]
open Go.Am
attribute [local irreducible] AW Outs Weak Lends Lend Sp aops atree aop1 Then Round InBlock Done
attribute [local irreducible] SpM DoneM SpH DoneH
theorem plM_eq (B : List UInt8) : plM B = rowsP (plB B) := by
  show rowsP (plB B ++ []) = _
  rw [List.append_nil]
theorem plM_bd {B : List UInt8} (h : GoodBd B) : ∀ r ∈ plM B, r.length = 2 ∧ (0 ≤ r.getD 0 0 ∧ r.getD 0 0 ≤ 8) ∧ (0 ≤ r.getD 1 0 ∧ r.getD 1 0 ≤ 8) := by
  have hsd := good_sd h
  rw [plM_eq]
  intro r hr
  obtain ⟨p, hp, rfl⟩ := List.mem_map.1 hr
  have := mem_posP.1 hp
  refine ⟨rfl, ?_, ?_⟩
  · show 0 ≤ (p.1 : Int) ∧ (p.1 : Int) ≤ 8; omega
  · show 0 ≤ (p.2 : Int) ∧ (p.2 : Int) ≤ 8; omega
def Jn (A B : List UInt8) : Prop := GoodBd A ∧ GoodBd B ∧ sdB A + sdB B ≤ 8
instance (A B : List UInt8) : Decidable (Jn A B) := inferInstanceAs (Decidable (_ ∧ _))
/-- What is forbidden on the joined board. -/
def jnF (A B : List UInt8) (i j : Nat) : Bool := hasP (plB A) i j || hasP (plB B) ((i : Int) - (sdB A : Nat)) ((j : Int) - (sdB A : Nat))
def jnT (A B : List UInt8) : List UInt8 := if Jn A B then bdT (jnF A B) (sdB A + sdB B) (sdB A + sdB B) else []
def jnR (A B : List UInt8) : AV := .tup [str (jnT A B), .b (decide (Jn A B))]
theorem specJoinBoards_spec (A B : List UInt8) (hA : A.length ≤ 1048576) (hB : B.length ≤ 1048576) : Sp Tryd.prog 16 [str A, str B] (jnR A B) := by
  have hpb : pbase = 4000000 := rfl
  unfold jnR jnT
  refine spec_of Tryd.func16 rfl cc16 rfl ?_
  unfold ac16
  repeat (first | (refine step_ops ?_; (refine m_mov (by conv => lhs; whnf) ?_)) | refine end_ops ?_ | refine seq_ops ?_ | refine AW_seq ?_)
  refine step_ops ?_; (apply m_call (bdGood_spec A hA)); (· repeat (first | exact lends_nil | (refine lends_cons ?_ ?_; (· exact lend_v))))
  by_cases hgA : GoodBd A
  case neg =>
    have h : ¬ Jn A B := fun h => hgA h.1
    rw [if_neg h, decide_eq_false h]
    repeat (first | (refine step_ops ?_; (first | (first | (refine m_mov (by conv => lhs; whnf) ?_) | (refine m_not rfl ?_) | (refine m_pick_t rfl ?_ (by conv => lhs; whnf) ?_; (· first | rfl | (refine nt ?_; assumption)))) | (refine g_noF rfl ?_ ?_; (· first | rfl | (refine nt ?_; assumption))))) | refine end_ops ?_ | refine seq_ops ?_ | (refine cond_t rfl ?_ ?_; (· rfl)) | refine AW_ret ?_ | refine ret_done ?_ | refine ret_then ?_)
    exact outs_tup2 outs_v (outs_b rfl)
  repeat (refine step_ops ?_; ((try (refine g_yes rfl ?_ ?_; (· (simp [*]; done)))); (first | (refine m_mov (by conv => lhs; whnf) ?_) | (refine m_not rfl ?_))))
  refine step_ops ?_; (refine g_yes rfl ?_ ?_; (· first | ((simp [*]; done)) | (fail)); (apply m_call (bdGood_spec B hB))); (· repeat (first | exact lends_nil | (refine lends_cons ?_ ?_; (· exact lend_v))))
  by_cases hgB : GoodBd B
  case neg =>
    have h : ¬ Jn A B := fun h => hgB h.2.1
    rw [if_neg h, decide_eq_false h]
    repeat (first | (refine step_ops ?_; (first | ((try (refine g_yes rfl ?_ ?_; (· (simp [*]; done)))); (first | (refine m_mov (by conv => lhs; whnf) ?_) | (refine m_not rfl ?_) | (refine m_pick_t rfl ?_ (by conv => lhs; whnf) ?_; (· (refine nt ?_; assumption))) | (refine m_pick_f rfl ?_ (by conv => lhs; whnf) ?_; (· (refine nf ?_; assumption))))) | (refine g_noF rfl ?_ ?_; (· (refine nt ?_; assumption))))) | refine end_ops ?_ | refine seq_ops ?_ | (refine cond_t rfl ?_ ?_; (· rfl)) | refine AW_ret ?_ | refine ret_done ?_ | refine ret_then ?_)
    exact outs_tup2 outs_v (outs_b rfl)
  have hsdA := good_sd hgA
  have hsdB := good_sd hgB
  repeat (refine step_ops ?_; ((try (refine g_yes rfl ?_ ?_; (· (simp [*]; done)))); (first | (refine m_mov (by conv => lhs; whnf) ?_) | (refine m_not rfl ?_) | (refine m_pick_f rfl ?_ (by conv => lhs; whnf) ?_; (· (refine nf ?_; assumption))))))
  refine step_ops ?_; (refine g_yes rfl ?_ ?_; (· first | ((simp [*]; done)) | (fail)); (apply m_call (bdSide_spec A hA))); (· repeat (first | exact lends_nil | (refine lends_cons ?_ ?_; (· exact lend_v))))
  repeat (refine step_ops ?_; ((try (refine g_yes rfl ?_ ?_; (· (simp [*]; done)))); (refine m_mov (by conv => lhs; whnf) ?_)))
  refine step_ops ?_; (refine g_yes rfl ?_ ?_; (· first | ((simp [*]; done)) | (fail)); (apply m_call (bdSide_spec B hB))); (· repeat (first | exact lends_nil | (refine lends_cons ?_ ?_; (· exact lend_v))))
  by_cases h8 : sdB A + sdB B ≤ 8
  case neg =>
    have h : ¬ Jn A B := fun h => h8 h.2.2
    rw [if_neg h, decide_eq_false h]
    repeat (first | (refine step_ops ?_; ((try (refine g_yes rfl ?_ ?_; (· (simp [*]; done)))); (first | (refine m_mov (by conv => lhs; whnf) ?_) | (refine m_gtr rfl rfl ?_) | (refine m_add rfl rfl ?_ ?_ ?_; (· omega); (· omega)) | (refine m_pick_f rfl ?_ (by conv => lhs; whnf) ?_; (· (refine nf ?_; assumption)))))) | refine end_ops ?_ | refine seq_ops ?_ | (refine cond_t rfl ?_ ?_; (· (refine decide_eq_true ?_; omega))) | refine AW_ret ?_ | refine ret_done ?_ | refine ret_then ?_)
    exact outs_tup2 outs_v (outs_b rfl)
  · have h : Jn A B := ⟨hgA, hgB, h8⟩
    rw [if_pos h, decide_eq_true h]
    have hplA := plM_len hgA
    have hplB := plM_len hgB
    have hrA : ∀ r ∈ plM A, r.length = 2 := posM_row _ _ _ _
    have hrB := plM_bd hgB
    have hbd : ∀ R S : List (List Int), R = plM A → S = plM B → bdT (jnF A B) (sdB A + sdB B) (sdB A + sdB B) = bdT (inB (R ++ S.map (mvd (sdB A : Nat)))) (sdB A + sdB B) (sdB A + sdB B) := by
      rintro _ _ rfl rfl
      exact bdT_congr (fun i j _ _ => by rw [inB_app, plM_in, plM_eq B, inB_mvd]; rfl) (Nat.le_refl _)
    have hspA := bdPlaces_spec A hgA hA
    have hrd := bdPlaces_read B hgB hB
    generalize hR : plM A = R at *
    generalize hS : plM B = S at *
    rw [hbd R S rfl rfl]
    repeat (first | (refine step_ops ?_; ((try (refine g_yes rfl ?_ ?_; (· (simp [*]; done)))); (first | (refine m_mov (by conv => lhs; whnf) ?_) | (refine m_gtr rfl rfl ?_) | (refine m_add rfl rfl ?_ ?_ ?_; (· omega); (· omega)) | (refine m_pick_f rfl ?_ (by conv => lhs; whnf) ?_; (· (refine nf ?_; assumption)))))) | refine end_ops ?_ | refine seq_ops ?_ | (refine cond_f rfl ?_ ?_; (· (refine decide_eq_false ?_; omega))) | refine skip_then ?_)
    refine step_ops ?_
    refine m_callM 26 1000 hspA ?_ rfl (by omega) (by omega) (by omega) rfl ?_ ?_
    · exact lends_cons lend_v lends_nil
    · intro j hj
      simp (disch := omega) only [hp_put, hp_mem_ne, hp_kill_ne]
      rfl
    refine weak_ops (weak_keep (l := [(0, str A), (1, str B), (26, .sl 26 1 0 R.length)]) (h := []) (r0 := 26) (b := 1000) (rows := R) id ?_ ?_ rfl rfl rfl (.inl (by omega)) rfl rfl rfl (.inl ⟨rfl, rfl⟩) ?_) ?_
    · (repeat' (first | exact trivial | refine And.intro ?_ ?_)) <;> (first | rfl | skip)
    · trivial
    · intro j hj
      simp only [hp_put]
      refine addM_row (by omega) ?_ hj
      simp (disch := omega) only [hp_put, hp_mem_ne, hp_kill_ne]
      rfl
    have hrlA := rowsC_len 1000 R
    repeat (first | (refine step_ops ?_; (refine m_mov (by conv => lhs; whnf) ?_)) | refine end_ops ?_ | refine seq_ops ?_ | refine AW_seq ?_)
    refine step_ops ?_; (apply m_call (hrd)); (· repeat (first | exact lends_nil | (refine lends_cons ?_ ?_; (· exact lend_v))))
    repeat (first | (refine step_ops ?_; (first | (refine m_mov (by conv => lhs; whnf) ?_) | (refine m_len_ro rfl ?_))) | refine end_ops ?_ | refine AW_block ?_)
    refine AW_loop (α := Nat) (fun k => k ≤ S.length) (fun k => stM [(0, str A), (1, str B), (6, .sl 26 1 0 (R ++ (S.take k).map (mvd (sdB A : Nat))).length), (28, roF S), (29, .i S.length), (30, .i k)] [] 26 1000 (R ++ (S.take k).map (mvd (sdB A : Nat)))) (fun k => S.length - k) 0 (Nat.zero_le _)
      (weak_keep id ?_ ?_ rfl rfl rfl (.inl (by simp [pbase]; omega)) rfl rfl rfl (.inl ⟨rfl, ?_⟩) ?_) ?_
    · simp only [List.take_zero, List.map_nil, List.append_nil]
      (repeat' (first | exact trivial | refine And.intro ?_ ?_)) <;> (first | rfl | skip)
    · trivial
    · simp
    · simp only [List.take_zero, List.map_nil, List.append_nil]
      (intro j hj; simp (disch := first | omega | assumption) only [hp_put, hp_mem_ne, hp_kill_ne]; first | exact stM_row rfl hj | (rw [stM_row rfl hj]; rfl))
    intro k hk
    have hml : (R ++ (S.take k).map (mvd (sdB A : Nat))).length = R.length + k := by simp; omega
    have hrl := rowsC_len 1000 (R ++ (S.take k).map (mvd (sdB A : Nat)))
    by_cases hc : k < S.length
    · have hsn : R ++ (S.take (k + 1)).map (mvd (sdB A : Nat)) = (R ++ (S.take k).map (mvd (sdB A : Nat))) ++ [mvd (sdB A : Nat) (S.getD k [])] := by rw [take_map_snoc _ S [] k hc, List.append_assoc]
      obtain ⟨row, hrw⟩ : ∃ row, row = S.getD k [] := ⟨_, rfl⟩
      obtain ⟨hlen, hb0, hb1⟩ : row.length = 2 ∧ (0 ≤ row.getD 0 0 ∧ row.getD 0 0 ≤ 8) ∧ (0 ≤ row.getD 1 0 ∧ row.getD 1 0 ≤ 8) := by rw [hrw]; exact hrB _ (getD_memL hc)
      rw [← hrw] at hsn
      generalize R ++ (S.take k).map (mvd (sdB A : Nat)) = T at *
      have hb0' : 0 ≤ row.getD (Int.toNat 0 * 1) 0 ∧ row.getD (Int.toNat 0 * 1) 0 ≤ 8 := hb0
      have hb1' : 0 ≤ row.getD (Int.toNat 1 * 1) 0 ∧ row.getD (Int.toNat 1 * 1) 0 ≤ 8 := hb1
      repeat (first | (refine step_ops ?_; (first | (refine m_lss rfl rfl ?_) | (refine m_idx1_ro rfl rfl ?_ ?_; (· omega)))) | refine end_ops ?_ | refine seq_ops ?_ | (refine cond_t rfl ?_ ?_; (· (refine decide_eq_true ?_; omega))) | refine skip_then ?_ | refine AW_seq ?_ | refine AW_block ?_)
      refine step_ops ?_
      refine m_ld_rp rfl (rowF_at hc) ?_
      rw [← hrw]
      repeat (first | ((first | refine step_ops ?_ | refine step_tree ?_); (first | (refine m_mov (by conv => lhs; whnf) ?_) | (refine m_idx_ro rfl rfl ?_ ?_ ?_; (· omega); (· omega)) | (refine m_ld_rpi rfl ?_ ?_; (· omega)))) | refine end_ops ?_ | refine AW_tree ?_)
      refine step_tree ?_; (apply m_call (bdSide_spec A hA)); (· repeat (first | exact lends_nil | (refine lends_cons ?_ ?_; (· exact lend_v))))
      repeat' (first | ((first | ((first | refine step_ops ?_ | refine step_tree ?_); (first | (refine m_mov (by conv => lhs; whnf) ?_) | (refine m_add rfl rfl ?_ ?_ ?_; (· omega); (· omega)) | (refine m_idx_ro rfl rfl ?_ ?_ ?_; (· omega); (· omega)) | (refine m_ld_rpi rfl ?_ ?_; (· omega)))) | refine end_ops ?_ | refine AW_ops ?_ | refine end_tree ?_ | refine norm_then ?_ | refine norm_block ?_)) | (refine step_two ?_ ?_) | (refine step_tree ?_; (apply m_call (bdSide_spec A hA)); (· repeat (first | exact lends_nil | (refine lends_cons ?_ ?_; (· exact lend_v))))) | (refine step_tree ?_; refine m_bsl2i rfl rfl ?_) | (refine step_tree ?_; refine m_bsl1d rfl rfl ?_) | (refine step_tree ?_; refine m_app1d rfl (by decide) rfl ?_ rfl rfl rfl ?_ (by decide) ?_; (· simp [rowsC_kill, rowsC_len]); (· omega)))
      all_goals
        refine next_round (k + 1) (by omega) ?_ ?_
        · rw [hsn, List.length_append]
          refine weak_push (fun r => if r = 26 then 49 else r) 47 ?_ ?_ rfl rfl rfl (by omega) rfl rfl (by decide) rfl rfl ?_ ?_ ?_
          · (repeat' (first | exact trivial | refine And.intro ?_ ?_)) <;> (first | rfl | skip)
          · trivial
          · simp [rowsC_kill, killL_append, killL]
            rfl
          · rfl
          · (intro j hj; simp (disch := first | omega | assumption) only [hp_put, hp_mem_ne, hp_kill_ne]; first | exact stM_row rfl hj | (rw [stM_row rfl hj]; rfl))
        · omega
    · obtain rfl : k = S.length := by omega
      rw [List.take_length] at hml hrl ⊢
      have htr : ∀ r ∈ R ++ S.map (mvd (sdB A : Nat)), r.length = 2 := by
        intro r hr
        rcases List.mem_append.1 hr with hr | hr
        · exact hrA r hr
        · obtain ⟨p, _, rfl⟩ := List.mem_map.1 hr
          rfl
      generalize R ++ S.map (mvd (sdB A : Nat)) = T at *
      repeat (first | (refine step_ops ?_; (first | (refine m_mov (by conv => lhs; whnf) ?_) | (refine m_lss rfl rfl ?_))) | refine end_ops ?_ | refine seq_ops ?_ | (refine cond_f rfl ?_ ?_; (· (refine decide_eq_false ?_; omega))) | refine AW_seq ?_ | refine norm_then ?_ | refine exit_then ?_ | refine exit_round ?_ | refine AW_exit ?_ | refine exit_block ?_)
      refine step_ops ?_; (apply m_call (bdSide_spec A hA)); (· repeat (first | exact lends_nil | (refine lends_cons ?_ ?_; (· exact lend_v))))
      repeat (refine step_ops ?_; (refine m_mov (by conv => lhs; whnf) ?_))
      refine step_ops ?_; (apply m_call (bdSide_spec B hB)); (· repeat (first | exact lends_nil | (refine lends_cons ?_ ?_; (· exact lend_v))))
      repeat (refine step_ops ?_; (first | (refine m_mov (by conv => lhs; whnf) ?_) | (refine m_add rfl rfl ?_ ?_ ?_; (· omega); (· omega))))
      refine step_ops ?_
      refine m_call (bdMake_spec (sdB A + sdB B) T (by omega) (by omega) htr) ?_ ?_
      · refine lends_cons lend_v (lends_cons ?_ lends_nil)
        refine lend_mat rfl ?_
        (intro j hj; simp (disch := first | omega | assumption) only [hp_put, hp_mem_ne, hp_kill_ne]; first | exact stM_row rfl hj | (rw [stM_row rfl hj]; rfl))
      repeat (first | (refine step_ops ?_; (refine m_mov (by conv => lhs; whnf) ?_)) | refine end_ops ?_ | refine AW_ret ?_ | refine ret_done ?_)
      exact outs_tup2 outs_v (outs_b rfl)
theorem joinFn_spec (A B : List UInt8) (hA : GoodBd A) (hB : GoodBd B) (i j : Nat) (hi : i < sdB A + sdB B) (hj : j < sdB A + sdB B) : Sp Tryd.prog 38 [.agg [.i (i : Nat), .i (j : Nat)], capT A, capT B] (.b (jnF A B i j)) := by
  have hsdA := good_sd hA
  have hsdB := good_sd hB
  have hltA := plF_lt hA
  have hltB := plF_lt hB
  unfold capT jnF
  refine spec_of Tryd.func38 rfl cc38 rfl ?_
  unfold ac38
  by_cases h1 : hasP (plB A) (i : Nat) (j : Nat) = true
  · repeat (first | (refine step_ops ?_; (first | (refine m_mov (by conv => lhs; whnf) ?_) | (apply m_ld_rp; (· rfl); (· rfl)) | (refine m_fa_rp rfl ?_) | (refine m_box rfl ?_ ?_; (· first | rfl | (simp [cellOk, Value.oneCell']; done))) | (refine m_ldall rfl rfl ?_ ?_; (· first | rfl | (simp; done) | (simp [*]; done))))) | refine end_ops ?_ | refine seq_ops ?_)
    refine step_ops ?_
    refine m_place (a := (i : Nat)) (b := (j : Nat)) hltA (.inr ⟨false, rfl⟩) rfl (by omega) (by omega) ?_
    rw [h1]
    repeat (first | (refine step_ops ?_; (first | (first | (refine m_mov (by conv => lhs; whnf) ?_) | (refine m_pick_t rfl ?_ (by conv => lhs; whnf) ?_; (· rfl))) | (refine g_noF rfl ?_ ?_; (· rfl)))) | refine end_ops ?_ | refine AW_ret ?_ | refine ret_done ?_)
    exact outs_b rfl
  · have h1 : hasP (plB A) (i : Nat) (j : Nat) = false := by simpa using h1
    repeat (first | (refine step_ops ?_; (first | (refine m_mov (by conv => lhs; whnf) ?_) | (apply m_ld_rp; (· rfl); (· rfl)) | (refine m_fa_rp rfl ?_) | (refine m_box rfl ?_ ?_; (· first | rfl | (simp [cellOk, Value.oneCell']; done))) | (refine m_ldall rfl rfl ?_ ?_; (· first | rfl | (simp; done) | (simp [*]; done))))) | refine end_ops ?_ | refine seq_ops ?_)
    refine step_ops ?_
    refine m_place (a := (i : Nat)) (b := (j : Nat)) hltA (.inr ⟨false, rfl⟩) rfl (by omega) (by omega) ?_
    rw [h1]
    repeat (refine step_ops ?_; ((try (refine g_yes rfl ?_ ?_; (· rfl))); (first | (refine m_mov (by conv => lhs; whnf) ?_) | (refine m_sub rfl rfl ?_ ?_ ?_; (· omega); (· omega)) | (apply m_ld_rp; (· rfl); (· rfl)) | (apply m_ld_pt; (· rfl); (· rfl); (· rfl)) | (refine m_fa rfl ?_) | (refine m_fa_rp rfl ?_) | (refine m_bld_2 (by conv => lhs; whnf) (by conv => lhs; whnf) (by decide)  (by decide) (by rfl) (by rfl) ?_))))
    refine step_ops ?_
    refine g_yes rfl ?_ ?_
    · rfl
    refine m_place (a := (i : Int) - (sdB A : Nat)) (b := (j : Int) - (sdB A : Nat)) hltB (.inr ⟨false, rfl⟩) rfl (by omega) (by omega) ?_
    repeat (first | (refine step_ops ?_; (first | (refine m_mov (by conv => lhs; whnf) ?_) | (refine m_pick_f rfl ?_ (by conv => lhs; whnf) ?_; (· rfl)))) | refine end_ops ?_ | refine AW_ret ?_ | refine ret_done ?_)
    exact outs_b rfl
theorem join_asks (A B : List UInt8) (hA : GoodBd A) (hB : GoodBd B) : AsksP Tryd.prog 38 [capT A, capT B] (sdB A + sdB B) (jnF A B) where
  call := ⟨_, Tryd.func38, by rfl, by rfl⟩
  bears := bears_cons (capT_bears A) (capT_bears B)
  norefs := fun _ => rfl
  nokill := fun _ => rfl
  spec := fun i j hi hj => joinFn_spec A B hA hB i j hi hj
theorem implJoinBoards_spec (A B : List UInt8) (hA : A.length ≤ 1048576) (hB : B.length ≤ 1048576) : Sp Tryd.prog 15 [str A, str B] (jnR A B) := by
  have hrA := readBoard_spec A hA
  have hrB := readBoard_spec B hB
  unfold bdR bdV at hrA hrB
  unfold jnR jnT
  refine spec_of Tryd.func15 rfl cc15 rfl ?_
  unfold ac15
  by_cases h1 : GoodBd A <;> by_cases h2 : GoodBd B <;> simp only [h1, h2, if_true, if_false] at hrA hrB
  all_goals
    repeat (first | (refine step_ops ?_; (refine m_mov (by conv => lhs; whnf) ?_)) | refine end_ops ?_ | refine seq_ops ?_)
    (refine step_ops ?_); (apply m_call (hrA)); (· repeat (first | exact lends_nil | (refine lends_cons ?_ ?_; (· exact lend_v))))
    repeat (first | (refine step_ops ?_; (first | (refine m_mov (by conv => lhs; whnf) ?_) | (refine m_ext rfl rfl ?_) | (refine m_alloc ?_) | (refine m_stall rfl rfl rfl ?_ ?_ ?_ ?_; (· first | rfl | (simp [*]; done)); (· first | rfl | (simp [*]; done)); (· first | rfl | (simp [cellOk, Value.oneCell']; done))))) | refine end_ops ?_ | refine seq_ops ?_)
    (refine step_ops ?_); (apply m_call (hrB)); (· repeat (first | exact lends_nil | (refine lends_cons ?_ ?_; (· exact lend_v))))
    repeat (first | (refine step_ops ?_; (first | ((try (refine g_yes rfl ?_ ?_; (· rfl))); (first | (refine m_mov (by conv => lhs; whnf) ?_) | (refine m_not rfl ?_) | (apply m_ld_pt; (· rfl); (· rfl); (· rfl)) | (refine m_pick_t rfl ?_ (by conv => lhs; whnf) ?_; (· rfl)) | (refine m_pick_f rfl ?_ (by conv => lhs; whnf) ?_; (· rfl)) | (refine m_ext rfl rfl ?_) | (refine m_alloc ?_) | (refine m_fa rfl ?_) | (refine m_stall rfl rfl rfl ?_ ?_ ?_ ?_; (· first | rfl | (simp [*]; done)); (· first | rfl | (simp [*]; done)); (· first | rfl | (simp [cellOk, Value.oneCell']; done))))) | (refine g_noF rfl ?_ ?_; (· rfl)))) | refine end_ops ?_ | refine seq_ops ?_ | (refine cond_t rfl ?_ ?_; (· rfl)) | refine AW_seq ?_ | refine AW_ret ?_ | refine ret_done ?_ | refine ret_then ?_)
  · have hsdA := good_sd h1
    have hsdB := good_sd h2
    repeat (refine step_ops ?_; ((try (refine g_yes rfl ?_ ?_; (· rfl))); (refine m_add rfl rfl ?_ ?_ ?_; (· omega); (· omega))))
    (refine step_ops ?_); (refine g_yes rfl ?_ ?_; (· first | (rfl) | (fail)); (apply m_call (isSide_spec _))); (· repeat (first | exact lends_nil | (refine lends_cons ?_ ?_; (· exact lend_v))))
    by_cases h3 : sdB A + sdB B ≤ 8
    · have h : Jn A B := ⟨h1, h2, h3⟩
      rw [if_pos h, decide_eq_true h]
      have hs := boardText_spec (join_asks A B h1 h2) (by omega)
      repeat (first | (refine step_ops ?_; ((try (refine g_yes rfl ?_ ?_; (· rfl))); (first | (refine m_add rfl rfl ?_ ?_ ?_; (· omega); (· omega)) | (refine m_not rfl ?_) | (apply m_ld_pt; (· rfl); (· rfl); (· rfl)) | (refine m_pick_f rfl ?_ (by conv => lhs; whnf) ?_; (· rfl)) | (refine m_mkf ?_) | (refine m_fa rfl ?_)))) | refine end_ops ?_ | refine seq_ops ?_ | (refine cond_f rfl ?_ ?_; (· (refine nf ?_; omega))) | refine skip_then ?_)
      refine step_ops ?_
      refine m_call hs ?_ ?_
      · refine lends_cons lend_v (lends_cons (lend_fn (lends_cons ?_ (lends_cons ?_ lends_nil))) lends_nil)
        · exact lend_ptM (cs := [.i (sdB A : Nat), .rmp true (mkEs (plB A)) (plB A).length]) rfl rfl
        · exact lend_ptM (cs := [.i (sdB B : Nat), .rmp true (mkEs (plB B)) (plB B).length]) rfl rfl
      repeat (first | (refine step_ops ?_; (refine m_mov (by conv => lhs; whnf) ?_)) | refine end_ops ?_ | refine AW_ret ?_ | refine ret_done ?_)
      exact outs_tup2 outs_v (outs_b rfl)
    · have h : ¬ Jn A B := fun h => h3 h.2.2
      rw [if_neg h, decide_eq_false h]
      repeat (first | (refine step_ops ?_; ((try (refine g_yes rfl ?_ ?_; (· rfl))); (first | (refine m_mov (by conv => lhs; whnf) ?_) | (refine m_not rfl ?_) | (refine m_pick_f rfl ?_ (by conv => lhs; whnf) ?_; (· rfl))))) | refine end_ops ?_ | refine seq_ops ?_ | (refine cond_t rfl ?_ ?_; (· (refine nt ?_; omega))) | refine AW_ret ?_ | refine ret_done ?_ | refine ret_then ?_)
      exact outs_tup2 outs_v (outs_b rfl)
  all_goals
    rw [if_neg (fun h : Jn A B => by first | exact h1 h.1 | exact h2 h.2.1), decide_eq_false (fun h : Jn A B => by first | exact h1 h.1 | exact h2 h.2.1)]
    exact outs_tup2 outs_v (outs_b rfl)
end Go.Proofs.YtmifianbkpiifaaDoor
