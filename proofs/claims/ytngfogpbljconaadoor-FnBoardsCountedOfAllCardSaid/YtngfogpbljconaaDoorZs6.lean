/- The abstract machine, contracts: part 6 of what this claim needs. -/
import Derived.Test.YtngfogpbljconaaDoorZs5
set_option linter.unusedSectionVars false
namespace Go.Am
variable [Go.Am.CodeBlk]
theorem g_unl {P : Program} {own : Bool} {s : AS} {K : AS → Prop} {d : Option Nat} {op : AOp} {t : Nat} {w : Bool} (h : s.tm t = .v undef) (k : K (s.put d (.v undef))) : aop1 P own ⟨d, op, some (t, w)⟩ s K := .inr ⟨h, k⟩
end Go.Am
namespace Go.Proofs.YtngfogpbljconaaDoor
variable [Go.Am.CodeBlk]
open Go.Am
attribute [local irreducible] AW Outs Weak Lends Lend Sp aops atree aop1 Then Round InBlock Done
attribute [local irreducible] SpH SpX DoneH DoneX
/-- Do the first q rows, those of a set beside, need a column? -/
def needB (fb : Nat → Nat → Bool) (S j q : Nat) : Bool := (List.range q).any fun i => !S.testBit i && fb i j
theorem needB_succ (fb : Nat → Nat → Bool) (S j q : Nat) : needB fb S j (q + 1) = (needB fb S j q || (!S.testBit q && fb q j)) := by
  unfold needB
  rw [List.range_succ, List.any_append]
  simp
theorem needB_cols {fb : Nat → Nat → Bool} {n S j : Nat} (hj : j < n) : (colsM fb n S).testBit j = needB fb S j n := by
  unfold colsM
  rw [maskB_bit, decide_eq_true hj, Bool.true_and]
  unfold nbB needB
  simp
theorem l1HasM_spec (S n q : Nat) (hq : q < n) (hn : n ≤ 12) : Sp Tryd.prog 53 [ints (memL S n), .i (q : Nat)] (.b (S.testBit q)) := by
  have h := l1Has_spec (memL S n) (q : Nat) (by have := memL_len S n; omega)
  have e : decide (((q : Nat) : Int) ∈ memL S n) = S.testBit q := by
    cases hb : S.testBit q with
    | true => exact decide_eq_true (memL_mem.2 ⟨hq, hb⟩)
    | false => exact decide_eq_false fun hm => by rw [(memL_mem.1 hm).2] at hb; cases hb
  rw [e] at h
  exact h
def oRow (n : Nat) : Option Nat → List Int
  | none => []
  | some b => memL b n
def oCol (fb : Nat → Nat → Bool) (n : Nat) : Option Nat → List Int
  | none => []
  | some b => memL (colsM fb n b) n
theorem oRow_len (n : Nat) (o : Option Nat) : (oRow n o).length ≤ n := by
  cases o with
  | none => exact Nat.zero_le _
  | some b => exact memL_len b n
theorem oCol_len (fb : Nat → Nat → Bool) (n : Nat) (o : Option Nat) : (oCol fb n o).length ≤ n := by
  cases o with
  | none => exact Nat.zero_le _
  | some b => exact memL_len _ n
theorem pick_no {fb : Nat → Nat → Bool} {n M k : Nat} {o : Option Nat} (ho : pickS fb n M k = o) (h : linS fb n k ≠ M) : pickS fb n M (k + 1) = o := by
  rw [pickS, ho]
  cases o with
  | none => dsimp only; rw [if_neg h]
  | some b => dsimp only; rw [if_neg fun h2 => h h2.1]
theorem pick_first {fb : Nat → Nat → Bool} {n M k : Nat} (ho : pickS fb n M k = none) (h : linS fb n k = M) : pickS fb n M (k + 1) = some k := by
  rw [pickS, ho]; dsimp only; rw [if_pos h]
theorem pick_less {fb : Nat → Nat → Bool} {n M k b : Nat} (ho : pickS fb n M k = some b) (h : linS fb n k = M) (hl : ordC (memL k n) (memL b n) < 0) : pickS fb n M (k + 1) = some k := by
  rw [pickS, ho]; dsimp only; rw [if_pos ⟨h, hl⟩]
theorem pick_keep {fb : Nat → Nat → Bool} {n M k b : Nat} (ho : pickS fb n M k = some b) (hl : ¬ ordC (memL k n) (memL b n) < 0) : pickS fb n M (k + 1) = some b := by
  rw [pickS, ho]; dsimp only; rw [if_neg fun h2 => hl h2.2]
/-- The loop that asks the rows of a column. -/
def needC : ACode := (.seq (.seq (.ops [⟨(some 49), (.mov (.t 15)), none⟩, ⟨(some 50), (.mov (.t 0)), none⟩, ⟨(some 51), (.call 51 [(.t 50)]), none⟩, ⟨(some 52), (.bin .lss (.t 49) (.t 51)), none⟩]) (.cond (.t 52) .skip (.exit 6))) (.seq (.block 7 (.ops [⟨(some 55), (.mov (.t 14)), none⟩, ⟨(some 56), (.mov (.t 55)), none⟩, ⟨(some 57), (.mov (.t 0)), (some (56, false))⟩, ⟨(some 58), (.mov (.t 15)), (some (56, false))⟩, ⟨(some 59), (.mov (.t 13)), (some (56, false))⟩, ⟨(some 60), (.call 52 [(.t 57), (.t 58), (.t 59)]), (some (56, false))⟩, ⟨(some 61), (.mov (.t 60)), (some (56, false))⟩, ⟨(some 62), (.mov (.t 10)), (some (61, true))⟩, ⟨(some 63), (.mov (.t 15)), (some (61, true))⟩, ⟨(some 64), (.call 53 [(.t 62), (.t 63)]), (some (61, true))⟩, ⟨(some 65), (.not (.t 64)), (some (61, true))⟩, ⟨(some 66), (.pick (.t 61) (.t 65) (.c (.bool false))), (some (56, false))⟩, ⟨(some 67), (.pick (.t 56) (.c (.bool true)) (.t 66)), none⟩, ⟨(some 14), (.mov (.t 67)), none⟩])) (.ops [⟨(some 53), (.mov (.t 15)), none⟩, ⟨(some 54), (.bin .add (.t 53) (.c (.int .i64 1))), none⟩, ⟨(some 15), (.mov (.t 54)), none⟩])))
theorem fl_need (B : List UInt8) (h : GoodBd B) (hB : B.length ≤ 1048576) (M k j : Nat) (L6 L7 LC : List Int) (o : Bool) (hj1 : j < sdB B) (Q : Exit → AS → Prop) :
    AW Tryd.prog (min Tryd.f25.ntmps pbase) (.loop needC) (st [(0, str B), (5, .i (M : Nat)), (6, .sl 6 1 0 L6.length), (7, .sl 7 1 0 L7.length), (8, .b o), (9, .i (k : Nat)), (10, .sl 10 1 0 (memL k (sdB B)).length), (11, .sl 11 1 0 LC.length), (13, .i (j : Nat)), (14, .b (needB (fbB B) k j 0)), (15, .i (0 : Nat))]
      [(6, (true, L6.map AV.i)), (7, (true, L7.map AV.i)), (10, (true, (memL k (sdB B)).map AV.i)), (11, (true, LC.map AV.i))])
      (InBlock 6 (CutQ (st [(0, str B), (5, .i (M : Nat)), (6, .sl 6 1 0 L6.length), (7, .sl 7 1 0 L7.length), (8, .b o), (9, .i (k : Nat)), (10, .sl 10 1 0 (memL k (sdB B)).length), (11, .sl 11 1 0 LC.length), (13, .i (j : Nat)), (14, .b (needB (fbB B) k j (sdB B))), (15, .i (sdB B : Nat))]
      [(6, (true, L6.map AV.i)), (7, (true, L7.map AV.i)), (10, (true, (memL k (sdB B)).map AV.i)), (11, (true, LC.map AV.i))]) Q)) := by
  have hsd := good_sd h
  have hsp : sdB B ≤ 12 := by omega
  have l1 := memL_len k (sdB B)
  unfold needC
  refine AW_loop (α := Nat) (fun q => q ≤ sdB B) (fun q => st [(0, str B), (5, .i (M : Nat)), (6, .sl 6 1 0 L6.length), (7, .sl 7 1 0 L7.length), (8, .b o), (9, .i (k : Nat)), (10, .sl 10 1 0 (memL k (sdB B)).length), (11, .sl 11 1 0 LC.length), (13, .i (j : Nat)), (14, .b (needB (fbB B) k j q)), (15, .i (q : Nat))]
      [(6, (true, L6.map AV.i)), (7, (true, L7.map AV.i)), (10, (true, (memL k (sdB B)).map AV.i)), (11, (true, LC.map AV.i))]) (fun q => sdB B - q) 0 (Nat.zero_le _) (weak_st ?_ ?_ rfl rfl) ?_
  · (repeat' (first | exact trivial | refine And.intro ?_ ?_)) <;> (first | rfl | skip)
  · (repeat' (first | exact trivial | refine And.intro ?_ ?_)) <;> (first | rfl | skip)
  rintro q hq
  by_cases hq1 : q < sdB B
  · have hns := needB_succ (fbB B) k j q
    have hat := bdAt_spec B h q j hq1 hj1
    have hl1 := l1HasM_spec k (sdB B) q hq1 hsp
    cases hn : needB (fbB B) k j q with
    | true =>
      rw [hn, Bool.true_or] at hns
      repeat (first | (refine step_ops ?_; (refine m_mov (by conv => lhs; whnf) ?_)) | refine seq_ops ?_ | refine AW_seq ?_)
      refine step_ops ?_; (apply m_call (bdSide_spec B hB)); (· repeat (first | exact lends_nil | (refine lends_cons ?_ ?_; (· exact lend_v))))
      repeat (first | ((first | (refine step_ops ?_; (first | (first | (refine m_mov (by conv => lhs; whnf) ?_) | (refine m_lss rfl rfl ?_) | (refine m_add rfl rfl ?_ ?_ ?_; (· omega); (· omega)) | (refine m_pick_t rfl ?_ (by conv => lhs; whnf) ?_; (· rfl))) | (refine g_noF rfl ?_ ?_; (· rfl)))) | refine end_ops ?_ | refine AW_ops ?_ | (refine cond_t rfl ?_ ?_; (· (refine decide_eq_true ?_; omega))) | refine skip_then ?_ | refine AW_seq ?_ | refine norm_then ?_ | refine AW_block ?_ | refine norm_block ?_)) | (refine step_ops ?_; refine g_unl rfl ?_))
      refine next_round (q + 1) (by omega) (weak_st ?_ ?_ rfl rfl) (by omega)
      · rw [hns]; (repeat' (first | exact trivial | refine And.intro ?_ ?_)) <;> (first | rfl | skip)
      · (repeat' (first | exact trivial | refine And.intro ?_ ?_)) <;> (first | rfl | skip)
    | false =>
      rw [hn, Bool.false_or] at hns
      cases hf : fbB B q j with
      | false =>
        rw [hf, Bool.and_false] at hns
        rw [hf] at hat
        repeat (first | (refine step_ops ?_; (refine m_mov (by conv => lhs; whnf) ?_)) | refine seq_ops ?_ | refine AW_seq ?_)
        refine step_ops ?_; (apply m_call (bdSide_spec B hB)); (· repeat (first | exact lends_nil | (refine lends_cons ?_ ?_; (· exact lend_v))))
        repeat (first | (refine step_ops ?_; ((try (refine g_yes rfl ?_ ?_; (· rfl))); (first | (refine m_mov (by conv => lhs; whnf) ?_) | (refine m_lss rfl rfl ?_)))) | refine end_ops ?_ | refine AW_ops ?_ | (refine cond_t rfl ?_ ?_; (· (refine decide_eq_true ?_; omega))) | refine skip_then ?_ | refine AW_seq ?_ | refine AW_block ?_)
        refine step_ops ?_; (refine g_yes rfl ?_ ?_; (· first | (rfl) | (fail)); (apply m_call (hat))); (· repeat (first | exact lends_nil | (refine lends_cons ?_ ?_; (· exact lend_v))))
        repeat (first | (refine step_ops ?_; (first | ((try (refine g_yes rfl ?_ ?_; (· rfl))); (first | (refine m_mov (by conv => lhs; whnf) ?_) | (refine m_add rfl rfl ?_ ?_ ?_; (· omega); (· omega)) | (refine m_pick_f rfl ?_ (by conv => lhs; whnf) ?_; (· rfl)))) | (refine g_noT rfl ?_ ?_; (· rfl)))) | refine end_ops ?_ | refine AW_ops ?_ | refine norm_then ?_ | refine norm_block ?_)
        refine next_round (q + 1) (by omega) (weak_st ?_ ?_ rfl rfl) (by omega)
        · rw [hns]; (repeat' (first | exact trivial | refine And.intro ?_ ?_)) <;> (first | rfl | skip)
        · (repeat' (first | exact trivial | refine And.intro ?_ ?_)) <;> (first | rfl | skip)
      | true =>
        rw [hf, Bool.and_true] at hns
        rw [hf] at hat
        cases hbt : k.testBit q with
        | true =>
          rw [hbt] at hns hl1
          repeat (first | (refine step_ops ?_; (refine m_mov (by conv => lhs; whnf) ?_)) | refine seq_ops ?_ | refine AW_seq ?_)
          refine step_ops ?_; (apply m_call (bdSide_spec B hB)); (· repeat (first | exact lends_nil | (refine lends_cons ?_ ?_; (· exact lend_v))))
          repeat (first | (refine step_ops ?_; ((try (refine g_yes rfl ?_ ?_; (· rfl))); (first | (refine m_mov (by conv => lhs; whnf) ?_) | (refine m_lss rfl rfl ?_)))) | refine end_ops ?_ | refine AW_ops ?_ | (refine cond_t rfl ?_ ?_; (· (refine decide_eq_true ?_; omega))) | refine skip_then ?_ | refine AW_seq ?_ | refine AW_block ?_)
          refine step_ops ?_; (refine g_yes rfl ?_ ?_; (· first | (rfl) | (fail)); (apply m_call (hat))); (· repeat (first | exact lends_nil | (refine lends_cons ?_ ?_; (· exact lend_v))))
          repeat (refine step_ops ?_; ((try (refine g_yes rfl ?_ ?_; (· rfl))); (refine m_mov (by conv => lhs; whnf) ?_)))
          refine step_ops ?_; (refine g_yes rfl ?_ ?_; (· first | (rfl) | (fail)); (apply m_call (hl1))); (· repeat (first | exact lends_nil | (refine lends_cons ?_ ?_; (· (first | exact lend_v | (refine lend_sli (by rfl) ?_; first | rfl | omega | (simp; done)))))))
          repeat (first | (refine step_ops ?_; ((try (refine g_yes rfl ?_ ?_; (· rfl))); (first | (refine m_mov (by conv => lhs; whnf) ?_) | (refine m_add rfl rfl ?_ ?_ ?_; (· omega); (· omega)) | (refine m_not rfl ?_) | (refine m_pick_t rfl ?_ (by conv => lhs; whnf) ?_; (· rfl)) | (refine m_pick_f rfl ?_ (by conv => lhs; whnf) ?_; (· rfl))))) | refine end_ops ?_ | refine AW_ops ?_ | refine norm_then ?_ | refine norm_block ?_)
          refine next_round (q + 1) (by omega) (weak_st ?_ ?_ rfl rfl) (by omega)
          · rw [hns]; (repeat' (first | exact trivial | refine And.intro ?_ ?_)) <;> (first | rfl | skip)
          · (repeat' (first | exact trivial | refine And.intro ?_ ?_)) <;> (first | rfl | skip)
        | false =>
          rw [hbt] at hns hl1
          repeat (first | (refine step_ops ?_; (refine m_mov (by conv => lhs; whnf) ?_)) | refine seq_ops ?_ | refine AW_seq ?_)
          refine step_ops ?_; (apply m_call (bdSide_spec B hB)); (· repeat (first | exact lends_nil | (refine lends_cons ?_ ?_; (· exact lend_v))))
          repeat (first | (refine step_ops ?_; ((try (refine g_yes rfl ?_ ?_; (· rfl))); (first | (refine m_mov (by conv => lhs; whnf) ?_) | (refine m_lss rfl rfl ?_)))) | refine end_ops ?_ | refine AW_ops ?_ | (refine cond_t rfl ?_ ?_; (· (refine decide_eq_true ?_; omega))) | refine skip_then ?_ | refine AW_seq ?_ | refine AW_block ?_)
          refine step_ops ?_; (refine g_yes rfl ?_ ?_; (· first | (rfl) | (fail)); (apply m_call (hat))); (· repeat (first | exact lends_nil | (refine lends_cons ?_ ?_; (· exact lend_v))))
          repeat (refine step_ops ?_; ((try (refine g_yes rfl ?_ ?_; (· rfl))); (refine m_mov (by conv => lhs; whnf) ?_)))
          refine step_ops ?_; (refine g_yes rfl ?_ ?_; (· first | (rfl) | (fail)); (apply m_call (hl1))); (· repeat (first | exact lends_nil | (refine lends_cons ?_ ?_; (· (first | exact lend_v | (refine lend_sli (by rfl) ?_; first | rfl | omega | (simp; done)))))))
          repeat (first | (refine step_ops ?_; ((try (refine g_yes rfl ?_ ?_; (· rfl))); (first | (refine m_mov (by conv => lhs; whnf) ?_) | (refine m_add rfl rfl ?_ ?_ ?_; (· omega); (· omega)) | (refine m_not rfl ?_) | (refine m_pick_t rfl ?_ (by conv => lhs; whnf) ?_; (· rfl)) | (refine m_pick_f rfl ?_ (by conv => lhs; whnf) ?_; (· rfl))))) | refine end_ops ?_ | refine AW_ops ?_ | refine norm_then ?_ | refine norm_block ?_)
          refine next_round (q + 1) (by omega) (weak_st ?_ ?_ rfl rfl) (by omega)
          · rw [hns]; (repeat' (first | exact trivial | refine And.intro ?_ ?_)) <;> (first | rfl | skip)
          · (repeat' (first | exact trivial | refine And.intro ?_ ?_)) <;> (first | rfl | skip)
  · obtain rfl : q = sdB B := by omega
    repeat (first | (refine step_ops ?_; (refine m_mov (by conv => lhs; whnf) ?_)) | refine seq_ops ?_ | refine AW_seq ?_)
    refine step_ops ?_; (apply m_call (bdSide_spec B hB)); (· repeat (first | exact lends_nil | (refine lends_cons ?_ ?_; (· exact lend_v))))
    repeat (first | (refine step_ops ?_; (refine m_lss rfl rfl ?_)) | refine end_ops ?_ | (refine cond_f rfl ?_ ?_; (· (refine decide_eq_false ?_; omega))) | refine exit_then ?_ | refine exit_round ?_ | refine AW_exit ?_ | refine exit_block ?_)
    refine weak_st ?_ ?_ rfl rfl
    · (repeat' (first | exact trivial | refine And.intro ?_ ?_)) <;> (first | rfl | skip)
    · (repeat' (first | exact trivial | refine And.intro ?_ ?_)) <;> (first | rfl | skip)
theorem specFl_yes (B : List UInt8) (h : GoodBd B) (hB : B.length ≤ 1048576) : Sp Tryd.prog 25 [str B] (.tup [newInts (memL (flS B) (sdB B)), newInts (memL (colsM (fbB B) (sdB B) (flS B)) (sdB B)), .b true]) := by
  have hsd := good_sd h
  have hend : pickS (fbB B) (sdB B) (mostN (rkN (fbB B) (sdB B)) (sdB B)) (2 ^ sdB B) = some (flS B) := pick_best hsd.2
  have hmost := bdMost_spec B h hB
  have hgood := bdGood_spec B hB
  rw [decide_eq_true h] at hgood
  have hsp : sdB B ≤ 12 := by omega
  generalize mostN (rkN (fbB B) (sdB B)) (sdB B) = M at *
  have h9 : 2 ^ sdB B ≤ 2 ^ 8 := Nat.pow_le_pow_right (by decide) hsd.2
  refine spec_of Tryd.func25 rfl cc25 rfl ?_
  unfold ac25
  repeat (first | (refine step_ops ?_; (first | (refine m_mov (by conv => lhs; whnf) ?_) | (refine m_nils ?_))) | refine end_ops ?_ | refine seq_ops ?_ | refine AW_seq ?_)
  (refine step_ops ?_); (apply m_call (hgood)); (· repeat (first | exact lends_nil | (refine lends_cons ?_ ?_; (· exact lend_v))))
  repeat (first | (refine step_ops ?_; (first | (refine m_mov (by conv => lhs; whnf) ?_) | (refine m_not rfl ?_))) | refine end_ops ?_ | refine seq_ops ?_ | (refine cond_f rfl ?_ ?_; (· rfl)) | refine skip_then ?_)
  (refine step_ops ?_); (apply m_call (hmost)); (· repeat (first | exact lends_nil | (refine lends_cons ?_ ?_; (· exact lend_v))))
  repeat (first | (refine step_ops ?_; (first | (refine m_mov (by conv => lhs; whnf) ?_) | (refine m_nils ?_))) | refine end_ops ?_ | refine seq_ops ?_ | refine AW_seq ?_ | refine AW_block ?_)
  refine AW_loop (α := Nat) (fun k => k ≤ 2 ^ sdB B) (fun k => st [(0, str B), (5, .i (M : Nat)), (6, .sl 6 1 0 (oRow (sdB B) (pickS (fbB B) (sdB B) M k)).length), (7, .sl 7 1 0 (oCol (fbB B) (sdB B) (pickS (fbB B) (sdB B) M k)).length), (8, .b (pickS (fbB B) (sdB B) M k).isSome), (9, .i (k : Nat))]
    [(6, (true, (oRow (sdB B) (pickS (fbB B) (sdB B) M k)).map AV.i)), (7, (true, (oCol (fbB B) (sdB B) (pickS (fbB B) (sdB B) M k)).map AV.i))]) (fun k => 2 ^ sdB B - k) 0 (Nat.zero_le _) (weak_st ?_ ?_ rfl rfl) ?_
  · (repeat' (first | exact trivial | refine And.intro ?_ ?_)) <;> (first | rfl | skip)
  · (repeat' (first | exact trivial | refine And.intro ?_ ?_)) <;> (first | rfl | skip)
  rintro k hk
  generalize ho : pickS (fbB B) (sdB B) M k = o
  have hr1 := oRow_len (sdB B) o
  have hr2 := oCol_len (fbB B) (sdB B) o
  have l1 := memL_len k (sdB B)
  by_cases hc : k < 2 ^ sdB B
  · repeat (first | (refine step_ops ?_; (refine m_mov (by conv => lhs; whnf) ?_)) | refine seq_ops ?_ | refine AW_seq ?_)
    (refine step_ops ?_); (apply m_call (bdSide_spec B hB)); (· repeat (first | exact lends_nil | (refine lends_cons ?_ ?_; (· exact lend_v))))
    skip
    refine step_ops ?_
    refine m_shlz (k := sdB B) (z := 2 ^ sdB B) rfl rfl (by omega) rfl ?_
    repeat (first | (refine step_ops ?_; (first | (refine m_mov (by conv => lhs; whnf) ?_) | (refine m_lss rfl rfl ?_) | (refine m_nils ?_))) | refine end_ops ?_ | refine seq_ops ?_ | (refine cond_t rfl ?_ ?_; (· (refine decide_eq_true ?_; omega))) | refine skip_then ?_ | refine AW_seq ?_ | refine AW_block ?_)
    refine AW_loop (α := Nat) (fun i => i ≤ sdB B) (fun i => st [(0, str B), (5, .i (M : Nat)), (6, .sl 6 1 0 (oRow (sdB B) o).length), (7, .sl 7 1 0 (oCol (fbB B) (sdB B) o).length), (8, .b o.isSome), (9, .i (k : Nat)), (10, .sl 10 1 0 (memL k i).length), (11, .sl 11 1 0 0), (12, .i (i : Nat))]
      [(6, (true, (oRow (sdB B) o).map AV.i)), (7, (true, (oCol (fbB B) (sdB B) o).map AV.i)), (10, (true, (memL k i).map AV.i)), (11, (true, []))]) (fun i => sdB B - i) 0 (Nat.zero_le _) (weak_st ?_ ?_ rfl rfl) ?_
    · (repeat' (first | exact trivial | refine And.intro ?_ ?_)) <;> (first | rfl | skip)
    · (repeat' (first | exact trivial | refine And.intro ?_ ?_)) <;> (first | rfl | skip)
    · rintro i hi
      have hlen := memL_len k i
      have hsn := memL_succ k i
      by_cases hi1 : i < sdB B
      · by_cases hbit : k.testBit i = true
        · have hz := bit1 hbit
          rw [if_pos hbit] at hsn
          repeat (first | (refine step_ops ?_; (refine m_mov (by conv => lhs; whnf) ?_)) | refine seq_ops ?_ | refine AW_seq ?_)
          (refine step_ops ?_); (apply m_call (bdSide_spec B hB)); (· repeat (first | exact lends_nil | (refine lends_cons ?_ ?_; (· exact lend_v))))
          repeat (first | (refine step_ops ?_; (first | (refine m_mov (by conv => lhs; whnf) ?_) | (refine m_lss rfl rfl ?_))) | refine end_ops ?_ | refine seq_ops ?_ | (refine cond_t rfl ?_ ?_; (· (refine decide_eq_true ?_; omega))) | refine skip_then ?_ | refine AW_seq ?_ | refine AW_block ?_)
          refine step_ops ?_
          refine m_shri (a := k) (k := i) rfl rfl (by omega) ?_
          refine step_ops ?_
          refine m_andz (a := k >>> i) (z := 1) rfl rfl (Nat.lt_of_le_of_lt (Nat.shiftRight_le k i) (by omega)) hz ?_
          repeat (first | (refine step_ops ?_; (first | (refine m_mov (by conv => lhs; whnf) ?_) | (refine m_eql rfl rfl ?_) | (refine m_add rfl rfl ?_ ?_ ?_; (· omega); (· omega)) | (refine m_bsl1 rfl rfl ?_) | (refine m_app1i rfl (by decide) (by rfl) (by first | rfl | omega | (simp; done)) rfl rfl ?_ (by decide) ?_; (· first | omega | (simp; omega))))) | refine end_ops ?_ | refine AW_ops ?_ | (refine cond_t rfl ?_ ?_; (· rfl)) | refine norm_then ?_ | refine norm_block ?_)
          refine next_round (i + 1) (by omega) (Weak.trans (weak_move (r := 42) (q := 10) rfl (by decide) (by decide)) (weak_st ?_ ?_ rfl rfl)) (by omega)
          · rw [hsn]; (repeat' (first | exact trivial | refine And.intro ?_ ?_)) <;> (first | rfl | skip)
          · rw [hsn]; (repeat' (first | exact trivial | refine And.intro ?_ ?_)) <;> (first | rfl | skip)
        · have hbit : k.testBit i = false := by simpa using hbit
          have hz := bitz hbit
          rw [if_neg (by rw [hbit]; decide)] at hsn
          repeat (first | (refine step_ops ?_; (refine m_mov (by conv => lhs; whnf) ?_)) | refine seq_ops ?_ | refine AW_seq ?_)
          (refine step_ops ?_); (apply m_call (bdSide_spec B hB)); (· repeat (first | exact lends_nil | (refine lends_cons ?_ ?_; (· exact lend_v))))
          repeat (first | (refine step_ops ?_; (first | (refine m_mov (by conv => lhs; whnf) ?_) | (refine m_lss rfl rfl ?_))) | refine end_ops ?_ | refine seq_ops ?_ | (refine cond_t rfl ?_ ?_; (· (refine decide_eq_true ?_; omega))) | refine skip_then ?_ | refine AW_seq ?_ | refine AW_block ?_)
          refine step_ops ?_
          refine m_shri (a := k) (k := i) rfl rfl (by omega) ?_
          refine step_ops ?_
          refine m_andz (a := k >>> i) (z := 0) rfl rfl (Nat.lt_of_le_of_lt (Nat.shiftRight_le k i) (by omega)) hz ?_
          repeat (first | (refine step_ops ?_; (first | (refine m_mov (by conv => lhs; whnf) ?_) | (refine m_eql rfl rfl ?_) | (refine m_add rfl rfl ?_ ?_ ?_; (· omega); (· omega)))) | refine end_ops ?_ | refine AW_ops ?_ | (refine cond_f rfl ?_ ?_; (· rfl)) | refine norm_then ?_ | refine norm_block ?_ | refine AW_skip ?_)
          refine next_round (i + 1) (by omega) (weak_st ?_ ?_ rfl rfl) (by omega)
          · rw [hsn]; (repeat' (first | exact trivial | refine And.intro ?_ ?_)) <;> (first | rfl | skip)
          · rw [hsn]; (repeat' (first | exact trivial | refine And.intro ?_ ?_)) <;> (first | rfl | skip)
      · obtain rfl : i = sdB B := by omega
        repeat (first | (refine step_ops ?_; (refine m_mov (by conv => lhs; whnf) ?_)) | refine seq_ops ?_ | refine AW_seq ?_)
        (refine step_ops ?_); (apply m_call (bdSide_spec B hB)); (· repeat (first | exact lends_nil | (refine lends_cons ?_ ?_; (· exact lend_v))))
        repeat (first | (refine step_ops ?_; (first | (refine m_mov (by conv => lhs; whnf) ?_) | (refine m_lss rfl rfl ?_))) | refine end_ops ?_ | refine seq_ops ?_ | (refine cond_f rfl ?_ ?_; (· (refine decide_eq_false ?_; omega))) | refine AW_seq ?_ | refine norm_then ?_ | refine exit_then ?_ | refine AW_block ?_ | refine exit_round ?_ | refine AW_exit ?_ | refine exit_block ?_)
        have hcl := fun (j : Nat) (hj : j < sdB B) => needB_cols (fb := fbB B) (n := sdB B) (S := k) hj
        have hln := linS_mem (fb := fbB B) (n := sdB B) (S := k) hc (by omega)
        generalize hC : colsM (fbB B) (sdB B) k = C at *
        have l2 := memL_len C (sdB B)
        refine AW_loop (α := Nat) (fun j => j ≤ sdB B) (fun j => st [(0, str B), (5, .i (M : Nat)), (6, .sl 6 1 0 (oRow (sdB B) o).length), (7, .sl 7 1 0 (oCol (fbB B) (sdB B) o).length), (8, .b o.isSome), (9, .i (k : Nat)), (10, .sl 10 1 0 (memL k (sdB B)).length), (11, .sl 11 1 0 (memL C j).length), (13, .i (j : Nat))]
          [(6, (true, (oRow (sdB B) o).map AV.i)), (7, (true, (oCol (fbB B) (sdB B) o).map AV.i)), (10, (true, (memL k (sdB B)).map AV.i)), (11, (true, (memL C j).map AV.i))]) (fun j => sdB B - j) 0 (Nat.zero_le _) (weak_st ?_ ?_ rfl rfl) ?_
        · (repeat' (first | exact trivial | refine And.intro ?_ ?_)) <;> (first | rfl | skip)
        · (repeat' (first | exact trivial | refine And.intro ?_ ?_)) <;> (first | rfl | skip)
        · rintro j hj
          have hlen := memL_len C j
          have hsn := memL_succ C j
          by_cases hj1 : j < sdB B
          · rw [hcl j hj1] at hsn
            repeat (first | (refine step_ops ?_; (refine m_mov (by conv => lhs; whnf) ?_)) | refine seq_ops ?_ | refine AW_seq ?_)
            (refine step_ops ?_); (apply m_call (bdSide_spec B hB)); (· repeat (first | exact lends_nil | (refine lends_cons ?_ ?_; (· exact lend_v))))
            repeat (first | (refine step_ops ?_; (first | (refine m_mov (by conv => lhs; whnf) ?_) | (refine m_lss rfl rfl ?_))) | refine end_ops ?_ | refine seq_ops ?_ | (refine cond_t rfl ?_ ?_; (· (refine decide_eq_true ?_; omega))) | refine skip_then ?_ | refine AW_seq ?_ | refine AW_block ?_)
            refine AW_cutloop (st [(0, str B), (5, .i (M : Nat)), (6, .sl 6 1 0 (oRow (sdB B) o).length), (7, .sl 7 1 0 (oCol (fbB B) (sdB B) o).length), (8, .b o.isSome), (9, .i (k : Nat)), (10, .sl 10 1 0 (memL k (sdB B)).length), (11, .sl 11 1 0 (memL C j).length), (13, .i (j : Nat)), (14, .b (needB (fbB B) k j (sdB B))), (15, .i (sdB B : Nat))]
      [(6, (true, (oRow (sdB B) o).map AV.i)), (7, (true, (oCol (fbB B) (sdB B) o).map AV.i)), (10, (true, (memL k (sdB B)).map AV.i)), (11, (true, (memL C j).map AV.i))]) ?_ (AW_weak (weak_st ?_ ?_ rfl rfl) (fl_need B h hB M k j (oRow (sdB B) o) (oCol (fbB B) (sdB B) o) (memL C j) o.isSome hj1 _))
            · cases hn : needB (fbB B) k j (sdB B) with
              | true =>
                rw [if_pos hn] at hsn
                repeat (first | (refine step_ops ?_; (first | (refine m_mov (by conv => lhs; whnf) ?_) | (refine m_add rfl rfl ?_ ?_ ?_; (· omega); (· omega)) | (refine m_bsl1 rfl rfl ?_) | (refine m_app1i rfl (by decide) (by rfl) (by first | rfl | omega | (simp; done)) rfl rfl ?_ (by decide) ?_; (· first | omega | (simp; omega))))) | refine end_ops ?_ | refine seq_ops ?_ | refine AW_ops ?_ | (refine cond_t rfl ?_ ?_; (· rfl)) | refine norm_then ?_ | refine norm_block ?_)
                refine next_round (j + 1) (by omega) (Weak.trans (weak_move (r := 72) (q := 11) rfl (by decide) (by decide)) (weak_st ?_ ?_ rfl rfl)) (by omega)
                · rw [hsn]; (repeat' (first | exact trivial | refine And.intro ?_ ?_)) <;> (first | rfl | skip)
                · rw [hsn]; (repeat' (first | exact trivial | refine And.intro ?_ ?_)) <;> (first | rfl | skip)
              | false =>
                rw [if_neg (by rw [hn]; decide)] at hsn
                repeat (first | (refine step_ops ?_; (first | (refine m_mov (by conv => lhs; whnf) ?_) | (refine m_add rfl rfl ?_ ?_ ?_; (· omega); (· omega)))) | refine end_ops ?_ | refine seq_ops ?_ | refine AW_ops ?_ | (refine cond_f rfl ?_ ?_; (· rfl)) | refine norm_then ?_ | refine norm_block ?_ | refine AW_skip ?_)
                refine next_round (j + 1) (by omega) (weak_st ?_ ?_ rfl rfl) (by omega)
                · rw [hsn]; (repeat' (first | exact trivial | refine And.intro ?_ ?_)) <;> (first | rfl | skip)
                · rw [hsn]; (repeat' (first | exact trivial | refine And.intro ?_ ?_)) <;> (first | rfl | skip)
            · (repeat' (first | exact trivial | refine And.intro ?_ ?_)) <;> (first | rfl | skip)
            · (repeat' (first | exact trivial | refine And.intro ?_ ?_)) <;> (first | rfl | skip)
          · obtain rfl : j = sdB B := by omega
            by_cases hls : linS (fbB B) (sdB B) k = M
            · have hsum : ((memL k (sdB B)).length : Int) + ((memL C (sdB B)).length : Int) = (M : Nat) := by omega
              cases o with
              | none =>
                have hp := pick_first ho hls
                repeat (first | (refine step_ops ?_; (refine m_mov (by conv => lhs; whnf) ?_)) | refine seq_ops ?_ | refine AW_seq ?_)
                (refine step_ops ?_); (apply m_call (bdSide_spec B hB)); (· repeat (first | exact lends_nil | (refine lends_cons ?_ ?_; (· exact lend_v))))
                repeat (first | (refine step_ops ?_; (first | ((try (refine g_yes rfl ?_ ?_; (· (refine decide_eq_true ?_; assumption)))); (first | (refine m_mov (by conv => lhs; whnf) ?_) | (refine m_lss rfl rfl ?_) | (refine m_eql rfl rfl ?_) | (refine m_add rfl rfl ?_ ?_ ?_; (· omega); (· omega)) | (refine m_not rfl ?_) | (refine m_len_sl rfl ?_) | (refine m_pick_t rfl ?_ (by conv => lhs; whnf) ?_; (· first | rfl | (refine decide_eq_true ?_; assumption))))) | (refine g_noF rfl ?_ ?_; (· rfl)))) | refine end_ops ?_ | refine seq_ops ?_ | refine AW_ops ?_ | (refine cond_t rfl ?_ ?_; (· rfl)) | (refine cond_f rfl ?_ ?_; (· (refine decide_eq_false ?_; omega))) | refine norm_then ?_ | refine exit_then ?_ | refine norm_block ?_ | refine exit_round ?_ | refine AW_exit ?_ | refine exit_block ?_)
                refine next_round (k + 1) (by omega) (Weak.trans (weak_move (r := 10) (q := 6) rfl (by decide) (by decide)) (Weak.trans (weak_move (r := 11) (q := 7) rfl (by decide) (by decide)) (weak_st ?_ ?_ rfl rfl))) (by omega)
                · rw [hp]; unfold oRow oCol; dsimp only; rw [hC]; (repeat' (first | exact trivial | refine And.intro ?_ ?_)) <;> (first | rfl | skip)
                · rw [hp]; unfold oRow oCol; dsimp only; rw [hC]; (repeat' (first | exact trivial | refine And.intro ?_ ?_)) <;> (first | rfl | skip)
              | some b =>
                have hb := memL_len b (sdB B)
                have hle := bdLess_spec (memL k (sdB B)) (memL b (sdB B)) (by omega) (by omega)
                by_cases hlt : ordC (memL k (sdB B)) (memL b (sdB B)) < 0
                · have hp := pick_less ho hls hlt
                  rw [decide_eq_true hlt] at hle
                  unfold oRow at *
                  repeat (first | (refine step_ops ?_; (refine m_mov (by conv => lhs; whnf) ?_)) | refine seq_ops ?_ | refine AW_seq ?_)
                  (refine step_ops ?_); (apply m_call (bdSide_spec B hB)); (· repeat (first | exact lends_nil | (refine lends_cons ?_ ?_; (· exact lend_v))))
                  repeat (first | (refine step_ops ?_; ((try (refine g_yes rfl ?_ ?_; (· first | rfl | (refine decide_eq_true ?_; assumption)))); (first | (refine m_mov (by conv => lhs; whnf) ?_) | (refine m_lss rfl rfl ?_) | (refine m_eql rfl rfl ?_) | (refine m_add rfl rfl ?_ ?_ ?_; (· omega); (· omega)) | (refine m_not rfl ?_) | (refine m_len_sl rfl ?_)))) | refine end_ops ?_ | refine seq_ops ?_ | (refine cond_f rfl ?_ ?_; (· (refine decide_eq_false ?_; omega))) | refine norm_then ?_ | refine exit_then ?_ | refine exit_round ?_ | refine AW_exit ?_ | refine exit_block ?_)
                  (refine step_ops ?_); (refine g_yes rfl ?_ ?_; (· first | (rfl) | (fail)); (apply m_call (hle))); (· repeat (first | exact lends_nil | (refine lends_cons ?_ ?_; (· (refine lend_sli (by rfl) ?_; first | rfl | omega | (simp; done))))))
                  repeat (first | (refine step_ops ?_; ((try (refine g_yes rfl ?_ ?_; (· (refine decide_eq_true ?_; assumption)))); (first | (refine m_mov (by conv => lhs; whnf) ?_) | (refine m_add rfl rfl ?_ ?_ ?_; (· omega); (· omega)) | (refine m_pick_t rfl ?_ (by conv => lhs; whnf) ?_; (· (refine decide_eq_true ?_; assumption))) | (refine m_pick_f rfl ?_ (by conv => lhs; whnf) ?_; (· rfl))))) | refine end_ops ?_ | refine seq_ops ?_ | refine AW_ops ?_ | (refine cond_t rfl ?_ ?_; (· rfl)) | refine norm_then ?_ | refine norm_block ?_)
                  refine next_round (k + 1) (by omega) (Weak.trans (weak_move (r := 10) (q := 6) rfl (by decide) (by decide)) (Weak.trans (weak_move (r := 11) (q := 7) rfl (by decide) (by decide)) (weak_st ?_ ?_ rfl rfl))) (by omega)
                  · rw [hp]; unfold oCol; dsimp only; rw [hC]; (repeat' (first | exact trivial | refine And.intro ?_ ?_)) <;> (first | rfl | skip)
                  · rw [hp]; unfold oCol; dsimp only; rw [hC]; (repeat' (first | exact trivial | refine And.intro ?_ ?_)) <;> (first | rfl | skip)
                · have hp := pick_keep (M := M) ho hlt
                  rw [decide_eq_false hlt] at hle
                  unfold oRow at *
                  repeat (first | (refine step_ops ?_; (refine m_mov (by conv => lhs; whnf) ?_)) | refine seq_ops ?_ | refine AW_seq ?_)
                  (refine step_ops ?_); (apply m_call (bdSide_spec B hB)); (· repeat (first | exact lends_nil | (refine lends_cons ?_ ?_; (· exact lend_v))))
                  repeat (first | (refine step_ops ?_; ((try (refine g_yes rfl ?_ ?_; (· first | rfl | (refine decide_eq_true ?_; assumption)))); (first | (refine m_mov (by conv => lhs; whnf) ?_) | (refine m_lss rfl rfl ?_) | (refine m_eql rfl rfl ?_) | (refine m_add rfl rfl ?_ ?_ ?_; (· omega); (· omega)) | (refine m_not rfl ?_) | (refine m_len_sl rfl ?_)))) | refine end_ops ?_ | refine seq_ops ?_ | (refine cond_f rfl ?_ ?_; (· (refine decide_eq_false ?_; omega))) | refine norm_then ?_ | refine exit_then ?_ | refine exit_round ?_ | refine AW_exit ?_ | refine exit_block ?_)
                  (refine step_ops ?_); (refine g_yes rfl ?_ ?_; (· first | (rfl) | (fail)); (apply m_call (hle))); (· repeat (first | exact lends_nil | (refine lends_cons ?_ ?_; (· (refine lend_sli (by rfl) ?_; first | rfl | omega | (simp; done))))))
                  repeat (first | (refine step_ops ?_; ((try (refine g_yes rfl ?_ ?_; (· (refine decide_eq_true ?_; assumption)))); (first | (refine m_mov (by conv => lhs; whnf) ?_) | (refine m_add rfl rfl ?_ ?_ ?_; (· omega); (· omega)) | (refine m_pick_t rfl ?_ (by conv => lhs; whnf) ?_; (· (refine decide_eq_true ?_; assumption))) | (refine m_pick_f rfl ?_ (by conv => lhs; whnf) ?_; (· rfl))))) | refine end_ops ?_ | refine AW_ops ?_ | (refine cond_f rfl ?_ ?_; (· rfl)) | refine norm_then ?_ | refine norm_block ?_ | refine AW_skip ?_)
                  refine next_round (k + 1) (by omega) (weak_st ?_ ?_ rfl rfl) (by omega)
                  · rw [hp]; (repeat' (first | exact trivial | refine And.intro ?_ ?_)) <;> (first | rfl | skip)
                  · rw [hp]; (repeat' (first | exact trivial | refine And.intro ?_ ?_)) <;> (first | rfl | skip)
            · have hsum : ¬ ((memL k (sdB B)).length : Int) + ((memL C (sdB B)).length : Int) = (M : Nat) := by omega
              have hp := pick_no ho hls
              repeat (first | (refine step_ops ?_; (refine m_mov (by conv => lhs; whnf) ?_)) | refine seq_ops ?_ | refine AW_seq ?_)
              (refine step_ops ?_); (apply m_call (bdSide_spec B hB)); (· repeat (first | exact lends_nil | (refine lends_cons ?_ ?_; (· exact lend_v))))
              repeat (first | (refine step_ops ?_; (first | (first | (refine m_mov (by conv => lhs; whnf) ?_) | (refine m_lss rfl rfl ?_) | (refine m_eql rfl rfl ?_) | (refine m_add rfl rfl ?_ ?_ ?_; (· omega); (· omega)) | (refine m_len_sl rfl ?_)) | (refine g_noT rfl ?_ ?_; (· (refine decide_eq_false ?_; assumption))))) | refine end_ops ?_ | refine seq_ops ?_ | (refine cond_f rfl ?_ ?_; (· (refine decide_eq_false ?_; omega))) | refine norm_then ?_ | refine exit_then ?_ | refine exit_round ?_ | refine AW_exit ?_ | refine exit_block ?_)
              repeat (first | ((first | (refine step_ops ?_; (first | (first | (refine m_mov (by conv => lhs; whnf) ?_) | (refine m_add rfl rfl ?_ ?_ ?_; (· omega); (· omega)) | (refine m_pick_f rfl ?_ (by conv => lhs; whnf) ?_; (· (refine decide_eq_false ?_; assumption)))) | (refine g_noT rfl ?_ ?_; (· (refine decide_eq_false ?_; assumption))))) | refine end_ops ?_ | refine AW_ops ?_ | (refine cond_f rfl ?_ ?_; (· rfl)) | refine norm_then ?_ | refine norm_block ?_ | refine AW_skip ?_)) | (refine step_ops ?_; refine g_unl rfl ?_))
              refine next_round (k + 1) (by omega) (weak_st ?_ ?_ rfl rfl) (by omega)
              · rw [hp]; (repeat' (first | exact trivial | refine And.intro ?_ ?_)) <;> (first | rfl | skip)
              · rw [hp]; (repeat' (first | exact trivial | refine And.intro ?_ ?_)) <;> (first | rfl | skip)
  · obtain rfl : k = 2 ^ sdB B := by omega
    rw [hend] at ho
    subst ho
    repeat (first | (refine step_ops ?_; (refine m_mov (by conv => lhs; whnf) ?_)) | refine seq_ops ?_ | refine AW_seq ?_)
    (refine step_ops ?_); (apply m_call (bdSide_spec B hB)); (· repeat (first | exact lends_nil | (refine lends_cons ?_ ?_; (· exact lend_v))))
    skip
    refine step_ops ?_
    refine m_shlz (k := sdB B) (z := 2 ^ sdB B) rfl rfl (by omega) rfl ?_
    repeat (first | (refine step_ops ?_; (first | (refine m_mov (by conv => lhs; whnf) ?_) | (refine m_lss rfl rfl ?_))) | refine end_ops ?_ | refine seq_ops ?_ | (refine cond_f rfl ?_ ?_; (· (refine decide_eq_false ?_; omega))) | refine AW_ret ?_ | refine ret_done ?_ | refine norm_then ?_ | refine exit_then ?_ | refine exit_round ?_ | refine AW_exit ?_ | refine exit_block ?_)
    exact outs_tup3 (outs_ints rfl rfl rfl) (outs_ints rfl rfl rfl) (outs_b rfl)
theorem specFewestLines_spec (B : List UInt8) (hB : B.length ≤ 1048576) : Sp Tryd.prog 25 [str B] (.tup [newInts (flRow B), newInts (flCol B), .b (decide (GoodBd B))]) := by
  unfold flRow flCol
  by_cases h : GoodBd B
  · rw [if_pos h, if_pos h, decide_eq_true h]
    exact specFl_yes B h hB
  · rw [if_neg h, if_neg h, decide_eq_false h]
    have hgood := bdGood_spec B hB
    rw [decide_eq_false h] at hgood
    refine spec_of Tryd.func25 rfl cc25 rfl ?_
    unfold ac25
    repeat (first | (refine step_ops ?_; (first | (refine m_mov (by conv => lhs; whnf) ?_) | (refine m_nils ?_))) | refine end_ops ?_ | refine seq_ops ?_ | refine AW_seq ?_)
    (refine step_ops ?_); (apply m_call (hgood)); (· repeat (first | exact lends_nil | (refine lends_cons ?_ ?_; (· exact lend_v))))
    repeat (first | (refine step_ops ?_; (first | (refine m_mov (by conv => lhs; whnf) ?_) | (refine m_not rfl ?_) | (refine m_nils ?_))) | refine end_ops ?_ | refine seq_ops ?_ | (refine cond_t rfl ?_ ?_; (· rfl)) | refine AW_ret ?_ | refine ret_done ?_ | refine ret_then ?_)
    exact outs_tup3 (outs_ints rfl rfl rfl) (outs_ints rfl rfl rfl) (outs_b rfl)
end Go.Proofs.YtngfogpbljconaaDoor
namespace Go.Am
variable [Go.Am.CodeBlk]
/-- A list of my own that is only read from now on. -/
theorem weak_frz {s : AS} (t r : Nat) {n : Nat} {cs : List AV} (ht : s.tm t = .sl r 1 0 n) (hr : s.hp r = some (true, cs)) (hl : cs.length = n) (hpl : cs.all plainV = true) : Weak s ((s.kill r).put (some t) (.ro false 1 cs n)) := by
  intro w0 mu N a w hS
  obtain ⟨hf, phi, ro, hS⟩ := hS
  have hv := hS.tms t
  rw [ht] at hv
  simp only [SimV] at hv
  obtain ⟨_, _, hv⟩ := hv
  have hk := hS.kill r
  have put1 : ∀ (ro' : Nat → Prop), Sim w0 mu N (s.kill r) a.tmps w phi ro' → SimV (.ro false 1 cs n) (ctx w0 w ro' phi (s.kill r)) (a.tmps.getD t undef) → Sim w0 mu N ((s.kill r).put (some t) (.ro false 1 cs n)) a.tmps w phi ro' := by
    intro ro' h1 h2
    refine { h1 with tms := fun t' => ?_ }
    by_cases e : t' = t
    · subst e
      show SimV (if t' = t' then .ro false 1 cs n else _) _ _
      rw [if_pos rfl]
      exact h2
    · show SimV (if t' = t then _ else (s.kill r).tm t') _ _
      rw [if_neg e]
      exact h1.tms t'
  rcases hS.liv r _ hr with ⟨h1, h2, _⟩ | ⟨b, cur, e, h1, h2, h3, h4, h5⟩ | ⟨b, o, h1, _⟩
  · have h2' : cs = [] := h2
    subst h2'
    have hn : n = 0 := by simpa using hl.symm
    subst hn
    rcases hv with ⟨_, _, _, hv⟩ | ⟨b, _, _, _, _, hp, _⟩
    · refine ⟨hf, phi, ro, put1 ro hk ?_⟩
      simp only [SimV]
      exact .inl ⟨trivial, trivial, none, 0, hv, by simp⟩
    · replace hp : phi r = some b := hp
      rw [h1] at hp; cases hp
  · rcases hv with ⟨hp, _⟩ | ⟨b', o, cap, cur', e', hp, hv, h6, h7, h8, h9, h10⟩
    · replace hp : phi r = none := hp
      rw [h1] at hp; cases hp
    · replace hp : phi r = some b' := hp
      rw [h1] at hp
      cases hp
      have h6' : w.heap[b]? = some (.cells cur' e' (0, 0)) := h6
      rw [h2] at h6'
      cases h6'
      have h11 := ro_more hk (lt_of_get h2) (fun q c hq hb => by
        have hqr : q ≠ r := fun he => by subst he; simp [AS.kill] at hq
        have hqs : (s.hp q).isSome = true := by
          have : ((s.kill r).hp q).isSome = true := by rw [hq]; rfl
          simpa [AS.kill, hqr] using this
        exact hqr (hS.inj q r b hqs (by rw [hr]; rfl) hb h1))
      refine ⟨hf, phi, _, put1 _ h11 ?_⟩
      simp only [SimV]
      by_cases hn : n = 0
      · subst hn
        have hcs : cs = [] := List.eq_nil_of_length_eq_zero hl
        subst hcs
        exact .inl ⟨rfl, rfl, _, cap, hv, by simp⟩
      · have ho : o = 0 := by
          rcases h7 with h7 | h7
          · exact h7
          · omega
        subst ho
        refine .inr ⟨b, 0, cap, cur, e, (0, 0), hv, h2, .inr rfl, by omega, h8, by simp, ?_⟩
        simp only [SimR, if_true] at h5
        have h12 : SimL cs (ctx w0 w (fun q => ro q ∨ q = b) phi (s.kill r)).out cur.toList := by
          refine simL_allv (C := (ctx w0 w ro phi s).out) hpl ?_
          exact h5
        simpa using h12
  · cases h1
    simp [plainV] at hpl
end Go.Am
namespace Go.Proofs.YtngfogpbljconaaDoor
variable [Go.Am.CodeBlk]
open Go.Am
attribute [local irreducible] AW Outs Weak Lends Lend Sp aops atree aop1 Then Round InBlock Done
attribute [local irreducible] SpM DoneM SpH DoneH
def bcD : ACode := sndN 27 ac3
def bcC : ACode := sndN 26 ac3
def bcW : ACode := sndN 2 bcI
/-- A board that is none tells nothing. -/
def bcV (C : List UInt8) : List (Nat × AV) := [(2, str C), (36, newInts (hitB C)), (37, .b (decide (GoodBd C))), (40, newInts (rksB C)), (44, .i (if GoodBd C then ((mostN (rkN (fbB C) (sdB C)) (sdB C) : Nat) : Int) else 0)), (48, ints (flRow C)), (49, ints (flCol C)), (54, roF (fobR C))]
theorem bc3 {C : List UInt8} (hC : C.length ≤ 1048576) : AW Tryd.prog (min Tryd.f3.ntmps pbase) bcD (st (bcV C) []) (Done [6].reverse (.b true)) := by
  unfold bcV
  by_cases h : GoodBd C
  · have h4 := bc4 h
    have hsd := good_sd h
    have hs := implSideOf_spec C hC
    unfold sideR at hs
    rw [if_pos h, decide_eq_true h] at hs
    have e1 : hitB C = hitL C := if_pos h
    have e2 : rksB C = rgL (sdB C) (rkN (fbB C) (sdB C)) := if_pos h
    have e3 : flRow C = memL (flS C) (sdB C) := if_pos h
    have e4 : flCol C = memL (colsM (fbB C) (sdB C) (flS C)) (sdB C) := if_pos h
    have e5 : fobR C = plM C := if_pos h
    rw [e1, e2, e3, e4, e5, if_pos h, decide_eq_true h]
    have hlen : (hitL C).length = sdB C + 1 := hitL_len C
    have hat : ∀ k, k < sdB C + 1 → (hitL C).getD k 0 = (hitX (fbB C) (sdB C) k : Nat) := fun k hk => by rw [hitL_is h]; simp [hk]
    have hle := fun k (hk : k ≤ sdB C) => hit_le (fbB C) (k := k) hsd.2 hk
    have hwp := fun k (hk : k ≤ sdB C + 1) => hit_wpart (fbB C) hsd.2 k hk
    have hws : ∀ k, sumN (k + 1) (fun k => k * hitX (fbB C) (sdB C) k) = sumN k (fun k => k * hitX (fbB C) (sdB C) k) + k * hitX (fbB C) (sdB C) k := fun _ => rfl
    have hp : bcD = .seq (.seq (fstC (fstC bcD)) (.cond (.t 447) (.seq (fstC bcI) (.seq (fstC (sndN 1 bcI)) (.seq (fstC bcW) bcN))) .skip)) bcE := rfl
    rw [hp]
    clear hp
    generalize bcN = cN at *
    generalize bcE = cE at *
    generalize rgL (sdB C) (rkN (fbB C) (sdB C)) = RK at *
    generalize mostN (rkN (fbB C) (sdB C)) (sdB C) = M at *
    generalize memL (flS C) (sdB C) = R at *
    generalize memL (colsM (fbB C) (sdB C) (flS C)) (sdB C) = K at *
    generalize hitL C = H at *
    generalize plM C = G at *
    generalize hitX (fbB C) (sdB C) = hx at *
    generalize sdB C = n at *
    unfold bcW bcI bcD
    unfold ac3
    simp only [sndN, sndC, fstC, thnC]
    repeat (first | (refine step_ops ?_; (refine m_mov (by conv => lhs; whnf) ?_)) | refine end_ops ?_ | refine seq_ops ?_ | (refine cond_t rfl ?_ ?_; (· rfl)) | refine AW_seq ?_)
    refine step_ops ?_; (apply m_call (hs)); (· repeat (first | exact lends_nil | (refine lends_cons ?_ ?_; (· exact lend_v))))
    repeat (first | (refine step_ops ?_; (first | (refine m_mov (by conv => lhs; whnf) ?_) | (refine m_len_ro rfl ?_) | (refine m_ext rfl rfl ?_))) | refine end_ops ?_ | refine seq_ops ?_ | refine AW_seq ?_ | refine AW_block ?_)
    refine AW_loop (α := Nat) (fun k => k ≤ n + 1) (fun k => st [(36, newInts H), (40, newInts RK), (44, .i (M : Nat)), (48, ints R), (49, ints K), (54, roF G), (58, .i (n : Nat)), (59, .b true), (60, .i (sumN k (fun k => k * hx k) : Nat)), (453, newInts H), (454, .i H.length), (455, .i (k : Nat))] []) (fun k => n + 1 - k) 0 (Nat.zero_le _) (weak_st ?_ ?_ rfl rfl) ?_
    · (repeat' (first | exact trivial | refine And.intro ?_ ?_)) <;> (first | rfl | skip)
    · trivial
    intro k hk
    by_cases hc : k < n + 1
    · have w1 := hwp k hk
      have w2 := hwp (k + 1) hc
      have w3 := hws k
      have w4 := hat k hc
      have w5 := hle k (by omega)
      rw [w3] at w2
      have w6 : ((k * hx k : Nat) : Int) = (k : Int) * (hx k : Nat) := Int.natCast_mul _ _
      have w7 : 0 ≤ (k : Int) * (hx k : Nat) := by omega
      have w8 : (k : Int) * (hx k : Nat) ≤ 9 * 322560 := by omega
      rw [← w4] at w6 w7 w8
      repeat (first | (refine step_ops ?_; (first | (refine m_mov (by conv => lhs; whnf) ?_) | (refine m_lss rfl rfl ?_) | (refine m_add rfl rfl ?_ ?_ ?_; (· omega); (· omega)) | (refine m_mul rfl rfl ?_ ?_ ?_; (· first | omega | (simp; done)); (· first | omega | (simp; done))) | (refine m_idx1_ro rfl rfl ?_ ?_; (· omega)) | (refine m_ld_rpi rfl ?_ ?_; (· omega)))) | refine end_ops ?_ | refine seq_ops ?_ | refine AW_ops ?_ | (refine cond_t rfl ?_ ?_; (· (refine decide_eq_true ?_; omega))) | refine skip_then ?_ | refine AW_seq ?_ | refine norm_then ?_ | refine AW_block ?_ | refine norm_block ?_)
      refine next_round (k + 1) (by omega) (weak_st ?_ ?_ rfl rfl) (by omega)
      · rw [w3, Int.natCast_add, w6]
        (repeat' (first | exact trivial | refine And.intro ?_ ?_)) <;> (first | rfl | skip)
      · trivial
    · obtain rfl : k = n + 1 := by omega
      repeat (first | (refine step_ops ?_; (refine m_lss rfl rfl ?_)) | refine end_ops ?_ | refine seq_ops ?_ | (refine cond_f rfl ?_ ?_; (· (refine decide_eq_false ?_; omega))) | refine AW_seq ?_ | refine norm_then ?_ | refine exit_then ?_ | refine exit_round ?_ | refine AW_exit ?_ | refine exit_block ?_)
      refine AW_weak (weak_st ?_ ?_ rfl rfl) h4
      · (repeat' (first | exact trivial | refine And.intro ?_ ?_)) <;> (first | rfl | skip)
      · trivial
  · rw [decide_eq_false h]
    have hp : bcD = .seq (.seq (fstC (fstC bcD)) (.cond (.t 447) bcI .skip)) bcE := rfl
    rw [hp]
    clear hp
    generalize bcI = cI at *
    unfold bcD bcE
    unfold ac3
    simp only [sndN, sndC, fstC]
    repeat (first | (refine step_ops ?_; (refine m_mov (by conv => lhs; whnf) ?_)) | refine end_ops ?_ | refine seq_ops ?_ | (refine cond_f rfl ?_ ?_; (· rfl)) | refine skip_then ?_ | refine AW_seq ?_ | refine AW_ret ?_ | refine ret_done ?_)
    exact outs_b rfl
theorem bc2 {C : List UInt8} (hC : C.length ≤ 1048576) : AW Tryd.prog (min Tryd.f3.ntmps pbase) bcC (st [(2, str C), (36, newInts (hitB C)), (37, .b (decide (GoodBd C))), (38, newInts (hitB C)), (39, .b (decide (GoodBd C))), (40, newInts (rksB C)), (41, .b (decide (GoodBd C))), (42, newInts (rksB C)), (43, .b (decide (GoodBd C))), (44, .i (if GoodBd C then ((mostN (rkN (fbB C) (sdB C)) (sdB C) : Nat) : Int) else 0)), (45, .b (decide (GoodBd C))), (46, .i (if GoodBd C then ((mostN (rkN (fbB C) (sdB C)) (sdB C) : Nat) : Int) else 0)), (47, .b (decide (GoodBd C))), (48, ints (flRow C)), (49, ints (flCol C)), (50, .b (decide (GoodBd C))), (51, newInts (flRow C)), (52, newInts (flCol C)), (53, .b (decide (GoodBd C))), (54, roF (fobR C)), (55, .b (decide (GoodBd C))), (56, roF (fobR C)), (57, .b (decide (GoodBd C)))] []) (Done [6].reverse (.b true)) := by
  have h3 := bc3 hC
  unfold bcV at h3
  have hp : bcC = .seq (fstC bcC) bcD := rfl
  rw [hp]
  clear hp
  generalize bcD = cD at *
  have s1 := oSame_self (hitB C) (hitB_len C)
  have s2 := oSame_self (rksB C) (rksB_len C)
  have s3 := oSame_self (flRow C) (flRow_len C)
  have s4 := oSame_self (flCol C) (flCol_len C)
  have hfo : (fobR C).length ≤ 1048576 ∧ ∀ r ∈ fobR C, r.length ≤ 1048576 := by
    unfold fobR
    by_cases h : GoodBd C
    · rw [if_pos h]
      have hsd := good_sd h
      have hpc : (plM C).length ≤ 1000 := by
        unfold plM posM rowsP
        rw [List.length_map, List.length_append]
        have h1 := posP_len (fbB C) (sdB C) (sdB C)
        have h2 := rowP_len (fbB C) (sdB C) 0
        have h3 : sdB C * sdB C ≤ 8 * 8 := Nat.mul_le_mul hsd.2 hsd.2
        omega
      refine ⟨by omega, fun r hr => ?_⟩
      obtain ⟨k, hk, rfl⟩ := List.mem_iff_getElem.1 hr
      obtain ⟨i, j, hg, _⟩ := plM_at hk
      have : (plM C).getD k [] = (plM C)[k] := by simp [hk]
      rw [← this, hg]
      simp
    · rw [if_neg h]
      simp
  have s5 := oRows_self (fobR C) hfo.1 hfo.2
  have s6 := implIsBoard_spec C hC
  generalize hitB C = H at *
  generalize rksB C = RK at *
  generalize flRow C = R at *
  generalize flCol C = K at *
  generalize fobR C = G at *
  generalize (if GoodBd C then ((mostN (rkN (fbB C) (sdB C)) (sdB C) : Nat) : Int) else 0) = M at *
  have n1 : decide (M ≠ M) = false := by simp
  generalize decide (GoodBd C) = ok at *
  have x1 := xor_self ok
  unfold bcC
  unfold ac3
  simp only [sndN, sndC, fstC]
  repeat (first | (refine step_ops ?_; ((try (refine g_yes rfl ?_ ?_; (· assumption))); (first | (refine m_mov (by conv => lhs; whnf) ?_) | (refine m_beq rfl rfl ?_)))) | refine seq_ops ?_ | refine AW_seq ?_)
  refine step_ops ?_; (refine g_yes rfl ?_ ?_; (· first | (assumption) | (fail)); (apply m_call (s1))); (· repeat (first | exact lends_nil | (refine lends_cons ?_ ?_; (· (refine lend_ints ?_; first | rfl | omega)))))
  repeat (refine step_ops ?_; ((try (refine g_yes rfl ?_ ?_; (· first | rfl | assumption))); (first | (refine m_mov (by conv => lhs; whnf) ?_) | (refine m_not rfl ?_) | (refine m_beq rfl rfl ?_) | (refine m_pick_f rfl ?_ (by conv => lhs; whnf) ?_; (· first | rfl | assumption)))))
  refine step_ops ?_; (refine g_yes rfl ?_ ?_; (· first | (assumption) | (fail)); (apply m_call (s2))); (· repeat (first | exact lends_nil | (refine lends_cons ?_ ?_; (· (refine lend_ints ?_; first | rfl | omega)))))
  repeat (refine step_ops ?_; ((try (refine g_yes rfl ?_ ?_; (· first | rfl | assumption))); (first | (refine m_mov (by conv => lhs; whnf) ?_) | (refine m_neq rfl rfl ?_) | (refine m_not rfl ?_) | (refine m_beq rfl rfl ?_) | (refine m_pick_f rfl ?_ (by conv => lhs; whnf) ?_; (· first | rfl | assumption)))))
  refine step_ops ?_; (refine g_yes rfl ?_ ?_; (· first | (assumption) | (fail)); (apply m_call (s3))); (· repeat (first | exact lends_nil | (refine lends_cons ?_ ?_; (· (refine lend_ints ?_; first | rfl | omega)))))
  repeat (refine step_ops ?_; ((try (refine g_yes rfl ?_ ?_; (· first | rfl | assumption))); (first | (refine m_mov (by conv => lhs; whnf) ?_) | (refine m_not rfl ?_) | (refine m_pick_f rfl ?_ (by conv => lhs; whnf) ?_; (· assumption)))))
  refine step_ops ?_; (refine g_yes rfl ?_ ?_; (· first | (rfl) | (fail)); (apply m_call (s4))); (· repeat (first | exact lends_nil | (refine lends_cons ?_ ?_; (· (refine lend_ints ?_; first | rfl | omega)))))
  repeat (refine step_ops ?_; ((try (refine g_yes rfl ?_ ?_; (· first | rfl | assumption))); (first | (refine m_mov (by conv => lhs; whnf) ?_) | (refine m_not rfl ?_) | (refine m_beq rfl rfl ?_) | (refine m_pick_f rfl ?_ (by conv => lhs; whnf) ?_; (· rfl)))))
  refine step_ops ?_; (refine g_yes rfl ?_ ?_; (· first | (assumption) | (fail)); (apply m_call (s5))); (· repeat (first | exact lends_nil | (refine lends_cons ?_ ?_; (· (refine lend_roM rfl; done)))))
  repeat (refine step_ops ?_; ((try (refine g_yes rfl ?_ ?_; (· first | rfl | assumption))); (first | (refine m_mov (by conv => lhs; whnf) ?_) | (refine m_not rfl ?_) | (refine m_pick_f rfl ?_ (by conv => lhs; whnf) ?_; (· assumption)))))
  refine step_ops ?_; (refine g_yes rfl ?_ ?_; (· first | (rfl) | (fail)); (apply m_call (s6))); (· repeat (first | exact lends_nil | (refine lends_cons ?_ ?_; (· exact lend_v))))
  repeat (first | (refine step_ops ?_; ((try (refine g_yes rfl ?_ ?_; (· first | rfl | assumption))); (first | (refine m_mov (by conv => lhs; whnf) ?_) | (refine m_beq rfl rfl ?_) | (refine m_pick_f rfl ?_ (by conv => lhs; whnf) ?_; (· first | rfl | assumption))))) | refine end_ops ?_ | (refine cond_f rfl ?_ ?_; (· assumption)) | refine skip_then ?_)
  refine AW_weak (weak_st ?_ ?_ rfl rfl) h3
  · (repeat' (first | exact trivial | refine And.intro ?_ ?_)) <;> (first | rfl | skip)
  · trivial
def bcA : ACode := sndN 16 ac3
def bcF : ACode := sndN 23 ac3
theorem call_two {s : AS} {K : AS → Prop} {d : Option Nat} {f : FuncId} {args : List Opd} {av : List AV} {a b : List Int} {n m x y : Nat} {q : Bool} (hs : SpH Tryd.prog f av (Am.look []) (.tup [.sl nbase 1 0 n, .sl (nbase + 1) 1 0 m, .b q]) (Am.look (twoH a b)))
    (ha : args.map s.ev = renL (twoG x y) av) (hha : ownL true av = true) (hra : refsL (fun r => (Am.look ([] : List (Nat × (Bool × List AV))) r).isSome) av = true) (hx : s.hp x = none) (hy : s.hp y = none) (hne : x ≠ y) (hxp : x < pbase) (hyp : y < pbase)
    (k : K (AS.put ⟨s.tm, outR s (twoG x y) (twoH a b)⟩ d (.tup [.sl x 1 0 n, .sl y 1 0 m, .b q]))) : aop1 Tryd.prog true ⟨d, .call f args, none⟩ s K := by
  refine m_callR (hl := []) (twoG x y) hs ha hha hra trivial ?_ (by simp) ?_ (by simp) ?_ rfl k
  · show [x, y].Nodup
    simp [hne]
  · intro p hp
    refine .inr ?_
    rcases List.mem_cons.1 hp with rfl | hp
    · exact ⟨hx, hxp⟩
    · rw [List.mem_singleton] at hp; subst hp; exact ⟨hy, hyp⟩
  · intro p hp
    rcases List.mem_cons.1 hp with rfl | hp
    · exact fl_own _ _
    · rw [List.mem_singleton] at hp; subst hp; exact fl_own _ _
theorem bc1b {C : List UInt8} (hC : C.length ≤ 1048576) : AW Tryd.prog (min Tryd.f3.ntmps pbase) bcF (st [(2, str C), (36, newInts (hitB C)), (37, .b (decide (GoodBd C))), (38, newInts (hitB C)), (39, .b (decide (GoodBd C))), (40, newInts (rksB C)), (41, .b (decide (GoodBd C))), (42, newInts (rksB C)), (43, .b (decide (GoodBd C))), (44, .i (if GoodBd C then ((mostN (rkN (fbB C) (sdB C)) (sdB C) : Nat) : Int) else 0)), (45, .b (decide (GoodBd C))), (46, .i (if GoodBd C then ((mostN (rkN (fbB C) (sdB C)) (sdB C) : Nat) : Int) else 0)), (47, .b (decide (GoodBd C))), (48, ints (flRow C)), (49, ints (flCol C)), (50, .b (decide (GoodBd C)))] []) (Done [6].reverse (.b true)) := by
  have h2 := bc2 hC
  have hp : bcF = .seq (fstC bcF) (.seq (fstC (sndN 1 bcF)) (.seq (fstC (sndN 2 bcF)) bcC)) := rfl
  rw [hp]
  clear hp
  generalize bcC = cC at *
  have s1 := specFewestLines_spec C hC
  have s2 := sp_mat2 (implForbiddenOf_spec C hC)
  have s3 := sp_mat2 (specForbiddenOf_spec C hC)
  generalize hitB C = H at *
  generalize rksB C = RK at *
  generalize flRow C = R at *
  generalize flCol C = K at *
  generalize fobR C = G at *
  generalize (if GoodBd C then ((mostN (rkN (fbB C) (sdB C)) (sdB C) : Nat) : Int) else 0) = M at *
  generalize decide (GoodBd C) = ok at *
  unfold bcF
  unfold ac3
  simp only [sndN, sndC, fstC]
  repeat (first | (refine step_ops ?_; (refine m_mov (by conv => lhs; whnf) ?_)) | refine seq_ops ?_)
  refine step_ops ?_; (apply m_call (s1)); (· repeat (first | exact lends_nil | (refine lends_cons ?_ ?_; (· exact lend_v))))
  repeat (first | (refine step_ops ?_; (first | (refine m_mov (by conv => lhs; whnf) ?_) | (refine m_ext rfl rfl ?_))) | refine end_ops ?_ | refine seq_ops ?_)
  refine step_ops ?_; (apply m_call (s2)); (· repeat (first | exact lends_nil | (refine lends_cons ?_ ?_; (· exact lend_v))))
  repeat (first | (refine step_ops ?_; (first | (refine m_mov (by conv => lhs; whnf) ?_) | (refine m_ext rfl rfl ?_))) | refine end_ops ?_ | refine seq_ops ?_)
  refine step_ops ?_; (apply m_call (s3)); (· repeat (first | exact lends_nil | (refine lends_cons ?_ ?_; (· exact lend_v))))
  repeat (first | (refine step_ops ?_; (first | (refine m_mov (by conv => lhs; whnf) ?_) | (refine m_ext rfl rfl ?_))) | refine end_ops ?_)
  refine AW_weak (weak_st ?_ ?_ rfl rfl) h2
  · (repeat' (first | exact trivial | refine And.intro ?_ ?_)) <;> (first | rfl | skip)
  · trivial
theorem bc1 {C : List UInt8} (hC : C.length ≤ 1048576) : AW Tryd.prog (min Tryd.f3.ntmps pbase) bcA (st [(2, str C)] []) (Done [6].reverse (.b true)) := by
  have h2 := bc1b hC
  have hp : bcA = .seq (fstC bcA) (.seq (fstC (sndN 1 bcA)) (.seq (fstC (sndN 2 bcA)) (.seq (fstC (sndN 3 bcA)) (.seq (fstC (sndN 4 bcA)) (.seq (fstC (sndN 5 bcA)) (.seq (fstC (sndN 6 bcA)) bcF)))))) := rfl
  rw [hp]
  clear hp
  generalize bcF = cF at *
  have s1 := implHitNumbers_spec C hC
  have s2 := specHitNumbers_spec C hC
  have s3 := implRookNumbers_spec C hC
  have s4 := specRookNumbers_spec C hC
  have s5 := implMostRooks_spec C hC
  have s6 := specMostRooks_spec C hC
  have s7 := implFewestLines_spec C hC
  unfold hitR at s1 s2
  unfold rksR at s3 s4
  unfold mostR at s5 s6
  unfold flR at s7
  generalize hitB C = H at *
  generalize rksB C = RK at *
  generalize flRow C = R at *
  generalize flCol C = K at *
  generalize (if GoodBd C then ((mostN (rkN (fbB C) (sdB C)) (sdB C) : Nat) : Int) else 0) = M at *
  generalize decide (GoodBd C) = ok at *
  unfold bcA
  unfold ac3
  simp only [sndN, sndC, fstC]
  repeat (first | (refine step_ops ?_; (refine m_mov (by conv => lhs; whnf) ?_)) | refine seq_ops ?_)
  refine step_ops ?_; (apply m_call (s1)); (· repeat (first | exact lends_nil | (refine lends_cons ?_ ?_; (· exact lend_v))))
  repeat (first | (refine step_ops ?_; (first | (refine m_mov (by conv => lhs; whnf) ?_) | (refine m_ext rfl rfl ?_))) | refine end_ops ?_ | refine seq_ops ?_)
  refine step_ops ?_; (apply m_call (s2)); (· repeat (first | exact lends_nil | (refine lends_cons ?_ ?_; (· exact lend_v))))
  repeat (first | (refine step_ops ?_; (first | (refine m_mov (by conv => lhs; whnf) ?_) | (refine m_ext rfl rfl ?_))) | refine end_ops ?_ | refine seq_ops ?_)
  refine step_ops ?_; (apply m_call (s3)); (· repeat (first | exact lends_nil | (refine lends_cons ?_ ?_; (· exact lend_v))))
  repeat (first | (refine step_ops ?_; (first | (refine m_mov (by conv => lhs; whnf) ?_) | (refine m_ext rfl rfl ?_))) | refine end_ops ?_ | refine seq_ops ?_)
  refine step_ops ?_; (apply m_call (s4)); (· repeat (first | exact lends_nil | (refine lends_cons ?_ ?_; (· exact lend_v))))
  repeat (first | (refine step_ops ?_; (first | (refine m_mov (by conv => lhs; whnf) ?_) | (refine m_ext rfl rfl ?_))) | refine end_ops ?_ | refine seq_ops ?_)
  refine step_ops ?_; (apply m_call (s5)); (· repeat (first | exact lends_nil | (refine lends_cons ?_ ?_; (· exact lend_v))))
  repeat (first | (refine step_ops ?_; (first | (refine m_mov (by conv => lhs; whnf) ?_) | (refine m_ext rfl rfl ?_))) | refine end_ops ?_ | refine seq_ops ?_)
  refine step_ops ?_; (apply m_call (s6)); (· repeat (first | exact lends_nil | (refine lends_cons ?_ ?_; (· exact lend_v))))
  repeat (first | (refine step_ops ?_; (first | (refine m_mov (by conv => lhs; whnf) ?_) | (refine m_ext rfl rfl ?_))) | refine end_ops ?_ | refine seq_ops ?_)
  refine step_ops ?_
  refine call_two (x := 1000) (y := 1001) s7 rfl rfl rfl rfl rfl (by decide) (by decide) (by decide) ?_
  repeat (first | (refine step_ops ?_; (first | (refine m_mov (by conv => lhs; whnf) ?_) | (refine m_ext rfl rfl ?_))) | refine end_ops ?_)
  refine AW_weak (weak_frz 48 1000 rfl (congrArg (fun c => some (true, c)) (renL_ints _ _)) (by simp) (allv_ints _)) ?_
  refine AW_weak (weak_frz 49 1001 rfl (congrArg (fun c => some (true, c)) (renL_ints _ _)) (by simp) (allv_ints _)) ?_
  refine AW_weak (weak_st ?_ ?_ rfl rfl) h2
  · (repeat' (first | exact trivial | refine And.intro ?_ ?_)) <;> (first | rfl | skip)
  · trivial
end Go.Proofs.YtngfogpbljconaaDoor
namespace Go.Am
variable [Go.Am.CodeBlk]
/-- A struct with maps that nobody writes. -/
theorem bears_aggM {l : List AV} (h : l.all plainM = true) (hu : l.map unf = l) : Bears [.agg l] := by
  intro hp x hx
  rw [List.mem_singleton.1 hx]
  have := lend_aggM (hp := hp) h
  rw [hu] at this
  exact this
end Go.Am
namespace Go.Proofs.YtngfogpbljconaaDoor
variable [Go.Am.CodeBlk]
open Go.Am
attribute [local irreducible] AW Outs Weak Lends Lend Sp aops atree aop1 Then Round InBlock Done
theorem specFirstAllowed_spec (B : List UInt8) (hB : B.length ≤ 1048576) : Sp Tryd.prog 11 [str B] (srchR (frstA B)) := by
  unfold srchR
  refine spec_of Tryd.func11 rfl cc11 rfl ?_
  unfold ac11
  repeat (first | (refine step_ops ?_; (first | (refine m_mov (by conv => lhs; whnf) ?_) | (refine m_nils ?_))) | refine end_ops ?_ | refine seq_ops ?_ | refine AW_seq ?_)
  (refine step_ops ?_); (apply m_call (bdGood_spec B hB)); (· repeat (first | exact lends_nil | (refine lends_cons ?_ ?_; (· exact lend_v))))
  by_cases h : GoodBd B
  · have hs := bdFirst_spec B h hB (sdB B) [] [] (by simp) (.inl rfl) (fun x hx => by simp at hx)
    have e : fstB (fitsA B) (sdB B) (sdB B) [] [] = frstA B := by
      unfold fstB frstA
      rw [if_pos rfl, if_pos h]
    rw [e] at hs
    have hlen := fun m => frstA_len (B := B) (m := m)
    generalize frstA B = o at *
    repeat (first | (refine step_ops ?_; (first | (refine m_mov (by conv => lhs; whnf) ?_) | (refine m_not rfl ?_))) | refine end_ops ?_ | refine seq_ops ?_ | (refine cond_f rfl ?_ ?_; (· (refine nf ?_; assumption))) | refine skip_then ?_)
    refine step_ops ?_
    refine m_call hs ?_ ?_
    · exact lends_cons lend_v (lends_cons lend_nil (lends_cons lend_nil lends_nil))
    repeat (first | (refine step_ops ?_; (first | (refine m_mov (by conv => lhs; whnf) ?_) | (refine m_gtr rfl rfl ?_) | (refine m_len_ro rfl ?_))) | refine end_ops ?_ | refine seq_ops ?_ | refine AW_ret ?_ | refine ret_done ?_)
    refine outs_tup2 (outs_ro (allv_ints _)) (outs_b ?_)
    cases o with
    | none => rfl
    | some m => exact decide_eq_true (show (0 : Int) < (m.length : Nat) by have := hlen m rfl; omega)
  · have e : frstA B = none := if_neg h
    rw [e]
    repeat (first | (refine step_ops ?_; (first | (refine m_mov (by conv => lhs; whnf) ?_) | (refine m_not rfl ?_) | (refine m_nils ?_))) | refine end_ops ?_ | refine seq_ops ?_ | (refine cond_t rfl ?_ ?_; (· (refine nt ?_; assumption))) | refine AW_ret ?_ | refine ret_done ?_ | refine ret_then ?_)
    exact outs_tup2 (outs_ints rfl rfl rfl) (outs_b rfl)
theorem specNextAllowed_spec (B : List UInt8) (L : List Int) (hB : B.length ≤ 1048576) (hL : L.length ≤ 1048576) : Sp Tryd.prog 5 [str B, ints L] (srchR (nextA B L)) := by
  unfold srchR
  refine spec_of Tryd.func5 rfl cc5 rfl ?_
  unfold ac5
  repeat (first | (refine step_ops ?_; (first | (refine m_mov (by conv => lhs; whnf) ?_) | (refine m_nils ?_))) | refine end_ops ?_ | refine seq_ops ?_ | refine AW_seq ?_)
  (refine step_ops ?_); (apply m_call (bdAsked_spec B L hB hL)); (· repeat (first | exact lends_nil | (refine lends_cons ?_ ?_; (· (first | exact lend_v | (refine lend_ints ?_; first | rfl | omega))))))
  by_cases h : Asked B L
  · have hsd := good_sd h.1
    have hne : L ≠ [] := by
      intro e
      have := h.2.2
      rw [e] at this
      simp at this
      omega
    have hs := bdFirst_spec B h.1 hB (sdB B) [] L (by simp) (.inr ⟨rfl, h.2.2, by simp; omega⟩) (fun x hx => by have := h.2.1.2.2.1 x hx; have := h.2.2; omega)
    have e : fstB (fitsA B) (sdB B) (sdB B) [] L = nextA B L := by
      unfold fstB nextA
      rw [if_neg hne, if_pos h]
    rw [e] at hs
    have hlen := fun m => nextA_len (B := B) (L := L) (m := m)
    generalize nextA B L = o at *
    repeat (first | (refine step_ops ?_; (first | (refine m_mov (by conv => lhs; whnf) ?_) | (refine m_not rfl ?_))) | refine end_ops ?_ | refine seq_ops ?_ | (refine cond_f rfl ?_ ?_; (· (refine nf ?_; assumption))) | refine skip_then ?_)
    refine step_ops ?_
    refine m_call hs ?_ ?_
    · exact lends_cons lend_v (lends_cons lend_nil (lends_cons (lend_ints rfl) lends_nil))
    repeat (first | (refine step_ops ?_; (first | (refine m_mov (by conv => lhs; whnf) ?_) | (refine m_gtr rfl rfl ?_) | (refine m_len_ro rfl ?_))) | refine end_ops ?_ | refine seq_ops ?_ | refine AW_ret ?_ | refine ret_done ?_)
    refine outs_tup2 (outs_ro (allv_ints _)) (outs_b ?_)
    cases o with
    | none => rfl
    | some m => exact decide_eq_true (show (0 : Int) < (m.length : Nat) by have := hlen m rfl; omega)
  · have e : nextA B L = none := if_neg h
    rw [e]
    repeat (first | (refine step_ops ?_; (first | (refine m_mov (by conv => lhs; whnf) ?_) | (refine m_not rfl ?_) | (refine m_nils ?_))) | refine end_ops ?_ | refine seq_ops ?_ | (refine cond_t rfl ?_ ?_; (· (refine nt ?_; assumption))) | refine AW_ret ?_ | refine ret_done ?_ | refine ret_then ?_)
    exact outs_tup2 (outs_ints rfl rfl rfl) (outs_b rfl)
/-- A board that was read, by its value. -/
def bdA (B : List UInt8) : AV := .agg [.i (sdB B : Nat), .rmp false (mkEs (plB B)) (plB B).length]
theorem bdA_bears (B : List UInt8) : Go.Am.Bears [bdA B] := bears_aggM (l := [.i (sdB B : Nat), .rmp false (mkEs (plB B)) (plB B).length]) rfl rfl
theorem plA_lt {B : List UInt8} (h : GoodBd B) : ∀ p ∈ plB B, p.1 < 1000 ∧ p.2 < 1000 := by
  intro p hp
  have := mem_posP.1 hp
  have := good_sd h
  omega
theorem hasA_at (B : List UInt8) {i j : Nat} (hi : i < sdB B) (hj : j < sdB B) : hasP (plB B) (i : Nat) (j : Nat) = fbB B i j := by
  unfold plB
  rw [hasP_pos, decide_eq_true (by omega)]
  simp
theorem canTake_spec (B : List UInt8) (l : List Int) (g : Nat) (h : GoodBd B) (hl : l.length < sdB B) (hg : g < sdB B) : Sp Tryd.prog 36 [bdA B, ints l, .i g] (.b (fitsA B l g)) := by
  have hsd := good_sd h
  have hlt := plA_lt h
  have hat := hasA_at B hl hg
  unfold bdA
  refine spec_of Tryd.func36 rfl cc36 rfl ?_
  unfold ac36
  repeat (first | (refine step_ops ?_; (first | (refine m_mov (by conv => lhs; whnf) ?_) | (refine m_len_ro rfl ?_) | (apply m_ld_pt; (· rfl); (· rfl); (· rfl)) | (refine m_fa rfl ?_) | (refine m_bld_2 (by conv => lhs; whnf) (by conv => lhs; whnf) (by decide)  (by decide) (by rfl) (by rfl) ?_) | (refine m_box rfl ?_ ?_; (· first | rfl | (simp [cellOk, Value.oneCell']; done))))) | refine end_ops ?_ | refine seq_ops ?_)
  refine step_ops ?_
  refine m_place (a := (l.length : Nat)) (b := (g : Nat)) hlt (.inr ⟨false, rfl⟩) rfl (by omega) (by omega) ?_
  rw [hat]
  by_cases h1 : fbB B l.length g = true
  · have hfit : fitsA B l g = false := by simp [fitsA, h1]
    rw [hfit]
    repeat (first | (refine step_ops ?_; (first | (first | (refine m_mov (by conv => lhs; whnf) ?_) | (refine m_not rfl ?_) | (refine m_pick_f rfl ?_ (by conv => lhs; whnf) ?_; (· (simp [*]; done)))) | (refine g_noT rfl ?_ ?_; (· (simp [*]; done))))) | refine end_ops ?_ | refine AW_ret ?_ | refine ret_done ?_)
    exact outs_b (by simp)
  · have h1 : fbB B l.length g = false := by simpa using h1
    have hfit : fitsA B l g = !decide ((g : Int) ∈ l) := by simp [fitsA, h1]
    rw [hfit]
    repeat (refine step_ops ?_; ((try (refine g_yes rfl ?_ ?_; (· (simp [*]; done)))); (first | (refine m_mov (by conv => lhs; whnf) ?_) | (refine m_not rfl ?_))))
    (refine step_ops ?_); (refine g_yes rfl ?_ ?_; (· first | ((simp [*]; done)) | (fail)); (apply m_call (slicesContains_spec l g (by omega)))); (· repeat (first | exact lends_nil | (refine lends_cons ?_ ?_; (· (first | exact lend_v | (refine lend_ints ?_; first | rfl | omega))))))
    repeat (first | (refine step_ops ?_; ((try (refine g_yes rfl ?_ ?_; (· (simp [*]; done)))); (first | (refine m_mov (by conv => lhs; whnf) ?_) | (refine m_not rfl ?_) | (refine m_pick_t rfl ?_ (by conv => lhs; whnf) ?_; (· (simp [*]; done)))))) | refine end_ops ?_ | refine AW_ret ?_ | refine ret_done ?_)
    exact outs_b rfl
theorem asks_allow {B : List UInt8} (h : GoodBd B) : Asks Tryd.prog 36 [bdA B] (sdB B) (fitsA B) where
  call := ⟨_, Tryd.func36, by rfl, by rfl⟩
  bears := bdA_bears B
  norefs := fun _ => rfl
  nokill := fun _ => rfl
  spec := fun M y hM _ hy => canTake_spec B M y h hM hy
theorem implFirstAllowed_spec (B : List UInt8) (hB : B.length ≤ 1048576) : Sp Tryd.prog 10 [str B] (srchR (frstA B)) := by
  have hr := readBoard_spec B hB
  unfold bdR bdV at hr
  unfold srchR
  refine spec_of Tryd.func10 rfl cc10 rfl ?_
  unfold ac10
  repeat (first | (refine step_ops ?_; (first | (refine m_mov (by conv => lhs; whnf) ?_) | (refine m_nils ?_))) | refine end_ops ?_ | refine seq_ops ?_)
  (refine step_ops ?_); (apply m_call (hr)); (· repeat (first | exact lends_nil | (refine lends_cons ?_ ?_; (· exact lend_v))))
  by_cases h : GoodBd B
  · have e : frstA B = (goOn (fitsA B) (sdB B) (sdB B) []).head? := if_pos h
    have hsd := good_sd h
    have hs := firstFitting_spec (asks_allow h) (by omega) hsd.1
    rw [← e] at hs
    rw [if_pos h]
    unfold srchR at hs
    generalize frstA B = sr at hs ⊢
    repeat (first | (refine step_ops ?_; (first | (refine m_mov (by conv => lhs; whnf) ?_) | (refine m_not rfl ?_) | (apply m_ld_pt; (· rfl); (· rfl); (· rfl)) | (refine m_mkf ?_) | (refine m_ext rfl rfl ?_) | (refine m_alloc ?_) | (refine m_fa rfl ?_) | (refine m_ldall rfl rfl ?_ ?_; (· first | rfl | (simp; done) | (simp [*]; done))) | (refine m_stall rfl rfl rfl ?_ ?_ ?_ ?_; (· first | rfl | (simp [*]; done)); (· first | rfl | (simp [*]; done)); (· first | rfl | (simp [cellOk, Value.oneCell']; done))))) | refine end_ops ?_ | refine seq_ops ?_ | (refine cond_f rfl ?_ ?_; (· (refine nf ?_; assumption))) | refine skip_then ?_ | refine AW_seq ?_)
    refine step_ops ?_
    refine m_call hs ?_ ?_
    · refine lends_cons lend_v (lends_cons (lend_fn (lends_cons ?_ lends_nil)) lends_nil)
      exact lend_aggM (l := [.i (sdB B : Nat), .rmp true (mkEs (plB B)) (plB B).length]) rfl
    repeat (first | (refine step_ops ?_; (first | (refine m_mov (by conv => lhs; whnf) ?_) | (refine m_ext rfl rfl ?_))) | refine end_ops ?_ | refine AW_ret ?_ | refine ret_done ?_)
    exact outs_tup2 (outs_ro (allv_ints _)) (outs_b rfl)
  · have e : frstA B = none := if_neg h
    rw [e, if_neg h]
    repeat (first | (refine step_ops ?_; (first | (refine m_mov (by conv => lhs; whnf) ?_) | (refine m_not rfl ?_) | (refine m_nils ?_) | (refine m_ext rfl rfl ?_) | (refine m_alloc ?_) | (refine m_stall rfl rfl rfl ?_ ?_ ?_ ?_; (· first | rfl | (simp [*]; done)); (· first | rfl | (simp [*]; done)); (· first | rfl | (simp [cellOk, Value.oneCell']; done))))) | refine end_ops ?_ | refine seq_ops ?_ | (refine cond_t rfl ?_ ?_; (· (refine nt ?_; assumption))) | refine AW_seq ?_ | refine AW_ret ?_ | refine ret_done ?_ | refine ret_then ?_)
    exact outs_tup2 (outs_ints rfl rfl rfl) (outs_b rfl)
theorem implNextAllowed_spec (B : List UInt8) (L : List Int) (hB : B.length ≤ 1048576) (hL : L.length ≤ 1048576) : Sp Tryd.prog 4 [str B, ints L] (srchR (nextA B L)) := by
  have hr := readBoardFor_spec B L hB hL
  unfold bdF at hr
  unfold srchR
  refine spec_of Tryd.func4 rfl cc4 rfl ?_
  unfold ac4
  repeat (first | (refine step_ops ?_; (first | (refine m_mov (by conv => lhs; whnf) ?_) | (refine m_nils ?_))) | refine end_ops ?_ | refine seq_ops ?_)
  (refine step_ops ?_); (apply m_call (hr)); (· repeat (first | exact lends_nil | (refine lends_cons ?_ ?_; (· (first | exact lend_v | (refine lend_ints ?_; first | rfl | omega))))))
  by_cases h : Asked B L
  · have e : nextA B L = (goOn (fitsA B) (sdB B) (sdB B) []).find? (fun m => comesB L m) := if_pos h
    have hsd := good_sd h.1
    have hs := nextFitting_spec (asks_allow h.1) (by omega) hsd.1 L h.2.2 (fun x hx => by have := h.2.1.2.2.1 x hx; have := h.2.2; omega)
    rw [← e] at hs
    rw [if_pos h]
    unfold srchR at hs
    generalize nextA B L = sr at hs ⊢
    repeat (first | (refine step_ops ?_; (first | (refine m_mov (by conv => lhs; whnf) ?_) | (refine m_not rfl ?_) | (refine m_mkf ?_) | (refine m_ext rfl rfl ?_) | (refine m_alloc ?_) | (refine m_ldall rfl rfl ?_ ?_; (· first | rfl | (simp; done) | (simp [*]; done))) | (refine m_stall rfl rfl rfl ?_ ?_ ?_ ?_; (· first | rfl | (simp [*]; done)); (· first | rfl | (simp [*]; done)); (· first | rfl | (simp [cellOk, Value.oneCell']; done))))) | refine end_ops ?_ | refine seq_ops ?_ | (refine cond_f rfl ?_ ?_; (· (refine nf ?_; assumption))) | refine skip_then ?_ | refine AW_seq ?_)
    refine step_ops ?_
    refine m_call hs ?_ ?_
    · refine lends_cons (lend_ints rfl) (lends_cons (lend_fn (lends_cons ?_ lends_nil)) lends_nil)
      exact lend_aggM (l := [.i (sdB B : Nat), .rmp true (mkEs (plB B)) (plB B).length]) rfl
    repeat (first | (refine step_ops ?_; (first | (refine m_mov (by conv => lhs; whnf) ?_) | (refine m_ext rfl rfl ?_))) | refine end_ops ?_ | refine AW_ret ?_ | refine ret_done ?_)
    exact outs_tup2 (outs_ro (allv_ints _)) (outs_b rfl)
  · have e : nextA B L = none := if_neg h
    rw [e, if_neg h]
    repeat (first | (refine step_ops ?_; (first | (refine m_mov (by conv => lhs; whnf) ?_) | (refine m_not rfl ?_) | (refine m_nils ?_) | (refine m_ext rfl rfl ?_) | (refine m_alloc ?_) | (refine m_stall rfl rfl rfl ?_ ?_ ?_ ?_; (· first | rfl | (simp [*]; done)); (· first | rfl | (simp [*]; done)); (· first | rfl | (simp [cellOk, Value.oneCell']; done))))) | refine end_ops ?_ | refine seq_ops ?_ | (refine cond_t rfl ?_ ?_; (· (refine nt ?_; assumption))) | refine AW_seq ?_ | refine AW_ret ?_ | refine ret_done ?_ | refine ret_then ?_)
    exact outs_tup2 (outs_ints rfl rfl rfl) (outs_b rfl)
end Go.Proofs.YtngfogpbljconaaDoor
namespace Go.Proofs.YtngfogpbljconaaDoor
variable [Go.Am.CodeBlk]
open Go.Am
attribute [local irreducible] AW Outs Weak Lends Lend Sp aops atree aop1 Then Round InBlock Done
attribute [local irreducible] SpM DoneM SpH DoneH
def bhD : ACode := sndN 15 ac3
def bhC : ACode := sndN 14 ac3
def bhB : ACode := sndN 13 ac3
def bhA : ACode := sndN 12 ac3
/-- How many exchanges a board allows. -/
def cntB' (B : List UInt8) : Nat := if GoodBd B then (allB B).length else 0
theorem cnt_le {B : List UInt8} : cntB' B ≤ 40320 := by
  unfold cntB'
  split
  · rename_i h
    rw [allB_len]
    exact hit_le _ (good_sd h).2 (Nat.zero_le _)
  · omega
theorem frst_all (B : List UInt8) : frstA B = if GoodBd B then (allB B)[0]? else none := by
  by_cases h : GoodBd B
  · rw [if_pos h, allB_first h]
  · unfold frstA
    rw [if_neg h, if_neg h]
/-- All allowed exchanges, one after the other. -/
theorem bh15 {B C : List UInt8} {L : List Int} (hB : B.length ≤ 1048576) (hC : C.length ≤ 1048576) : AW Tryd.prog (min Tryd.f3.ntmps pbase) bhD (st [(0, str B), (2, str C), (12, .b (decide (Asked B L))), (19, newInts ((frstA B).getD [])), (20, .b (frstA B).isSome), (23, .i (cntB' B : Nat)), (24, .b (decide (GoodBd B)))] []) (Done [6].reverse (.b true)) := by
  have h1 := bc1 hC
  have hle := cnt_le (B := B)
  have hp : bhD = .seq (fstC bhD) bcA := rfl
  rw [hp]
  clear hp
  generalize bcA = cA at *
  by_cases h : GoodBd B
  · have hcb : cntB' B = (allB B).length := if_pos h
    have hf := frst_all B
    rw [if_pos h] at hf
    have hn := fun k (hk : k < (allB B).length) => allB_next h hk
    have hlen : ∀ k, ((allB B).getD k []).length ≤ 12 := fun k => by
      by_cases hk : k < (allB B).length
      · have hm : (allB B).getD k [] ∈ allB B := by simp [hk]
        have := (allB_mem h hm).1.2.1.2.1
        exact this
      · rw [List.getD_eq_getElem?_getD, List.getElem?_eq_none (by omega)]
        simp
    have e0 : ((allB B)[0]?).getD [] = (allB B).getD 0 [] := by rw [List.getD_eq_getElem?_getD]
    have e1 : ((allB B)[0]?).isSome = decide (0 < (allB B).length) := by
      by_cases hz : 0 < (allB B).length
      · rw [List.getElem?_eq_getElem hz, decide_eq_true hz]; rfl
      · rw [List.getElem?_eq_none (by omega), decide_eq_false hz]; rfl
    rw [hf, e0, e1, hcb, decide_eq_true h]
    rw [hcb] at hle
    clear hf e0 e1
    generalize hG : allB B = G at *
    by_cases ha : Asked B L
    · rw [decide_eq_true ha]
      by_cases h60 : ((G.length : Nat) : Int) ≤ 60
      · unfold bhD
        unfold ac3
        simp only [sndN, sndC, fstC]
        repeat (first | (refine step_ops ?_; ((try (refine g_yes rfl ?_ ?_; (· rfl))); (first | (refine m_mov (by conv => lhs; whnf) ?_) | (refine m_leq rfl rfl ?_) | (refine m_pick_t rfl ?_ (by conv => lhs; whnf) ?_; (· rfl))))) | refine end_ops ?_ | refine seq_ops ?_ | (refine cond_t rfl ?_ ?_; (· (refine decide_eq_true ?_; assumption))) | refine AW_seq ?_ | refine AW_block ?_)
        refine AW_loop (α := Nat) (fun k => k ≤ G.length) (fun k => st [(0, str B), (2, str C), (23, .i (G.length : Nat)), (31, newInts (G.getD k [])), (32, .i (k : Nat)), (33, .b (decide (k < G.length)))] []) (fun k => G.length - k) 0 (Nat.zero_le _) (weak_st ?_ ?_ rfl rfl) ?_
        · (repeat' (first | exact trivial | refine And.intro ?_ ?_)) <;> (first | rfl | skip)
        · trivial
        intro k hk
        by_cases hc : k < G.length
        · have hs := implNextAllowed_spec B (G.getD k []) hB (by have := hlen k; omega)
          unfold srchR at hs
          rw [hn k hc] at hs
          have e2 : (G[k + 1]?).getD [] = G.getD (k + 1) [] := by rw [List.getD_eq_getElem?_getD]
          have e3 : (G[k + 1]?).isSome = decide (k + 1 < G.length) := by
            by_cases hz : k + 1 < G.length
            · rw [List.getElem?_eq_getElem hz, decide_eq_true hz]; rfl
            · rw [List.getElem?_eq_none (by omega), decide_eq_false hz]; rfl
          rw [e2, e3] at hs
          rw [decide_eq_true hc]
          repeat (first | (refine step_ops ?_; ((try (refine g_yes rfl ?_ ?_; (· rfl))); (first | (refine m_mov (by conv => lhs; whnf) ?_) | (refine m_leq rfl rfl ?_) | (refine m_add rfl rfl ?_ ?_ ?_; (· omega); (· omega)) | (refine m_pick_t rfl ?_ (by conv => lhs; whnf) ?_; (· rfl))))) | refine end_ops ?_ | refine seq_ops ?_ | (refine cond_t rfl ?_ ?_; (· (refine decide_eq_true ?_; omega))) | refine skip_then ?_ | refine AW_seq ?_ | refine AW_block ?_)
          refine step_ops ?_; (apply m_call (hs)); (· repeat (first | exact lends_nil | (refine lends_cons ?_ ?_; (· (first | exact lend_v | (refine lend_ints ?_; first | rfl | omega))))))
          repeat (first | (refine step_ops ?_; (first | (refine m_mov (by conv => lhs; whnf) ?_) | (refine m_ext rfl rfl ?_))) | refine end_ops ?_ | refine seq_ops ?_ | refine AW_ops ?_ | refine norm_block ?_)
          refine next_round (k + 1) (by omega) (weak_st ?_ ?_ rfl rfl) (by omega)
          · (repeat' (first | exact trivial | refine And.intro ?_ ?_)) <;> (first | rfl | skip)
          · trivial
        · obtain rfl : k = G.length := by omega
          rw [decide_eq_false hc]
          repeat (first | (refine step_ops ?_; (first | (first | (refine m_mov (by conv => lhs; whnf) ?_) | (refine m_neq rfl rfl ?_) | (refine m_pick_f rfl ?_ (by conv => lhs; whnf) ?_; (· rfl))) | (refine g_noT rfl ?_ ?_; (· rfl)))) | refine end_ops ?_ | refine seq_ops ?_ | (refine cond_f rfl ?_ ?_; (· first | rfl | (refine decide_eq_false ?_; omega))) | refine skip_then ?_ | refine AW_seq ?_ | refine norm_then ?_ | refine exit_then ?_ | refine exit_round ?_ | refine AW_exit ?_ | refine exit_block ?_)
          refine AW_weak (weak_st ?_ ?_ rfl rfl) h1
          · (repeat' (first | exact trivial | refine And.intro ?_ ?_)) <;> (first | rfl | skip)
          · trivial
      · unfold bhD
        unfold ac3
        simp only [sndN, sndC, fstC]
        repeat (first | (refine step_ops ?_; ((try (refine g_yes rfl ?_ ?_; (· rfl))); (first | (refine m_mov (by conv => lhs; whnf) ?_) | (refine m_leq rfl rfl ?_) | (refine m_pick_t rfl ?_ (by conv => lhs; whnf) ?_; (· rfl))))) | refine end_ops ?_ | refine seq_ops ?_ | (refine cond_f rfl ?_ ?_; (· (refine decide_eq_false ?_; assumption))) | refine skip_then ?_ | refine AW_seq ?_)
        refine AW_weak (weak_st ?_ ?_ rfl rfl) h1
        · (repeat' (first | exact trivial | refine And.intro ?_ ?_)) <;> (first | rfl | skip)
        · trivial
    · rw [decide_eq_false ha]
      unfold bhD
      unfold ac3
      simp only [sndN, sndC, fstC]
      repeat (first | (refine step_ops ?_; (first | ((try (refine g_yes rfl ?_ ?_; (· rfl))); (first | (refine m_mov (by conv => lhs; whnf) ?_) | (refine m_pick_t rfl ?_ (by conv => lhs; whnf) ?_; (· rfl)) | (refine m_pick_f rfl ?_ (by conv => lhs; whnf) ?_; (· rfl)))) | (refine g_noT rfl ?_ ?_; (· rfl)))) | refine end_ops ?_ | refine seq_ops ?_ | (refine cond_f rfl ?_ ?_; (· rfl)) | refine skip_then ?_ | refine AW_seq ?_)
      refine AW_weak (weak_st ?_ ?_ rfl rfl) h1
      · (repeat' (first | exact trivial | refine And.intro ?_ ?_)) <;> (first | rfl | skip)
      · trivial
  · rw [decide_eq_false h]
    generalize (frstA B).isSome = b at *
    generalize decide (Asked B L) = b2 at *
    unfold bhD
    unfold ac3
    simp only [sndN, sndC, fstC]
    repeat (first | (refine step_ops ?_; (first | (first | (refine m_mov (by conv => lhs; whnf) ?_) | (refine m_pick_f rfl ?_ (by conv => lhs; whnf) ?_; (· rfl))) | (refine g_noT rfl ?_ ?_; (· rfl)))) | refine end_ops ?_ | refine seq_ops ?_ | (refine cond_f rfl ?_ ?_; (· rfl)) | refine skip_then ?_ | refine AW_seq ?_)
    refine AW_weak (weak_st ?_ ?_ rfl rfl) h1
    · (repeat' (first | exact trivial | refine And.intro ?_ ?_)) <;> (first | rfl | skip)
    · trivial
/-- The next one. -/
theorem bh14 {B C : List UInt8} {L : List Int} (hB : B.length ≤ 1048576) (hC : C.length ≤ 1048576) (hL : L.length ≤ 10000) : AW Tryd.prog (min Tryd.f3.ntmps pbase) bhC (st [(0, str B), (1, ints L), (2, str C), (7, newInts ((nextA B L).getD [])), (8, .b (nextA B L).isSome), (12, .b (decide (Asked B L))), (19, newInts ((frstA B).getD [])), (20, .b (frstA B).isSome), (23, .i (cntB' B : Nat)), (24, .b (decide (GoodBd B)))] []) (Done [6].reverse (.b true)) := by
  have h1 := bh15 (L := L) hB hC
  have hp : bhC = .seq (fstC bhC) bhD := rfl
  rw [hp]
  clear hp
  generalize bhD = cD at *
  cases hn : nextA B L with
  | none =>
    rw [Option.getD_none, Option.isSome_none]
    generalize (frstA B).isSome = b1 at *
    generalize (frstA B).getD [] = F at *
    generalize decide (Asked B L) = b2 at *
    generalize decide (GoodBd B) = b3 at *
    unfold bhC
    unfold ac3
    simp only [sndN, sndC, fstC]
    repeat (first | (refine step_ops ?_; (refine m_mov (by conv => lhs; whnf) ?_)) | refine end_ops ?_ | refine seq_ops ?_ | (refine cond_f rfl ?_ ?_; (· rfl)) | refine skip_then ?_ | refine AW_seq ?_)
    refine AW_weak (weak_st ?_ ?_ rfl rfl) h1
    · (repeat' (first | exact trivial | refine And.intro ?_ ?_)) <;> (first | rfl | skip)
    · trivial
  | some N =>
    have ha : Asked B L := by
      unfold nextA at hn
      split at hn
      · rename_i h; exact h
      · cases hn
    have hn2 := hn
    unfold nextA at hn2
    rw [if_pos ha] at hn2
    have hm : N ∈ allB B := List.mem_of_find?_eq_some hn2
    have hcb : comesB L N = true := List.find?_some hn2
    obtain ⟨m1, m2⟩ := allB_mem ha.1 hm
    have hls := allB_least hm
    have hff := frst_all B
    rw [if_pos ha.1] at hff
    have hpos : 0 < (allB B).length := List.length_pos_of_mem hm
    have hf0 : (allB B).getD 0 [] ∈ allB B := by simp [hpos]
    have m3 := (allB_mem ha.1 hf0).1
    have e0 : (frstA B).getD [] = (allB B).getD 0 [] := by rw [hff, List.getD_eq_getElem?_getD]
    have l1 : N.length = L.length := by rw [m1.2.2, ha.2.2]
    have l2 : ((allB B).getD 0 []).length = N.length := by rw [m3.2.2, m1.2.2]
    have s1 := implHitsOf_spec B N hB (by omega)
    unfold hitsR at s1
    rw [if_pos m1, decide_eq_true m1, m2] at s1
    have s2 := oLessC_spec L N (by omega) l1
    rw [hcb] at s2
    have s3 := oLessC_spec N ((allB B).getD 0 []) (by omega) l2
    rw [hls, ← e0] at s3
    rw [Option.getD_some, Option.isSome_some]
    generalize (frstA B).isSome = b1 at *
    generalize (frstA B).getD [] = F at *
    generalize decide (Asked B L) = b2 at *
    generalize decide (GoodBd B) = b3 at *
    unfold bhC
    unfold ac3
    simp only [sndN, sndC, fstC]
    repeat (first | (refine step_ops ?_; (refine m_mov (by conv => lhs; whnf) ?_)) | refine end_ops ?_ | refine seq_ops ?_ | (refine cond_t rfl ?_ ?_; (· rfl)) | refine AW_seq ?_)
    refine step_ops ?_; (apply m_call (s1)); (· repeat (first | exact lends_nil | (refine lends_cons ?_ ?_; (· (first | exact lend_v | (refine lend_ints ?_; first | rfl | omega))))))
    repeat (first | (refine step_ops ?_; ((try (refine g_yes rfl ?_ ?_; (· rfl))); (first | (refine m_mov (by conv => lhs; whnf) ?_) | (refine m_neq rfl rfl ?_) | (refine m_not rfl ?_) | (refine m_pick_f rfl ?_ (by conv => lhs; whnf) ?_; (· rfl)) | (refine m_ext rfl rfl ?_)))) | refine end_ops ?_ | refine seq_ops ?_)
    refine step_ops ?_; (refine g_yes rfl ?_ ?_; (· first | (rfl) | (fail)); (apply m_call (s2))); (· repeat (first | exact lends_nil | (refine lends_cons ?_ ?_; (· (refine lend_ints ?_; first | rfl | omega)))))
    repeat (refine step_ops ?_; ((try (refine g_yes rfl ?_ ?_; (· rfl))); (first | (refine m_mov (by conv => lhs; whnf) ?_) | (refine m_not rfl ?_) | (refine m_pick_f rfl ?_ (by conv => lhs; whnf) ?_; (· rfl)))))
    refine step_ops ?_; (refine g_yes rfl ?_ ?_; (· first | (rfl) | (fail)); (apply m_call (s3))); (· repeat (first | exact lends_nil | (refine lends_cons ?_ ?_; (· (refine lend_ints ?_; first | rfl | omega)))))
    repeat (first | (refine step_ops ?_; (refine m_pick_f rfl ?_ (by conv => lhs; whnf) ?_; (· rfl))) | refine end_ops ?_ | (refine cond_f rfl ?_ ?_; (· rfl)) | refine skip_then ?_)
    refine AW_weak (weak_st ?_ ?_ rfl rfl) h1
    · (repeat' (first | exact trivial | refine And.intro ?_ ?_)) <;> (first | rfl | skip)
    · trivial
/-- The first one. -/
theorem bh13 {B C : List UInt8} {L : List Int} (hB : B.length ≤ 1048576) (hC : C.length ≤ 1048576) (hL : L.length ≤ 10000) : AW Tryd.prog (min Tryd.f3.ntmps pbase) bhB (st [(0, str B), (1, ints L), (2, str C), (7, newInts ((nextA B L).getD [])), (8, .b (nextA B L).isSome), (11, .b (if Asked B L then decide (hitN B L L.length = 0) else false)), (12, .b (decide (Asked B L))), (19, newInts ((frstA B).getD [])), (20, .b (frstA B).isSome), (23, .i (cntB' B : Nat)), (24, .b (decide (GoodBd B)))] []) (Done [6].reverse (.b true)) := by
  have h1 := bh14 (L := L) hB hC hL
  have hp : bhB = .seq (fstC bhB) bhC := rfl
  rw [hp]
  clear hp
  generalize bhC = cC at *
  cases hf : frstA B with
  | none =>
    rw [hf] at h1
    rw [Option.getD_none, Option.isSome_none] at h1 ⊢
    generalize (nextA B L).isSome = b1 at *
    generalize (nextA B L).getD [] = N at *
    generalize (if Asked B L then decide (hitN B L L.length = 0) else false) = b4 at *
    generalize decide (Asked B L) = b2 at *
    generalize decide (GoodBd B) = b3 at *
    unfold bhB
    unfold ac3
    simp only [sndN, sndC, fstC]
    repeat (first | (refine step_ops ?_; (refine m_mov (by conv => lhs; whnf) ?_)) | refine end_ops ?_ | refine seq_ops ?_ | (refine cond_f rfl ?_ ?_; (· rfl)) | refine skip_then ?_ | refine AW_seq ?_)
    refine AW_weak (weak_st ?_ ?_ rfl rfl) h1
    · (repeat' (first | exact trivial | refine And.intro ?_ ?_)) <;> (first | rfl | skip)
    · trivial
  | some F =>
    have hff := frst_all B
    rw [hf] at hff
    have hg : GoodBd B := by
      by_cases h : GoodBd B
      · exact h
      · rw [if_neg h] at hff; cases hff
    rw [if_pos hg] at hff
    have hpos : 0 < (allB B).length := by
      rcases Nat.lt_or_ge 0 (allB B).length with c | c
      · exact c
      · rw [List.getElem?_eq_none c] at hff; cases hff
    have e0 : F = (allB B).getD 0 [] := by rw [List.getD_eq_getElem?_getD, ← hff]; rfl
    have hm : F ∈ allB B := by rw [e0]; simp [hpos]
    obtain ⟨m1, m2⟩ := allB_mem hg hm
    have hFl := m1.2.1.2.1
    have s1 := implHitsOf_spec B F hB (by omega)
    unfold hitsR at s1
    rw [if_pos m1, decide_eq_true m1, m2] at s1
    rw [hf] at h1
    rw [Option.getD_some, Option.isSome_some] at h1 ⊢
    by_cases ha : Asked B L
    · have l1 : F.length = L.length := by rw [m1.2.2, ha.2.2]
      rw [if_pos ha, decide_eq_true ha]
      rw [decide_eq_true ha] at h1
      by_cases hz : hitN B L L.length = 0
      · have hin := allB_in ha hz
        have hls := allB_least hin
        have s2 := oLessC_spec L F (by omega) l1
        rw [e0, hls, ← e0] at s2
        rw [decide_eq_true hz]
        generalize (nextA B L).isSome = b1 at *
        generalize (nextA B L).getD [] = N at *
        generalize decide (GoodBd B) = b3 at *
        unfold bhB
        unfold ac3
        simp only [sndN, sndC, fstC]
        repeat (first | (refine step_ops ?_; (refine m_mov (by conv => lhs; whnf) ?_)) | refine end_ops ?_ | refine seq_ops ?_ | (refine cond_t rfl ?_ ?_; (· rfl)) | refine AW_seq ?_)
        refine step_ops ?_; (apply m_call (s1)); (· repeat (first | exact lends_nil | (refine lends_cons ?_ ?_; (· (first | exact lend_v | (refine lend_ints ?_; first | rfl | omega))))))
        repeat (first | (refine step_ops ?_; ((try (refine g_yes rfl ?_ ?_; (· rfl))); (first | (refine m_mov (by conv => lhs; whnf) ?_) | (refine m_neq rfl rfl ?_) | (refine m_not rfl ?_) | (refine m_pick_t rfl ?_ (by conv => lhs; whnf) ?_; (· rfl)) | (refine m_pick_f rfl ?_ (by conv => lhs; whnf) ?_; (· rfl)) | (refine m_ext rfl rfl ?_)))) | refine end_ops ?_ | refine seq_ops ?_)
        refine step_ops ?_; (refine g_yes rfl ?_ ?_; (· first | (rfl) | (fail)); (apply m_call (s2))); (· repeat (first | exact lends_nil | (refine lends_cons ?_ ?_; (· (refine lend_ints ?_; first | rfl | omega)))))
        repeat (first | (refine step_ops ?_; ((try (refine g_yes rfl ?_ ?_; (· rfl))); (first | (refine m_pick_t rfl ?_ (by conv => lhs; whnf) ?_; (· rfl)) | (refine m_pick_f rfl ?_ (by conv => lhs; whnf) ?_; (· rfl))))) | refine end_ops ?_ | (refine cond_f rfl ?_ ?_; (· rfl)) | refine skip_then ?_)
        refine AW_weak (weak_st ?_ ?_ rfl rfl) h1
        · (repeat' (first | exact trivial | refine And.intro ?_ ?_)) <;> (first | rfl | skip)
        · trivial
      · rw [decide_eq_false hz]
        generalize (nextA B L).isSome = b1 at *
        generalize (nextA B L).getD [] = N at *
        generalize decide (GoodBd B) = b3 at *
        unfold bhB
        unfold ac3
        simp only [sndN, sndC, fstC]
        repeat (first | (refine step_ops ?_; (refine m_mov (by conv => lhs; whnf) ?_)) | refine end_ops ?_ | refine seq_ops ?_ | (refine cond_t rfl ?_ ?_; (· rfl)) | refine AW_seq ?_)
        refine step_ops ?_; (apply m_call (s1)); (· repeat (first | exact lends_nil | (refine lends_cons ?_ ?_; (· (first | exact lend_v | (refine lend_ints ?_; first | rfl | omega))))))
        repeat (first | (refine step_ops ?_; (first | ((try (refine g_yes rfl ?_ ?_; (· rfl))); (first | (refine m_mov (by conv => lhs; whnf) ?_) | (refine m_neq rfl rfl ?_) | (refine m_not rfl ?_) | (refine m_pick_t rfl ?_ (by conv => lhs; whnf) ?_; (· rfl)) | (refine m_pick_f rfl ?_ (by conv => lhs; whnf) ?_; (· rfl)) | (refine m_ext rfl rfl ?_))) | (refine g_noT rfl ?_ ?_; (· rfl)))) | refine end_ops ?_ | refine seq_ops ?_ | (refine cond_f rfl ?_ ?_; (· rfl)) | refine skip_then ?_)
        refine AW_weak (weak_st ?_ ?_ rfl rfl) h1
        · (repeat' (first | exact trivial | refine And.intro ?_ ?_)) <;> (first | rfl | skip)
        · trivial
    · rw [if_neg ha, decide_eq_false ha]
      rw [decide_eq_false ha] at h1
      generalize (nextA B L).isSome = b1 at *
      generalize (nextA B L).getD [] = N at *
      generalize decide (GoodBd B) = b3 at *
      unfold bhB
      unfold ac3
      simp only [sndN, sndC, fstC]
      repeat (first | (refine step_ops ?_; (refine m_mov (by conv => lhs; whnf) ?_)) | refine end_ops ?_ | refine seq_ops ?_ | (refine cond_t rfl ?_ ?_; (· rfl)) | refine AW_seq ?_)
      refine step_ops ?_; (apply m_call (s1)); (· repeat (first | exact lends_nil | (refine lends_cons ?_ ?_; (· (first | exact lend_v | (refine lend_ints ?_; first | rfl | omega))))))
      repeat (first | (refine step_ops ?_; (first | ((try (refine g_yes rfl ?_ ?_; (· rfl))); (first | (refine m_mov (by conv => lhs; whnf) ?_) | (refine m_neq rfl rfl ?_) | (refine m_not rfl ?_) | (refine m_pick_f rfl ?_ (by conv => lhs; whnf) ?_; (· rfl)) | (refine m_ext rfl rfl ?_))) | (refine g_noT rfl ?_ ?_; (· rfl)))) | refine end_ops ?_ | refine seq_ops ?_ | (refine cond_f rfl ?_ ?_; (· rfl)) | refine skip_then ?_)
      refine AW_weak (weak_st ?_ ?_ rfl rfl) h1
      · (repeat' (first | exact trivial | refine And.intro ?_ ?_)) <;> (first | rfl | skip)
      · trivial
end Go.Proofs.YtngfogpbljconaaDoor
namespace Go.Am
variable [Go.Am.CodeBlk]
open Go.ChangeShapes Go.WideShapes Go.ChangeAt Go.RowKit Go.ChangeMaps
variable {P : Program} {H : Type} {enc : TypeId × Value → H}
theorem and_mk {a b : Bool} (h : a = true) (k : b = true) : (a && b) = true := by rw [h, k]; rfl
theorem More.below {w w' : World} (h : More w w') : Below w.heap.size w w' := ⟨h.os, h.tape, h.output, h.size, h.block⟩
theorem trodAll_stays (hl : laidOutB P = true) {W W' : World} (hb : Below W.heap.size W W') (sp : Nat → Bool) : ∀ {ts : List TypeId} {vs : List Value} {ds : List (DataW H)} {ps : List MemPlace},
    (∀ t ∈ ts, P.readableRec t = true ∧ t < P.types.size) → DataW.TrodAll enc P W 0 (fun _ => true) true ts vs ds ps → (∀ p ∈ ps, p.block < W.heap.size) → (∀ p ∈ ps, sp p.block = true) →
    DataW.TrodAll enc P W' 0 sp true ts vs ds ps
  | [], vs, ds, ps, _, h, _, _ => by
    obtain ⟨rfl, rfl, rfl⟩ := trodAll_nil h
    exact trodAll_mk0
  | t :: ts, vs, ds, ps, hr, h, hlt, hsp => by
    obtain ⟨v, vs', d, ds', p, q, rfl, rfl, rfl, h1, h2⟩ := trodAll_cons h
    refine ⟨p, q, ?_, trodAll_stays hl hb sp (fun t ht => hr t (List.mem_cons_of_mem _ ht)) h2 (fun x hx => hlt x (List.mem_append_right _ hx)) (fun x hx => hsp x (List.mem_append_right _ hx)), rfl⟩
    obtain ⟨h3, h4⟩ := hr t (List.mem_cons_self ..)
    exact WideElems.Trod_stays hl h3 h4 h1 (fun x hx => hb.same (hlt x (List.mem_append_left _ hx))) (fun x hx => hsp x (List.mem_append_left _ hx))
/-- What the row's last words ask of a law that says true. -/
theorem law_post (hl : laidOutB P = true) {f : Func} {s : ChangeSpec} {fresh handsOn again : Bool} {W W' : World} {args : Array Value} {ds gs : List (DataW H)} {before : List MemPlace} {bt : TypeId}
    (hW : DataW.Whole enc P f.params.toList s.vars false W args.toList ds gs before) (hvars : s.vars = []) (hfn : s.fn H (ds ++ gs) = { results := [.lit (.bool true)], args := ds })
    (hres : f.resultTypes = #[bt]) (hbt : P.underlying bt = some .bool) (hread : ∀ t ∈ f.params.toList, P.readableRec t = true ∧ t < P.types.size) (hm : More W W') :
    s.post enc P f false fresh handsOn again W args (.bool true) W' := by
  have hb := hm.below
  have hlt : ∀ p ∈ before, p.block < W.heap.size := fun p hp => hW.lt p hp
  obtain ⟨p, q, hA, hV, hpq, hz, hn⟩ := hW
  rw [hvars] at hV
  obtain ⟨rfl, rfl⟩ := trodVars_none hV
  rw [List.append_nil] at hpq
  subst hpq
  have hargs : ∀ sp : Nat → Bool, (∀ x ∈ before, sp x.block = true) → DataW.TrodAll enc P W' 0 sp true f.params.toList args.toList ds before := fun sp hsp => trodAll_stays hl hb sp hread hA hlt hsp
  have hresT : ∀ (b : Nat) (sp : Nat → Bool) (hd : Bool), DataW.TrodAll enc P W' b sp hd f.resultTypes.toList ((Value.bool true).resultList f.resultTypes.size) [.lit (.bool true)] [] := by
    intro b sp hd
    rw [hres]
    exact trodAll_mk1 (shut_bool hbt true)
  have hvarsT : ∀ sp : Nat → Bool, DataW.TrodVars enc P W' sp s.vars (s.fn H (ds ++ [])).vars [] := by
    intro sp
    rw [hvars, hfn]
    rfl
  have hfull : DataW.Whole enc P f.params.toList s.vars false W args.toList ds [] before := ⟨before, [], hA, by rw [hvars]; rfl, by simp, hz, by simp⟩
  refine ⟨ds, [], before, [], before, [], hfull, by rw [hfn]; exact hresT _ _ _, by rw [hfn]; exact hargs _ (fun x hx => by simpa using hlt x hx), hvarsT _, World.keptBut_mono (fun x hx => ⟨hx, .inr (.inl hx)⟩) (hb.frame (· ∈ before)), fun _ => ?_⟩
  refine ⟨ok_one hres rfl (okWide_bool_mk hbt true), _, _, ([] ++ before) ++ [], ⟨[] ++ before, [], trodAll_append (hargs _ (fun _ _ => rfl)) (hresT _ _ _), hvarsT _, rfl, ?_, by simp⟩, ?_⟩
  · intro b off hp
    have hin : MemPlace.cell b off ∈ before := by simpa using hp
    rw [hb.frozen (hlt _ hin)]
    exact hz b off hin
  · intro x hx _
    simpa using hx
abbrev Outer (w : World) : Ctx := { heap := w.heap, ro := fun b => b < w.heap.size, base := w.heap.size, phi := fun _ => none, live := fun _ => false, loc := false }
/-- A slice of integers that came in. -/
theorem arg_ints {W : World} {t e : TypeId} {v : Value} {d : DataW H} {ps : List MemPlace} (ht : P.underlying t = some (.slice e)) (he : P.underlying e = some (.int .i64)) (hc : P.cellsOf e = 1)
    (hval : Value.okWide P W .any 0 t v) (h : DataW.Trod enc P W 0 (fun _ => true) true t v d ps) : ∃ L : List Int, SimV (ints L) (Outer W) v ∧ L.length ≤ maxLen ∧ ∀ x ∈ L, -9223372036854775808 ≤ x ∧ x ≤ 9223372036854775807 := by
  obtain ⟨a0, len0, cap0, rfl⟩ := okWide_slice ht hval
  obtain ⟨fuel, hf⟩ := h
  rcases open_ints ht he hc hf with ⟨hcs, _⟩ | ⟨a, len, cap, zs, hcs, _, hl, hm, hz, hx, hcell, hwz⟩
  · simp [Value.cells] at hcs
    obtain ⟨rfl, rfl, rfl⟩ := hcs
    refine ⟨[], ?_, by simp, by simp⟩
    simp only [SimV]
    exact .inl ⟨rfl, rfl, none, 0, rfl, by simp⟩
  · simp [Value.cells] at hcs
    obtain ⟨rfl, rfl, rfl⟩ := hcs
    simp only [if_true] at hz
    have hlz : len0 ≤ zs.length := by omega
    refine ⟨zs.take len0, ?_, by simp; omega, fun x hx => ?_⟩
    · simp only [SimV]
      by_cases h0 : len0 = 0
      · subst h0
        exact .inl ⟨rfl, rfl, _, cap0, rfl, by simp⟩
      · have hc0 := hcell 0 (by omega)
        have hspot : a.spot = none ∧ ∃ cur e f, W.heap[a.block]? = some (.cells cur e f) := by
          unfold World.cell? at hc0
          rw [show a.add 0 = a from rfl] at hc0
          split at hc0
          · rename_i c e' f hb
            split at hc0
            · cases hc0
            · rename_i hs
              exact ⟨by simpa using hs, c, e', f, hb⟩
          · cases hc0
        obtain ⟨hs, cur, e', f, hb⟩ := hspot
        obtain ⟨b, o, sp⟩ := a
        simp only at hs hb
        subst hs
        have hlen : (zs.take len0).length = len0 := by simp; omega
        refine .inr ⟨b, o, cap0, cur, e', f, by rw [hlen], hb, lt_of_get hb, by simp, by rw [hlen]; exact hl, by simp, ?_⟩
        refine SimL.of_get fun i x hi => ?_
        rw [List.getElem?_map, Option.map_eq_some_iff] at hi
        obtain ⟨n, hn, rfl⟩ := hi
        rw [List.getElem?_take] at hn
        split at hn
        · rename_i hi0
          have hci := hcell i (by omega)
          rw [addr_add, cell_of_row W b (o + i) cur e' f hb] at hci
          refine ⟨_, by rw [List.getElem?_drop, Array.getElem?_toList]; exact hci, ?_⟩
          simp only [SimV]
          congr 1
          rw [List.getD_eq_getElem?_getD, hn]
          rfl
        · cases hn
    · have := hwz x (List.mem_of_mem_take hx)
      simp [Lit.wf, IntKind.min, IntKind.max, IntKind.signed, IntKind.bits] at this
      exact ⟨by omega, by omega⟩
/-- A string that came in. -/
theorem arg_string {W : World} {t : TypeId} {v : Value} {d : DataW H} {ps : List MemPlace} (ht : P.underlying t = some .string)
    (hval : Value.okWide P W .any 0 t v) (h : DataW.Trod enc P W 0 (fun _ => true) true t v d ps) : ∃ b : ByteArray, SimV (.v (.string b)) (Outer W) v ∧ b.size ≤ maxLen := by
  obtain ⟨b, rfl, _, _, hw⟩ := open_string ht hval h
  exact ⟨b, by simp [SimV], hw⟩
/-- A law says true. -/
theorem law_calls {f : FuncId} {asx : List AV} {W : World} {args : Array Value} (hs : Sp P f asx (.b true)) (he : SimL asx (Outer W) args.toList) (hlen : args.size = asx.length) (hg : GoodW W := by exact goodW_none rfl) :
    Calls P f args W fun e W' => e = .returned (.bool true) ∧ More W W' := by
  refine (hs W args hg ⟨he, by simpa using hlen⟩).mono fun e W' ⟨v, h1, h2, h3⟩ => ?_
  simp only [SimV] at h3
  subst h3
  exact ⟨h1, h2⟩
end Go.Am
namespace Go.Proofs.YtngfogpbljconaaDoor
open Go.ChangeShapes Go.WideShapes Go.ChangeAt Go.RowKit
theorem factMayEnter : Tryd.checked.prog.mayEnter = true := by kernel_rfl
end Go.Proofs.YtngfogpbljconaaDoor
namespace Go.Proofs.YtngfogpbljconaaDoor
open Go.ChangeShapes Go.WideShapes Go.ChangeAt Go.RowKit
theorem factLifts : Tryd.checked.prog.liftsFinal = false := by kernel_rfl
end Go.Proofs.YtngfogpbljconaaDoor
namespace Go.Proofs.YtngfogpbljconaaDoor
open Go.ChangeShapes Go.WideShapes Go.ChangeAt Go.RowKit
theorem factMake : Tryd.checked.prog.make = some (OpenClaim.make { program := "", sum := "", func := "", spec := "" }) := by kernel_rfl
end Go.Proofs.YtngfogpbljconaaDoor
namespace Go.Proofs.YtngfogpbljconaaDoor
open Go.ChangeShapes Go.WideShapes Go.ChangeAt Go.RowKit
theorem door_met (os : Os) (args : Array Value) : laidMetH Tryd.prog Rows.fnBoardsCountedOfAllRow.laid ((World.laidAll Tryd.prog os Rows.fnBoardsCountedOfAllRow.laid).forCall (fun _ _ => 0) ⟨#[], args, []⟩).memory := by
  rw [MakeChecks.laidMetH_plain _ _ _ (by kernel_rfl)]
  exact laidMet_laidAll _ (by kernel_rfl) (by kernel_rfl)
theorem door_shaped (os : Os) (args : Array Value) : World.Shaped Tryd.prog ((World.laidAll Tryd.prog os Rows.fnBoardsCountedOfAllRow.laid).forCall (fun _ _ => 0) ⟨#[], args, []⟩) := World.shaped_of_ZipB (by kernel_rfl) (by kernel_rfl)
end Go.Proofs.YtngfogpbljconaaDoor
