/- The abstract machine, contracts: part 6 of what this claim needs. -/
import Derived.Test.YtbeflnnejofleaaZt5
set_option linter.unusedSectionVars false
namespace Go.Proofs.Ytbeflnnejofleaa
variable [Go.Am.CodeBlk]
open Go.Am
attribute [local irreducible] AW Outs Weak Lends Lend Sp aops atree aop1 Then Round InBlock Done
attribute [local irreducible] SpH SpX DoneH
theorem none_small : ∀ g < 7, 2 ≤ g → 1 ≤ noneN g ∧ noneN g ≤ 300 := by decide +kernel
theorem curExch_spec {v : Value} {L : List UInt8} (hv : Bys v L) (hL : L.length ≤ 1048576) (a : Nat) (ha : a ≤ 800000) (z : Int) :
    SpX Try.prog 54 [.pt pbase 0] (Am.look (curH v a z)) (ι := List Int × Nat × Int) (fun i => i.1.length ≤ 13 ∧ i.2.1 ≤ a + 100) (fun i => .sl nbase 1 0 i.1.length) (fun i => Am.look (curN v i.2.1 i.2.2 i.1)) := by
  have hpb := curH_pb v a z
  have hsta : ∀ i : List Int × Nat × Int, i.1.length ≤ 13 ∧ i.2.1 ≤ a + 100 → Static (Am.look (curH v a z)) (.sl nbase 1 0 i.1.length) (Am.look (curN v i.2.1 i.2.2 i.1)) := fun i _ => curN_static
  refine specX_of Try.func54 rfl cc54 rfl hpb hsta ?_
  unfold ac54
  clear hpb hsta
  repeat (first | (refine step_ops ?_; (first | (refine m_mov (by conv => lhs; whnf) ?_) | (refine m_nils ?_))) | refine end_ops ?_ | refine seq_ops ?_ | refine AW_seq ?_)
  refine step_ops ?_
  refine m_cur (curOne_spec hv hL a (by omega) z 12 (by omega)) rfl (lendH_cons (lend_cur rfl) (lendH_cons lendH_v lendH_nil)) ⟨(true, a, z), show a ≤ a + 2 by omega⟩ ?_
  rintro ⟨b, a1, z1⟩ ha1
  dsimp only at ha1 ⊢
  cases b with
  | true =>
    repeat (first | (refine step_ops ?_; (refine m_bsl1 rfl rfl ?_)) | refine end_ops ?_ | refine seq_ops ?_ | (refine cond_t rfl ?_ ?_; (· rfl)))
    refine step_ops ?_
    refine m_bsl (fl := true) (out := [0, 0].map AV.i) (afill_ints _ [0, 0] []) ?_
    repeat (refine step_ops ?_; (refine m_bsl1 rfl rfl ?_))
    refine step_ops ?_
    refine m_bsl (fl := true) (out := [0, 2].map AV.i) (afill_ints _ [0, 2] []) ?_
    refine step_ops ?_
    refine m_bsl (fl := true) (out := [0, 1, 2, 3, 4, 5, 6, 7, 8, 9, 10, 11, 12].map AV.i) (afill_ints _ [0, 1, 2, 3, 4, 5, 6, 7, 8, 9, 10, 11, 12] []) ?_
    refine step_ops ?_
    refine m_bsl (fl := true) (out := [1, 2, 3, 4, 5, 6, 7, 8, 9, 10, 11, 0].map AV.i) (afill_ints _ [1, 2, 3, 4, 5, 6, 7, 8, 9, 10, 11, 0] []) ?_
    refine step_ops ?_
    refine m_bsl (fl := false) (out := [.v (.slice none 0 0), .sl 6 1 0 1, .sl 7 1 0 2, .sl 8 1 0 1, .sl 9 1 0 2, .sl 10 1 0 13, .sl 11 1 0 12]) (by (iterate 7 (refine Or.inl ⟨rfl, by simp, rfl, ?_⟩)); rfl) ?_
    refine step_opsW (weak_st (l := [(0, .pt pbase 0), (12, .sl 12 1 0 7)]) (h := [(pbase, (true, curC v a1 z1)), (6, (true, [1].map AV.i)), (7, (true, [0, 0].map AV.i)), (8, (true, [-1].map AV.i)), (9, (true, [0, 2].map AV.i)), (10, (true, [0, 1, 2, 3, 4, 5, 6, 7, 8, 9, 10, 11, 12].map AV.i)), (11, (true, [1, 2, 3, 4, 5, 6, 7, 8, 9, 10, 11, 0].map AV.i)), (12, (false, [.v (.slice none 0 0), .sl 6 1 0 1, .sl 7 1 0 2, .sl 8 1 0 1, .sl 9 1 0 2, .sl 10 1 0 13, .sl 11 1 0 12]))]) ?_ ?_ rfl rfl) ?_
    · (repeat' (first | exact trivial | refine And.intro ?_ ?_)) <;> (first | rfl | skip)
    · (repeat' (first | exact trivial | refine And.intro ?_ ?_)) <;> (first | rfl | skip)
    refine m_mov rfl ?_
    refine step_ops ?_
    refine m_cur (curPick_spec hv hL a1 (by omega) z1 7 (by omega)) (r := pbase) rfl (lendH_cons (lend_cur rfl) (lendH_cons lendH_v lendH_nil)) ⟨(0, a1, z1), show 0 < max 7 1 by omega, show a1 ≤ a1 + 2 by omega⟩ ?_
    rintro ⟨k, a2, z2⟩ ⟨hk, ha2⟩
    dsimp only at hk ha2 ⊢
    have hk7 : k < 7 := by omega
    match k, hk7 with
    | 0, _ =>
      refine step_ops ?_
      refine m_idx1_sl (j := 0) rfl rfl (by omega) ?_
      refine step_ops ?_
      refine m_ld_pt rfl rfl rfl ?_
      refine step_opsW (weak_nilslot 16 5000 1 true rfl rfl (by decide)) ?_
      refine m_mov rfl ?_
      repeat (first | refine end_ops ?_ | refine AW_ret ?_ | refine ret_then ?_)
      exact doneL (q := 5000) (M := []) ⟨Nat.le_of_ble_eq_true rfl, show a2 ≤ a + 100 by omega⟩ rfl rfl rfl rfl (by decide)
    | 1, _ =>
      repeat (first | (refine step_ops ?_; (first | (refine m_mov (by conv => lhs; whnf) ?_) | (refine m_idx1_sl rfl rfl ?_ ?_; (· omega)) | (apply m_ld_pt; (· rfl); (· rfl); (· rfl)))) | refine end_ops ?_ | refine AW_ret ?_ | refine ret_then ?_)
      exact doneL (M := [1]) ⟨Nat.le_of_ble_eq_true rfl, show a2 ≤ a + 100 by omega⟩ rfl rfl rfl rfl (by decide)
    | 2, _ =>
      repeat (first | (refine step_ops ?_; (first | (refine m_mov (by conv => lhs; whnf) ?_) | (refine m_idx1_sl rfl rfl ?_ ?_; (· omega)) | (apply m_ld_pt; (· rfl); (· rfl); (· rfl)))) | refine end_ops ?_ | refine AW_ret ?_ | refine ret_then ?_)
      exact doneL (M := [0, 0]) ⟨Nat.le_of_ble_eq_true rfl, show a2 ≤ a + 100 by omega⟩ rfl rfl rfl rfl (by decide)
    | 3, _ =>
      repeat (first | (refine step_ops ?_; (first | (refine m_mov (by conv => lhs; whnf) ?_) | (refine m_idx1_sl rfl rfl ?_ ?_; (· omega)) | (apply m_ld_pt; (· rfl); (· rfl); (· rfl)))) | refine end_ops ?_ | refine AW_ret ?_ | refine ret_then ?_)
      exact doneL (M := [-1]) ⟨Nat.le_of_ble_eq_true rfl, show a2 ≤ a + 100 by omega⟩ rfl rfl rfl rfl (by decide)
    | 4, _ =>
      repeat (first | (refine step_ops ?_; (first | (refine m_mov (by conv => lhs; whnf) ?_) | (refine m_idx1_sl rfl rfl ?_ ?_; (· omega)) | (apply m_ld_pt; (· rfl); (· rfl); (· rfl)))) | refine end_ops ?_ | refine AW_ret ?_ | refine ret_then ?_)
      exact doneL (M := [0, 2]) ⟨Nat.le_of_ble_eq_true rfl, show a2 ≤ a + 100 by omega⟩ rfl rfl rfl rfl (by decide)
    | 5, _ =>
      repeat (first | (refine step_ops ?_; (first | (refine m_mov (by conv => lhs; whnf) ?_) | (refine m_idx1_sl rfl rfl ?_ ?_; (· omega)) | (apply m_ld_pt; (· rfl); (· rfl); (· rfl)))) | refine end_ops ?_ | refine AW_ret ?_ | refine ret_then ?_)
      exact doneL (M := [0, 1, 2, 3, 4, 5, 6, 7, 8, 9, 10, 11, 12]) ⟨Nat.le_of_ble_eq_true rfl, show a2 ≤ a + 100 by omega⟩ rfl rfl rfl rfl (by decide)
    | 6, _ =>
      repeat (first | (refine step_ops ?_; (first | (refine m_mov (by conv => lhs; whnf) ?_) | (refine m_idx1_sl rfl rfl ?_ ?_; (· omega)) | (apply m_ld_pt; (· rfl); (· rfl); (· rfl)))) | refine end_ops ?_ | refine AW_ret ?_ | refine ret_then ?_)
      exact doneL (M := [1, 2, 3, 4, 5, 6, 7, 8, 9, 10, 11, 0]) ⟨Nat.le_of_ble_eq_true rfl, show a2 ≤ a + 100 by omega⟩ rfl rfl rfl rfl (by decide)
  | false =>
    repeat (first | (refine step_ops ?_; (refine m_mov (by conv => lhs; whnf) ?_)) | refine end_ops ?_ | refine seq_ops ?_ | (refine cond_f rfl ?_ ?_; (· rfl)) | refine skip_then ?_ | refine AW_seq ?_)
    refine step_ops ?_
    refine m_cur (curOne_spec hv hL a1 (by omega) z1 4 (by omega)) rfl (lendH_cons (lend_cur rfl) (lendH_cons lendH_v lendH_nil)) ⟨(true, a1, z1), show a1 ≤ a1 + 2 by omega⟩ ?_
    rintro ⟨b, a2, z2⟩ ha2
    dsimp only at ha2 ⊢
    cases b with
    | true =>
      repeat (first | (refine step_ops ?_; (refine m_mov (by conv => lhs; whnf) ?_)) | refine end_ops ?_ | refine seq_ops ?_ | (refine cond_t rfl ?_ ?_; (· rfl)))
      refine step_ops ?_
      refine m_cur (curPick_spec hv hL a2 (by omega) z2 5 (by omega)) rfl (lendH_cons (lend_cur rfl) (lendH_cons lendH_v lendH_nil)) ⟨(0, a2, z2), show 0 < max 5 1 by omega, show a2 ≤ a2 + 2 by omega⟩ ?_
      rintro ⟨k, a3, z3⟩ ⟨hk, ha3⟩
      dsimp only at hk ha3 ⊢
      obtain ⟨hN1, hN2⟩ := none_small (k + 2) (by omega) (by omega)
      have he := exNone_spec (k + 2) (by omega)
      rw [show (((k + 2 : Nat) : Nat) : Int) = 2 + (k : Int) by omega] at he
      obtain ⟨w, hw⟩ := Int.eq_ofNat_of_zero_le (show 0 ≤ noneN (k + 2) by omega)
      rw [hw] at he hN1 hN2
      repeat (first | (refine step_ops ?_; (first | (refine m_mov (by conv => lhs; whnf) ?_) | (refine m_add rfl rfl ?_ ?_ ?_; (· omega); (· omega)))) | refine end_ops ?_ | refine seq_ops ?_)
      (refine step_ops ?_); (apply m_call (he)); (· repeat (first | exact lends_nil | (refine lends_cons ?_ ?_; (· exact lend_v))))
      skip
      refine step_ops ?_
      refine m_cur (curPick_spec hv hL a3 (by omega) z3 w (by omega)) rfl (lendH_cons (lend_cur rfl) (lendH_cons lendH_v lendH_nil)) ⟨(0, a3, z3), show 0 < max w 1 by omega, show a3 ≤ a3 + 2 by omega⟩ ?_
      rintro ⟨r, a4, z4⟩ ⟨hr, ha4⟩
      dsimp only at hr ha4 ⊢
      have hx := exRanked_spec (k + 2) (by omega) (r : Int) (by omega) (by rw [hw]; omega)
      rw [show (((k + 2 : Nat) : Nat) : Int) = 2 + (k : Int) by omega] at hx
      have hlen := rankG_len (k + 2) (by omega) (r : Int) (by omega) (by rw [hw]; omega)
      refine step_ops ?_
      refine m_callo hx (lends_cons lend_v (lends_cons lend_v lends_nil)) (allv_ints _) ?_
      repeat (first | (refine step_ops ?_; (refine m_mov (by conv => lhs; whnf) ?_)) | refine end_ops ?_ | refine AW_ret ?_ | refine ret_then ?_)
      exact doneL (M := rankG (k + 2) (r : Int)) ⟨show (rankG (k + 2) (r : Int)).length ≤ 13 by omega, show a4 ≤ a + 100 by omega⟩ rfl rfl rfl rfl (by decide)
    | false =>
      repeat (first | (refine step_ops ?_; (refine m_mov (by conv => lhs; whnf) ?_)) | refine end_ops ?_ | refine seq_ops ?_ | (refine cond_f rfl ?_ ?_; (· rfl)) | refine skip_then ?_)
      refine step_ops ?_
      refine m_curL (q := 1000) (curSure_spec hv hL a2 (by omega) z2 7 (by omega)) rfl rfl (by decide) (lendH_cons (lend_curN rfl) (lendH_cons lendH_v lendH_nil)) ⟨([], a2, z2), by simp, show a2 ≤ a2 + 40 by omega⟩ ?_
      rintro ⟨M, a3, z3⟩ ⟨hM, ha3⟩
      dsimp only at hM ha3 ⊢
      repeat (first | (refine step_ops ?_; (refine m_mov (by conv => lhs; whnf) ?_)) | refine end_ops ?_ | refine AW_ret ?_)
      exact doneL (M := M) ⟨show M.length ≤ 13 by omega, show a3 ≤ a + 100 by omega⟩ rfl rfl rfl rfl (by decide)
end Go.Proofs.Ytbeflnnejofleaa
namespace Go.Am
variable [Go.Am.CodeBlk]
theorem g_unc {P : Program} {own : Bool} {s : AS} {K : AS → Prop} {d : Option Nat} {op : AOp} {t : Nat} {w : Bool} (h : s.tm t = .v undef) (k : K (s.put d (.v undef))) : aop1 P own ⟨d, op, some (t, w)⟩ s K := .inr ⟨h, k⟩
end Go.Am
namespace Go.Proofs.Ytbeflnnejofleaa
variable [Go.Am.CodeBlk]
open Go.Am
attribute [local irreducible] AW Outs Weak Lends Lend Sp aops atree aop1 Then Round InBlock Done
attribute [local irreducible] SpH SpX DoneH
theorem big_spec {c m : Value} {C M : List UInt8} (hc : Bys c C) (hm : Bys m M) (hC : C.length ≤ 9223372036854775807) (hM : M.length ≤ 9223372036854775807) : Sp Try.prog 5 [.v c, .v m] (.b (decide (1048576 < C.length + M.length))) := by
  refine spec_of Try.func5 rfl cc5 rfl ?_
  unfold ac5
  by_cases h1 : ((C.length : Nat) : Int) > 1048576
  · have h2 : 1048576 < C.length + M.length := by omega
    repeat (first | (refine step_ops ?_; (refine m_mov (by conv => lhs; whnf) ?_)) | refine end_ops ?_ | refine seq_ops ?_)
    refine step_ops ?_
    refine m_len_bys rfl hc ?_
    repeat (first | ((first | (refine step_ops ?_; (first | (first | (refine m_mov (by conv => lhs; whnf) ?_) | (refine m_gtr rfl rfl ?_) | (refine m_pick_t rfl ?_ (by conv => lhs; whnf) ?_; (· (refine decide_eq_true ?_; assumption)))) | (refine g_noF rfl ?_ ?_; (· (refine decide_eq_true ?_; assumption))))) | refine end_ops ?_ | refine AW_ret ?_ | refine ret_done ?_)) | (refine step_ops ?_; refine g_unc rfl ?_))
    exact outs_b (decide_eq_true h2).symm
  · have h0 : decide ((1048576 : Int) < (C.length : Nat)) = false := decide_eq_false (by omega)
    by_cases h3 : ((M.length : Nat) : Int) > 1048576 - C.length
    · have h2 : 1048576 < C.length + M.length := by omega
      repeat (first | (refine step_ops ?_; (refine m_mov (by conv => lhs; whnf) ?_)) | refine end_ops ?_ | refine seq_ops ?_)
      refine step_ops ?_
      refine m_len_bys rfl hc ?_
      repeat (refine step_ops ?_; ((try (refine g_yes rfl ?_ ?_; (· assumption))); (first | (refine m_mov (by conv => lhs; whnf) ?_) | (refine m_gtr rfl rfl ?_))))
      refine step_ops ?_
      refine g_yes rfl h0 ?_
      refine m_len_bys rfl hm ?_
      repeat (refine step_ops ?_; ((try (refine g_yes rfl ?_ ?_; (· assumption))); (refine m_mov (by conv => lhs; whnf) ?_)))
      refine step_ops ?_
      refine g_yes rfl h0 ?_
      refine m_len_bys rfl hc ?_
      repeat (first | (refine step_ops ?_; ((try (refine g_yes rfl ?_ ?_; (· assumption))); (first | (refine m_mov (by conv => lhs; whnf) ?_) | (refine m_gtr rfl rfl ?_) | (refine m_sub rfl rfl ?_ ?_ ?_; (· omega); (· omega)) | (refine m_pick_f rfl ?_ (by conv => lhs; whnf) ?_; (· assumption))))) | refine end_ops ?_ | refine AW_ret ?_ | refine ret_done ?_)
      exact outs_b (decide_eq_decide.2 ⟨fun _ => h2, fun _ => by omega⟩)
    · have h2 : ¬ 1048576 < C.length + M.length := by omega
      repeat (first | (refine step_ops ?_; (refine m_mov (by conv => lhs; whnf) ?_)) | refine end_ops ?_ | refine seq_ops ?_)
      refine step_ops ?_
      refine m_len_bys rfl hc ?_
      repeat (refine step_ops ?_; ((try (refine g_yes rfl ?_ ?_; (· assumption))); (first | (refine m_mov (by conv => lhs; whnf) ?_) | (refine m_gtr rfl rfl ?_))))
      refine step_ops ?_
      refine g_yes rfl h0 ?_
      refine m_len_bys rfl hm ?_
      repeat (refine step_ops ?_; ((try (refine g_yes rfl ?_ ?_; (· assumption))); (refine m_mov (by conv => lhs; whnf) ?_)))
      refine step_ops ?_
      refine g_yes rfl h0 ?_
      refine m_len_bys rfl hc ?_
      repeat (first | (refine step_ops ?_; ((try (refine g_yes rfl ?_ ?_; (· assumption))); (first | (refine m_mov (by conv => lhs; whnf) ?_) | (refine m_gtr rfl rfl ?_) | (refine m_sub rfl rfl ?_ ?_ ?_; (· omega); (· omega)) | (refine m_pick_f rfl ?_ (by conv => lhs; whnf) ?_; (· assumption))))) | refine end_ops ?_ | refine AW_ret ?_ | refine ret_done ?_)
      exact outs_b (decide_eq_decide.2 ⟨fun _ => by omega, fun hh => absurd hh h2⟩)
end Go.Proofs.Ytbeflnnejofleaa
namespace Go.Proofs.Ytbeflnnejofleaa
variable [Go.Am.CodeBlk]
open Go.Am
attribute [local irreducible] AW Outs Weak Lends Lend Sp aops atree aop1 Then Round InBlock Done
attribute [local irreducible] SpH SpX DoneH DoneX
theorem l1Most_spec (a b : Int) : Sp Try.prog 50 [.i a, .i b] (.i (if a > b then a else b)) := by
  refine spec_of Try.func50 rfl cc50 rfl ?_
  unfold ac50
  by_cases h : a > b
  · rw [if_pos h]
    repeat (first | (refine step_ops ?_; (first | (refine m_mov (by conv => lhs; whnf) ?_) | (refine m_gtr rfl rfl ?_))) | refine end_ops ?_ | refine seq_ops ?_ | (refine cond_t rfl ?_ ?_; (· (refine decide_eq_true ?_; assumption))) | refine AW_seq ?_ | refine AW_ret ?_ | refine ret_done ?_ | refine ret_then ?_)
    exact outs_i rfl
  · rw [if_neg h]
    repeat (first | (refine step_ops ?_; (first | (refine m_mov (by conv => lhs; whnf) ?_) | (refine m_gtr rfl rfl ?_))) | refine end_ops ?_ | refine seq_ops ?_ | (refine cond_f rfl ?_ ?_; (· (refine decide_eq_false ?_; assumption))) | refine skip_then ?_ | refine AW_seq ?_ | refine AW_ret ?_ | refine ret_done ?_)
    exact outs_i rfl
/-- An exchange of so many guests by a number: the guests put in, one after the other. -/
def ordS (N : Nat) : Nat → List Int × Nat
  | 0 => ([], N)
  | i + 1 => ((ordS N i).1.take ((ordS N i).2 % (i + 1)) ++ [(i : Int)] ++ (ordS N i).1.drop ((ordS N i).2 % (i + 1)), (ordS N i).2 / (i + 1))
theorem ordS_len (N : Nat) : ∀ i, (ordS N i).1.length = i ∧ (ordS N i).2 ≤ N
  | 0 => ⟨rfl, Nat.le_refl _⟩
  | i + 1 => by
    obtain ⟨h1, h2⟩ := ordS_len N i
    have := Nat.mod_lt (ordS N i).2 (show 0 < i + 1 by omega)
    have h3 := Nat.div_le_self (ordS N i).2 (i + 1)
    refine ⟨?_, by simp only [ordS]; omega⟩
    simp only [ordS, List.length_append, List.length_take, List.length_drop, List.length_singleton]
    omega
theorem giOrder_spec (n N : Nat) (hn : n ≤ 1000) (hN : N ≤ 1000) : Sp Try.prog 53 [.i (n : Nat), .i (N : Nat)] (newInts (ordS N n).1) := by
  refine spec_of Try.func53 rfl cc53 rfl ?_
  unfold ac53
  repeat (first | (refine step_ops ?_; (first | (refine m_mov (by conv => lhs; whnf) ?_) | (refine m_nils ?_))) | refine end_ops ?_ | refine seq_ops ?_ | refine AW_seq ?_ | refine AW_block ?_)
  refine AW_loop (α := Nat) (fun i => i ≤ n) (fun i => st [(0, .i (n : Nat)), (1, .i ((ordS N i).2 : Nat)), (5, .sl 5 1 0 (ordS N i).1.length), (6, .i (i : Nat))] [(5, (true, (ordS N i).1.map AV.i))]) (fun i => n - i) 0 (Nat.zero_le _) (weak_st ?_ ?_ rfl rfl) ?_
  · (repeat' (first | exact trivial | refine And.intro ?_ ?_)) <;> (first | rfl | skip)
  · (repeat' (first | exact trivial | refine And.intro ?_ ?_)) <;> (first | rfl | skip)
  intro i hi
  obtain ⟨h1, h2⟩ := ordS_len N i
  by_cases hc : i < n
  · have e1 : (ordS N (i + 1)).1 = (ordS N i).1.take ((ordS N i).2 % (i + 1)) ++ [(i : Int)] ++ (ordS N i).1.drop ((ordS N i).2 % (i + 1)) := rfl
    have e2 : (ordS N (i + 1)).2 = (ordS N i).2 / (i + 1) := rfl
    generalize ordS N i = q at *
    obtain ⟨M, m⟩ := q
    dsimp only at h1 h2 e1 e2 ⊢
    subst h1
    have hk := Nat.mod_lt m (show 0 < M.length + 1 by omega)
    have em : ((m : Nat) : Int) % ((M.length : Int) + 1) = ((m % (M.length + 1) : Nat) : Int) := by rw [Int.natCast_emod]; rfl
    have ed : ((m : Nat) : Int) / ((M.length : Int) + 1) = ((m / (M.length + 1) : Nat) : Int) := by rw [Int.natCast_ediv]; rfl
    generalize m % (M.length + 1) = k at *
    generalize m / (M.length + 1) = u at *
    repeat (first | (refine step_ops ?_; (first | (refine m_mov (by conv => lhs; whnf) ?_) | (refine m_lss rfl rfl ?_) | (refine m_add rfl rfl ?_ ?_ ?_; (· omega); (· omega)) | (refine m_len_sl rfl ?_) | (refine m_quo rfl rfl ?_ ?_ ?_ ?_; (· omega); (· omega); (· omega)) | (refine m_rem rfl rfl ?_ ?_ ?_; (· omega); (· omega)))) | refine end_ops ?_ | refine seq_ops ?_ | (refine cond_t rfl ?_ ?_; (· (refine decide_eq_true ?_; omega))) | refine skip_then ?_ | refine AW_seq ?_ | refine AW_block ?_)
    rw [em, ed]
    have hkM : k ≤ M.length := by omega
    have ht : (M.take k).length = k := by rw [List.length_take]; omega
    refine step_ops ?_
    refine m_cut_sl (l := 0) (h := k) rfl rfl ⟨_, rfl⟩ (Nat.zero_le _) hkM ?_
    refine step_ops ?_
    refine m_callo (l1Own_spec (M.take k) (by omega)) (lends_cons (lend_cutS rfl hkM) lends_nil) (allv_ints _) ?_
    repeat (first | (refine step_ops ?_; (first | (refine m_mov (by conv => lhs; whnf) ?_) | (refine m_bsl1 rfl rfl ?_) | (refine m_app1i rfl (by decide) (by rfl) (by first | rfl | omega | (simp; done)) rfl rfl ?_ (by decide) ?_; (· first | omega | (simp; omega))))) | refine end_ops ?_ | refine AW_ops ?_)
    refine step_ops ?_
    refine m_cut_sl (l := k) (h := M.length) rfl ⟨_, rfl⟩ rfl hkM (Nat.le_refl _) ?_
    refine step_ops ?_
    refine m_app (fl := true) (cs := (M.take k ++ [(M.length : Int)]).map AV.i) (m := M.length - k) rfl (by decide) rfl (by simp) (Elems.sl 5 (0 + k * 1) (M.length - k) true (M.map AV.i) rfl (by simp; omega)) (elems_ok M _ _) (show _ ≤ maxLen by unfold maxLen; simp; omega) (by simp; omega) ?_
    repeat (first | (refine step_ops ?_; (first | (refine m_mov (by conv => lhs; whnf) ?_) | (refine m_add rfl rfl ?_ ?_ ?_; (· omega); (· omega)))) | refine end_ops ?_ | refine AW_ops ?_ | refine norm_then ?_ | refine norm_block ?_)
    refine next_round (M.length + 1) (by omega) (Weak.trans (weak_move (r := 35) (q := 5) rfl (by decide) (by decide)) (weak_st ?_ ?_ rfl rfl)) (by omega)
    · rw [e1, e2]
      have e3 : (M.take k ++ [(M.length : Int)] ++ M.drop k).length = M.length + 1 := by simp; omega
      have e4 : (M.take k ++ [(M.length : Int)]).length + (M.length - k) = M.length + 1 := by simp; omega
      rw [e3]
      refine ⟨rfl, rfl, ?_, rfl, trivial⟩
      show AV.sl 5 1 0 ((M.take k ++ [(M.length : Int)]).length + (M.length - k)) = AV.sl 5 1 0 (M.length + 1)
      rw [e4]
    · rw [e1]
      refine ⟨?_, trivial⟩
      show some (true, (M.take k ++ [(M.length : Int)]).map AV.i ++ ((M.map AV.i).drop (0 + k * 1)).take ((M.length - k) * 1)) = some (true, (M.take k ++ [(M.length : Int)] ++ M.drop k).map AV.i)
      have e3 : ((M.map AV.i).drop k).take (M.length - k) = (M.drop k).map AV.i := by rw [← List.map_drop]; exact List.take_of_length_le (by rw [List.length_map, List.length_drop]; omega)
      rw [Nat.zero_add, Nat.mul_one, Nat.mul_one, e3, ← List.map_append]
  · repeat (first | (refine step_ops ?_; (first | (refine m_mov (by conv => lhs; whnf) ?_) | (refine m_lss rfl rfl ?_))) | refine end_ops ?_ | refine seq_ops ?_ | (refine cond_f rfl ?_ ?_; (· (refine decide_eq_false ?_; omega))) | refine AW_seq ?_ | refine AW_ret ?_ | refine ret_done ?_ | refine norm_then ?_ | refine exit_then ?_ | refine exit_round ?_ | refine AW_exit ?_ | refine exit_block ?_)
    obtain rfl : i = n := by omega
    exact outs_ints rfl rfl rfl
/-- Random families of few guests, asx a list: how long it is, is told. -/
theorem curSureF_spec {v : Value} {L : List UInt8} (hv : Bys v L) (hL : L.length ≤ 1048576) (a : Nat) (ha : a ≤ 900000) (z : Int) (n : Nat) (hn : n ≤ 8) :
    SpX Try.prog 64 [.pt pbase 0, .i (n : Nat)] (Am.look (curH v a z)) (ι := List Int × Nat × Int) (fun i => i.1.length ≤ 10 ∧ i.2.1 ≤ a + 50) (fun i => .sl nbase 1 0 i.1.length) (fun i => Am.look (curN v i.2.1 i.2.2 i.1)) := by
  have hpb := curH_pb v a z
  have hsta : ∀ i : List Int × Nat × Int, i.1.length ≤ 10 ∧ i.2.1 ≤ a + 50 → Static (Am.look (curH v a z)) (.sl nbase 1 0 i.1.length) (Am.look (curN v i.2.1 i.2.2 i.1)) := fun i _ => curN_static
  refine specX_of Try.func64 rfl cc64 rfl hpb hsta ?_
  unfold ac64
  clear hpb hsta
  repeat (first | (refine step_ops ?_; (first | (refine m_mov (by conv => lhs; whnf) ?_) | (refine m_nils ?_))) | refine end_ops ?_ | refine seq_ops ?_ | refine AW_seq ?_)
  refine step_ops ?_
  refine m_cur (curPick_spec hv hL a (by omega) z n (by omega)) rfl (lendH_cons (lend_cur rfl) (lendH_cons lendH_v lendH_nil)) ⟨(0, a, z), show 0 < max n 1 by omega, show a ≤ a + 2 by omega⟩ ?_
  rintro ⟨m, a1, z1⟩ ⟨hm, ha1⟩
  dsimp only at hm ha1 ⊢
  repeat (first | (refine step_ops ?_; (first | (refine m_mov (by conv => lhs; whnf) ?_) | (refine m_add rfl rfl ?_ ?_ ?_; (· omega); (· omega)))) | refine end_ops ?_ | refine AW_block ?_)
  refine AW_loop (α := List Int × Nat × Int) (fun q => q.1.length ≤ m + 1 ∧ q.2.1 ≤ a + 2 + 4 * q.1.length) (fun q => st [(0, .pt pbase 0), (5, .sl 5 1 0 q.1.length), (6, .i (1 + (m : Int) - q.1.length))] [(pbase, (true, curC v q.2.1 q.2.2)), (5, (true, q.1.map AV.i))]) (fun q => m + 1 - q.1.length) ([], a1, z1) ⟨by simp, by simp; omega⟩ (weak_st ?_ ?_ rfl rfl) ?_
  · show _ ∧ _ ∧ _ ∧ True
    refine ⟨rfl, rfl, ?_, trivial⟩
    show AV.i _ = AV.i (1 + (m : Int) - ((0 : Nat) : Int))
    exact congrArg AV.i (by omega)
  · (repeat' (first | exact trivial | refine And.intro ?_ ?_)) <;> (first | rfl | skip)
  rintro ⟨M, a2, z2⟩ ⟨hM, ha2⟩
  dsimp only at hM ha2 ⊢
  by_cases hc : M.length < m + 1
  · repeat (first | (refine step_ops ?_; (first | (refine m_mov (by conv => lhs; whnf) ?_) | (refine m_gtr rfl rfl ?_))) | refine end_ops ?_ | refine seq_ops ?_ | refine AW_ops ?_ | (refine cond_t rfl ?_ ?_; (· (refine decide_eq_true ?_; omega))) | refine skip_then ?_ | refine AW_seq ?_ | refine AW_block ?_)
    refine step_ops ?_
    refine m_cur (curPick_spec hv hL a2 (by omega) z2 6 (by omega)) rfl (lendH_cons (lend_cur rfl) (lendH_cons lendH_v lendH_nil)) ⟨(0, a2, z2), show 0 < max 6 1 by omega, show a2 ≤ a2 + 2 by omega⟩ ?_
    rintro ⟨k, a3, z3⟩ ⟨hk, ha3⟩
    dsimp only at hk ha3 ⊢
    repeat (refine step_ops ?_; (refine m_add rfl rfl ?_ ?_ ?_; (· omega); (· omega)))
    refine step_ops ?_
    refine m_cur (curPick_spec hv hL a3 (by omega) z3 (1 + k) (by omega)) rfl (lendH_cons (lend_cur rfl) (lendH_cons (by rw [show (((1 + k : Nat) : Nat) : Int) = 1 + (k : Int) by omega]; exact lendH_v) lendH_nil)) ⟨(0, a3, z3), show 0 < max (1 + k) 1 by omega, show a3 ≤ a3 + 2 by omega⟩ ?_
    rintro ⟨x, a4, z4⟩ ⟨hx, ha4⟩
    dsimp only at hx ha4 ⊢
    repeat (first | (refine step_ops ?_; (first | (refine m_mov (by conv => lhs; whnf) ?_) | (refine m_sub rfl rfl ?_ ?_ ?_; (· omega); (· omega)) | (refine m_bsl1 rfl rfl ?_) | (refine m_app1i rfl (by decide) (by rfl) (by first | rfl | omega | (simp; done)) rfl rfl ?_ (by decide) ?_; (· first | omega | (simp; omega))))) | refine end_ops ?_ | refine AW_ops ?_ | refine norm_then ?_ | refine norm_block ?_)
    refine next_round (M ++ [(x : Int)], a4, z4) ⟨by simp; omega, by simp; omega⟩ (Weak.trans (weak_move (r := 22) (q := 5) rfl (by decide) (by decide)) (weak_st ?_ ?_ rfl rfl)) (by simp; omega)
    · refine ⟨rfl, rfl, ?_, trivial⟩
      show AV.i (1 + (m : Int) - M.length - 1) = AV.i (1 + (m : Int) - ((M ++ [(x : Int)]).length : Nat))
      exact congrArg AV.i (by rw [List.length_append]; simp; omega)
    · exact ⟨rfl, rfl, trivial⟩
  · repeat (first | (refine step_ops ?_; (first | (refine m_mov (by conv => lhs; whnf) ?_) | (refine m_gtr rfl rfl ?_))) | refine end_ops ?_ | refine seq_ops ?_ | (refine cond_f rfl ?_ ?_; (· (refine decide_eq_false ?_; omega))) | refine AW_seq ?_ | refine norm_then ?_ | refine exit_then ?_ | refine exit_round ?_ | refine AW_exit ?_ | refine exit_block ?_)
    refine step_ops ?_
    refine m_callo (giAnew_spec M (by omega)) (lends_cons (lend_sli rfl rfl) lends_nil) (allv_ints _) ?_
    repeat (first | (refine step_ops ?_; (refine m_mov (by conv => lhs; whnf) ?_)) | refine end_ops ?_ | refine AW_ret ?_)
    have hl := anew_len M
    exact doneL (M := anew M) ⟨show (anew M).length ≤ 10 by omega, show a2 ≤ a + 50 by omega⟩ rfl rfl rfl rfl (by decide)
theorem curFams_spec {v : Value} {L : List UInt8} (hv : Bys v L) (hL : L.length ≤ 1048576) (a : Nat) (ha : a ≤ 800000) (z : Int) :
    SpX Try.prog 46 [.pt pbase 0] (Am.look (curH v a z)) (ι := List Int × Nat × Int) (fun i => i.1.length ≤ 10 ∧ i.2.1 ≤ a + 60) (fun i => .sl nbase 1 0 i.1.length) (fun i => Am.look (curN v i.2.1 i.2.2 i.1)) := by
  have hpb := curH_pb v a z
  have hsta : ∀ i : List Int × Nat × Int, i.1.length ≤ 10 ∧ i.2.1 ≤ a + 60 → Static (Am.look (curH v a z)) (.sl nbase 1 0 i.1.length) (Am.look (curN v i.2.1 i.2.2 i.1)) := fun i _ => curN_static
  refine specX_of Try.func46 rfl cc46 rfl hpb hsta ?_
  unfold ac46
  clear hpb hsta
  repeat (first | (refine step_ops ?_; (first | (refine m_mov (by conv => lhs; whnf) ?_) | (refine m_nils ?_))) | refine end_ops ?_ | refine seq_ops ?_ | refine AW_seq ?_)
  refine step_ops ?_
  refine m_cur (curOne_spec hv hL a (by omega) z 12 (by omega)) rfl (lendH_cons (lend_cur rfl) (lendH_cons lendH_v lendH_nil)) ⟨(true, a, z), show a ≤ a + 2 by omega⟩ ?_
  rintro ⟨b, a1, z1⟩ ha1
  dsimp only at ha1 ⊢
  cases b with
  | true =>
    repeat (first | (refine step_ops ?_; (refine m_bsl1 rfl rfl ?_)) | refine end_ops ?_ | refine seq_ops ?_ | (refine cond_t rfl ?_ ?_; (· rfl)))
    refine step_ops ?_
    refine m_bsl (fl := true) (out := [0, 2].map AV.i) (afill_ints _ [0, 2] []) ?_
    repeat (refine step_ops ?_; (refine m_bsl1 rfl rfl ?_))
    refine step_ops ?_
    refine m_bsl (fl := true) (out := [0, 0, 0, 0, 0, 0, 0, 0, 0, 0].map AV.i) (afill_ints _ [0, 0, 0, 0, 0, 0, 0, 0, 0, 0] []) ?_
    refine step_ops ?_
    refine m_bsl (fl := true) (out := [0, 1, 2, 3, 4, 5, 6, 7, 8].map AV.i) (afill_ints _ [0, 1, 2, 3, 4, 5, 6, 7, 8] []) ?_
    refine step_ops ?_
    refine m_bsl (fl := true) (out := [0, 4611686018427387904].map AV.i) (afill_ints _ [0, 4611686018427387904] []) ?_
    refine step_ops ?_
    refine m_bsl (fl := false) (out := [.v (.slice none 0 0), .sl 5 1 0 1, .sl 6 1 0 2, .sl 7 1 0 1, .sl 8 1 0 10, .sl 9 1 0 9, .sl 10 1 0 2]) (by (iterate 7 (refine Or.inl ⟨rfl, by simp, rfl, ?_⟩)); rfl) ?_
    refine step_opsW (weak_st (l := [(0, .pt pbase 0), (11, .sl 11 1 0 7)]) (h := [(pbase, (true, curC v a1 z1)), (5, (true, [1].map AV.i)), (6, (true, [0, 2].map AV.i)), (7, (true, [-1].map AV.i)), (8, (true, [0, 0, 0, 0, 0, 0, 0, 0, 0, 0].map AV.i)), (9, (true, [0, 1, 2, 3, 4, 5, 6, 7, 8].map AV.i)), (10, (true, [0, 4611686018427387904].map AV.i)), (11, (false, [.v (.slice none 0 0), .sl 5 1 0 1, .sl 6 1 0 2, .sl 7 1 0 1, .sl 8 1 0 10, .sl 9 1 0 9, .sl 10 1 0 2]))]) ?_ ?_ rfl rfl) ?_
    · (repeat' (first | exact trivial | refine And.intro ?_ ?_)) <;> (first | rfl | skip)
    · (repeat' (first | exact trivial | refine And.intro ?_ ?_)) <;> (first | rfl | skip)
    refine m_mov rfl ?_
    refine step_ops ?_
    refine m_cur (curPick_spec hv hL a1 (by omega) z1 7 (by omega)) (r := pbase) rfl (lendH_cons (lend_cur rfl) (lendH_cons lendH_v lendH_nil)) ⟨(0, a1, z1), show 0 < max 7 1 by omega, show a1 ≤ a1 + 2 by omega⟩ ?_
    rintro ⟨k, a2, z2⟩ ⟨hk, ha2⟩
    dsimp only at hk ha2 ⊢
    have hk7 : k < 7 := by omega
    match k, hk7 with
    | 0, _ =>
      refine step_ops ?_
      refine m_idx1_sl (j := 0) rfl rfl (by omega) ?_
      refine step_ops ?_
      refine m_ld_pt rfl rfl rfl ?_
      refine step_opsW (weak_nilslot 15 5000 1 true rfl rfl (by decide)) ?_
      refine m_mov rfl ?_
      repeat (first | refine end_ops ?_ | refine AW_ret ?_ | refine ret_then ?_)
      exact doneL (q := 5000) (M := []) ⟨Nat.le_of_ble_eq_true rfl, show a2 ≤ a + 60 by omega⟩ rfl rfl rfl rfl (by decide)
    | 1, _ =>
      repeat (first | (refine step_ops ?_; (first | (refine m_mov (by conv => lhs; whnf) ?_) | (refine m_idx1_sl rfl rfl ?_ ?_; (· omega)) | (apply m_ld_pt; (· rfl); (· rfl); (· rfl)))) | refine end_ops ?_ | refine AW_ret ?_ | refine ret_then ?_)
      exact doneL (M := [1]) ⟨Nat.le_of_ble_eq_true rfl, show a2 ≤ a + 60 by omega⟩ rfl rfl rfl rfl (by decide)
    | 2, _ =>
      repeat (first | (refine step_ops ?_; (first | (refine m_mov (by conv => lhs; whnf) ?_) | (refine m_idx1_sl rfl rfl ?_ ?_; (· omega)) | (apply m_ld_pt; (· rfl); (· rfl); (· rfl)))) | refine end_ops ?_ | refine AW_ret ?_ | refine ret_then ?_)
      exact doneL (M := [0, 2]) ⟨Nat.le_of_ble_eq_true rfl, show a2 ≤ a + 60 by omega⟩ rfl rfl rfl rfl (by decide)
    | 3, _ =>
      repeat (first | (refine step_ops ?_; (first | (refine m_mov (by conv => lhs; whnf) ?_) | (refine m_idx1_sl rfl rfl ?_ ?_; (· omega)) | (apply m_ld_pt; (· rfl); (· rfl); (· rfl)))) | refine end_ops ?_ | refine AW_ret ?_ | refine ret_then ?_)
      exact doneL (M := [-1]) ⟨Nat.le_of_ble_eq_true rfl, show a2 ≤ a + 60 by omega⟩ rfl rfl rfl rfl (by decide)
    | 4, _ =>
      repeat (first | (refine step_ops ?_; (first | (refine m_mov (by conv => lhs; whnf) ?_) | (refine m_idx1_sl rfl rfl ?_ ?_; (· omega)) | (apply m_ld_pt; (· rfl); (· rfl); (· rfl)))) | refine end_ops ?_ | refine AW_ret ?_ | refine ret_then ?_)
      exact doneL (M := [0, 0, 0, 0, 0, 0, 0, 0, 0, 0]) ⟨Nat.le_of_ble_eq_true rfl, show a2 ≤ a + 60 by omega⟩ rfl rfl rfl rfl (by decide)
    | 5, _ =>
      repeat (first | (refine step_ops ?_; (first | (refine m_mov (by conv => lhs; whnf) ?_) | (refine m_idx1_sl rfl rfl ?_ ?_; (· omega)) | (apply m_ld_pt; (· rfl); (· rfl); (· rfl)))) | refine end_ops ?_ | refine AW_ret ?_ | refine ret_then ?_)
      exact doneL (M := [0, 1, 2, 3, 4, 5, 6, 7, 8]) ⟨Nat.le_of_ble_eq_true rfl, show a2 ≤ a + 60 by omega⟩ rfl rfl rfl rfl (by decide)
    | 6, _ =>
      repeat (first | (refine step_ops ?_; (first | (refine m_mov (by conv => lhs; whnf) ?_) | (refine m_idx1_sl rfl rfl ?_ ?_; (· omega)) | (apply m_ld_pt; (· rfl); (· rfl); (· rfl)))) | refine end_ops ?_ | refine AW_ret ?_ | refine ret_then ?_)
      exact doneL (M := [0, 4611686018427387904]) ⟨Nat.le_of_ble_eq_true rfl, show a2 ≤ a + 60 by omega⟩ rfl rfl rfl rfl (by decide)
  | false =>
    repeat (first | (refine step_ops ?_; (refine m_mov (by conv => lhs; whnf) ?_)) | refine end_ops ?_ | refine seq_ops ?_ | (refine cond_f rfl ?_ ?_; (· rfl)) | refine skip_then ?_)
    refine step_ops ?_
    refine m_curL (q := 1000) (curSureF_spec hv hL a1 (by omega) z1 7 (by omega)) rfl rfl (by decide) (lendH_cons (lend_curN rfl) (lendH_cons lendH_v lendH_nil)) ⟨([], a1, z1), by simp, show a1 ≤ a1 + 50 by omega⟩ ?_
    rintro ⟨M, a3, z3⟩ ⟨hM, ha3⟩
    dsimp only at hM ha3 ⊢
    repeat (first | (refine step_ops ?_; (refine m_mov (by conv => lhs; whnf) ?_)) | refine end_ops ?_ | refine AW_ret ?_)
    exact doneL (M := M) ⟨show M.length ≤ 10 by omega, show a3 ≤ a + 60 by omega⟩ rfl rfl rfl rfl (by decide)
end Go.Proofs.Ytbeflnnejofleaa
namespace Go.Am
variable [Go.Am.CodeBlk]
/-- A cursor and two new lists. -/
abbrev curG (v : Value) (a : Nat) (z : Int) (L M : List Int) : List (Nat × (Bool × List AV)) := [(pbase, (true, curC v a z)), (nbase, (true, L.map AV.i)), (nbase + 1, (true, M.map AV.i))]
theorem curG_static {v v' : Value} {a a' : Nat} {z z' : Int} {L M : List Int} {n m : Nat} : Static (look (curH v a z)) (.tup [.sl nbase 1 0 n, .sl (nbase + 1) 1 0 m]) (look (curG v' a' z' L M)) :=
  static_R (by simp) (fun p hp => by
    rcases List.mem_cons.1 hp with rfl | hp
    · exact ⟨rfl, rfl⟩
    · rcases List.mem_cons.1 hp with rfl | hp
      · exact ⟨ints_ownC _ _, ints_refsC _ _⟩
      · rw [List.mem_singleton] at hp; subst hp; exact ⟨ints_ownC _ _, ints_refsC _ _⟩) ⟨rfl, rfl⟩
def gG (q q' : Nat) : Nat → Nat := fun p => if p = nbase then q else if p = nbase + 1 then q' else p
theorem gG_p {q q' : Nat} : gG q q' pbase = pbase := rfl
theorem gG_n {q q' : Nat} : gG q q' nbase = q := rfl
theorem gG_m {q q' : Nat} : gG q q' (nbase + 1) = q' := rfl
theorem doneG {s : AS} {T : List Nat} {v : Value} {a a1 : Nat} {z z1 : Int} {L M : List Int} {q q' n n' : Nat} {ok : List Int × List Int × Nat × Int → Prop} (hi : ok (L, M, a1, z1)) (h1 : resAV s T = .tup [.sl q 1 0 n, .sl q' 1 0 n']) (hn : n = L.length) (hn' : n' = M.length) (h2 : s.hp pbase = some (true, curC v a1 z1)) (h3 : s.hp q = some (true, L.map AV.i)) (h4 : s.hp q' = some (true, M.map AV.i)) (hq : q < pbase) (hq' : q' < pbase) (hne : q ≠ q') :
    DoneX T ok (fun i => .tup [.sl nbase 1 0 i.1.length, .sl (nbase + 1) 1 0 i.2.1.length]) (look (curH v a z)) (fun i => look (curG v i.2.2.1 i.2.2.2 i.1 i.2.1)) .ret s := by
  have hpb : pbase = 4000000 := rfl
  refine ⟨(L, M, a1, z1), hi, ret_R (hl := curH v a z) (ho := curG v a1 z1 L M) (gG q q') ?_ ⟨⟨_, by rw [gG_p]; exact h2, .inl rfl⟩, ⟨_, by rw [gG_n]; exact h3, .inl ?_⟩, ⟨_, by rw [gG_m]; exact h4, .inl ?_⟩, trivial⟩ ?_ ?_ ?_⟩
  · rw [h1, hn, hn']
    rfl
  · exact congrArg (Prod.mk true) (renL_ints _ _).symm
  · exact congrArg (Prod.mk true) (renL_ints _ _).symm
  · intro p hp
    rw [List.mem_singleton] at hp
    subst hp
    exact ⟨gG_p, by simp⟩
  · intro p hp
    rcases List.mem_cons.1 hp with rfl | hp
    · exact .inl (by simp)
    · rcases List.mem_cons.1 hp with rfl | hp
      · exact .inr (by rw [gG_n]; exact hq)
      · rw [List.mem_singleton] at hp; subst hp
        exact .inr (by rw [gG_m]; exact hq')
  · show [gG q q' pbase, gG q q' nbase, gG q q' (nbase + 1)].Nodup
    rw [gG_p, gG_n, gG_m]
    simp; omega
section
variable {P : Program} {s : AS} {K : AS → Prop} {d : Option Nat} {f : FuncId} {args : List Opd} {v : Value} {ι : Type} {ok : ι → Prop}
/-- A call that draws two lists; one that draws a list and a number. -/
theorem m_drawLL {L M : ι → List Int} {q q' : Nat} (hs : SpX P f [.v v] (look ([] : List (Nat × (Bool × List AV)))) ok (fun i => .tup [.sl nbase 1 0 (L i).length, .sl (nbase + 1) 1 0 (M i).length]) (fun i => look [(nbase, (true, (L i).map AV.i)), (nbase + 1, (true, (M i).map AV.i))])) (ha : args.map s.ev = [.v v]) (hne : ∃ i, ok i) (hq : s.hp q = none) (hqp : q < pbase) (hq' : s.hp q' = none) (hqp' : q' < pbase) (hqq : q ≠ q')
    (k : ∀ i, ok i → K (((s.mem q' (true, (M i).map AV.i)).mem q (true, (L i).map AV.i)).put d (.tup [.sl q 1 0 (L i).length, .sl q' 1 0 (M i).length]))) : aop1 P true ⟨d, .call f args, none⟩ s K := by
  have hat : ∀ i p c, look [(nbase, (true, (L i).map AV.i)), (nbase + 1, (true, (M i).map AV.i))] p = some c → (p = nbase ∧ c = (true, (L i).map AV.i)) ∨ (p = nbase + 1 ∧ c = (true, (M i).map AV.i)) := fun i p c hc => by
    have := look_mem hc
    simp only [List.mem_cons, List.not_mem_nil, or_false, Prod.mk.injEq] at this
    exact this
  have g1 : gG q q' nbase = q := rfl
  have g2 : gG q q' (nbase + 1) = q' := rfl
  have hl : LendsH s.hp (gG q q') (look ([] : List (Nat × (Bool × List AV)))) (args.map s.ev) [.v v] := by rw [ha]; exact lendH_cons lendH_v lendH_nil
  refine m_callx (hp' := fun i => fun p => if p = q then some (true, (L i).map AV.i) else if p = q' then some (true, (M i).map AV.i) else s.hp p) (gG q q') hs hl hne fun i hi => ⟨⟨fun p c hc => by simp [look] at hc, fun p p' h1 h2 e => ?_, fun p hp => by simp [look] at hp, fun p hp _ => ?_, fun p c hc => ?_, fun p hp => ?_, fun p c hc => by simp [look] at hc, fun p c hc => ?_, rfl⟩, k i hi⟩
  · obtain ⟨c1, e1⟩ := Option.isSome_iff_exists.1 h1
    obtain ⟨c2, e2⟩ := Option.isSome_iff_exists.1 h2
    rcases hat i _ _ e1 with ⟨rfl, _⟩ | ⟨rfl, _⟩ <;> rcases hat i _ _ e2 with ⟨rfl, _⟩ | ⟨rfl, _⟩
    · rfl
    · rw [g1, g2] at e; exact absurd e hqq
    · rw [g1, g2] at e; exact absurd e.symm hqq
    · rfl
  · obtain ⟨c1, e1⟩ := Option.isSome_iff_exists.1 hp
    rcases hat i _ _ e1 with ⟨rfl, _⟩ | ⟨rfl, _⟩
    · rw [g1]; exact ⟨hq, hqp⟩
    · rw [g2]; exact ⟨hq', hqp'⟩
  · rcases hat i _ _ hc with ⟨rfl, rfl⟩ | ⟨rfl, rfl⟩
    · show (if gG q q' nbase = q then _ else _) = _
      rw [g1, if_pos rfl]
      exact congrArg (fun c => some (true, c)) (renL_ints _ _).symm
    · show (if gG q q' (nbase + 1) = q then _ else if gG q q' (nbase + 1) = q' then _ else _) = _
      rw [g2, if_neg (Ne.symm hqq), if_pos rfl]
      exact congrArg (fun c => some (true, c)) (renL_ints _ _).symm
  · have h1 := hp nbase rfl
    have h2 := hp (nbase + 1) rfl
    rw [g1] at h1
    rw [g2] at h2
    show (if p = q then _ else if p = q' then _ else _) = _
    rw [if_neg fun e => h1 e.symm, if_neg fun e => h2 e.symm]
  · rcases hat i _ _ hc with ⟨rfl, rfl⟩ | ⟨rfl, rfl⟩ <;> exact ints_ownC _ _
theorem m_drawLI {L : ι → List Int} {x : ι → Int} {q : Nat} (hs : SpX P f [.v v] (look ([] : List (Nat × (Bool × List AV)))) ok (fun i => .tup [.sl nbase 1 0 (L i).length, .i (x i)]) (fun i => look [(nbase, (true, (L i).map AV.i))])) (ha : args.map s.ev = [.v v]) (hne : ∃ i, ok i) (hq : s.hp q = none) (hqp : q < pbase)
    (k : ∀ i, ok i → K ((s.mem q (true, (L i).map AV.i)).put d (.tup [.sl q 1 0 (L i).length, .i (x i)]))) : aop1 P true ⟨d, .call f args, none⟩ s K := by
  have hat : ∀ i p c, look [(nbase, (true, (L i).map AV.i))] p = some c → p = nbase ∧ c = (true, (L i).map AV.i) := fun i p c hc => by
    have := look_mem hc
    rw [List.mem_singleton] at this
    exact ⟨congrArg Prod.fst this, congrArg Prod.snd this⟩
  have hl : LendsH s.hp (fun _ => q) (look ([] : List (Nat × (Bool × List AV)))) (args.map s.ev) [.v v] := by rw [ha]; exact lendH_cons lendH_v lendH_nil
  refine m_callx (hp' := fun i => fun p => if p = q then some (true, (L i).map AV.i) else s.hp p) (fun _ => q) hs hl hne fun i hi => ⟨⟨fun p c hc => by simp [look] at hc, fun p p' h1 h2 _ => ?_, fun p hp => by simp [look] at hp, fun p hp _ => ⟨hq, hqp⟩, fun p c hc => ?_, fun p hp => ?_, fun p c hc => by simp [look] at hc, fun p c hc => ?_, rfl⟩, k i hi⟩
  · obtain ⟨c1, e1⟩ := Option.isSome_iff_exists.1 h1
    obtain ⟨c2, e2⟩ := Option.isSome_iff_exists.1 h2
    rw [(hat i _ _ e1).1, (hat i _ _ e2).1]
  · obtain ⟨rfl, rfl⟩ := hat i _ _ hc
    show (if q = q then _ else _) = _
    rw [if_pos rfl]
    exact congrArg (fun c => some (true, c)) (renL_ints _ _).symm
  · have := hp nbase rfl
    show (if p = q then _ else _) = _
    rw [if_neg fun e => this e.symm]
  · obtain ⟨rfl, rfl⟩ := hat i _ _ hc
    exact ints_ownC _ _
end
end Go.Am
namespace Go.Proofs.Ytbeflnnejofleaa
variable [Go.Am.CodeBlk]
open Go.Am
attribute [local irreducible] AW Outs Weak Lends Lend Sp aops atree aop1 Then Round InBlock Done
attribute [local irreducible] SpH SpX DoneH DoneX
theorem grR_13 (F : List Int) (r : Int) : (grR F r).length ≤ 13 := by
  unfold grR
  split
  · rename_i h
    rw [gv_len]
    have := h.1.2.1
    omega
  · simp
def gvA : ACode := sndA (sndA ac25)
def gvB : ACode := sndA gvA
theorem given_rest {v : Value} {L : List UInt8} (hv : Bys v L) (hL : L.length ≤ 1048576) {a a1 : Nat} (ha : a ≤ 700000) (ha1 : a1 ≤ a + 100) (z z1 : Int) (F : List Int) (hF : F.length ≤ 10) :
    AW Try.prog (min Try.f25.ntmps pbase) gvB (st [(0, .pt pbase 0), (4, .sl 1000 1 0 F.length)] [(pbase, (true, curC v a1 z1)), (1000, (true, F.map AV.i))])
      (DoneX [3, 2].reverse (fun i : List Int × List Int × Nat × Int => i.1.length ≤ 10 ∧ i.2.1.length ≤ 13 ∧ i.2.2.1 ≤ a + 300) (fun i => .tup [.sl nbase 1 0 i.1.length, .sl (nbase + 1) 1 0 i.2.1.length]) (Am.look (curH v a z)) (fun i => Am.look (curG v i.2.2.1 i.2.2.2 i.1 i.2.1))) := by
  have hg := giGood_spec F (by omega)
  have key : ∀ a2 z2, a2 ≤ a + 150 → AW Try.prog (min Try.f25.ntmps pbase) (sndA gvB) (st [(0, .pt pbase 0), (4, .sl 1000 1 0 F.length)] [(pbase, (true, curC v a2 z2)), (1000, (true, F.map AV.i))])
      (DoneX [3, 2].reverse (fun i : List Int × List Int × Nat × Int => i.1.length ≤ 10 ∧ i.2.1.length ≤ 13 ∧ i.2.2.1 ≤ a + 300) (fun i => .tup [.sl nbase 1 0 i.1.length, .sl (nbase + 1) 1 0 i.2.1.length]) (Am.look (curH v a z)) (fun i => Am.look (curG v i.2.2.1 i.2.2.2 i.1 i.2.1))) := by
    intro a2 z2 ha2
    unfold gvB gvA
    unfold ac25
    simp only [sndA]
    repeat (first | (refine step_ops ?_; (refine m_mov (by conv => lhs; whnf) ?_)) | refine seq_ops ?_)
    refine step_ops ?_
    refine m_curL (q := 1001) (curExch_spec hv hL a2 (by omega) z2) rfl rfl (by decide) (lendH_cons (lend_curN rfl) lendH_nil) ⟨([], a2, z2), by simp, show a2 ≤ a2 + 100 by omega⟩ ?_
    rintro ⟨M, a3, z3⟩ ⟨hM, ha3⟩
    dsimp only at hM ha3 ⊢
    repeat (first | (refine step_ops ?_; (refine m_mov (by conv => lhs; whnf) ?_)) | refine end_ops ?_ | refine AW_ret ?_)
    exact doneG (L := F) (M := M) ⟨hF, hM, show a3 ≤ a + 300 by omega⟩ rfl rfl rfl rfl rfl rfl (by decide) (by decide) (by decide)
  have hp : gvB = .seq (fstA gvB) (sndA gvB) := rfl
  rw [hp]
  clear hp
  generalize sndA gvB = cB at *
  unfold gvB gvA
  unfold ac25
  simp only [sndA, fstA]
  by_cases h : IsFam F
  · rw [decide_eq_true h] at hg
    repeat (first | (refine step_ops ?_; (refine m_mov (by conv => lhs; whnf) ?_)) | refine seq_ops ?_ | refine AW_seq ?_)
    refine step_ops ?_; (apply m_call (hg)); (· repeat (first | exact lends_nil | (refine lends_cons ?_ ?_; (· (refine lend_sli (by rfl) ?_; first | rfl | omega | (simp; done))))))
    repeat (refine step_ops ?_; ((try (refine g_yes rfl ?_ ?_; (· rfl))); (refine m_mov (by conv => lhs; whnf) ?_)))
    refine step_ops ?_
    refine g_yes rfl rfl ?_
    refine m_cur (curOne_spec hv hL a1 (by omega) z1 2 (by omega)) rfl (lendH_cons (lend_cur rfl) (lendH_cons lendH_v lendH_nil)) ⟨(true, a1, z1), show a1 ≤ a1 + 2 by omega⟩ ?_
    rintro ⟨b, a2, z2⟩ ha2
    dsimp only at ha2 ⊢
    cases b with
    | true =>
      repeat (first | (refine step_ops ?_; (first | (refine m_mov (by conv => lhs; whnf) ?_) | (refine m_len_sl rfl ?_) | (refine m_pick_t rfl ?_ (by conv => lhs; whnf) ?_; (· rfl)))) | refine end_ops ?_ | refine seq_ops ?_ | (refine cond_t rfl ?_ ?_; (· rfl)))
      refine step_ops ?_
      refine m_cur (curPick_spec hv hL a2 (by omega) z2 250 (by omega)) rfl (lendH_cons (lend_cur rfl) (lendH_cons lendH_v lendH_nil)) ⟨(0, a2, z2), show 0 < max 250 1 by omega, show a2 ≤ a2 + 2 by omega⟩ ?_
      rintro ⟨k, a3, z3⟩ ⟨hk, ha3⟩
      dsimp only at hk ha3 ⊢
      have hl := (ordS_len k F.length).1
      refine step_ops ?_
      refine m_callo (giOrder_spec F.length k (by omega) (by omega)) (lends_cons lend_v (lends_cons lend_v lends_nil)) (allv_ints _) ?_
      repeat (first | (refine step_ops ?_; (refine m_mov (by conv => lhs; whnf) ?_)) | refine end_ops ?_ | refine AW_ret ?_ | refine ret_then ?_)
      exact doneG (L := F) (M := (ordS k F.length).1) ⟨hF, show (ordS k F.length).1.length ≤ 13 by omega, show a3 ≤ a + 300 by omega⟩ rfl rfl rfl rfl rfl rfl (by decide) (by decide) (by decide)
    | false =>
      repeat (first | (refine step_ops ?_; (refine m_pick_t rfl ?_ (by conv => lhs; whnf) ?_; (· rfl))) | refine end_ops ?_ | (refine cond_f rfl ?_ ?_; (· rfl)) | refine skip_then ?_)
      refine AW_weak (weak_st ?_ ?_ rfl rfl) (key a2 z2 (by omega))
      · (repeat' (first | exact trivial | refine And.intro ?_ ?_)) <;> (first | rfl | skip)
      · (repeat' (first | exact trivial | refine And.intro ?_ ?_)) <;> (first | rfl | skip)
  · rw [decide_eq_false h] at hg
    repeat (first | (refine step_ops ?_; (refine m_mov (by conv => lhs; whnf) ?_)) | refine seq_ops ?_ | refine AW_seq ?_)
    refine step_ops ?_; (apply m_call (hg)); (· repeat (first | exact lends_nil | (refine lends_cons ?_ ?_; (· (refine lend_sli (by rfl) ?_; first | rfl | omega | (simp; done))))))
    repeat (first | (refine step_ops ?_; (first | (first | (refine m_mov (by conv => lhs; whnf) ?_) | (refine m_pick_f rfl ?_ (by conv => lhs; whnf) ?_; (· rfl))) | (refine g_noT rfl ?_ ?_; (· rfl)))) | refine end_ops ?_ | (refine cond_f rfl ?_ ?_; (· rfl)) | refine skip_then ?_)
    refine AW_weak (weak_st ?_ ?_ rfl rfl) (key a1 z1 (by omega))
    · (repeat' (first | exact trivial | refine And.intro ?_ ?_)) <;> (first | rfl | skip)
    · (repeat' (first | exact trivial | refine And.intro ?_ ?_)) <;> (first | rfl | skip)
theorem given_spec {v : Value} {L : List UInt8} (hv : Bys v L) (hL : L.length ≤ 1048576) (a : Nat) (ha : a ≤ 700000) (z : Int) :
    SpX Try.prog 25 [.pt pbase 0] (Am.look (curH v a z)) (ι := List Int × List Int × Nat × Int) (fun i => i.1.length ≤ 10 ∧ i.2.1.length ≤ 13 ∧ i.2.2.1 ≤ a + 300) (fun i => .tup [.sl nbase 1 0 i.1.length, .sl (nbase + 1) 1 0 i.2.1.length]) (fun i => Am.look (curG v i.2.2.1 i.2.2.2 i.1 i.2.1)) := by
  have hpb := curH_pb v a z
  have hsta : ∀ i : List Int × List Int × Nat × Int, i.1.length ≤ 10 ∧ i.2.1.length ≤ 13 ∧ i.2.2.1 ≤ a + 300 → Static (Am.look (curH v a z)) (.tup [.sl nbase 1 0 i.1.length, .sl (nbase + 1) 1 0 i.2.1.length]) (Am.look (curG v i.2.2.1 i.2.2.2 i.1 i.2.1)) := fun i _ => curG_static
  have key := fun (F : List Int) (hF : F.length ≤ 10) (a1 : Nat) (ha1 : a1 ≤ a + 100) (z1 : Int) => given_rest hv hL ha ha1 z z1 F hF
  refine specX_of Try.func25 rfl cc25 rfl hpb hsta ?_
  unfold ac25
  clear hpb hsta
  have hp : ac25 = .seq (fstA ac25) (.seq (fstA (sndA ac25)) (.seq (fstA gvA) gvB)) := rfl
  unfold ac25 at hp
  rw [hp]
  clear hp
  generalize gvB = cB at *
  unfold gvA
  unfold ac25
  simp only [sndA, fstA]
  repeat (first | (refine step_ops ?_; (first | (refine m_mov (by conv => lhs; whnf) ?_) | (refine m_nils ?_))) | refine end_ops ?_ | refine seq_ops ?_)
  refine step_ops ?_
  refine m_curL (q := 1000) (curFams_spec hv hL a (by omega) z) rfl rfl (by decide) (lendH_cons (lend_curN rfl) lendH_nil) ⟨([], a, z), by simp, show a ≤ a + 60 by omega⟩ ?_
  rintro ⟨F, a1, z1⟩ ⟨hF, ha1⟩
  dsimp only at hF ha1 ⊢
  have hg := giGood_spec F (by omega)
  by_cases h : IsFam F
  · rw [decide_eq_true h] at hg
    repeat (first | (refine step_ops ?_; (refine m_mov (by conv => lhs; whnf) ?_)) | refine end_ops ?_ | refine seq_ops ?_ | refine AW_seq ?_)
    (refine step_ops ?_); (apply m_call (hg)); (· repeat (first | exact lends_nil | (refine lends_cons ?_ ?_; (· (refine lend_sli (by rfl) ?_; first | rfl | omega | (simp; done))))))
    repeat (refine step_ops ?_; ((try (refine g_yes rfl ?_ ?_; (· rfl))); (refine m_mov (by conv => lhs; whnf) ?_)))
    refine step_ops ?_
    refine g_yes rfl rfl ?_
    refine m_cur (curOne_spec hv hL a1 (by omega) z1 4 (by omega)) rfl (lendH_cons (lend_cur rfl) (lendH_cons lendH_v lendH_nil)) ⟨(true, a1, z1), show a1 ≤ a1 + 2 by omega⟩ ?_
    rintro ⟨b, a2, z2⟩ ha2
    dsimp only at ha2 ⊢
    cases b with
    | true =>
      repeat (first | (refine step_ops ?_; ((try (refine g_yes rfl ?_ ?_; (· rfl))); (first | (refine m_not rfl ?_) | (refine m_pick_t rfl ?_ (by conv => lhs; whnf) ?_; (· rfl))))) | refine end_ops ?_ | (refine cond_f rfl ?_ ?_; (· rfl)) | refine skip_then ?_)
      refine AW_weak (weak_st ?_ ?_ rfl rfl) (key F hF a2 (by omega) z2)
      · (repeat' (first | exact trivial | refine And.intro ?_ ?_)) <;> (first | rfl | skip)
      · (repeat' (first | exact trivial | refine And.intro ?_ ?_)) <;> (first | rfl | skip)
    | false =>
      have hs := giRest_spec F [] h.2.1 ⟨List.nodup_nil, fun x hx => absurd hx (by simp)⟩
      rw [show setB [] = 0 from rfl] at hs
      have hb := bhN_le h.2.1 0
      generalize bhN F 0 = w at *
      by_cases hw : (w : Int) > 0
      · repeat (first | (refine step_ops ?_; ((try (refine g_yes rfl ?_ ?_; (· rfl))); (first | (refine m_mov (by conv => lhs; whnf) ?_) | (refine m_not rfl ?_) | (refine m_pick_t rfl ?_ (by conv => lhs; whnf) ?_; (· rfl))))) | refine end_ops ?_ | refine seq_ops ?_ | (refine cond_t rfl ?_ ?_; (· rfl)))
        refine step_ops ?_
        refine m_call hs (lends_cons (lend_sli rfl rfl) (lends_cons lend_nil lends_nil)) ?_
        repeat (first | (refine step_ops ?_; (first | (refine m_mov (by conv => lhs; whnf) ?_) | (refine m_gtr rfl rfl ?_))) | refine end_ops ?_ | refine seq_ops ?_ | (refine cond_t rfl ?_ ?_; (· (refine decide_eq_true ?_; assumption))))
        refine step_ops ?_
        refine m_cur (curPick_spec hv hL a2 (by omega) z2 w (by omega)) rfl (lendH_cons (lend_cur rfl) (lendH_cons lendH_v lendH_nil)) ⟨(0, a2, z2), show 0 < max w 1 by omega, show a2 ≤ a2 + 2 by omega⟩ ?_
        rintro ⟨k, a3, z3⟩ ⟨hk, ha3⟩
        dsimp only at hk ha3 ⊢
        refine step_ops ?_
        refine m_callt (specGivingOfRank_spec F k (by omega)) (lends_cons (lend_sli rfl rfl) (lends_cons lend_v lends_nil)) (allv_ints _) rfl ?_
        repeat (first | (refine step_ops ?_; (first | (refine m_mov (by conv => lhs; whnf) ?_) | (refine m_ext rfl rfl ?_))) | refine end_ops ?_ | refine seq_ops ?_ | refine AW_ret ?_ | refine ret_then ?_)
        exact doneG (L := F) (M := grR F k) ⟨hF, grR_13 F k, show a3 ≤ a + 300 by omega⟩ rfl rfl rfl rfl rfl rfl (by decide) (by decide) (by decide)
      · repeat (first | (refine step_ops ?_; ((try (refine g_yes rfl ?_ ?_; (· rfl))); (first | (refine m_mov (by conv => lhs; whnf) ?_) | (refine m_not rfl ?_) | (refine m_pick_t rfl ?_ (by conv => lhs; whnf) ?_; (· rfl))))) | refine end_ops ?_ | refine seq_ops ?_ | (refine cond_t rfl ?_ ?_; (· rfl)))
        refine step_ops ?_
        refine m_call hs (lends_cons (lend_sli rfl rfl) (lends_cons lend_nil lends_nil)) ?_
        repeat (first | (refine step_ops ?_; (first | (refine m_mov (by conv => lhs; whnf) ?_) | (refine m_gtr rfl rfl ?_))) | refine end_ops ?_ | refine seq_ops ?_ | (refine cond_f rfl ?_ ?_; (· (refine decide_eq_false ?_; assumption))) | refine skip_then ?_)
        refine AW_weak (weak_st ?_ ?_ rfl rfl) (key F hF a2 (by omega) z2)
        · (repeat' (first | exact trivial | refine And.intro ?_ ?_)) <;> (first | rfl | skip)
        · (repeat' (first | exact trivial | refine And.intro ?_ ?_)) <;> (first | rfl | skip)
  · rw [decide_eq_false h] at hg
    repeat (first | (refine step_ops ?_; (refine m_mov (by conv => lhs; whnf) ?_)) | refine end_ops ?_ | refine seq_ops ?_ | refine AW_seq ?_)
    (refine step_ops ?_); (apply m_call (hg)); (· repeat (first | exact lends_nil | (refine lends_cons ?_ ?_; (· (refine lend_sli (by rfl) ?_; first | rfl | omega | (simp; done))))))
    repeat (first | (refine step_ops ?_; (first | (first | (refine m_mov (by conv => lhs; whnf) ?_) | (refine m_pick_f rfl ?_ (by conv => lhs; whnf) ?_; (· rfl))) | (refine g_noT rfl ?_ ?_; (· rfl)))) | refine end_ops ?_ | (refine cond_f rfl ?_ ?_; (· rfl)) | refine skip_then ?_)
    refine AW_weak (weak_st ?_ ?_ rfl rfl) (key F hF a1 (by omega) z1)
    · (repeat' (first | exact trivial | refine And.intro ?_ ?_)) <;> (first | rfl | skip)
    · (repeat' (first | exact trivial | refine And.intro ?_ ?_)) <;> (first | rfl | skip)
/-- Families and an exchange that a law draws out of its bytes. -/
theorem drawGiven_spec {v : Value} {L : List UInt8} (hv : Bys v L) (hL : L.length ≤ 1048576) :
    SpX Try.prog 6 [.v v] (Am.look []) (ι := List Int × List Int) (fun i => i.1.length ≤ 10 ∧ i.2.length ≤ 13) (fun i => .tup [.sl nbase 1 0 i.1.length, .sl (nbase + 1) 1 0 i.2.length]) (fun i => Am.look [(nbase, (true, i.1.map AV.i)), (nbase + 1, (true, i.2.map AV.i))]) := by
  have hpb : ∀ r, (Am.look ([] : List (Nat × (Bool × List AV))) r).isSome = true → pbase ≤ r := fun r hr => by simp [Am.look] at hr
  have hsta : ∀ i : List Int × List Int, i.1.length ≤ 10 ∧ i.2.length ≤ 13 → Static (Am.look []) (.tup [.sl nbase 1 0 i.1.length, .sl (nbase + 1) 1 0 i.2.length]) (Am.look [(nbase, (true, i.1.map AV.i)), (nbase + 1, (true, i.2.map AV.i))]) := fun i _ =>
    static_R (by simp) (fun p hp => by
      rcases List.mem_cons.1 hp with rfl | hp
      · exact ⟨ints_ownC _ _, ints_refsC _ _⟩
      · rw [List.mem_singleton] at hp; subst hp; exact ⟨ints_ownC _ _, ints_refsC _ _⟩) ⟨rfl, rfl⟩
  refine specX_of Try.func6 rfl cc6 rfl hpb hsta ?_
  unfold ac6
  clear hpb hsta
  have hv1 := bys_cell hv
  have hc := given_spec hv hL 0 (by omega) 0
  repeat (first | (refine step_ops ?_; (first | (refine m_mov (by conv => lhs; whnf) ?_) | (refine m_nils ?_))) | refine end_ops ?_ | refine seq_ops ?_)
  refine step_ops ?_
  refine m_bldC hv1 rfl ?_
  refine step_ops ?_
  refine m_boxC hv1 rfl ?_
  repeat (first | (refine step_ops ?_; (refine m_mov (by conv => lhs; whnf) ?_)) | refine end_ops ?_ | refine seq_ops ?_)
  refine step_ops ?_
  refine m_callRX (fun p => if p = nbase then 1000 else if p = nbase + 1 then 1001 else 7) hc rfl rfl rfl ⟨([], [], 0, 0), by simp, by simp, show 0 ≤ 0 + 300 by omega⟩ ⟨rfl, trivial⟩ (fun p hp => by rw [List.mem_singleton] at hp; subst hp; exact ⟨rfl, rfl⟩) ?_
  rintro ⟨F, M, a3, z3⟩ ⟨hF, hM, ha3⟩
  dsimp only at hF hM ha3 ⊢
  refine ⟨⟨show [7, 1000, 1001].Nodup by decide, by simp, ?_, ?_, rfl⟩, ?_⟩
  · intro p hp
    rcases List.mem_cons.1 hp with rfl | hp
    · exact .inl (by simp)
    · rcases List.mem_cons.1 hp with rfl | hp
      · exact .inr ⟨rfl, show 1000 < pbase by decide⟩
      · rw [List.mem_singleton] at hp; subst hp
        exact .inr ⟨rfl, show 1001 < pbase by decide⟩
  · intro p hp
    rcases List.mem_cons.1 hp with rfl | hp
    · rfl
    · rcases List.mem_cons.1 hp with rfl | hp
      · exact ints_ownC _ _
      · rw [List.mem_singleton] at hp; subst hp
        exact ints_ownC _ _
  repeat (first | (refine step_ops ?_; (first | (refine m_mov (by conv => lhs; whnf) ?_) | (refine m_ext rfl rfl ?_))) | refine end_ops ?_ | refine AW_ret ?_)
  refine ret_RX (F, M) ⟨hF, hM⟩ (ret_R (hl := []) (ho := [(nbase, (true, F.map AV.i)), (nbase + 1, (true, M.map AV.i))]) (fun p => if p = nbase then 1000 else 1001) rfl ⟨⟨_, rfl, .inl ?_⟩, ⟨_, rfl, .inl ?_⟩, trivial⟩ (by simp) ?_ (show [1000, 1001].Nodup by decide))
  · rw [renR, renR, renL_ints, renL_ints]
  · rw [renR, renR, renL_ints, renL_ints]
  · intro p hp
    refine .inr ?_
    split <;> decide
theorem drawGor_spec {v : Value} {L : List UInt8} (hv : Bys v L) (hL : L.length ≤ 1048576) :
    SpX Try.prog 23 [.v v] (Am.look []) (ι := List Int × Int) (fun i => i.1.length ≤ 10) (fun i => .tup [.sl nbase 1 0 i.1.length, .i i.2]) (fun i => Am.look [(nbase, (true, i.1.map AV.i))]) := by
  have hpb : ∀ r, (Am.look ([] : List (Nat × (Bool × List AV))) r).isSome = true → pbase ≤ r := fun r hr => by simp [Am.look] at hr
  have hsta : ∀ i : List Int × Int, i.1.length ≤ 10 → Static (Am.look []) (.tup [.sl nbase 1 0 i.1.length, .i i.2]) (Am.look [(nbase, (true, i.1.map AV.i))]) := fun i _ =>
    static_R (by simp) (fun p hp => by rw [List.mem_singleton] at hp; subst hp; exact ⟨ints_ownC _ _, ints_refsC _ _⟩) ⟨rfl, rfl⟩
  refine specX_of Try.func23 rfl cc23 rfl hpb hsta ?_
  unfold ac23
  clear hpb hsta
  have hv1 := bys_cell hv
  have hc := curFams_spec hv hL 0 (by omega) 0
  repeat (first | (refine step_ops ?_; (first | (refine m_mov (by conv => lhs; whnf) ?_) | (refine m_nils ?_))) | refine end_ops ?_ | refine seq_ops ?_)
  refine step_ops ?_
  refine m_bldC hv1 rfl ?_
  refine step_ops ?_
  refine m_boxC hv1 rfl ?_
  repeat (first | (refine step_ops ?_; (refine m_mov (by conv => lhs; whnf) ?_)) | refine end_ops ?_ | refine seq_ops ?_)
  refine step_ops ?_
  refine m_curL (r := 8) (q := 1000) hc rfl rfl (by decide) (lendH_cons (lend_curN rfl) lendH_nil) ⟨([], 0, 0), by simp, show 0 ≤ 0 + 60 by omega⟩ ?_
  rintro ⟨F, a1, z1⟩ ⟨hF, ha1⟩
  dsimp only at hF ha1 ⊢
  have hg := giGood_spec F (by omega)
  by_cases h : IsFam F
  · rw [decide_eq_true h] at hg
    repeat (first | (refine step_ops ?_; (refine m_mov (by conv => lhs; whnf) ?_)) | refine end_ops ?_ | refine seq_ops ?_ | refine AW_seq ?_)
    (refine step_ops ?_); (apply m_call (hg)); (· repeat (first | exact lends_nil | (refine lends_cons ?_ ?_; (· (refine lend_sli (by rfl) ?_; first | rfl | omega | (simp; done))))))
    repeat (refine step_ops ?_; ((try (refine g_yes rfl ?_ ?_; (· rfl))); (refine m_mov (by conv => lhs; whnf) ?_)))
    refine step_ops ?_
    refine g_yes rfl rfl ?_
    refine m_cur (r := 8) (curOne_spec hv hL a1 (by omega) z1 4 (by omega)) rfl (lendH_cons (lend_cur rfl) (lendH_cons lendH_v lendH_nil)) ⟨(true, a1, z1), show a1 ≤ a1 + 2 by omega⟩ ?_
    rintro ⟨b, a2, z2⟩ ha2
    dsimp only at ha2 ⊢
    cases b with
    | true =>
      repeat (first | (refine step_ops ?_; ((try (refine g_yes rfl ?_ ?_; (· rfl))); (first | (refine m_mov (by conv => lhs; whnf) ?_) | (refine m_not rfl ?_) | (refine m_pick_t rfl ?_ (by conv => lhs; whnf) ?_; (· rfl))))) | refine end_ops ?_ | refine seq_ops ?_ | (refine cond_f rfl ?_ ?_; (· rfl)) | refine skip_then ?_)
      refine step_ops ?_
      refine m_bsl (fl := true) (out := [-1, 0, 1, 5, 100, 4611686018427387904].map AV.i) (afill_ints _ [-1, 0, 1, 5, 100, 4611686018427387904] []) ?_
      refine step_ops ?_
      refine m_cur (r := 8) (curAmong_spec hv hL a2 (by omega) z2 [-1, 0, 1, 5, 100, 4611686018427387904] (by decide) (by decide)) rfl (lendH_cons (lend_cur rfl) (lendH_cons (lend_curl (M := [-1, 0, 1, 5, 100, 4611686018427387904]) rfl rfl (by decide)) lendH_nil)) ⟨(0, a2, z2), show a2 ≤ a2 + 2 by omega⟩ ?_
      rintro ⟨x, a4, z4⟩ ha4
      dsimp only at ha4 ⊢
      repeat (first | (refine step_ops ?_; (refine m_mov (by conv => lhs; whnf) ?_)) | refine end_ops ?_ | refine AW_ret ?_)
      exact ret_RX (F, x) hF (ret_R (hl := []) (ho := [(nbase, (true, F.map AV.i))]) (fun p => 1000) rfl ⟨⟨_, rfl, .inl (congrArg (Prod.mk true) (renL_ints _ _).symm)⟩, trivial⟩ (by simp) (by intro p hp; exact .inr (by decide)) (by simp))
    | false =>
      have hs := giRest_spec F [] h.2.1 ⟨List.nodup_nil, fun x hx => absurd hx (by simp)⟩
      rw [show setB [] = 0 from rfl] at hs
      have hb := bhN_le h.2.1 0
      generalize bhN F 0 = w at *
      have hm := l1Most_spec 1 w
      obtain ⟨u, hu, hu2⟩ : ∃ u : Nat, (if (1 : Int) > (w : Int) then (1 : Int) else (w : Int)) = u ∧ u ≤ 387420489 := by
        split
        · exact ⟨1, rfl, by omega⟩
        · exact ⟨w, rfl, hb⟩
      rw [hu] at hm
      repeat (first | (refine step_ops ?_; ((try (refine g_yes rfl ?_ ?_; (· rfl))); (first | (refine m_mov (by conv => lhs; whnf) ?_) | (refine m_not rfl ?_) | (refine m_pick_t rfl ?_ (by conv => lhs; whnf) ?_; (· rfl))))) | refine end_ops ?_ | refine seq_ops ?_ | (refine cond_t rfl ?_ ?_; (· rfl)))
      refine step_ops ?_
      refine m_call hs (lends_cons (lend_sli rfl rfl) (lends_cons lend_nil lends_nil)) ?_
      skip
      (refine step_ops ?_); (apply m_call (hm)); (· repeat (first | exact lends_nil | (refine lends_cons ?_ ?_; (· exact lend_v))))
      skip
      refine step_ops ?_
      refine m_cur (r := 8) (curPick_spec hv hL a2 (by omega) z2 u (by omega)) rfl (lendH_cons (lend_cur rfl) (lendH_cons lendH_v lendH_nil)) ⟨(0, a2, z2), show 0 < max u 1 by omega, show a2 ≤ a2 + 2 by omega⟩ ?_
      rintro ⟨k, a3, z3⟩ ⟨hk, ha3⟩
      dsimp only at hk ha3 ⊢
      repeat (first | (refine step_ops ?_; (refine m_mov (by conv => lhs; whnf) ?_)) | refine end_ops ?_ | refine AW_ret ?_ | refine ret_then ?_)
      exact ret_RX (F, (k : Int)) hF (ret_R (hl := []) (ho := [(nbase, (true, F.map AV.i))]) (fun p => 1000) rfl ⟨⟨_, rfl, .inl (congrArg (Prod.mk true) (renL_ints _ _).symm)⟩, trivial⟩ (by simp) (by intro p hp; exact .inr (by decide)) (by simp))
  · rw [decide_eq_false h] at hg
    repeat (first | (refine step_ops ?_; (refine m_mov (by conv => lhs; whnf) ?_)) | refine end_ops ?_ | refine seq_ops ?_ | refine AW_seq ?_)
    (refine step_ops ?_); (apply m_call (hg)); (· repeat (first | exact lends_nil | (refine lends_cons ?_ ?_; (· (refine lend_sli (by rfl) ?_; first | rfl | omega | (simp; done))))))
    repeat (first | (refine step_ops ?_; (first | (first | (refine m_mov (by conv => lhs; whnf) ?_) | (refine m_pick_f rfl ?_ (by conv => lhs; whnf) ?_; (· rfl))) | (refine g_noT rfl ?_ ?_; (· rfl)))) | refine end_ops ?_ | refine seq_ops ?_ | (refine cond_f rfl ?_ ?_; (· rfl)) | refine skip_then ?_)
    refine step_ops ?_
    refine m_bsl (fl := true) (out := [-1, 0, 1, 5, 100, 4611686018427387904].map AV.i) (afill_ints _ [-1, 0, 1, 5, 100, 4611686018427387904] []) ?_
    refine step_ops ?_
    refine m_cur (r := 8) (curAmong_spec hv hL a1 (by omega) z1 [-1, 0, 1, 5, 100, 4611686018427387904] (by decide) (by decide)) rfl (lendH_cons (lend_cur rfl) (lendH_cons (lend_curl (M := [-1, 0, 1, 5, 100, 4611686018427387904]) rfl rfl (by decide)) lendH_nil)) ⟨(0, a1, z1), show a1 ≤ a1 + 2 by omega⟩ ?_
    rintro ⟨x, a4, z4⟩ ha4
    dsimp only at ha4 ⊢
    repeat (first | (refine step_ops ?_; (refine m_mov (by conv => lhs; whnf) ?_)) | refine end_ops ?_ | refine AW_ret ?_)
    exact ret_RX (F, x) hF (ret_R (hl := []) (ho := [(nbase, (true, F.map AV.i))]) (fun p => 1000) rfl ⟨⟨_, rfl, .inl (congrArg (Prod.mk true) (renL_ints _ _).symm)⟩, trivial⟩ (by simp) (by intro p hp; exact .inr (by decide)) (by simp))
end Go.Proofs.Ytbeflnnejofleaa
namespace Go.Proofs.Ytbeflnnejofleaa
variable [Go.Am.CodeBlk]
open Go.Am
attribute [local irreducible] AW Outs Weak Lends Lend Sp aops atree aop1 Then Round InBlock Done
attribute [local irreducible] SpM DoneM SpH DoneH
def gr14 : ACode := sndN 14 ac3
def gr13 : ACode := sndN 15 ac3
def gr12 : ACode := sndN 13 ac3
def gr11 : ACode := sndN 12 ac3
def gr10 : ACode := sndN 11 ac3
theorem gw13 {f : List Int} (hf : f.length ≤ 10000) (r : Int) : AW Try.prog (min Try.f3.ntmps pbase) gr13 (st [(41, ints f), (42, .i r)] []) (Done [4].reverse (.b true)) := by
  have s1 := implGivingOfRank_spec f r (by omega)
  have s2 := specGivingOfRank_spec f r (by omega)
  have x1 := xor_self (decide (GrOk f r))
  by_cases h : GrOk f r
  · obtain ⟨g1, g2, g3⟩ := gr_facts h
    have hl : (grR f r).length ≤ 1048576 := by have := g1.2.2; omega
    have s3 := vSame_self (grR f r) hl
    have s4 := implRankOfGiving_spec f (grR f r) (by omega) hl
    unfold rkTup at s4
    rw [g3, decide_eq_true (⟨g1, g2⟩ : Givers f (grR f r) ∧ apart f (grR f r))] at s4
    rw [decide_eq_true h] at s1 s2 x1
    generalize grR f r = R at *
    unfold gr13
    unfold ac3
    simp only [sndN, sndC]
    repeat (first | (refine step_ops ?_; (refine m_mov (by conv => lhs; whnf) ?_)) | refine seq_ops ?_)
    refine step_ops ?_; (apply m_call (s1)); (· repeat (first | exact lends_nil | (refine lends_cons ?_ ?_; (· (first | exact lend_v | (refine lend_ints ?_; first | rfl | omega))))))
    repeat (first | (refine step_ops ?_; (first | (refine m_mov (by conv => lhs; whnf) ?_) | (refine m_ext rfl rfl ?_))) | refine end_ops ?_ | refine seq_ops ?_)
    refine step_ops ?_; (apply m_call (s2)); (· repeat (first | exact lends_nil | (refine lends_cons ?_ ?_; (· (first | exact lend_v | (refine lend_ints ?_; first | rfl | omega))))))
    repeat (first | (refine step_ops ?_; ((try (refine g_yes rfl ?_ ?_; (· rfl))); (first | (refine m_mov (by conv => lhs; whnf) ?_) | (refine m_beq rfl rfl ?_) | (refine m_ext rfl rfl ?_)))) | refine end_ops ?_ | refine seq_ops ?_ | refine AW_seq ?_)
    refine step_ops ?_; (refine g_yes rfl ?_ ?_; (· first | (rfl) | (fail)); (apply m_call (s3))); (· repeat (first | exact lends_nil | (refine lends_cons ?_ ?_; (· (refine lend_ints ?_; first | rfl | omega)))))
    repeat (first | (refine step_ops ?_; ((try (refine g_yes rfl ?_ ?_; (· rfl))); (first | (refine m_mov (by conv => lhs; whnf) ?_) | (refine m_not rfl ?_) | (refine m_pick_f rfl ?_ (by conv => lhs; whnf) ?_; (· rfl))))) | refine end_ops ?_ | refine seq_ops ?_ | (refine cond_t rfl ?_ ?_; (· rfl)) | (refine cond_f rfl ?_ ?_; (· rfl)) | refine skip_then ?_ | refine AW_seq ?_)
    refine step_ops ?_; (apply m_call (s4)); (· repeat (first | exact lends_nil | (refine lends_cons ?_ ?_; (· (refine lend_ints ?_; first | rfl | omega)))))
    repeat (first | (refine step_ops ?_; ((try (refine g_yes rfl ?_ ?_; (· rfl))); (first | (refine m_mov (by conv => lhs; whnf) ?_) | (refine m_eql rfl rfl ?_) | (refine m_pick_t rfl ?_ (by conv => lhs; whnf) ?_; (· rfl)) | (refine m_ext rfl rfl ?_)))) | refine end_ops ?_ | refine seq_ops ?_ | refine AW_ret ?_ | refine ret_done ?_ | refine ret_then ?_)
    exact outs_b (by simp)
  · have e : grR f r = [] := if_neg h
    have s3 := vSame_self ([] : List Int) (by simp)
    rw [decide_eq_false h] at s1 s2 x1
    rw [e] at s1 s2
    unfold gr13
    unfold ac3
    simp only [sndN, sndC]
    repeat (first | (refine step_ops ?_; (refine m_mov (by conv => lhs; whnf) ?_)) | refine seq_ops ?_)
    refine step_ops ?_; (apply m_call (s1)); (· repeat (first | exact lends_nil | (refine lends_cons ?_ ?_; (· (first | exact lend_v | (refine lend_ints ?_; first | rfl | omega))))))
    repeat (first | (refine step_ops ?_; (first | (refine m_mov (by conv => lhs; whnf) ?_) | (refine m_ext rfl rfl ?_))) | refine end_ops ?_ | refine seq_ops ?_)
    refine step_ops ?_; (apply m_call (s2)); (· repeat (first | exact lends_nil | (refine lends_cons ?_ ?_; (· (first | exact lend_v | (refine lend_ints ?_; first | rfl | omega))))))
    repeat (first | (refine step_ops ?_; ((try (refine g_yes rfl ?_ ?_; (· rfl))); (first | (refine m_mov (by conv => lhs; whnf) ?_) | (refine m_beq rfl rfl ?_) | (refine m_ext rfl rfl ?_)))) | refine end_ops ?_ | refine seq_ops ?_ | refine AW_seq ?_)
    refine step_ops ?_; (refine g_yes rfl ?_ ?_; (· first | (rfl) | (fail)); (apply m_call (s3))); (· repeat (first | exact lends_nil | (refine lends_cons ?_ ?_; (· (refine lend_ints ?_; first | rfl | omega)))))
    repeat (first | (refine step_ops ?_; ((try (refine g_yes rfl ?_ ?_; (· rfl))); (first | (refine m_mov (by conv => lhs; whnf) ?_) | (refine m_not rfl ?_) | (refine m_pick_f rfl ?_ (by conv => lhs; whnf) ?_; (· rfl))))) | refine end_ops ?_ | refine seq_ops ?_ | (refine cond_f rfl ?_ ?_; (· rfl)) | refine skip_then ?_ | refine AW_seq ?_ | refine AW_ret ?_ | refine ret_done ?_)
    exact outs_b rfl
theorem gw14 {mv : Value} {ML : List UInt8} (hy : Bys mv ML) (hyl : ML.length ≤ 1048576) : AW Try.prog (min Try.f3.ntmps pbase) gr14 (st [(1, .v mv)] []) (Done [4].reverse (.b true)) := by
  have key := fun (f : List Int) (hf : f.length ≤ 10000) (r : Int) => gw13 hf r
  have hp : gr14 = .seq (fstC gr14) gr13 := rfl
  rw [hp]
  clear hp
  generalize gr13 = c13 at *
  unfold gr14
  unfold ac3
  simp only [sndN, sndC, fstC]
  repeat (first | (refine step_ops ?_; (refine m_mov (by conv => lhs; whnf) ?_)) | refine seq_ops ?_)
  refine step_ops ?_
  refine m_drawLI (q := 3000) (drawGor_spec hy hyl) rfl ⟨([], 0), by simp⟩ rfl (by decide) ?_
  rintro ⟨f, r⟩ hf
  dsimp only at hf ⊢
  repeat (first | (refine step_ops ?_; (first | (refine m_mov (by conv => lhs; whnf) ?_) | (refine m_ext rfl rfl ?_))) | refine end_ops ?_)
  refine AW_weak (weak_frz 41 3000 rfl rfl (by simp) (allv_ints _)) ?_
  refine AW_weak (weak_st ?_ ?_ rfl rfl) (key f (by omega) r)
  · (repeat' (first | exact trivial | refine And.intro ?_ ?_)) <;> (first | rfl | skip)
  · trivial
/-- The families' sizes, and on to the gifts. -/
theorem gl4 {F L : List Int} {mv : Value} {m : Nat} (h : GbOk F L) (hm : famN F = m) (c : ACode) (hc : AW Try.prog (min Try.f3.ntmps pbase) c (st [(1, .v mv)] []) (Done [4].reverse (.b true))) :
    AW Try.prog (min Try.f3.ntmps pbase) glA (st [(5, ints F), (6, ints L), (1, .v mv), (19, roF (gmat F L m m L.length))] []) (Then (fun s => AW Try.prog (min Try.f3.ntmps pbase) c s (Done [4].reverse (.b true))) (Done [4].reverse (.b true))) := by
  have h6 := gl6 h hm c hc
  have hp : glA = .seq (fstC glA) (.seq (fstC (sndN 1 glA)) glL) := rfl
  rw [hp]
  clear hp
  generalize glL = c6 at *
  have h9 := h.1.1.2.1
  have hml := gmat_len F L m m L.length
  have hsl := sizesOf_len F m
  have s1 := implFamilySizes_spec F (by omega)
  have e : sizesRes F = sizesOf F m := by unfold sizesRes; rw [if_pos h.1.1, hm, Int.toNat_natCast]
  rw [e, decide_eq_true h.1.1] at s1
  generalize sizesOf F m = S at *
  generalize gmat F L m m L.length = G at *
  have n1 : decide (((G.length : Nat) : Int) ≠ (S.length : Nat)) = false := decide_eq_false (by omega)
  unfold glA glI
  unfold ac3
  simp only [sndN, sndC, fstC, thnC]
  repeat (first | (refine step_ops ?_; (refine m_mov (by conv => lhs; whnf) ?_)) | refine seq_ops ?_)
  refine step_ops ?_; (apply m_call (s1)); (· repeat (first | exact lends_nil | (refine lends_cons ?_ ?_; (· (refine lend_ints ?_; first | rfl | omega)))))
  repeat (first | (refine step_ops ?_; ((try (refine g_yes rfl ?_ ?_; (· rfl))); (first | (refine m_mov (by conv => lhs; whnf) ?_) | (refine m_neq rfl rfl ?_) | (refine m_not rfl ?_) | (refine m_len_ro rfl ?_) | (refine m_pick_f rfl ?_ (by conv => lhs; whnf) ?_; (· rfl)) | (refine m_ext rfl rfl ?_)))) | refine end_ops ?_ | refine seq_ops ?_ | (refine cond_f rfl ?_ ?_; (· assumption)) | refine skip_then ?_ | refine AW_seq ?_)
  refine AW_weak (weak_st ?_ ?_ rfl rfl) h6
  · (repeat' (first | exact trivial | refine And.intro ?_ ?_)) <;> (first | rfl | skip)
  · trivial
theorem gw12 {F L : List Int} {mv : Value} {ML : List UInt8} (hy : Bys mv ML) (hyl : ML.length ≤ 1048576) (hF : F.length ≤ 10000) (hL : L.length ≤ 10000) : AW Try.prog (min Try.f3.ntmps pbase) gr12 (st [(5, ints F), (6, ints L), (1, .v mv), (11, .i (rkR F L)), (12, .b (decide (GbOk F L))), (15, newInts ((nextG F L).getD [])), (16, .b (nextG F L).isSome), (19, roF (gbRes F L))] []) (Done [4].reverse (.b true)) := by
  have h13 := gw14 hy hyl
  have hp : gr12 = .seq (.seq (fstC (fstC gr12)) (.cond (.t 184) (.seq (fstC glI) (.seq (fstC (sndN 1 glI)) (.seq (fstC (sndN 2 glI)) (.seq (fstC (sndN 3 glI)) glA)))) .skip)) gr14 := rfl
  rw [hp]
  clear hp
  by_cases h : GbOk F L
  · have hfam := h.1.1
    have h9 := hfam.2.1
    have hmn := famN_le hfam
    obtain ⟨m, hm⟩ := Int.eq_ofNat_of_zero_le (show 0 ≤ famN F by omega)
    have hg := gl4 (mv := mv) h hm gr14 h13
    have e0 : gbRes F L = gmat F L m m L.length := by unfold gbRes; rw [if_pos h, hm, Int.toNat_natCast]
    rw [e0]
    generalize gmat F L m m L.length = G at *
    generalize gr14 = c13 at *
    generalize glA = cA at *
    obtain ⟨k1, k2, k3⟩ := rk_facts h.1 h.2
    have s1 := implGivingOfRank_spec F (rkR F L) (by omega)
    rw [k2, decide_eq_true k1] at s1
    have s2 := implCountGivings_spec F (by omega)
    unfold cgTup at s2
    have e1 : cgR F = (bhN F 0 : Nat) := if_pos hfam
    rw [e1, decide_eq_true hfam] at s2
    have s3 := implGivingOfRank_spec F (rkR F L + 1) (by omega)
    have s4 := vSame_self L (by omega)
    have b0 := k1.2.1
    have b1 := k1.2.2
    have b2 := bhN_le h9 0
    have e2 : GrOk F (rkR F L + 1) ↔ rkR F L + 1 < (bhN F 0 : Nat) := ⟨fun hh => hh.2.2, fun hh => ⟨hfam, by omega, hh⟩⟩
    rw [decide_eq_true h]
    rw [k3]
    by_cases h2 : GrOk F (rkR F L + 1)
    · have h3 := e2.1 h2
      rw [if_pos h2]
      rw [decide_eq_true h2] at s3
      have hl2 : (grR F (rkR F L + 1)).length ≤ 1048576 := by have := (gr_facts h2).1.2.2; omega
      have s5 := vSame_self (grR F (rkR F L + 1)) hl2
      have x1 : (true ^^ (true == decide (rkR F L + 1 < (bhN F 0 : Nat)))) = false := by rw [decide_eq_true h3]; rfl
      rw [Option.getD_some, Option.isSome_some]
      generalize grR F (rkR F L + 1) = N at *
      generalize rkR F L = k at *
      generalize bhN F 0 = b at *
      unfold gr12 glI
      unfold ac3
      simp only [sndN, sndC, fstC, thnC]
      repeat (first | (refine step_ops ?_; (refine m_mov (by conv => lhs; whnf) ?_)) | refine end_ops ?_ | refine seq_ops ?_ | (refine cond_t rfl ?_ ?_; (· rfl)) | refine AW_seq ?_)
      refine step_ops ?_; (apply m_call (s1)); (· repeat (first | exact lends_nil | (refine lends_cons ?_ ?_; (· (first | exact lend_v | (refine lend_ints ?_; first | rfl | omega))))))
      repeat (first | (refine step_ops ?_; (first | (refine m_mov (by conv => lhs; whnf) ?_) | (refine m_ext rfl rfl ?_))) | refine end_ops ?_ | refine seq_ops ?_)
      refine step_ops ?_; (apply m_call (s2)); (· repeat (first | exact lends_nil | (refine lends_cons ?_ ?_; (· (refine lend_ints ?_; first | rfl | omega)))))
      repeat (first | (refine step_ops ?_; (first | (refine m_mov (by conv => lhs; whnf) ?_) | (refine m_add rfl rfl ?_ ?_ ?_; (· omega); (· omega)) | (refine m_ext rfl rfl ?_))) | refine end_ops ?_ | refine seq_ops ?_)
      refine step_ops ?_; (apply m_call (s3)); (· repeat (first | exact lends_nil | (refine lends_cons ?_ ?_; (· (first | exact lend_v | (refine lend_ints ?_; first | rfl | omega))))))
      repeat (first | (refine step_ops ?_; ((try (refine g_yes rfl ?_ ?_; (· rfl))); (first | (refine m_mov (by conv => lhs; whnf) ?_) | (refine m_not rfl ?_) | (refine m_ext rfl rfl ?_)))) | refine end_ops ?_ | refine seq_ops ?_ | refine AW_seq ?_)
      refine step_ops ?_; (refine g_yes rfl ?_ ?_; (· first | (rfl) | (fail)); (apply m_call (s4))); (· repeat (first | exact lends_nil | (refine lends_cons ?_ ?_; (· (refine lend_ints ?_; first | rfl | omega)))))
      repeat (refine step_ops ?_; ((try (refine g_yes rfl ?_ ?_; (· first | rfl | assumption | (simp [*]; done)))); (first | (refine m_mov (by conv => lhs; whnf) ?_) | (refine m_lss rfl rfl ?_) | (refine m_geq rfl rfl ?_) | (refine m_add rfl rfl ?_ ?_ ?_; (· omega); (· omega)) | (refine m_not rfl ?_) | (refine m_beq rfl rfl ?_) | (refine m_pick_f rfl ?_ (by conv => lhs; whnf) ?_; (· first | rfl | assumption | (refine decide_eq_false ?_; omega))))))
      refine step_ops ?_; (refine g_yes rfl ?_ ?_; (· first | (rfl) | (fail)); (apply m_call (s5))); (· repeat (first | exact lends_nil | (refine lends_cons ?_ ?_; (· (refine lend_ints ?_; first | rfl | omega)))))
      repeat (first | (refine step_ops ?_; ((try (refine g_yes rfl ?_ ?_; (· rfl))); (first | (refine m_not rfl ?_) | (refine m_pick_t rfl ?_ (by conv => lhs; whnf) ?_; (· rfl)) | (refine m_pick_f rfl ?_ (by conv => lhs; whnf) ?_; (· rfl))))) | refine end_ops ?_ | (refine cond_f rfl ?_ ?_; (· rfl)) | refine skip_then ?_)
      refine AW_weak (weak_st ?_ ?_ rfl rfl) hg
      · (repeat' (first | exact trivial | refine And.intro ?_ ?_)) <;> (first | rfl | skip)
      · trivial
    · have h3 : ¬ (rkR F L + 1 < (bhN F 0 : Nat)) := fun hh => h2 (e2.2 hh)
      rw [if_neg h2]
      rw [decide_eq_false h2] at s3
      have e3 : grR F (rkR F L + 1) = [] := if_neg h2
      rw [e3] at s3
      have x1 : (true ^^ (false == decide (rkR F L + 1 < (bhN F 0 : Nat)))) = false := by rw [decide_eq_false h3]; rfl
      rw [Option.getD_none, Option.isSome_none]
      generalize rkR F L = k at *
      generalize bhN F 0 = b at *
      unfold gr12 glI
      unfold ac3
      simp only [sndN, sndC, fstC, thnC]
      repeat (first | (refine step_ops ?_; (refine m_mov (by conv => lhs; whnf) ?_)) | refine end_ops ?_ | refine seq_ops ?_ | (refine cond_t rfl ?_ ?_; (· rfl)) | refine AW_seq ?_)
      refine step_ops ?_; (apply m_call (s1)); (· repeat (first | exact lends_nil | (refine lends_cons ?_ ?_; (· (first | exact lend_v | (refine lend_ints ?_; first | rfl | omega))))))
      repeat (first | (refine step_ops ?_; (first | (refine m_mov (by conv => lhs; whnf) ?_) | (refine m_ext rfl rfl ?_))) | refine end_ops ?_ | refine seq_ops ?_)
      refine step_ops ?_; (apply m_call (s2)); (· repeat (first | exact lends_nil | (refine lends_cons ?_ ?_; (· (refine lend_ints ?_; first | rfl | omega)))))
      repeat (first | (refine step_ops ?_; (first | (refine m_mov (by conv => lhs; whnf) ?_) | (refine m_add rfl rfl ?_ ?_ ?_; (· omega); (· omega)) | (refine m_ext rfl rfl ?_))) | refine end_ops ?_ | refine seq_ops ?_)
      refine step_ops ?_; (apply m_call (s3)); (· repeat (first | exact lends_nil | (refine lends_cons ?_ ?_; (· (first | exact lend_v | (refine lend_ints ?_; first | rfl | omega))))))
      repeat (first | (refine step_ops ?_; ((try (refine g_yes rfl ?_ ?_; (· rfl))); (first | (refine m_mov (by conv => lhs; whnf) ?_) | (refine m_not rfl ?_) | (refine m_ext rfl rfl ?_)))) | refine end_ops ?_ | refine seq_ops ?_ | refine AW_seq ?_)
      refine step_ops ?_; (refine g_yes rfl ?_ ?_; (· first | (rfl) | (fail)); (apply m_call (s4))); (· repeat (first | exact lends_nil | (refine lends_cons ?_ ?_; (· (refine lend_ints ?_; first | rfl | omega)))))
      repeat (first | (refine step_ops ?_; (first | ((try (refine g_yes rfl ?_ ?_; (· first | rfl | assumption | (simp [*]; done)))); (first | (refine m_mov (by conv => lhs; whnf) ?_) | (refine m_lss rfl rfl ?_) | (refine m_geq rfl rfl ?_) | (refine m_add rfl rfl ?_ ?_ ?_; (· omega); (· omega)) | (refine m_not rfl ?_) | (refine m_beq rfl rfl ?_) | (refine m_pick_f rfl ?_ (by conv => lhs; whnf) ?_; (· first | rfl | assumption | (refine decide_eq_false ?_; omega))))) | (refine g_noT rfl ?_ ?_; (· rfl)))) | refine end_ops ?_ | (refine cond_f rfl ?_ ?_; (· rfl)) | refine skip_then ?_)
      refine AW_weak (weak_st ?_ ?_ rfl rfl) hg
      · (repeat' (first | exact trivial | refine And.intro ?_ ?_)) <;> (first | rfl | skip)
      · trivial
  · rw [decide_eq_false h]
    generalize gr14 = c13 at *
    generalize glA = cA at *
    unfold gr12 glI
    unfold ac3
    simp only [sndN, sndC, fstC, thnC]
    repeat (first | (refine step_ops ?_; (refine m_mov (by conv => lhs; whnf) ?_)) | refine end_ops ?_ | refine seq_ops ?_ | (refine cond_f rfl ?_ ?_; (· rfl)) | refine skip_then ?_ | refine AW_seq ?_)
    refine AW_weak (weak_st ?_ ?_ rfl rfl) h13
    · (repeat' (first | exact trivial | refine And.intro ?_ ?_)) <;> (first | rfl | skip)
    · trivial
theorem gw11 {F L : List Int} {mv : Value} {ML : List UInt8} (hy : Bys mv ML) (hyl : ML.length ≤ 1048576) (hF : F.length ≤ 10000) (hL : L.length ≤ 10000) : AW Try.prog (min Try.f3.ntmps pbase) gr11 (st [(5, ints F), (6, ints L), (1, .v mv), (11, .i (rkR F L)), (12, .b (decide (GbOk F L))), (15, newInts ((nextG F L).getD [])), (16, .b (nextG F L).isSome), (19, roF (gbRes F L))] []) (Done [4].reverse (.b true)) := by
  have h12 := gw12 hy hyl hF hL
  have hp : gr11 = .seq (fstC gr11) gr12 := rfl
  rw [hp]
  clear hp
  generalize gr12 = c12 at *
  rcases hn : nextG F L with _ | N
  · rw [hn] at h12
    rw [Option.getD_none, Option.isSome_none] at h12 ⊢
    generalize decide (GbOk F L) = B at *
    generalize gbRes F L = G at *
    unfold gr11
    unfold ac3
    simp only [sndN, sndC, fstC]
    repeat (first | (refine step_ops ?_; (refine m_mov (by conv => lhs; whnf) ?_)) | refine end_ops ?_ | refine seq_ops ?_ | (refine cond_f rfl ?_ ?_; (· rfl)) | refine skip_then ?_ | refine AW_seq ?_)
    refine AW_weak (weak_st ?_ ?_ rfl rfl) h12
    · (repeat' (first | exact trivial | refine And.intro ?_ ?_)) <;> (first | rfl | skip)
    · trivial
  · rw [hn] at h12
    obtain ⟨n1, n2, n3, n4⟩ := next_facts hn
    have e1 := n1.2.2
    have e2 := n2.2.2
    have s1 := implIsGiving_spec F N (by omega) (by omega)
    unfold isGivingR at s1
    rw [decide_eq_true n2, decide_eq_true (⟨n2, n3⟩ : Givers F N ∧ apart F N)] at s1
    have s2 := vBefore_spec L N (by omega) (by omega)
    rw [n4] at s2
    rw [Option.getD_some, Option.isSome_some] at h12 ⊢
    generalize decide (GbOk F L) = B at *
    generalize gbRes F L = G at *
    unfold gr11
    unfold ac3
    simp only [sndN, sndC, fstC]
    repeat (first | (refine step_ops ?_; (refine m_mov (by conv => lhs; whnf) ?_)) | refine end_ops ?_ | refine seq_ops ?_ | (refine cond_t rfl ?_ ?_; (· rfl)) | refine AW_seq ?_)
    refine step_ops ?_; (apply m_call (s1)); (· repeat (first | exact lends_nil | (refine lends_cons ?_ ?_; (· (refine lend_ints ?_; first | rfl | omega)))))
    repeat (first | (refine step_ops ?_; ((try (refine g_yes rfl ?_ ?_; (· rfl))); (first | (refine m_mov (by conv => lhs; whnf) ?_) | (refine m_not rfl ?_) | (refine m_pick_f rfl ?_ (by conv => lhs; whnf) ?_; (· rfl)) | (refine m_ext rfl rfl ?_)))) | refine end_ops ?_ | refine seq_ops ?_)
    refine step_ops ?_; (refine g_yes rfl ?_ ?_; (· first | (rfl) | (fail)); (apply m_call (s2))); (· repeat (first | exact lends_nil | (refine lends_cons ?_ ?_; (· (refine lend_ints ?_; first | rfl | omega)))))
    repeat (first | (refine step_ops ?_; ((try (refine g_yes rfl ?_ ?_; (· rfl))); (first | (refine m_not rfl ?_) | (refine m_pick_f rfl ?_ (by conv => lhs; whnf) ?_; (· rfl))))) | refine end_ops ?_ | (refine cond_f rfl ?_ ?_; (· rfl)) | refine skip_then ?_)
    refine AW_weak (weak_st ?_ ?_ rfl rfl) h12
    · (repeat' (first | exact trivial | refine And.intro ?_ ?_)) <;> (first | rfl | skip)
    · trivial
theorem gw10 {F L : List Int} {mv : Value} {ML : List UInt8} (hy : Bys mv ML) (hyl : ML.length ≤ 1048576) (hF : F.length ≤ 10000) (hL : L.length ≤ 10000) : AW Try.prog (min Try.f3.ntmps pbase) gr10 (st [(5, ints F), (6, ints L), (1, .v mv), (7, .b (decide (Givers F L ∧ apart F L))), (8, .b (decide (Givers F L))), (9, .b (decide (Givers F L ∧ apart F L))), (10, .b (decide (Givers F L))), (11, .i (rkR F L)), (12, .b (decide (Givers F L ∧ apart F L))), (13, .i (rkR F L)), (14, .b (decide (Givers F L ∧ apart F L))), (15, newInts ((nextG F L).getD [])), (16, .b (nextG F L).isSome), (17, newInts ((nextG F L).getD [])), (18, .b (nextG F L).isSome), (19, roF (gbRes F L)), (20, .b (decide (GbOk F L))), (21, roF (gbRes F L)), (22, .b (decide (GbOk F L)))] []) (Done [4].reverse (.b true)) := by
  have h11 := gw11 hy hyl hF hL
  have hp : gr10 = .seq (fstC gr10) gr11 := rfl
  rw [hp]
  clear hp
  generalize gr11 = c11 at *
  have eg : decide (GbOk F L) = decide (Givers F L ∧ apart F L) := rfl
  rw [eg] at h11 ⊢
  have hN : ((nextG F L).getD []).length ≤ 1048576 := by have := nextG_le F L; omega
  have s1 := vSame_self _ hN
  obtain ⟨g1, g2⟩ := gbRes_ok F L
  have s2 := vRows_self (gbRes F L) (by omega) (fun x hx => by have := g2 x hx; omega)
  have x1 := xor_self (nextG F L).isSome
  have n1 : decide (rkR F L ≠ rkR F L) = false := by simp
  have hno : ¬ Givers F L → (nextG F L).isSome = false := fun hh => by unfold nextG; rw [if_neg hh]; rfl
  generalize gbRes F L = G at *
  generalize (nextG F L).getD [] = N at *
  generalize rkR F L = k at *
  by_cases h1 : Givers F L
  · by_cases h2 : apart F L
    · rw [decide_eq_true h1, decide_eq_true (⟨h1, h2⟩ : Givers F L ∧ apart F L)] at *
      generalize (nextG F L).isSome = B at *
      unfold gr10
      unfold ac3
      simp only [sndN, sndC, fstC]
      repeat (first | (refine step_ops ?_; ((try (refine g_yes rfl ?_ ?_; (· first | rfl | assumption))); (first | (refine m_mov (by conv => lhs; whnf) ?_) | (refine m_neq rfl rfl ?_) | (refine m_beq rfl rfl ?_) | (refine m_pick_f rfl ?_ (by conv => lhs; whnf) ?_; (· first | rfl | assumption))))) | refine seq_ops ?_ | refine AW_seq ?_)
      refine step_ops ?_; (refine g_yes rfl ?_ ?_; (· first | (assumption) | (fail)); (apply m_call (s1))); (· repeat (first | exact lends_nil | (refine lends_cons ?_ ?_; (· (refine lend_ints ?_; first | rfl | omega)))))
      repeat (refine step_ops ?_; ((try (refine g_yes rfl ?_ ?_; (· first | rfl | assumption))); (first | (refine m_mov (by conv => lhs; whnf) ?_) | (refine m_not rfl ?_) | (refine m_beq rfl rfl ?_) | (refine m_pick_f rfl ?_ (by conv => lhs; whnf) ?_; (· first | rfl | assumption)))))
      refine step_ops ?_; (refine g_yes rfl ?_ ?_; (· first | (rfl) | (fail)); (apply m_call (s2))); (· repeat (first | exact lends_nil | (refine lends_cons ?_ ?_; (· (refine lend_roM rfl; done)))))
      repeat (refine step_ops ?_; ((try (refine g_yes rfl ?_ ?_; (· rfl))); (first | (refine m_mov (by conv => lhs; whnf) ?_) | (refine m_not rfl ?_) | (refine m_beq rfl rfl ?_) | (refine m_pick_t rfl ?_ (by conv => lhs; whnf) ?_; (· rfl)) | (refine m_pick_f rfl ?_ (by conv => lhs; whnf) ?_; (· rfl)))))
      cases B
      · repeat (first | (refine step_ops ?_; (first | ((try (refine g_yes rfl ?_ ?_; (· rfl))); (refine m_pick_f rfl ?_ (by conv => lhs; whnf) ?_; (· rfl))) | (refine g_noT rfl ?_ ?_; (· rfl)))) | refine end_ops ?_ | (refine cond_f rfl ?_ ?_; (· rfl)) | refine skip_then ?_)
        refine AW_weak (weak_st ?_ ?_ rfl rfl) h11
        · (repeat' (first | exact trivial | refine And.intro ?_ ?_)) <;> (first | rfl | skip)
        · trivial
      · repeat (first | (refine step_ops ?_; ((try (refine g_yes rfl ?_ ?_; (· rfl))); (first | (refine m_mov (by conv => lhs; whnf) ?_) | (refine m_not rfl ?_) | (refine m_pick_t rfl ?_ (by conv => lhs; whnf) ?_; (· rfl)) | (refine m_pick_f rfl ?_ (by conv => lhs; whnf) ?_; (· rfl))))) | refine end_ops ?_ | (refine cond_f rfl ?_ ?_; (· rfl)) | refine skip_then ?_)
        refine AW_weak (weak_st ?_ ?_ rfl rfl) h11
        · (repeat' (first | exact trivial | refine And.intro ?_ ?_)) <;> (first | rfl | skip)
        · trivial
    · rw [decide_eq_true h1, decide_eq_false (fun hh : Givers F L ∧ apart F L => h2 hh.2)] at *
      generalize (nextG F L).isSome = B at *
      unfold gr10
      unfold ac3
      simp only [sndN, sndC, fstC]
      repeat (first | (refine step_ops ?_; ((try (refine g_yes rfl ?_ ?_; (· first | rfl | assumption))); (first | (refine m_mov (by conv => lhs; whnf) ?_) | (refine m_neq rfl rfl ?_) | (refine m_beq rfl rfl ?_) | (refine m_pick_f rfl ?_ (by conv => lhs; whnf) ?_; (· first | rfl | assumption))))) | refine seq_ops ?_ | refine AW_seq ?_)
      refine step_ops ?_; (refine g_yes rfl ?_ ?_; (· first | (assumption) | (fail)); (apply m_call (s1))); (· repeat (first | exact lends_nil | (refine lends_cons ?_ ?_; (· (refine lend_ints ?_; first | rfl | omega)))))
      repeat (refine step_ops ?_; ((try (refine g_yes rfl ?_ ?_; (· first | rfl | assumption))); (first | (refine m_mov (by conv => lhs; whnf) ?_) | (refine m_not rfl ?_) | (refine m_beq rfl rfl ?_) | (refine m_pick_f rfl ?_ (by conv => lhs; whnf) ?_; (· first | rfl | assumption)))))
      refine step_ops ?_; (refine g_yes rfl ?_ ?_; (· first | (rfl) | (fail)); (apply m_call (s2))); (· repeat (first | exact lends_nil | (refine lends_cons ?_ ?_; (· (refine lend_roM rfl; done)))))
      repeat (refine step_ops ?_; ((try (refine g_yes rfl ?_ ?_; (· rfl))); (first | (refine m_mov (by conv => lhs; whnf) ?_) | (refine m_not rfl ?_) | (refine m_beq rfl rfl ?_) | (refine m_pick_t rfl ?_ (by conv => lhs; whnf) ?_; (· rfl)) | (refine m_pick_f rfl ?_ (by conv => lhs; whnf) ?_; (· rfl)))))
      cases B
      · repeat (first | (refine step_ops ?_; (first | ((try (refine g_yes rfl ?_ ?_; (· rfl))); (refine m_pick_f rfl ?_ (by conv => lhs; whnf) ?_; (· rfl))) | (refine g_noT rfl ?_ ?_; (· rfl)))) | refine end_ops ?_ | (refine cond_f rfl ?_ ?_; (· rfl)) | refine skip_then ?_)
        refine AW_weak (weak_st ?_ ?_ rfl rfl) h11
        · (repeat' (first | exact trivial | refine And.intro ?_ ?_)) <;> (first | rfl | skip)
        · trivial
      · repeat (first | (refine step_ops ?_; ((try (refine g_yes rfl ?_ ?_; (· rfl))); (first | (refine m_mov (by conv => lhs; whnf) ?_) | (refine m_not rfl ?_) | (refine m_pick_t rfl ?_ (by conv => lhs; whnf) ?_; (· rfl)) | (refine m_pick_f rfl ?_ (by conv => lhs; whnf) ?_; (· rfl))))) | refine end_ops ?_ | (refine cond_f rfl ?_ ?_; (· rfl)) | refine skip_then ?_)
        refine AW_weak (weak_st ?_ ?_ rfl rfl) h11
        · (repeat' (first | exact trivial | refine And.intro ?_ ?_)) <;> (first | rfl | skip)
        · trivial
  · rw [hno h1] at *
    rw [decide_eq_false h1, decide_eq_false (fun hh : Givers F L ∧ apart F L => h1 hh.1)] at *
    unfold gr10
    unfold ac3
    simp only [sndN, sndC, fstC]
    repeat (first | (refine step_ops ?_; ((try (refine g_yes rfl ?_ ?_; (· first | rfl | assumption))); (first | (refine m_mov (by conv => lhs; whnf) ?_) | (refine m_neq rfl rfl ?_) | (refine m_beq rfl rfl ?_) | (refine m_pick_f rfl ?_ (by conv => lhs; whnf) ?_; (· first | rfl | assumption))))) | refine seq_ops ?_ | refine AW_seq ?_)
    refine step_ops ?_; (refine g_yes rfl ?_ ?_; (· first | (rfl) | (fail)); (apply m_call (s1))); (· repeat (first | exact lends_nil | (refine lends_cons ?_ ?_; (· (refine lend_ints ?_; first | rfl | omega)))))
    repeat (refine step_ops ?_; ((try (refine g_yes rfl ?_ ?_; (· rfl))); (first | (refine m_mov (by conv => lhs; whnf) ?_) | (refine m_not rfl ?_) | (refine m_beq rfl rfl ?_) | (refine m_pick_f rfl ?_ (by conv => lhs; whnf) ?_; (· rfl)))))
    refine step_ops ?_; (refine g_yes rfl ?_ ?_; (· first | (rfl) | (fail)); (apply m_call (s2))); (· repeat (first | exact lends_nil | (refine lends_cons ?_ ?_; (· (refine lend_roM rfl; done)))))
    repeat (first | ((first | (refine step_ops ?_; (first | ((try (refine g_yes rfl ?_ ?_; (· rfl))); (first | (refine m_mov (by conv => lhs; whnf) ?_) | (refine m_not rfl ?_) | (refine m_beq rfl rfl ?_) | (refine m_pick_f rfl ?_ (by conv => lhs; whnf) ?_; (· rfl)))) | (refine g_noT rfl ?_ ?_; (· rfl)))) | refine end_ops ?_ | (refine cond_f rfl ?_ ?_; (· rfl)) | refine skip_then ?_)) | (refine step_ops ?_; refine g_un rfl ?_))
    refine AW_weak (weak_st ?_ ?_ rfl rfl) h11
    · (repeat' (first | exact trivial | refine And.intro ?_ ?_)) <;> (first | rfl | skip)
    · trivial
end Go.Proofs.Ytbeflnnejofleaa
namespace Go.Am
variable [Go.Am.CodeBlk]
open Go.ChangeShapes Go.WideShapes Go.ChangeAt Go.RowKit Go.ChangeMaps
variable {P : Program} {H : Type} {enc : TypeId × Value → H}
theorem and_mk {a b : Bool} (h : a = true) (k : b = true) : (a && b) = true := by rw [h, k]; rfl
theorem More.below {w w' : World} (h : More w w') : Below w.heap.size w w' := ⟨h.os, h.tape, h.output, h.size, h.block⟩
theorem trodAll_stays (hl : laidOutB P = true) {W W' : World} (hb : Below W.heap.size W W') (sp : Nat → Bool) : ∀ {ts : List TypeId} {vs : List Value} {ds : List (DataW H)} {ps : List MemPlace},
    (∀ t ∈ ts, P.readableRec t = true ∧ t < P.types.size) → DataW.TrodAll enc P W 0 (fun _ => true) true ts vs ds ps → (∀ p ∈ ps, p.block < W.heap.size) → (∀ p ∈ ps, sp p.block = true) →
    DataW.TrodAll enc P W' 0 sp true ts vs ds ps
  | [], vs, ds, ps, _, h, _, _ => by
    obtain ⟨rfl, rfl, rfl⟩ := trodAll_nil h
    exact trodAll_mk0
  | t :: ts, vs, ds, ps, hr, h, hlt, hsp => by
    obtain ⟨v, vs', d, ds', p, q, rfl, rfl, rfl, h1, h2⟩ := trodAll_cons h
    refine ⟨p, q, ?_, trodAll_stays hl hb sp (fun t ht => hr t (List.mem_cons_of_mem _ ht)) h2 (fun x hx => hlt x (List.mem_append_right _ hx)) (fun x hx => hsp x (List.mem_append_right _ hx)), rfl⟩
    obtain ⟨h3, h4⟩ := hr t (List.mem_cons_self ..)
    exact WideElems.Trod_stays hl h3 h4 h1 (fun x hx => hb.same (hlt x (List.mem_append_left _ hx))) (fun x hx => hsp x (List.mem_append_left _ hx))
/-- What the row's last words ask of a law that says true. -/
theorem law_post (hl : laidOutB P = true) {f : Func} {s : ChangeSpec} {fresh handsOn again : Bool} {W W' : World} {args : Array Value} {ds gs : List (DataW H)} {before : List MemPlace} {bt : TypeId}
    (hW : DataW.Whole enc P f.params.toList s.vars false W args.toList ds gs before) (hvars : s.vars = []) (hfn : s.fn H (ds ++ gs) = { results := [.lit (.bool true)], args := ds })
    (hres : f.resultTypes = #[bt]) (hbt : P.underlying bt = some .bool) (hread : ∀ t ∈ f.params.toList, P.readableRec t = true ∧ t < P.types.size) (hm : More W W') :
    s.post enc P f false fresh handsOn again W args (.bool true) W' := by
  have hb := hm.below
  have hlt : ∀ p ∈ before, p.block < W.heap.size := fun p hp => hW.lt p hp
  obtain ⟨p, q, hA, hV, hpq, hz, hn⟩ := hW
  rw [hvars] at hV
  obtain ⟨rfl, rfl⟩ := trodVars_none hV
  rw [List.append_nil] at hpq
  subst hpq
  have hargs : ∀ sp : Nat → Bool, (∀ x ∈ before, sp x.block = true) → DataW.TrodAll enc P W' 0 sp true f.params.toList args.toList ds before := fun sp hsp => trodAll_stays hl hb sp hread hA hlt hsp
  have hresT : ∀ (b : Nat) (sp : Nat → Bool) (hd : Bool), DataW.TrodAll enc P W' b sp hd f.resultTypes.toList ((Value.bool true).resultList f.resultTypes.size) [.lit (.bool true)] [] := by
    intro b sp hd
    rw [hres]
    exact trodAll_mk1 (shut_bool hbt true)
  have hvarsT : ∀ sp : Nat → Bool, DataW.TrodVars enc P W' sp s.vars (s.fn H (ds ++ [])).vars [] := by
    intro sp
    rw [hvars, hfn]
    rfl
  have hfull : DataW.Whole enc P f.params.toList s.vars false W args.toList ds [] before := ⟨before, [], hA, by rw [hvars]; rfl, by simp, hz, by simp⟩
  refine ⟨ds, [], before, [], before, [], hfull, by rw [hfn]; exact hresT _ _ _, by rw [hfn]; exact hargs _ (fun x hx => by simpa using hlt x hx), hvarsT _, World.keptBut_mono (fun x hx => ⟨hx, .inr (.inl hx)⟩) (hb.frame (· ∈ before)), fun _ => ?_⟩
  refine ⟨ok_one hres rfl (okWide_bool_mk hbt true), _, _, ([] ++ before) ++ [], ⟨[] ++ before, [], trodAll_append (hargs _ (fun _ _ => rfl)) (hresT _ _ _), hvarsT _, rfl, ?_, by simp⟩, ?_⟩
  · intro b off hp
    have hin : MemPlace.cell b off ∈ before := by simpa using hp
    rw [hb.frozen (hlt _ hin)]
    exact hz b off hin
  · intro x hx _
    simpa using hx
abbrev Outer (w : World) : Ctx := { heap := w.heap, ro := fun b => b < w.heap.size, base := w.heap.size, phi := fun _ => none, live := fun _ => false, loc := false }
/-- A law says true. -/
theorem law_calls {f : FuncId} {asx : List AV} {W : World} {args : Array Value} (hs : Sp P f asx (.b true)) (he : SimL asx (Outer W) args.toList) (hlen : args.size = asx.length) (hg : GoodW W := by exact goodW_none rfl) :
    Calls P f args W fun e W' => e = .returned (.bool true) ∧ More W W' := by
  refine (hs W args hg ⟨he, by simpa using hlen⟩).mono fun e W' ⟨v, h1, h2, h3⟩ => ?_
  simp only [SimV] at h3
  subst h3
  exact ⟨h1, h2⟩
end Go.Am
namespace Go.Am
open Go.ChangeShapes Go.WideShapes Go.ChangeAt Go.RowKit Go.ChangeMaps
variable {P : Program} {H : Type} {enc : TypeId × Value → H}
theorem arg_bytes {W : World} {t e : TypeId} {v : Value} {d : DataW H} {ps : List MemPlace} (ht : P.underlying t = some (.slice e)) (he : P.underlying e = some (.int .u8)) (hc : P.cellsOf e = 1)
    (hval : Value.okWide P W .any 0 t v) (h : DataW.Trod enc P W 0 (fun _ => true) true t v d ps) : ∃ L : List UInt8, SimV (.ro false 1 (byteVs L) L.length) (Outer W) v ∧ L.length ≤ maxLen := by
  haveI : CodeBlk := ⟨[]⟩
  obtain ⟨a0, len0, cap0, rfl⟩ := okWide_slice ht hval
  obtain ⟨fuel, hf⟩ := h
  rcases open_ints ht he hc hf with ⟨hcs, _⟩ | ⟨a, len, cap, zs, hcs, _, hl, hm, hz, hx, hcell, hwz⟩
  · simp [Value.cells] at hcs
    obtain ⟨rfl, rfl, rfl⟩ := hcs
    refine ⟨[], ?_, by simp⟩
    simp only [SimV]
    exact .inl ⟨rfl, rfl, none, 0, rfl, by simp⟩
  · simp [Value.cells] at hcs
    obtain ⟨rfl, rfl, rfl⟩ := hcs
    simp only [if_true] at hz
    have hlz : len0 ≤ zs.length := by omega
    refine ⟨(zs.take len0).map fun x => UInt8.ofNat x.toNat, ?_, by simp; omega⟩
    have hlen : ((zs.take len0).map fun x => UInt8.ofNat x.toNat).length = len0 := by simp; omega
    simp only [SimV]
    by_cases h0 : len0 = 0
    · subst h0
      exact .inl ⟨rfl, rfl, _, cap0, rfl, by simp⟩
    · have hc0 := hcell 0 (by omega)
      have hspot : a.spot = none ∧ ∃ cur e f, W.heap[a.block]? = some (.cells cur e f) := by
        unfold World.cell? at hc0
        rw [show a.add 0 = a from rfl] at hc0
        split at hc0
        · rename_i c e' f hb
          split at hc0
          · cases hc0
          · rename_i hs
            exact ⟨by simpa using hs, c, e', f, hb⟩
        · cases hc0
      obtain ⟨hs, cur, e', f, hb⟩ := hspot
      obtain ⟨b, o, sp⟩ := a
      simp only at hs hb
      subst hs
      refine .inr ⟨b, o, cap0, cur, e', f, by rw [hlen], hb, lt_of_get hb, by simp [byteVs], by rw [hlen]; exact hl, by simp, ?_⟩
      refine SimL.of_get fun i x hi => ?_
      unfold byteVs at hi
      rw [List.map_map, List.getElem?_map, Option.map_eq_some_iff] at hi
      obtain ⟨n, hn, rfl⟩ := hi
      rw [List.getElem?_take] at hn
      split at hn
      · rename_i hi0
        have hci := hcell i (by omega)
        rw [addr_add, cell_of_row W b (o + i) cur e' f hb] at hci
        refine ⟨_, by rw [List.getElem?_drop, Array.getElem?_toList]; exact hci, ?_⟩
        have hw := hwz n (List.mem_of_getElem? hn)
        simp [Lit.wf, IntKind.min, IntKind.max, IntKind.signed, IntKind.bits] at hw
        have hu : (((UInt8.ofNat n.toNat).toNat : Nat) : Int) = n := by
          have h1 : (UInt8.ofNat n.toNat).toNat = n.toNat % 256 := by simp
          rw [h1]; omega
        show SimV (.v (.int .u8 ((UInt8.ofNat n.toNat).toNat : Nat))) _ _
        simp only [SimV]
        rw [hu]
        congr 1
        rw [List.getD_eq_getElem?_getD, hn]
        rfl
      · cases hn
/-- The blocks that two lists of bytes lie in, asx they stand. -/
theorem bytes_inst {W : World} {v0 v1 : Value} {L0 L1 : List UInt8} (h0 : SimV (.ro false 1 (byteVs L0) L0.length) (Outer W) v0) (h1 : SimV (.ro false 1 (byteVs L1) L1.length) (Outer W) v1) :
    ∃ I : CodeBlk, @GoodW I W ∧ @Bys I v0 L0 ∧ @Bys I v1 L1 := by
  have one : ∀ {v : Value} {L : List UInt8}, SimV (.ro false 1 (byteVs L) L.length) (Outer W) v → ∃ B : List (Nat × Array Value), (∀ p ∈ B, ∃ e fz, W.heap[p.1]? = some (.cells p.2 e fz)) ∧ ∀ I : CodeBlk, (∀ p ∈ B, p ∈ I.blks) → @Bys I v L := by
    intro v L h
    simp only [SimV] at h
    rcases h with ⟨h2, h3, a, c, rfl, _⟩ | ⟨b, o, cap, cur, e, fz, rfl, h2, h3, h4, h5, _, h6⟩
    · have hL : L = [] := List.eq_nil_of_length_eq_zero h2
      subst hL
      exact ⟨[], by simp, fun I _ => .inl ⟨rfl, a, c, rfl⟩⟩
    · refine ⟨[(b, cur)], fun p hp => ?_, fun I hI => .inr ⟨b, o, cap, cur, rfl, hI _ (List.mem_singleton.2 rfl), h5, fun C => ?_⟩⟩
      · rw [List.mem_singleton] at hp
        subst hp
        exact ⟨e, fz, h2⟩
      · refine simL_allv ?_ h6
        rw [List.all_eq_true]
        intro x hx
        obtain ⟨y, _, rfl⟩ := List.mem_map.1 hx
        rfl
  obtain ⟨B0, g0, k0⟩ := one h0
  obtain ⟨B1, g1, k1⟩ := one h1
  refine ⟨⟨B0 ++ B1⟩, ?_, k0 ⟨B0 ++ B1⟩ fun p hp => List.mem_append_left _ hp, k1 ⟨B0 ++ B1⟩ fun p hp => List.mem_append_right _ hp⟩
  have hall : ∀ p ∈ B0 ++ B1, ∃ e fz, W.heap[p.1]? = some (.cells p.2 e fz) := fun p hp => (List.mem_append.1 hp).elim (g0 p) (g1 p)
  intro b hb
  obtain ⟨p, hp, rfl⟩ := List.mem_map.1 hb
  obtain ⟨e, fz, h⟩ := hall p hp
  refine ⟨p.2, e, fz, h, fun q hq hqp => ?_⟩
  obtain ⟨e2, fz2, h2⟩ := hall q hq
  rw [hqp, h] at h2
  injection h2 with h2
  injection h2 with h3
  exact h3.symm
end Go.Am
namespace Go.Proofs.Ytbeflnnejofleaa
open Go.ChangeShapes Go.WideShapes Go.ChangeAt Go.RowKit
theorem factMayEnter : Try.checked.prog.mayEnter = true := by kernel_rfl
end Go.Proofs.Ytbeflnnejofleaa
namespace Go.Proofs.Ytbeflnnejofleaa
open Go.ChangeShapes Go.WideShapes Go.ChangeAt Go.RowKit
theorem factLifts : Try.checked.prog.liftsFinal = false := by kernel_rfl
end Go.Proofs.Ytbeflnnejofleaa
namespace Go.Proofs.Ytbeflnnejofleaa
open Go.ChangeShapes Go.WideShapes Go.ChangeAt Go.RowKit
theorem factMake : Try.checked.prog.make = some (OpenClaim.make { program := "", sum := "", func := "", spec := "" }) := by kernel_rfl
end Go.Proofs.Ytbeflnnejofleaa
