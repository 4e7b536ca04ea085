/- The abstract machine, contracts: part 5 of what this claim needs. -/
import Derived.Test.YtmifianbkpiifaaDoorZs4
set_option linter.unusedSectionVars false
namespace Go.Proofs.YtmifianbkpiifaaDoor
variable [Go.Am.CodeBlk]
open Go.Am
attribute [local irreducible] AW Outs Weak Lends Lend Sp aops atree aop1 Then Round InBlock Done
attribute [local irreducible] SpH DoneH
def ownPs (n : Nat) : List (List Int) := (List.range n).map fun i : Nat => [((i : Nat) : Int), ((i : Nat) : Int)]
theorem ownPs_snoc (k : Nat) : ownPs (k + 1) = ownPs k ++ [[(k : Int), (k : Int)]] := by simp [ownPs, List.range_succ]
theorem ownPs_len (k : Nat) : (ownPs k).length = k := by simp [ownPs]
theorem ownPs_row (k : Nat) : ∀ r ∈ ownPs k, r.length = 2 := by
  intro r hr
  simp only [ownPs, List.mem_map] at hr
  obtain ⟨a, _, rfl⟩ := hr
  rfl
theorem own_in (n i j : Nat) (hi : i < n) (hj : j < n) : inB (ownPs n) i j = decide ((j : Int) = (i : Int)) := by
  rw [Bool.eq_iff_iff]
  simp only [inB, ownPs, List.any_map, List.any_eq_true, List.mem_range, Function.comp, Bool.and_eq_true, decide_eq_true_eq]
  constructor
  · rintro ⟨a, _, h1, h2⟩
    simp at h1 h2
    omega
  · intro h
    exact ⟨i, hi, by simp, by simp; omega⟩
/-- What OwnBoard tells. -/
def ownBd (n : Int) : List UInt8 := if 1 ≤ n ∧ n ≤ 8 then bdT (inB (ownPs n.toNat)) n.toNat n.toNat else []
theorem specOwnBoard_spec (n : Int) : Sp Tryd.prog 18 [.i n] (.tup [str (ownBd n), .b (decide (1 ≤ n ∧ n ≤ 8))]) := by
  have hpb : pbase = 4000000 := rfl
  refine spec_of Tryd.func18 rfl cc18 rfl ?_
  unfold ac18
  by_cases h : 1 ≤ n ∧ n ≤ 8
  · obtain ⟨m, rfl⟩ := Int.eq_ofNat_of_zero_le (show 0 ≤ n by omega)
    have e : ownBd (m : Int) = bdT (inB (ownPs m)) m m := by unfold ownBd; rw [if_pos h, Int.toNat_natCast]
    rw [e]
    repeat (first | (refine step_ops ?_; (refine m_mov (by conv => lhs; whnf) ?_)) | refine end_ops ?_ | refine seq_ops ?_ | refine AW_seq ?_)
    (refine step_ops ?_); (apply m_call (l1In_spec _ _ _)); (· repeat (first | exact lends_nil | (refine lends_cons ?_ ?_; (· exact lend_v))))
    repeat (first | (refine step_ops ?_; (first | (refine m_mov (by conv => lhs; whnf) ?_) | (refine m_not rfl ?_) | (refine m_nils ?_))) | refine end_ops ?_ | refine seq_ops ?_ | (refine cond_f rfl ?_ ?_; (· (refine nf ?_; assumption))) | refine skip_then ?_ | refine AW_seq ?_ | refine AW_block ?_)
    refine AW_loop (α := Nat) (fun k => k ≤ m) (fun k => stM [(0, .i m), (4, .sl 4 1 0 (ownPs k).length), (5, .i k)] [] 4 1000 (ownPs k)) (fun k => m - k) 0 (by omega)
      (weak_keep id ?_ ?_ rfl rfl rfl (.inl (by simp [ownPs, pbase])) rfl rfl rfl (.inr ⟨rfl, rfl⟩) (fun j hj => by simp [ownPs] at hj)) ?_
    · (repeat' (first | exact trivial | refine And.intro ?_ ?_)) <;> (first | rfl | skip)
    · trivial
    intro k hk
    have hrl := rowsC_len 1000 (ownPs k)
    have hpl := ownPs_len k
    by_cases hc : k < m
    · repeat (first | (refine step_ops ?_; (first | (refine m_mov (by conv => lhs; whnf) ?_) | (refine m_lss rfl rfl ?_))) | refine end_ops ?_ | refine seq_ops ?_ | refine AW_ops ?_ | (refine cond_t rfl ?_ ?_; (· (refine decide_eq_true ?_; omega))) | refine skip_then ?_ | refine AW_seq ?_ | refine AW_block ?_)
      refine step_ops ?_
      refine m_bsl2i rfl rfl ?_
      refine step_ops ?_
      refine m_bsl1d rfl rfl ?_
      refine step_ops ?_
      refine m_app1d rfl (by decide) rfl ?_ rfl rfl rfl ?_ (by decide) ?_
      · simp [rowsC_kill, rowsC_len]
      · omega
      repeat (first | (refine step_ops ?_; (first | (refine m_mov (by conv => lhs; whnf) ?_) | (refine m_add rfl rfl ?_ ?_ ?_; (· omega); (· omega)))) | refine end_ops ?_ | refine AW_ops ?_ | refine norm_then ?_ | refine norm_block ?_)
      refine next_round (k + 1) (by omega) ?_ ?_
      · rw [ownPs_snoc, List.length_append]
        refine weak_push (fun r => if r = 4 then 19 else r) 17 ?_ ?_ rfl rfl rfl (by omega) rfl rfl (by decide) rfl rfl ?_ ?_ ?_
        · (repeat' (first | exact trivial | refine And.intro ?_ ?_)) <;> (first | rfl | skip)
        · trivial
        · simp [rowsC_kill, killL_append, killL]
          rfl
        · rfl
        · (intro j hj; simp (disch := first | omega | assumption) only [hp_put, hp_mem_ne, hp_kill_ne]; first | exact stM_row rfl hj | (rw [stM_row rfl hj]; rfl))
      · omega
    · obtain rfl : k = m := by omega
      repeat (first | (refine step_ops ?_; (first | (refine m_mov (by conv => lhs; whnf) ?_) | (refine m_lss rfl rfl ?_))) | refine end_ops ?_ | refine seq_ops ?_ | (refine cond_f rfl ?_ ?_; (· (refine decide_eq_false ?_; omega))) | refine AW_seq ?_ | refine norm_then ?_ | refine exit_then ?_ | refine exit_round ?_ | refine AW_exit ?_ | refine exit_block ?_)
      refine step_ops ?_
      refine m_call (bdMake_spec k (ownPs k) (by omega) (by omega) (ownPs_row k)) ?_ ?_
      · refine lends_cons lend_v (lends_cons ?_ lends_nil)
        refine lend_mat rfl ?_
        (intro j hj; simp (disch := first | omega | assumption) only [hp_put, hp_mem_ne, hp_kill_ne]; first | exact stM_row rfl hj | (rw [stM_row rfl hj]; rfl))
      repeat (first | (refine step_ops ?_; (refine m_mov (by conv => lhs; whnf) ?_)) | refine end_ops ?_ | refine AW_ret ?_ | refine ret_done ?_)
      exact outs_tup2 outs_v (outs_b (by simp [h]))
  · have e : ownBd n = [] := if_neg h
    rw [e]
    repeat (first | (refine step_ops ?_; (refine m_mov (by conv => lhs; whnf) ?_)) | refine end_ops ?_ | refine seq_ops ?_ | refine AW_seq ?_)
    (refine step_ops ?_); (apply m_call (l1In_spec _ _ _)); (· repeat (first | exact lends_nil | (refine lends_cons ?_ ?_; (· exact lend_v))))
    repeat (first | (refine step_ops ?_; (first | (refine m_mov (by conv => lhs; whnf) ?_) | (refine m_not rfl ?_))) | refine end_ops ?_ | refine seq_ops ?_ | (refine cond_t rfl ?_ ?_; (· (refine nt ?_; assumption))) | refine AW_ret ?_ | refine ret_done ?_ | refine ret_then ?_)
    exact outs_tup2 outs_v (outs_b (by simp [h]))
theorem ownFn_spec (i j : Nat) : Sp Tryd.prog 39 [.agg [.i (i : Nat), .i (j : Nat)]] (.b (decide ((j : Int) = (i : Int)))) := by
  refine spec_of Tryd.func39 rfl cc39 rfl ?_
  unfold ac39
  repeat (first | (refine step_ops ?_; (first | (refine m_mov (by conv => lhs; whnf) ?_) | (refine m_eql rfl rfl ?_) | (apply m_ld_pt; (· rfl); (· rfl); (· rfl)) | (refine m_fa rfl ?_) | (refine m_box rfl ?_ ?_; (· first | rfl | (simp [cellOk, Value.oneCell']; done))))) | refine end_ops ?_ | refine seq_ops ?_ | refine AW_ret ?_ | refine ret_done ?_)
  exact outs_b rfl
theorem own_asks (n : Nat) : AsksP Tryd.prog 39 [] n (fun i j => decide ((j : Int) = (i : Int))) where
  call := ⟨_, Tryd.func39, by rfl, by rfl⟩
  bears := bears_nil
  norefs := fun _ => rfl
  nokill := fun _ => rfl
  spec := fun i j _ _ => ownFn_spec i j
theorem implOwnBoard_spec (n : Int) : Sp Tryd.prog 17 [.i n] (.tup [str (ownBd n), .b (decide (1 ≤ n ∧ n ≤ 8))]) := by
  refine spec_of Tryd.func17 rfl cc17 rfl ?_
  unfold ac17
  by_cases h : 1 ≤ n ∧ n ≤ 8
  · obtain ⟨m, rfl⟩ := Int.eq_ofNat_of_zero_le (show 0 ≤ n by omega)
    have e : ownBd (m : Int) = bdT (fun i j => decide ((j : Int) = (i : Int))) m m := by
      unfold ownBd
      rw [if_pos h, Int.toNat_natCast]
      exact bdT_congr (fun i j hi hj => own_in m i j hi hj) (Nat.le_refl _)
    have hs := boardText_spec (own_asks m) (by omega)
    rw [e]
    repeat (first | (refine step_ops ?_; (refine m_mov (by conv => lhs; whnf) ?_)) | refine end_ops ?_ | refine seq_ops ?_ | refine AW_seq ?_)
    (refine step_ops ?_); (apply m_call (isSide_spec _)); (· repeat (first | exact lends_nil | (refine lends_cons ?_ ?_; (· exact lend_v))))
    repeat (first | (refine step_ops ?_; (first | (refine m_mov (by conv => lhs; whnf) ?_) | (refine m_not rfl ?_))) | refine end_ops ?_ | refine seq_ops ?_ | (refine cond_f rfl ?_ ?_; (· (refine nf ?_; assumption))) | refine skip_then ?_)
    refine step_ops ?_
    refine m_call hs ?_ ?_
    · exact lends_cons lend_v (lends_cons lend_fnc lends_nil)
    repeat (first | (refine step_ops ?_; (refine m_mov (by conv => lhs; whnf) ?_)) | refine end_ops ?_ | refine AW_ret ?_ | refine ret_done ?_)
    exact outs_tup2 outs_v (outs_b (by simp [h]))
  · have e : ownBd n = [] := if_neg h
    rw [e]
    repeat (first | (refine step_ops ?_; (refine m_mov (by conv => lhs; whnf) ?_)) | refine end_ops ?_ | refine seq_ops ?_ | refine AW_seq ?_)
    (refine step_ops ?_); (apply m_call (isSide_spec _)); (· repeat (first | exact lends_nil | (refine lends_cons ?_ ?_; (· exact lend_v))))
    repeat (first | (refine step_ops ?_; (first | (refine m_mov (by conv => lhs; whnf) ?_) | (refine m_not rfl ?_))) | refine end_ops ?_ | refine seq_ops ?_ | (refine cond_t rfl ?_ ?_; (· (refine nt ?_; assumption))) | refine AW_ret ?_ | refine ret_done ?_ | refine ret_then ?_)
    exact outs_tup2 outs_v (outs_b (by simp [h]))
/-- Places of couples. -/
def cplPs (m k : Nat) : List (List Int) := (List.range k).flatMap fun i : Nat => [[((i : Nat) : Int), ((i : Nat) : Int)], [((i : Nat) : Int), (((i + 1) % m : Nat) : Int)]]
theorem cplPs_snoc (m k : Nat) : cplPs m (k + 1) = cplPs m k ++ [[(k : Int), (k : Int)]] ++ [[(k : Int), (((k + 1) % m : Nat) : Int)]] := by simp [cplPs, List.range_succ]
theorem cplPs_len (m k : Nat) : (cplPs m k).length = 2 * k := by
  induction k with
  | zero => rfl
  | succ k ih => rw [cplPs_snoc, List.length_append, List.length_append, ih]; simp; omega
theorem cplPs_row (m k : Nat) : ∀ r ∈ cplPs m k, r.length = 2 := by
  intro r hr
  simp only [cplPs, List.mem_flatMap] at hr
  obtain ⟨a, _, hr⟩ := hr
  simp at hr
  rcases hr with rfl | rfl <;> rfl
/-- Is a place one of a couple? -/
def cplAt (m i j : Nat) : Bool := decide ((j : Int) = (i : Int)) || decide ((j : Int) = (((i + 1) % m : Nat) : Int))
theorem cpl_in (n i j : Nat) (hi : i < n) (hj : j < n) : inB (cplPs n n) i j = cplAt n i j := by
  rw [Bool.eq_iff_iff]
  simp only [inB, cplPs, cplAt, List.any_flatMap, List.any_eq_true, List.mem_range, Bool.and_eq_true, Bool.or_eq_true, decide_eq_true_eq]
  constructor
  · rintro ⟨a, _, p, hp, h1, h2⟩
    simp only [List.mem_cons, List.not_mem_nil, or_false] at hp
    rcases hp with rfl | rfl
    · simp at h1 h2
      left; omega
    · have h1' : a = i := by simp at h1; omega
      subst h1'
      right
      exact h2.symm
  · rintro (h | h)
    · exact ⟨i, hi, [(i : Int), (i : Int)], by simp, rfl, h.symm⟩
    · exact ⟨i, hi, [(i : Int), (((i + 1) % n : Nat) : Int)], by simp, rfl, h.symm⟩
/-- What CoupleBoard tells. -/
def cplBd (n : Int) : List UInt8 := if 1 ≤ n ∧ n ≤ 8 then bdT (inB (cplPs n.toNat n.toNat)) n.toNat n.toNat else []
theorem specCoupleBoard_spec (n : Int) : Sp Tryd.prog 20 [.i n] (.tup [str (cplBd n), .b (decide (1 ≤ n ∧ n ≤ 8))]) := by
  have hpb : pbase = 4000000 := rfl
  refine spec_of Tryd.func20 rfl cc20 rfl ?_
  unfold ac20
  by_cases h : 1 ≤ n ∧ n ≤ 8
  · obtain ⟨m, rfl⟩ := Int.eq_ofNat_of_zero_le (show 0 ≤ n by omega)
    have e : cplBd (m : Int) = bdT (inB (cplPs m m)) m m := by unfold cplBd; rw [if_pos h, Int.toNat_natCast]
    rw [e]
    repeat (first | (refine step_ops ?_; (refine m_mov (by conv => lhs; whnf) ?_)) | refine end_ops ?_ | refine seq_ops ?_ | refine AW_seq ?_)
    (refine step_ops ?_); (apply m_call (l1In_spec _ _ _)); (· repeat (first | exact lends_nil | (refine lends_cons ?_ ?_; (· exact lend_v))))
    repeat (first | (refine step_ops ?_; (first | (refine m_mov (by conv => lhs; whnf) ?_) | (refine m_not rfl ?_) | (refine m_nils ?_))) | refine end_ops ?_ | refine seq_ops ?_ | (refine cond_f rfl ?_ ?_; (· (refine nf ?_; assumption))) | refine skip_then ?_ | refine AW_seq ?_ | refine AW_block ?_)
    refine AW_loop (α := Nat) (fun k => k ≤ m) (fun k => stM [(0, .i m), (4, .sl 4 1 0 (cplPs m k).length), (5, .i k)] [] 4 1000 (cplPs m k)) (fun k => m - k) 0 (by omega)
      (weak_keep id ?_ ?_ rfl rfl rfl (.inl (by simp [cplPs, pbase])) rfl rfl rfl (.inr ⟨rfl, rfl⟩) (fun j hj => by simp [cplPs] at hj)) ?_
    · (repeat' (first | exact trivial | refine And.intro ?_ ?_)) <;> (first | rfl | skip)
    · trivial
    intro k hk
    have hrl := rowsC_len 1000 (cplPs m k)
    have hpl := cplPs_len m k
    by_cases hc : k < m
    · have hrem : ((k : Int) + 1) % (m : Int) = (((k + 1) % m : Nat) : Int) := rfl
      repeat (first | (refine step_ops ?_; (first | (refine m_mov (by conv => lhs; whnf) ?_) | (refine m_lss rfl rfl ?_))) | refine end_ops ?_ | refine seq_ops ?_ | refine AW_ops ?_ | (refine cond_t rfl ?_ ?_; (· (refine decide_eq_true ?_; omega))) | refine skip_then ?_ | refine AW_seq ?_ | refine AW_block ?_)
      refine step_ops ?_
      refine m_bsl2i rfl rfl ?_
      repeat (refine step_ops ?_; (first | (refine m_mov (by conv => lhs; whnf) ?_) | (refine m_add rfl rfl ?_ ?_ ?_; (· omega); (· omega)) | (refine m_rem rfl rfl ?_ ?_ ?_; (· omega); (· omega))))
      rw [hrem]
      refine step_ops ?_
      refine m_bsl2i rfl rfl ?_
      refine step_ops ?_
      refine m_bsl2d rfl rfl rfl rfl ?_
      refine step_ops ?_
      refine m_app2d rfl (by decide) rfl ?_ rfl rfl rfl rfl ?_ (by decide) ?_
      · simp [rowsC_kill, rowsC_len]
      · omega
      repeat (first | (refine step_ops ?_; (first | (refine m_mov (by conv => lhs; whnf) ?_) | (refine m_add rfl rfl ?_ ?_ ?_; (· omega); (· omega)))) | refine end_ops ?_ | refine AW_ops ?_ | refine norm_then ?_ | refine norm_block ?_)
      refine next_round (k + 1) (by omega) ?_ ?_
      · rw [cplPs_snoc, List.length_append, List.length_append]
        refine weak_push2 (fun r => if r = 4 then 25 else r) 17 23 ?_ ?_ rfl rfl rfl (by omega) rfl rfl (by decide) rfl (by decide) rfl (by decide) rfl ?_ ?_ ?_ ?_
        · (repeat' (first | exact trivial | refine And.intro ?_ ?_)) <;> (first | rfl | skip)
        · trivial
        · simp [rowsC_kill, killL_append, killL]
          exact ⟨rfl, rfl⟩
        · rfl
        · rfl
        · (intro j hj; simp (disch := first | omega | assumption) only [hp_put, hp_mem_ne, hp_kill_ne]; first | exact stM_row rfl hj | (rw [stM_row rfl hj]; rfl))
      · omega
    · obtain rfl : k = m := by omega
      repeat (first | (refine step_ops ?_; (first | (refine m_mov (by conv => lhs; whnf) ?_) | (refine m_lss rfl rfl ?_))) | refine end_ops ?_ | refine seq_ops ?_ | (refine cond_f rfl ?_ ?_; (· (refine decide_eq_false ?_; omega))) | refine AW_seq ?_ | refine norm_then ?_ | refine exit_then ?_ | refine exit_round ?_ | refine AW_exit ?_ | refine exit_block ?_)
      refine step_ops ?_
      refine m_call (bdMake_spec k (cplPs k k) (by omega) (by omega) (cplPs_row k k)) ?_ ?_
      · refine lends_cons lend_v (lends_cons ?_ lends_nil)
        refine lend_mat rfl ?_
        (intro j hj; simp (disch := first | omega | assumption) only [hp_put, hp_mem_ne, hp_kill_ne]; first | exact stM_row rfl hj | (rw [stM_row rfl hj]; rfl))
      repeat (first | (refine step_ops ?_; (refine m_mov (by conv => lhs; whnf) ?_)) | refine end_ops ?_ | refine AW_ret ?_ | refine ret_done ?_)
      exact outs_tup2 outs_v (outs_b (by simp [h]))
  · have e : cplBd n = [] := if_neg h
    rw [e]
    repeat (first | (refine step_ops ?_; (refine m_mov (by conv => lhs; whnf) ?_)) | refine end_ops ?_ | refine seq_ops ?_ | refine AW_seq ?_)
    (refine step_ops ?_); (apply m_call (l1In_spec _ _ _)); (· repeat (first | exact lends_nil | (refine lends_cons ?_ ?_; (· exact lend_v))))
    repeat (first | (refine step_ops ?_; (first | (refine m_mov (by conv => lhs; whnf) ?_) | (refine m_not rfl ?_))) | refine end_ops ?_ | refine seq_ops ?_ | (refine cond_t rfl ?_ ?_; (· (refine nt ?_; assumption))) | refine AW_ret ?_ | refine ret_done ?_ | refine ret_then ?_)
    exact outs_tup2 outs_v (outs_b (by simp [h]))
theorem coupleFn_spec (n i j : Nat) (hn : n ≤ 8) (hi : i < n) : Sp Tryd.prog 41 [.agg [.i (i : Nat), .i (j : Nat)], .rp [.i (n : Nat)]] (.b (cplAt n i j)) := by
  have hrem : ((i : Int) + 1) % (n : Int) = (((i + 1) % n : Nat) : Int) := rfl
  refine spec_of Tryd.func41 rfl cc41 rfl ?_
  unfold ac41
  by_cases h1 : (j : Int) = (i : Int)
  · repeat (first | ((first | refine step_ops ?_ | refine step_tree ?_); (first | (first | (refine m_mov (by conv => lhs; whnf) ?_) | (refine m_eql rfl rfl ?_) | (apply m_ld_pt; (· rfl); (· rfl); (· rfl)) | (refine m_pick_t rfl ?_ (by conv => lhs; whnf) ?_; (· (refine decide_eq_true ?_; assumption))) | (refine m_fa rfl ?_) | (refine m_box rfl ?_ ?_; (· first | rfl | (simp [cellOk, Value.oneCell']; done)))) | (refine g_noF rfl ?_ ?_; (· (refine decide_eq_true ?_; assumption))))) | refine end_ops ?_ | refine seq_ops ?_ | refine end_tree ?_ | refine seq_tree ?_ | refine AW_ret ?_ | refine ret_done ?_)
    exact outs_b (by simp [cplAt, h1])
  · repeat (first | ((first | refine step_ops ?_ | refine step_tree ?_); ((try (refine g_yes rfl ?_ ?_; (· (simp [*]; done)))); (first | (refine m_mov (by conv => lhs; whnf) ?_) | (refine m_eql rfl rfl ?_) | (refine m_add rfl rfl ?_ ?_ ?_; (· omega); (· omega)) | (apply m_ld_rp; (· rfl); (· rfl)) | (apply m_ld_pt; (· rfl); (· rfl); (· rfl)) | (refine m_pick_f rfl ?_ (by conv => lhs; whnf) ?_; (· (refine decide_eq_false ?_; assumption))) | (refine m_fa rfl ?_) | (refine m_box rfl ?_ ?_; (· first | rfl | (simp [cellOk, Value.oneCell']; done))) | (refine m_rem rfl rfl ?_ ?_ ?_; (· omega); (· omega))))) | refine end_ops ?_ | refine seq_ops ?_ | refine end_tree ?_ | refine seq_tree ?_ | refine AW_ret ?_ | refine ret_done ?_)
    rw [hrem]
    skip
    exact outs_b (by simp [cplAt, h1])
theorem couple_asks (n : Nat) (hn : n ≤ 8) : AsksP Tryd.prog 41 [.rp [.i (n : Nat)]] n (cplAt n) where
  call := ⟨_, Tryd.func41, by rfl, by rfl⟩
  bears := bears_rp rfl
  norefs := fun _ => rfl
  nokill := fun _ => rfl
  spec := fun i j hi _ => coupleFn_spec n i j hn hi
theorem implCoupleBoard_spec (n : Int) : Sp Tryd.prog 19 [.i n] (.tup [str (cplBd n), .b (decide (1 ≤ n ∧ n ≤ 8))]) := by
  refine spec_of Tryd.func19 rfl cc19 rfl ?_
  unfold ac19
  by_cases h : 1 ≤ n ∧ n ≤ 8
  · obtain ⟨m, rfl⟩ := Int.eq_ofNat_of_zero_le (show 0 ≤ n by omega)
    have e : cplBd (m : Int) = bdT (cplAt m) m m := by
      unfold cplBd
      rw [if_pos h, Int.toNat_natCast]
      exact bdT_congr (fun i j hi hj => cpl_in m i j hi hj) (Nat.le_refl _)
    have hs := boardText_spec (couple_asks m (by omega)) (by omega)
    rw [e]
    repeat (first | (refine step_ops ?_; (first | (refine m_mov (by conv => lhs; whnf) ?_) | (apply m_ld_pt; (· rfl); (· rfl); (· rfl)) | (refine m_box1 rfl rfl ?_))) | refine end_ops ?_ | refine seq_ops ?_ | refine AW_seq ?_)
    (refine step_ops ?_); (apply m_call (isSide_spec _)); (· repeat (first | exact lends_nil | (refine lends_cons ?_ ?_; (· exact lend_v))))
    repeat (first | (refine step_ops ?_; (first | (refine m_not rfl ?_) | (apply m_ld_pt; (· rfl); (· rfl); (· rfl)) | (refine m_mkf ?_))) | refine end_ops ?_ | refine seq_ops ?_ | (refine cond_f rfl ?_ ?_; (· (refine nf ?_; assumption))) | refine skip_then ?_)
    refine step_ops ?_
    refine m_call hs ?_ ?_
    · exact lends_cons lend_v (lends_cons (lend_fn (lends_cons (lend_pt (cs := [.i (m : Nat)]) rfl rfl) lends_nil)) lends_nil)
    repeat (first | (refine step_ops ?_; (refine m_mov (by conv => lhs; whnf) ?_)) | refine end_ops ?_ | refine AW_ret ?_ | refine ret_done ?_)
    exact outs_tup2 outs_v (outs_b (by simp [h]))
  · have e : cplBd n = [] := if_neg h
    rw [e]
    repeat (first | (refine step_ops ?_; (first | (refine m_mov (by conv => lhs; whnf) ?_) | (apply m_ld_pt; (· rfl); (· rfl); (· rfl)) | (refine m_box1 rfl rfl ?_))) | refine end_ops ?_ | refine seq_ops ?_ | refine AW_seq ?_)
    (refine step_ops ?_); (apply m_call (isSide_spec _)); (· repeat (first | exact lends_nil | (refine lends_cons ?_ ?_; (· exact lend_v))))
    repeat (first | (refine step_ops ?_; (first | (refine m_mov (by conv => lhs; whnf) ?_) | (refine m_not rfl ?_))) | refine end_ops ?_ | refine seq_ops ?_ | (refine cond_t rfl ?_ ?_; (· (refine nt ?_; assumption))) | refine AW_ret ?_ | refine ret_done ?_ | refine ret_then ?_)
    exact outs_tup2 outs_v (outs_b (by simp [h]))
end Go.Proofs.YtmifianbkpiifaaDoor
namespace Go.Am
variable [Go.Am.CodeBlk]
/-- A board on which one place is told anew. -/
def upd (fb : Nat → Nat → Bool) (a b : Nat) (v : Bool) : Nat → Nat → Bool := fun i j => if i = a ∧ j = b then v else fb i j
theorem rowT_upd_ne {fb : Nat → Nat → Bool} {a b i k : Nat} {v : Bool} (h : i ≠ a) : rowT (upd fb a b v) i k = rowT fb i k := by
  simp [rowT, upd, h]
theorem rowT_set {fb : Nat → Nat → Bool} {a b k : Nat} {v : Bool} (h : b < k) : (rowT fb a k).set b (sgn v) = rowT (upd fb a b v) a k := by
  apply List.ext_getElem
  · simp [rowT]
  · intro n h1 h2
    simp only [rowT, List.getElem_set, List.getElem_map, List.getElem_range, upd, true_and]
    by_cases hn : b = n
    · subst hn; simp
    · have : ¬ n = b := fun e => hn e.symm
      simp [hn, this]
theorem bdT_upd_big {fb : Nat → Nat → Bool} {a b n : Nat} {v : Bool} : ∀ k, k ≤ a → bdT (upd fb a b v) n k = bdT fb n k
  | 0, _ => rfl
  | k + 1, h => by
    simp only [bdT]
    rw [bdT_upd_big k (by omega), rowT_upd_ne (by omega)]
theorem bdT_set {fb : Nat → Nat → Bool} {a b n : Nat} {v : Bool} (hb : b < n) : ∀ k, a < k → (bdT fb n k).set (a * (n + 1) + b) (sgn v) = bdT (upd fb a b v) n k
  | 0, h => by omega
  | k + 1, h => by
    have hl := bdT_len2 fb n k
    by_cases hk : a < k
    · have h1 : a * (n + 1) + b < (bdT fb n k).length := by
        have : (a + 1) * (n + 1) ≤ k * (n + 1) := Nat.mul_le_mul_right _ hk
        rw [Nat.add_mul] at this
        omega
      simp only [bdT]
      rw [List.append_assoc, List.set_append_left _ _ h1, bdT_set hb k hk, rowT_upd_ne (by omega), List.append_assoc]
    · obtain rfl : a = k := by omega
      have hp : (bdT fb n a ++ (if 0 < a then [47] else [])).length = a * (n + 1) := by
        rw [List.length_append, hl]
        rcases Nat.eq_zero_or_pos a with h | h
        · subst h; simp
        · have : 1 ≤ a * (n + 1) := Nat.mul_pos h (by omega)
          rw [if_pos h]; simp; omega
      simp only [bdT]
      rw [List.set_append_right _ _ (by omega), hp, Nat.add_sub_cancel_left, rowT_set hb, bdT_upd_big a (Nat.le_refl _)]
end Go.Am
namespace Go.Proofs.YtmifianbkpiifaaDoor
variable [Go.Am.CodeBlk]
open Go.Am
attribute [local irreducible] AW Outs Weak Lends Lend Sp aops atree aop1 Then Round InBlock Done
/-- A board, a place of it, which is not so yet. -/
def Pl (B : List UInt8) (a b : Int) (f : Bool) : Prop := GoodBd B ∧ (0 ≤ a ∧ a < (sdB B : Nat)) ∧ (0 ≤ b ∧ b < (sdB B : Nat)) ∧ fbB B a.toNat b.toNat = !f
instance (B : List UInt8) (a b : Int) (f : Bool) : Decidable (Pl B a b f) := inferInstanceAs (Decidable (_ ∧ _))
def plT (B : List UInt8) (a b : Int) (f : Bool) : List UInt8 := if Pl B a b f then B.set (a.toNat * (sdB B + 1) + b.toNat) (sgn f) else []
def plR (B : List UInt8) (a b : Int) (f : Bool) : AV := .tup [str (plT B a b f), .b (decide (Pl B a b f))]
theorem bdPlace_spec (B : List UInt8) (a b : Int) (hB : B.length ≤ 1048576) : Sp Tryd.prog 43 [str B, .i a, .i b] (.b (decide (GoodBd B ∧ (0 ≤ a ∧ a < (sdB B : Nat)) ∧ (0 ≤ b ∧ b < (sdB B : Nat))))) := by
  refine spec_of Tryd.func43 rfl cc43 rfl ?_
  unfold ac43
  by_cases h1 : GoodBd B
  · have hsd := good_sd h1
    by_cases h2 : 0 ≤ a ∧ a ≤ (sdB B : Int) - 1
    · repeat (first | (refine step_ops ?_; (refine m_mov (by conv => lhs; whnf) ?_)) | refine end_ops ?_ | refine seq_ops ?_)
      (refine step_ops ?_); (apply m_call (bdGood_spec B hB)); (· repeat (first | exact lends_nil | (refine lends_cons ?_ ?_; (· exact lend_v))))
      repeat (refine step_ops ?_; ((try (refine g_yes rfl ?_ ?_; (· (refine decide_eq_true ?_; assumption)))); (refine m_mov (by conv => lhs; whnf) ?_)))
      (refine step_ops ?_); (refine g_yes rfl ?_ ?_; (· first | ((refine decide_eq_true ?_; assumption)) | (fail)); (apply m_call (bdSide_spec B hB))); (· repeat (first | exact lends_nil | (refine lends_cons ?_ ?_; (· exact lend_v))))
      repeat (refine step_ops ?_; ((try (refine g_yes rfl ?_ ?_; (· (refine decide_eq_true ?_; assumption)))); (refine m_sub rfl rfl ?_ ?_ ?_; (· omega); (· omega))))
      (refine step_ops ?_); (refine g_yes rfl ?_ ?_; (· first | ((refine decide_eq_true ?_; assumption)) | (fail)); (apply m_call (l1In_spec _ _ _))); (· repeat (first | exact lends_nil | (refine lends_cons ?_ ?_; (· exact lend_v))))
      repeat (refine step_ops ?_; ((try (refine g_yes rfl ?_ ?_; (· (refine decide_eq_true ?_; assumption)))); (first | (refine m_mov (by conv => lhs; whnf) ?_) | (refine m_pick_t rfl ?_ (by conv => lhs; whnf) ?_; (· (refine decide_eq_true ?_; assumption))))))
      (refine step_ops ?_); (refine g_yes rfl ?_ ?_; (· first | ((refine decide_eq_true ?_; assumption)) | (fail)); (apply m_call (bdSide_spec B hB))); (· repeat (first | exact lends_nil | (refine lends_cons ?_ ?_; (· exact lend_v))))
      repeat (refine step_ops ?_; ((try (refine g_yes rfl ?_ ?_; (· (refine decide_eq_true ?_; assumption)))); (refine m_sub rfl rfl ?_ ?_ ?_; (· omega); (· omega))))
      (refine step_ops ?_); (refine g_yes rfl ?_ ?_; (· first | ((refine decide_eq_true ?_; assumption)) | (fail)); (apply m_call (l1In_spec _ _ _))); (· repeat (first | exact lends_nil | (refine lends_cons ?_ ?_; (· exact lend_v))))
      repeat (first | (refine step_ops ?_; (first | (refine m_mov (by conv => lhs; whnf) ?_) | (refine m_pick_t rfl ?_ (by conv => lhs; whnf) ?_; (· (refine decide_eq_true ?_; assumption))))) | refine end_ops ?_ | refine AW_ret ?_ | refine ret_done ?_)
      exact outs_b (by rw [Bool.eq_iff_iff]; simp [h1]; omega)
    · repeat (first | (refine step_ops ?_; (refine m_mov (by conv => lhs; whnf) ?_)) | refine end_ops ?_ | refine seq_ops ?_)
      (refine step_ops ?_); (apply m_call (bdGood_spec B hB)); (· repeat (first | exact lends_nil | (refine lends_cons ?_ ?_; (· exact lend_v))))
      repeat (refine step_ops ?_; ((try (refine g_yes rfl ?_ ?_; (· (refine decide_eq_true ?_; assumption)))); (refine m_mov (by conv => lhs; whnf) ?_)))
      (refine step_ops ?_); (refine g_yes rfl ?_ ?_; (· first | ((refine decide_eq_true ?_; assumption)) | (fail)); (apply m_call (bdSide_spec B hB))); (· repeat (first | exact lends_nil | (refine lends_cons ?_ ?_; (· exact lend_v))))
      repeat (refine step_ops ?_; ((try (refine g_yes rfl ?_ ?_; (· (refine decide_eq_true ?_; assumption)))); (refine m_sub rfl rfl ?_ ?_ ?_; (· omega); (· omega))))
      (refine step_ops ?_); (refine g_yes rfl ?_ ?_; (· first | ((refine decide_eq_true ?_; assumption)) | (fail)); (apply m_call (l1In_spec _ _ _))); (· repeat (first | exact lends_nil | (refine lends_cons ?_ ?_; (· exact lend_v))))
      repeat (first | (refine step_ops ?_; (first | (first | (refine m_mov (by conv => lhs; whnf) ?_) | (refine m_pick_t rfl ?_ (by conv => lhs; whnf) ?_; (· (refine decide_eq_true ?_; assumption))) | (refine m_pick_f rfl ?_ (by conv => lhs; whnf) ?_; (· (refine decide_eq_false ?_; assumption)))) | (refine g_noT rfl ?_ ?_; (· (refine decide_eq_false ?_; assumption))))) | refine end_ops ?_ | refine AW_ret ?_ | refine ret_done ?_)
      exact outs_b (by rw [Bool.eq_iff_iff]; simp [h1]; omega)
  · repeat (first | (refine step_ops ?_; (refine m_mov (by conv => lhs; whnf) ?_)) | refine end_ops ?_ | refine seq_ops ?_)
    (refine step_ops ?_); (apply m_call (bdGood_spec B hB)); (· repeat (first | exact lends_nil | (refine lends_cons ?_ ?_; (· exact lend_v))))
    repeat (first | (refine step_ops ?_; (first | (first | (refine m_mov (by conv => lhs; whnf) ?_) | (refine m_pick_f rfl ?_ (by conv => lhs; whnf) ?_; (· first | rfl | (refine decide_eq_false ?_; assumption)))) | (refine g_noT rfl ?_ ?_; (· first | rfl | (refine decide_eq_false ?_; assumption))))) | refine end_ops ?_ | refine AW_ret ?_ | refine ret_done ?_)
    exact outs_b (by simp [h1])
theorem bdPut_spec (B : List UInt8) (h : GoodBd B) (i j : Nat) (c : UInt8) (hi : i < sdB B) (hj : j < sdB B) : Sp Tryd.prog 45 [str B, .i i, .i j, str [c]] (str (B.set (i * (sdB B + 1) + j) c)) := by
  have h71 := good_len72 h
  have hsd := good_sd h
  have hlen := good_len h
  have hm1 : (i : Int) * ((sdB B : Int) + 1) = ((i * (sdB B + 1) : Nat) : Int) := by push_cast; rfl
  have hm2 : i * (sdB B + 1) ≤ 7 * 9 := Nat.mul_le_mul (by omega) (by omega)
  have hm3 : (i + 1) * (sdB B + 1) ≤ sdB B * (sdB B + 1) := Nat.mul_le_mul_right _ hi
  rw [Nat.add_mul] at hm3
  have hat : i * (sdB B + 1) + j < B.length := by omega
  have hset : B.set (i * (sdB B + 1) + j) c = B.take (i * (sdB B + 1) + j) ++ [c] ++ B.drop (i * (sdB B + 1) + j + 1) := by
    rw [List.set_eq_take_append_cons_drop, if_pos hat, List.append_assoc]
    rfl
  rw [hset]
  refine spec_of Tryd.func45 rfl cc45 rfl ?_
  unfold ac45
  repeat (first | (refine step_ops ?_; (refine m_mov (by conv => lhs; whnf) ?_)) | refine end_ops ?_ | refine seq_ops ?_)
  refine step_ops ?_; (apply m_call (bdSide_spec B (by omega))); (· repeat (first | exact lends_nil | (refine lends_cons ?_ ?_; (· exact lend_v))))
  repeat (first | ((first | refine step_ops ?_ | refine step_tree ?_); (first | (refine m_mov (by conv => lhs; whnf) ?_) | (refine m_add rfl rfl ?_ ?_ ?_; (· omega); (· omega)) | (refine m_adds rfl rfl ?_ ?_; (· first | omega | (simp; omega))) | (refine m_mul rfl rfl ?_ ?_ ?_; (· first | omega | (simp; done)); (· first | omega | (simp; done))) | (refine m_scutl rfl rfl ?_ ?_; (· first | omega | (simp; omega))) | (refine m_scuth rfl rfl ?_ ?_; (· first | omega | (simp; omega))))) | refine end_ops ?_ | refine end_tree ?_ | refine seq_tree ?_ | refine AW_ret ?_ | refine ret_done ?_)
  exact outs_v
theorem specForbidPlace_spec (B : List UInt8) (a b : Int) (hB : B.length ≤ 1048576) : Sp Tryd.prog 22 [str B, .i a, .i b] (plR B a b true) := by
  unfold plR plT
  refine spec_of Tryd.func22 rfl cc22 rfl ?_
  unfold ac22
  by_cases h1 : GoodBd B ∧ (0 ≤ a ∧ a < (sdB B : Nat)) ∧ (0 ≤ b ∧ b < (sdB B : Nat))
  · obtain ⟨i, rfl⟩ := Int.eq_ofNat_of_zero_le h1.2.1.1
    obtain ⟨j, rfl⟩ := Int.eq_ofNat_of_zero_le h1.2.2.1
    have hi : i < sdB B := by omega
    have hj : j < sdB B := by omega
    by_cases h2 : fbB B i j = true
    · have h : ¬ Pl B i j true := fun h => by have h3 := h.2.2.2; simp [h2] at h3
      rw [if_neg h, decide_eq_false h]
      repeat (first | (refine step_ops ?_; (refine m_mov (by conv => lhs; whnf) ?_)) | refine end_ops ?_ | refine seq_ops ?_ | refine AW_seq ?_)
      (refine step_ops ?_); (apply m_call (bdPlace_spec B i j hB)); (· repeat (first | exact lends_nil | (refine lends_cons ?_ ?_; (· exact lend_v))))
      repeat (refine step_ops ?_; ((try (refine g_yes rfl ?_ ?_; (· (simp [*]; done)))); (first | (refine m_mov (by conv => lhs; whnf) ?_) | (refine m_not rfl ?_))))
      (refine step_ops ?_); (refine g_yes rfl ?_ ?_; (· first | ((simp [*]; done)) | (fail)); (apply m_call (bdAt_spec B h1.1 i j hi hj))); (· repeat (first | exact lends_nil | (refine lends_cons ?_ ?_; (· exact lend_v))))
      repeat (first | (refine step_ops ?_; (first | (refine m_mov (by conv => lhs; whnf) ?_) | (refine m_pick_f rfl ?_ (by conv => lhs; whnf) ?_; (· (refine nf ?_; assumption))))) | refine end_ops ?_ | refine seq_ops ?_ | (refine cond_t rfl ?_ ?_; (· assumption)) | refine AW_ret ?_ | refine ret_done ?_ | refine ret_then ?_)
      exact outs_tup2 outs_v (outs_b rfl)
    · have h2 : fbB B i j = false := by simpa using h2
      have h : Pl B i j true := ⟨h1.1, h1.2.1, h1.2.2, by simp [h2]⟩
      rw [if_pos h, decide_eq_true h]
      repeat (first | (refine step_ops ?_; (refine m_mov (by conv => lhs; whnf) ?_)) | refine end_ops ?_ | refine seq_ops ?_ | refine AW_seq ?_)
      (refine step_ops ?_); (apply m_call (bdPlace_spec B i j hB)); (· repeat (first | exact lends_nil | (refine lends_cons ?_ ?_; (· exact lend_v))))
      repeat (refine step_ops ?_; ((try (refine g_yes rfl ?_ ?_; (· (simp [*]; done)))); (first | (refine m_mov (by conv => lhs; whnf) ?_) | (refine m_not rfl ?_))))
      (refine step_ops ?_); (refine g_yes rfl ?_ ?_; (· first | ((simp [*]; done)) | (fail)); (apply m_call (bdAt_spec B h1.1 i j hi hj))); (· repeat (first | exact lends_nil | (refine lends_cons ?_ ?_; (· exact lend_v))))
      repeat (first | (refine step_ops ?_; (first | (refine m_mov (by conv => lhs; whnf) ?_) | (refine m_pick_f rfl ?_ (by conv => lhs; whnf) ?_; (· (refine nf ?_; assumption))))) | refine end_ops ?_ | refine seq_ops ?_ | (refine cond_f rfl ?_ ?_; (· assumption)) | refine skip_then ?_)
      refine step_ops ?_
      refine m_call (bdPut_spec B h1.1 i j 35 hi hj) ?_ ?_
      · exact lends_cons lend_v (lends_cons lend_v (lends_cons lend_v (lends_cons lend_v lends_nil)))
      repeat (first | (refine step_ops ?_; (refine m_mov (by conv => lhs; whnf) ?_)) | refine end_ops ?_ | refine AW_ret ?_ | refine ret_done ?_)
      exact outs_tup2 outs_v (outs_b rfl)
  · have h : ¬ Pl B a b true := fun h => h1 ⟨h.1, h.2.1, h.2.2.1⟩
    rw [if_neg h, decide_eq_false h]
    repeat (first | (refine step_ops ?_; (refine m_mov (by conv => lhs; whnf) ?_)) | refine end_ops ?_ | refine seq_ops ?_ | refine AW_seq ?_)
    (refine step_ops ?_); (apply m_call (bdPlace_spec B a b hB)); (· repeat (first | exact lends_nil | (refine lends_cons ?_ ?_; (· exact lend_v))))
    repeat (first | (refine step_ops ?_; (first | (first | (refine m_mov (by conv => lhs; whnf) ?_) | (refine m_not rfl ?_) | (refine m_pick_t rfl ?_ (by conv => lhs; whnf) ?_; (· (refine nt ?_; assumption)))) | (refine g_noF rfl ?_ ?_; (· (refine nt ?_; assumption))))) | refine end_ops ?_ | refine seq_ops ?_ | (refine cond_t rfl ?_ ?_; (· rfl)) | refine AW_ret ?_ | refine ret_done ?_ | refine ret_then ?_)
    exact outs_tup2 outs_v (outs_b rfl)
theorem specAllowPlace_spec (B : List UInt8) (a b : Int) (hB : B.length ≤ 1048576) : Sp Tryd.prog 24 [str B, .i a, .i b] (plR B a b false) := by
  unfold plR plT
  refine spec_of Tryd.func24 rfl cc24 rfl ?_
  unfold ac24
  by_cases h1 : GoodBd B ∧ (0 ≤ a ∧ a < (sdB B : Nat)) ∧ (0 ≤ b ∧ b < (sdB B : Nat))
  · obtain ⟨i, rfl⟩ := Int.eq_ofNat_of_zero_le h1.2.1.1
    obtain ⟨j, rfl⟩ := Int.eq_ofNat_of_zero_le h1.2.2.1
    have hi : i < sdB B := by omega
    have hj : j < sdB B := by omega
    by_cases h2 : fbB B i j = true
    · have h : Pl B i j false := ⟨h1.1, h1.2.1, h1.2.2, by simp [h2]⟩
      rw [if_pos h, decide_eq_true h]
      repeat (first | (refine step_ops ?_; (refine m_mov (by conv => lhs; whnf) ?_)) | refine end_ops ?_ | refine seq_ops ?_ | refine AW_seq ?_)
      (refine step_ops ?_); (apply m_call (bdPlace_spec B i j hB)); (· repeat (first | exact lends_nil | (refine lends_cons ?_ ?_; (· exact lend_v))))
      repeat (refine step_ops ?_; ((try (refine g_yes rfl ?_ ?_; (· (simp [*]; done)))); (first | (refine m_mov (by conv => lhs; whnf) ?_) | (refine m_not rfl ?_))))
      (refine step_ops ?_); (refine g_yes rfl ?_ ?_; (· first | ((simp [*]; done)) | (fail)); (apply m_call (bdAt_spec B h1.1 i j hi hj))); (· repeat (first | exact lends_nil | (refine lends_cons ?_ ?_; (· exact lend_v))))
      repeat (first | (refine step_ops ?_; ((try (refine g_yes rfl ?_ ?_; (· (simp [*]; done)))); (first | (refine m_mov (by conv => lhs; whnf) ?_) | (refine m_not rfl ?_) | (refine m_pick_f rfl ?_ (by conv => lhs; whnf) ?_; (· (refine nf ?_; assumption)))))) | refine end_ops ?_ | refine seq_ops ?_ | (refine cond_f rfl ?_ ?_; (· (simp [*]; done))) | refine skip_then ?_)
      refine step_ops ?_
      refine m_call (bdPut_spec B h1.1 i j 46 hi hj) ?_ ?_
      · exact lends_cons lend_v (lends_cons lend_v (lends_cons lend_v (lends_cons lend_v lends_nil)))
      repeat (first | (refine step_ops ?_; (refine m_mov (by conv => lhs; whnf) ?_)) | refine end_ops ?_ | refine AW_ret ?_ | refine ret_done ?_)
      exact outs_tup2 outs_v (outs_b rfl)
    · have h2 : fbB B i j = false := by simpa using h2
      have h : ¬ Pl B i j false := fun h => by have h3 := h.2.2.2; simp [h2] at h3
      rw [if_neg h, decide_eq_false h]
      repeat (first | (refine step_ops ?_; (refine m_mov (by conv => lhs; whnf) ?_)) | refine end_ops ?_ | refine seq_ops ?_ | refine AW_seq ?_)
      (refine step_ops ?_); (apply m_call (bdPlace_spec B i j hB)); (· repeat (first | exact lends_nil | (refine lends_cons ?_ ?_; (· exact lend_v))))
      repeat (refine step_ops ?_; ((try (refine g_yes rfl ?_ ?_; (· (simp [*]; done)))); (first | (refine m_mov (by conv => lhs; whnf) ?_) | (refine m_not rfl ?_))))
      (refine step_ops ?_); (refine g_yes rfl ?_ ?_; (· first | ((simp [*]; done)) | (fail)); (apply m_call (bdAt_spec B h1.1 i j hi hj))); (· repeat (first | exact lends_nil | (refine lends_cons ?_ ?_; (· exact lend_v))))
      repeat (first | (refine step_ops ?_; ((try (refine g_yes rfl ?_ ?_; (· (simp [*]; done)))); (first | (refine m_mov (by conv => lhs; whnf) ?_) | (refine m_not rfl ?_) | (refine m_pick_f rfl ?_ (by conv => lhs; whnf) ?_; (· (refine nf ?_; assumption)))))) | refine end_ops ?_ | refine seq_ops ?_ | (refine cond_t rfl ?_ ?_; (· (simp [*]; done))) | refine AW_ret ?_ | refine ret_done ?_ | refine ret_then ?_)
      exact outs_tup2 outs_v (outs_b rfl)
  · have h : ¬ Pl B a b false := fun h => h1 ⟨h.1, h.2.1, h.2.2.1⟩
    rw [if_neg h, decide_eq_false h]
    repeat (first | (refine step_ops ?_; (refine m_mov (by conv => lhs; whnf) ?_)) | refine end_ops ?_ | refine seq_ops ?_ | refine AW_seq ?_)
    (refine step_ops ?_); (apply m_call (bdPlace_spec B a b hB)); (· repeat (first | exact lends_nil | (refine lends_cons ?_ ?_; (· exact lend_v))))
    repeat (first | (refine step_ops ?_; (first | (first | (refine m_mov (by conv => lhs; whnf) ?_) | (refine m_not rfl ?_) | (refine m_pick_t rfl ?_ (by conv => lhs; whnf) ?_; (· (refine nt ?_; assumption)))) | (refine g_noF rfl ?_ ?_; (· (refine nt ?_; assumption))))) | refine end_ops ?_ | refine seq_ops ?_ | (refine cond_t rfl ?_ ?_; (· rfl)) | refine AW_ret ?_ | refine ret_done ?_ | refine ret_then ?_)
    exact outs_tup2 outs_v (outs_b rfl)
/-- A place asx closures see it. -/
def capP (a b : Nat) : AV := .rp [.i (a : Nat), .i (b : Nat)]
def chF (B : List UInt8) (a b : Nat) (i j : Nat) : Bool := true ^^ (fbB B i j == (false ^^ (decide ((i : Int) = (a : Int)) && (decide ((j : Int) = (b : Int)) && true))))
theorem changeFn_spec (B : List UInt8) (h : GoodBd B) (a b i j : Nat) (hi : i < sdB B) (hj : j < sdB B) : Sp Tryd.prog 58 [.agg [.i (i : Nat), .i (j : Nat)], capB B, capP a b] (.b (chF B a b i j)) := by
  have hsd := good_sd h
  have hat := hasP_at B hi hj
  have hlt := plB_lt h
  unfold capB capP
  refine spec_of Tryd.func58 rfl cc58 rfl ?_
  unfold ac58
  repeat (first | ((first | refine step_ops ?_ | refine step_tree ?_); (first | (refine m_mov (by conv => lhs; whnf) ?_) | (apply m_ld_rp; (· rfl); (· rfl)) | (refine m_fa_rp rfl ?_) | (refine m_box rfl ?_ ?_; (· first | rfl | (simp [cellOk, Value.oneCell']; done))) | (refine m_ldall rfl rfl ?_ ?_; (· first | rfl | (simp; done) | (simp [*]; done))))) | refine end_ops ?_ | refine seq_ops ?_ | refine seq_tree ?_)
  refine step_tree ?_
  refine m_place (a := (i : Nat)) (b := (j : Nat)) hlt (.inr ⟨false, rfl⟩) rfl (by omega) (by omega) ?_
  rw [hat]
  repeat (first | (refine step_tree ?_; (first | (refine m_mov (by conv => lhs; whnf) ?_) | (refine m_beq rfl rfl ?_) | (refine m_aeq rfl rfl rfl ?_) | (refine m_ldall rfl rfl ?_ ?_; (· first | rfl | (simp; done) | (simp [*]; done))) | (refine m_ldall_rp rfl rfl ?_))) | refine end_tree ?_ | refine AW_ret ?_ | refine ret_done ?_)
  exact outs_b rfl
theorem change_asks (B : List UInt8) (h : GoodBd B) (a b : Nat) : AsksP Tryd.prog 58 [capB B, capP a b] (sdB B) (chF B a b) where
  call := ⟨_, Tryd.func58, by rfl, by rfl⟩
  bears := bears_cons (capB_bears B) (bears_rp rfl)
  norefs := fun _ => rfl
  nokill := fun _ => rfl
  spec := fun i j hi hj => changeFn_spec B h a b i j hi hj
theorem ch_upd (B : List UInt8) (a b : Nat) (i j : Nat) : chF B a b i j = upd (fbB B) a b (!fbB B a b) i j := by
  unfold chF upd
  by_cases h : i = a ∧ j = b
  · obtain ⟨rfl, rfl⟩ := h
    rw [if_pos ⟨rfl, rfl⟩, decide_eq_true rfl, decide_eq_true rfl]
    cases fbB B i j <;> rfl
  · rw [if_neg h]
    have : (decide ((i : Int) = (a : Int)) && (decide ((j : Int) = (b : Int)) && true)) = false := by
      rw [Bool.eq_false_iff]
      intro hh
      simp only [Bool.and_eq_true, decide_eq_true_eq] at hh
      exact h ⟨by omega, by omega⟩
    rw [this]
    cases fbB B i j <;> rfl
theorem pl_text {B : List UInt8} {a b : Nat} {f : Bool} (h : Pl B a b f) : bdT (chF B a b) (sdB B) (sdB B) = B.set (a * (sdB B + 1) + b) (sgn f) := by
  have ha : a < sdB B := by have := h.2.1; omega
  have hb : b < sdB B := by have := h.2.2.1; omega
  have hf : (!fbB B a b) = f := by have := h.2.2.2; simp at this; rw [this]; simp
  rw [bdT_congr (g := upd (fbB B) a b f) (fun i j _ _ => by rw [ch_upd, hf]) (Nat.le_refl _), ← bdT_set hb _ ha, ← good_text h.1]
theorem changePlace_spec (B : List UInt8) (a b : Int) (f : Bool) (hB : B.length ≤ 1048576) (ha : -9223372036854775808 ≤ a ∧ a ≤ 9223372036854775807) (hb : -9223372036854775808 ≤ b ∧ b ≤ 9223372036854775807) :
    Sp Tryd.prog 42 [str B, .agg [.i a, .i b], .b f] (plR B a b f) := by
  have hr := readBoard_spec B hB
  unfold bdR bdV at hr
  unfold plR plT
  refine spec_of Tryd.func42 rfl cc42 rfl ?_
  unfold ac42
  by_cases h0 : GoodBd B
  · rw [if_pos h0] at hr
    by_cases h1 : 0 ≤ a ∧ a < (sdB B : Nat)
    · by_cases h2 : 0 ≤ b ∧ b < (sdB B : Nat)
      · obtain ⟨i, rfl⟩ := Int.eq_ofNat_of_zero_le h1.1
        obtain ⟨j, rfl⟩ := Int.eq_ofNat_of_zero_le h2.1
        have hi : i < sdB B := by omega
        have hj : j < sdB B := by omega
        have hsd := good_sd h0
        have hat := hasP_at B hi hj
        have hlt := plB_lt h0
        by_cases h3 : fbB B i j = f
        · have h : ¬ Pl B i j f := fun h => by have h4 := h.2.2.2; simp [h3] at h4
          have he : (false ^^ (f == f)) = true := by simp
          rw [if_neg h, decide_eq_false h]
          repeat (first | (refine step_ops ?_; (first | (refine m_mov (by conv => lhs; whnf) ?_) | (refine m_box rfl ?_ ?_; (· first | rfl | (simp [cellOk, Value.oneCell']; done))))) | refine end_ops ?_ | refine seq_ops ?_)
          (refine step_ops ?_); (apply m_call (hr)); (· repeat (first | exact lends_nil | (refine lends_cons ?_ ?_; (· exact lend_v))))
          repeat (first | (refine step_ops ?_; ((try (refine g_yes rfl ?_ ?_; (· (simp [*]; done)))); (first | (refine m_mov (by conv => lhs; whnf) ?_) | (refine m_not rfl ?_) | (apply m_ld_pt; (· rfl); (· rfl); (· rfl)) | (refine m_ext rfl rfl ?_) | (refine m_alloc ?_) | (refine m_fa rfl ?_) | (refine m_stall rfl rfl rfl ?_ ?_ ?_ ?_; (· first | rfl | (simp [*]; done)); (· first | rfl | (simp [*]; done)); (· first | rfl | (simp [cellOk, Value.oneCell']; done)))))) | refine end_ops ?_ | refine seq_ops ?_ | refine AW_seq ?_)
          (refine step_ops ?_); (refine g_yes rfl ?_ ?_; (· first | ((simp [*]; done)) | (fail)); (apply m_call (isGuest_spec _ _))); (· repeat (first | exact lends_nil | (refine lends_cons ?_ ?_; (· exact lend_v))))
          repeat (refine step_ops ?_; ((try (refine g_yes rfl ?_ ?_; (· (simp [*]; done)))); (first | (refine m_mov (by conv => lhs; whnf) ?_) | (refine m_not rfl ?_) | (apply m_ld_pt; (· rfl); (· rfl); (· rfl)) | (refine m_pick_f rfl ?_ (by conv => lhs; whnf) ?_; (· (refine nf ?_; assumption))) | (refine m_fa rfl ?_))))
          (refine step_ops ?_); (refine g_yes rfl ?_ ?_; (· first | ((simp [*]; done)) | (fail)); (apply m_call (isGuest_spec _ _))); (· repeat (first | exact lends_nil | (refine lends_cons ?_ ?_; (· exact lend_v))))
          repeat (refine step_ops ?_; ((try (refine g_yes rfl ?_ ?_; (· (simp [*]; done)))); (first | (refine m_mov (by conv => lhs; whnf) ?_) | (refine m_not rfl ?_) | (apply m_ld_pt; (· rfl); (· rfl); (· rfl)) | (refine m_pick_f rfl ?_ (by conv => lhs; whnf) ?_; (· (refine nf ?_; assumption))) | (refine m_fa rfl ?_) | (refine m_ldall rfl rfl ?_ ?_; (· first | rfl | (simp; done) | (simp [*]; done))))))
          refine step_ops ?_
          refine g_yes rfl ?_ ?_
          · first | rfl | assumption | (refine decide_eq_false ?_; first | assumption | omega) | (refine nf ?_; first | assumption | omega) | (simp [*]; done)
          refine m_place (a := (i : Nat)) (b := (j : Nat)) hlt (.inr ⟨true, rfl⟩) rfl (by omega) (by omega) ?_
          rw [hat, h3]
          repeat (first | (refine step_ops ?_; ((try (refine g_yes rfl ?_ ?_; (· (simp [*]; done)))); (first | (refine m_mov (by conv => lhs; whnf) ?_) | (refine m_beq rfl rfl ?_) | (refine m_pick_f rfl ?_ (by conv => lhs; whnf) ?_; (· (refine nf ?_; assumption)))))) | refine end_ops ?_ | refine seq_ops ?_ | (refine cond_t rfl ?_ ?_; (· assumption)) | refine AW_ret ?_ | refine ret_done ?_ | refine ret_then ?_)
          exact outs_tup2 outs_v (outs_b rfl)
        · have h : Pl B i j f := ⟨h0, h1, h2, by simp; cases hh : fbB B i j <;> cases f <;> simp_all⟩
          have he : (false ^^ (fbB B i j == f)) = false := by simpa using h3
          have hs := boardText_spec (change_asks B h0 i j) (by omega)
          rw [pl_text h] at hs
          rw [if_pos h, decide_eq_true h]
          repeat (first | (refine step_ops ?_; (first | (refine m_mov (by conv => lhs; whnf) ?_) | (refine m_box rfl ?_ ?_; (· first | rfl | (simp [cellOk, Value.oneCell']; done))))) | refine end_ops ?_ | refine seq_ops ?_)
          (refine step_ops ?_); (apply m_call (hr)); (· repeat (first | exact lends_nil | (refine lends_cons ?_ ?_; (· exact lend_v))))
          repeat (first | (refine step_ops ?_; ((try (refine g_yes rfl ?_ ?_; (· (simp [*]; done)))); (first | (refine m_mov (by conv => lhs; whnf) ?_) | (refine m_not rfl ?_) | (apply m_ld_pt; (· rfl); (· rfl); (· rfl)) | (refine m_ext rfl rfl ?_) | (refine m_alloc ?_) | (refine m_fa rfl ?_) | (refine m_stall rfl rfl rfl ?_ ?_ ?_ ?_; (· first | rfl | (simp [*]; done)); (· first | rfl | (simp [*]; done)); (· first | rfl | (simp [cellOk, Value.oneCell']; done)))))) | refine end_ops ?_ | refine seq_ops ?_ | refine AW_seq ?_)
          (refine step_ops ?_); (refine g_yes rfl ?_ ?_; (· first | ((simp [*]; done)) | (fail)); (apply m_call (isGuest_spec _ _))); (· repeat (first | exact lends_nil | (refine lends_cons ?_ ?_; (· exact lend_v))))
          repeat (refine step_ops ?_; ((try (refine g_yes rfl ?_ ?_; (· (simp [*]; done)))); (first | (refine m_mov (by conv => lhs; whnf) ?_) | (refine m_not rfl ?_) | (apply m_ld_pt; (· rfl); (· rfl); (· rfl)) | (refine m_pick_f rfl ?_ (by conv => lhs; whnf) ?_; (· (refine nf ?_; assumption))) | (refine m_fa rfl ?_))))
          (refine step_ops ?_); (refine g_yes rfl ?_ ?_; (· first | ((simp [*]; done)) | (fail)); (apply m_call (isGuest_spec _ _))); (· repeat (first | exact lends_nil | (refine lends_cons ?_ ?_; (· exact lend_v))))
          repeat (refine step_ops ?_; ((try (refine g_yes rfl ?_ ?_; (· (simp [*]; done)))); (first | (refine m_mov (by conv => lhs; whnf) ?_) | (refine m_not rfl ?_) | (apply m_ld_pt; (· rfl); (· rfl); (· rfl)) | (refine m_pick_f rfl ?_ (by conv => lhs; whnf) ?_; (· (refine nf ?_; assumption))) | (refine m_fa rfl ?_) | (refine m_ldall rfl rfl ?_ ?_; (· first | rfl | (simp; done) | (simp [*]; done))))))
          refine step_ops ?_
          refine g_yes rfl ?_ ?_
          · first | rfl | assumption | (refine decide_eq_false ?_; first | assumption | omega) | (refine nf ?_; first | assumption | omega) | (simp [*]; done)
          refine m_place (a := (i : Nat)) (b := (j : Nat)) hlt (.inr ⟨true, rfl⟩) rfl (by omega) (by omega) ?_
          rw [hat]
          repeat (first | (refine step_ops ?_; ((try (refine g_yes rfl ?_ ?_; (· (simp [*]; done)))); (first | (refine m_mov (by conv => lhs; whnf) ?_) | (refine m_beq rfl rfl ?_) | (apply m_ld_pt; (· rfl); (· rfl); (· rfl)) | (refine m_pick_f rfl ?_ (by conv => lhs; whnf) ?_; (· (refine nf ?_; assumption))) | (refine m_mkf ?_) | (refine m_fa rfl ?_)))) | refine end_ops ?_ | refine seq_ops ?_ | (refine cond_f rfl ?_ ?_; (· assumption)) | refine skip_then ?_)
          refine step_ops ?_
          refine m_call hs ?_ ?_
          · refine lends_cons lend_v (lends_cons (lend_fn (lends_cons ?_ (lends_cons ?_ lends_nil))) lends_nil)
            · exact lend_ptM (cs := [.i (sdB B : Nat), .rmp true (mkEs (plB B)) (plB B).length]) rfl rfl
            · exact lend_pt (cs := [.i (i : Nat), .i (j : Nat)]) rfl rfl
          repeat (first | (refine step_ops ?_; (refine m_mov (by conv => lhs; whnf) ?_)) | refine end_ops ?_ | refine AW_ret ?_ | refine ret_done ?_)
          exact outs_tup2 outs_v (outs_b rfl)
      · have h : ¬ Pl B a b f := fun h => h2 h.2.2.1
        rw [if_neg h, decide_eq_false h]
        repeat (first | (refine step_ops ?_; (first | (refine m_mov (by conv => lhs; whnf) ?_) | (refine m_box rfl ?_ ?_; (· first | rfl | (simp [cellOk, Value.oneCell']; done))))) | refine end_ops ?_ | refine seq_ops ?_)
        (refine step_ops ?_); (apply m_call (hr)); (· repeat (first | exact lends_nil | (refine lends_cons ?_ ?_; (· exact lend_v))))
        repeat (first | (refine step_ops ?_; ((try (refine g_yes rfl ?_ ?_; (· (simp [*]; done)))); (first | (refine m_mov (by conv => lhs; whnf) ?_) | (refine m_not rfl ?_) | (apply m_ld_pt; (· rfl); (· rfl); (· rfl)) | (refine m_ext rfl rfl ?_) | (refine m_alloc ?_) | (refine m_fa rfl ?_) | (refine m_stall rfl rfl rfl ?_ ?_ ?_ ?_; (· first | rfl | (simp [*]; done)); (· first | rfl | (simp [*]; done)); (· first | rfl | (simp [cellOk, Value.oneCell']; done)))))) | refine end_ops ?_ | refine seq_ops ?_ | refine AW_seq ?_)
        (refine step_ops ?_); (refine g_yes rfl ?_ ?_; (· first | ((simp [*]; done)) | (fail)); (apply m_call (isGuest_spec _ _))); (· repeat (first | exact lends_nil | (refine lends_cons ?_ ?_; (· exact lend_v))))
        repeat (refine step_ops ?_; ((try (refine g_yes rfl ?_ ?_; (· (simp [*]; done)))); (first | (refine m_mov (by conv => lhs; whnf) ?_) | (refine m_not rfl ?_) | (apply m_ld_pt; (· rfl); (· rfl); (· rfl)) | (refine m_pick_f rfl ?_ (by conv => lhs; whnf) ?_; (· (refine nf ?_; assumption))) | (refine m_fa rfl ?_))))
        (refine step_ops ?_); (refine g_yes rfl ?_ ?_; (· first | ((simp [*]; done)) | (fail)); (apply m_call (isGuest_spec _ _))); (· repeat (first | exact lends_nil | (refine lends_cons ?_ ?_; (· exact lend_v))))
        repeat (first | (refine step_ops ?_; (first | ((try (refine g_yes rfl ?_ ?_; (· (simp [*]; done)))); (first | (refine m_mov (by conv => lhs; whnf) ?_) | (refine m_not rfl ?_) | (refine m_pick_t rfl ?_ (by conv => lhs; whnf) ?_; (· (refine nt ?_; assumption))) | (refine m_pick_f rfl ?_ (by conv => lhs; whnf) ?_; (· (refine nf ?_; assumption))))) | (refine g_noF rfl ?_ ?_; (· (refine nt ?_; assumption))))) | refine end_ops ?_ | refine seq_ops ?_ | (refine cond_t rfl ?_ ?_; (· rfl)) | refine AW_ret ?_ | refine ret_done ?_ | refine ret_then ?_)
        exact outs_tup2 outs_v (outs_b rfl)
    · have h : ¬ Pl B a b f := fun h => h1 h.2.1
      rw [if_neg h, decide_eq_false h]
      repeat (first | (refine step_ops ?_; (first | (refine m_mov (by conv => lhs; whnf) ?_) | (refine m_box rfl ?_ ?_; (· first | rfl | (simp [cellOk, Value.oneCell']; done))))) | refine end_ops ?_ | refine seq_ops ?_)
      (refine step_ops ?_); (apply m_call (hr)); (· repeat (first | exact lends_nil | (refine lends_cons ?_ ?_; (· exact lend_v))))
      repeat (first | (refine step_ops ?_; ((try (refine g_yes rfl ?_ ?_; (· (simp [*]; done)))); (first | (refine m_mov (by conv => lhs; whnf) ?_) | (refine m_not rfl ?_) | (apply m_ld_pt; (· rfl); (· rfl); (· rfl)) | (refine m_ext rfl rfl ?_) | (refine m_alloc ?_) | (refine m_fa rfl ?_) | (refine m_stall rfl rfl rfl ?_ ?_ ?_ ?_; (· first | rfl | (simp [*]; done)); (· first | rfl | (simp [*]; done)); (· first | rfl | (simp [cellOk, Value.oneCell']; done)))))) | refine end_ops ?_ | refine seq_ops ?_ | refine AW_seq ?_)
      (refine step_ops ?_); (refine g_yes rfl ?_ ?_; (· first | ((simp [*]; done)) | (fail)); (apply m_call (isGuest_spec _ _))); (· repeat (first | exact lends_nil | (refine lends_cons ?_ ?_; (· exact lend_v))))
      repeat (first | (refine step_ops ?_; (first | ((try (refine g_yes rfl ?_ ?_; (· (simp [*]; done)))); (first | (refine m_mov (by conv => lhs; whnf) ?_) | (refine m_not rfl ?_) | (refine m_pick_t rfl ?_ (by conv => lhs; whnf) ?_; (· first | rfl | (refine nt ?_; assumption))) | (refine m_pick_f rfl ?_ (by conv => lhs; whnf) ?_; (· (refine nf ?_; assumption))))) | (refine g_noF rfl ?_ ?_; (· first | rfl | (refine nt ?_; assumption))))) | refine end_ops ?_ | refine seq_ops ?_ | (refine cond_t rfl ?_ ?_; (· rfl)) | refine AW_ret ?_ | refine ret_done ?_ | refine ret_then ?_)
      exact outs_tup2 outs_v (outs_b rfl)
  · rw [if_neg h0] at hr
    have h : ¬ Pl B a b f := fun h => h0 h.1
    rw [if_neg h, decide_eq_false h]
    repeat (first | (refine step_ops ?_; (first | (refine m_mov (by conv => lhs; whnf) ?_) | (refine m_box rfl ?_ ?_; (· first | rfl | (simp [cellOk, Value.oneCell']; done))))) | refine end_ops ?_ | refine seq_ops ?_)
    (refine step_ops ?_); (apply m_call (hr)); (· repeat (first | exact lends_nil | (refine lends_cons ?_ ?_; (· exact lend_v))))
    repeat (first | (refine step_ops ?_; (first | (first | (refine m_mov (by conv => lhs; whnf) ?_) | (refine m_not rfl ?_) | (refine m_pick_t rfl ?_ (by conv => lhs; whnf) ?_; (· first | rfl | (refine nt ?_; assumption))) | (refine m_ext rfl rfl ?_) | (refine m_alloc ?_) | (refine m_stall rfl rfl rfl ?_ ?_ ?_ ?_; (· first | rfl | (simp [*]; done)); (· first | rfl | (simp [*]; done)); (· first | rfl | (simp [cellOk, Value.oneCell']; done)))) | (refine g_noF rfl ?_ ?_; (· first | rfl | (refine nt ?_; assumption))))) | refine end_ops ?_ | refine seq_ops ?_ | (refine cond_t rfl ?_ ?_; (· rfl)) | refine AW_seq ?_ | refine AW_ret ?_ | refine ret_done ?_ | refine ret_then ?_)
    exact outs_tup2 outs_v (outs_b rfl)
theorem implForbidPlace_spec (B : List UInt8) (a b : Int) (hB : B.length ≤ 1048576) (ha : -9223372036854775808 ≤ a ∧ a ≤ 9223372036854775807) (hb : -9223372036854775808 ≤ b ∧ b ≤ 9223372036854775807) : Sp Tryd.prog 21 [str B, .i a, .i b] (plR B a b true) := by
  have hc := changePlace_spec B a b true hB ha hb
  unfold plR at hc ⊢
  refine spec_of Tryd.func21 rfl cc21 rfl ?_
  unfold ac21
  repeat (first | (refine step_ops ?_; (first | (refine m_mov (by conv => lhs; whnf) ?_) | (refine m_bld_2 (by conv => lhs; whnf) (by conv => lhs; whnf) (by decide)  (by decide) (by rfl) (by rfl) ?_))) | refine end_ops ?_ | refine seq_ops ?_)
  (refine step_ops ?_); (apply m_call (hc)); (· repeat (first | exact lends_nil | (refine lends_cons ?_ ?_; (· (first | exact lend_v | (refine lend_agg ?_; first | rfl | assumption | (simp [plainV]; done)))))))
  repeat (first | (refine step_ops ?_; (first | (refine m_mov (by conv => lhs; whnf) ?_) | (refine m_ext rfl rfl ?_))) | refine end_ops ?_ | refine AW_ret ?_ | refine ret_done ?_)
  exact outs_tup2 outs_v (outs_b rfl)
theorem implAllowPlace_spec (B : List UInt8) (a b : Int) (hB : B.length ≤ 1048576) (ha : -9223372036854775808 ≤ a ∧ a ≤ 9223372036854775807) (hb : -9223372036854775808 ≤ b ∧ b ≤ 9223372036854775807) : Sp Tryd.prog 23 [str B, .i a, .i b] (plR B a b false) := by
  have hc := changePlace_spec B a b false hB ha hb
  unfold plR at hc ⊢
  refine spec_of Tryd.func23 rfl cc23 rfl ?_
  unfold ac23
  repeat (first | (refine step_ops ?_; (first | (refine m_mov (by conv => lhs; whnf) ?_) | (refine m_bld_2 (by conv => lhs; whnf) (by conv => lhs; whnf) (by decide)  (by decide) (by rfl) (by rfl) ?_))) | refine end_ops ?_ | refine seq_ops ?_)
  (refine step_ops ?_); (apply m_call (hc)); (· repeat (first | exact lends_nil | (refine lends_cons ?_ ?_; (· (first | exact lend_v | (refine lend_agg ?_; first | rfl | assumption | (simp [plainV]; done)))))))
  repeat (first | (refine step_ops ?_; (first | (refine m_mov (by conv => lhs; whnf) ?_) | (refine m_ext rfl rfl ?_))) | refine end_ops ?_ | refine AW_ret ?_ | refine ret_done ?_)
  exact outs_tup2 outs_v (outs_b rfl)
end Go.Proofs.YtmifianbkpiifaaDoor
namespace Go.Am
variable [Go.Am.CodeBlk]
/-- May the guest i behind those of M take x? -/
def MayTake (M : List Int) (i x : Nat) : Prop := x ≠ i ∧ (x : Int) ∉ M
instance (M : List Int) (i x : Nat) : Decidable (MayTake M i x) := inferInstanceAs (Decidable (_ ∧ _))
end Go.Am
namespace Go.Proofs.YtmifianbkpiifaaDoor
variable [Go.Am.CodeBlk]
open Go.Am
theorem hasP_in {B : List UInt8} {i j : Nat} (hi : i < sdB B) (hj : j < sdB B) : hasP (plB B) (i : Int) (j : Int) = fbB B i j := by
  unfold plB
  rw [hasP_pos, Int.toNat_natCast, Int.toNat_natCast, decide_eq_true (by omega), Bool.true_and]
/-- Turned boards. -/
theorem trn_text {B : List UInt8} (h : GoodBd B) : trnB B = bdT (fun i j => fbB B j i) (sdB B) (sdB B) := by
  unfold trnB
  rw [if_pos h]
  exact bdT_same (fun i j hi hj => hasP_in hj hi) (sdB B) (Nat.le_refl _)
theorem trn_facts {B : List UInt8} (h : GoodBd B) : GoodBd (trnB B) ∧ sdB (trnB B) = sdB B ∧ (∀ k, rkN (fbB (trnB B)) (sdB B) k = rkN (fbB B) (sdB B) k) ∧ trnB (trnB B) = B := by
  have hsd := good_sd h
  have e := trn_text h
  have hg : GoodBd (trnB B) := by rw [e]; exact bdT_good _ hsd.1 hsd.2
  have hs : sdB (trnB B) = sdB B := by rw [e]; exact bdT_side _ _ hsd.1
  refine ⟨hg, hs, fun k => ?_, ?_⟩
  · have := rk_made (fun i j => fbB B j i) hsd.1 k
    rw [← e, hs] at this
    rw [this]
    exact rk_turn (fbB B) (sdB B) k
  · rw [trn_text hg, hs]
    have e2 : bdT (fun i j => fbB (trnB B) j i) (sdB B) (sdB B) = bdT (fbB B) (sdB B) (sdB B) := bdT_same (fun i j hi hj => by rw [e, bdT_fb _ hj hi]) (sdB B) (Nat.le_refl _)
    rw [e2]
    exact (good_text h).symm
/-- The other board. -/
theorem oth_text {B : List UInt8} (h : GoodBd B) : othB B = bdT (fun i j => !fbB B i j) (sdB B) (sdB B) := by
  unfold othB
  rw [if_pos h]
  have e : B.map swp = (bdT (fbB B) (sdB B) (sdB B)).map swp := congrArg (fun l => l.map swp) (good_text h)
  rw [e, swp_bd]
theorem oth_facts {B : List UInt8} (h : GoodBd B) : GoodBd (othB B) ∧ sdB (othB B) = sdB B ∧ (∀ k, k ≤ sdB B → hitX (fbB (othB B)) (sdB B) k = hitX (fbB B) (sdB B) (sdB B - k)) ∧ othB (othB B) = B ∧ (plM B).length + (plM (othB B)).length = sdB B * sdB B := by
  have hsd := good_sd h
  have e := oth_text h
  have hg : GoodBd (othB B) := by rw [e]; exact bdT_good _ hsd.1 hsd.2
  have hs : sdB (othB B) = sdB B := by rw [e]; exact bdT_side _ _ hsd.1
  refine ⟨hg, hs, fun k hk => ?_, ?_, ?_⟩
  · have := hit_made (fun i j => !fbB B i j) hsd.1 k
    rw [← e, hs] at this
    rw [this]
    exact hitX_not (fbB B) hk
  · rw [oth_text hg, hs]
    have e2 : bdT (fun i j => !fbB (othB B) i j) (sdB B) (sdB B) = bdT (fbB B) (sdB B) (sdB B) := bdT_same (fun i j hi hj => by rw [e, bdT_fb _ hi hj, Bool.not_not]) (sdB B) (Nat.le_refl _)
    rw [e2]
    exact (good_text h).symm
  · rw [plM_count, plM_count, hs]
    have h1 := rk_made (fun i j => !fbB B i j) hsd.1 1
    rw [← e, hs] at h1
    rw [h1]
    unfold rkN
    rw [rk_one _ _ _ (Nat.le_refl _), rk_one _ _ _ (Nat.le_refl _), ← sumN_add, ← sumN_const]
    refine sumN_congr fun i _ => ?_
    rw [← sumN_add]
    refine Eq.trans (sumN_congr (g := fun _ => 1) fun j _ => ?_) (by rw [sumN_const, Nat.mul_one])
    cases fbB B (sdB B - sdB B + i) j <;> rfl
/-- Boards joined. -/
theorem jn_facts {A B : List UInt8} (h : Jn A B) : GoodBd (jnT A B) ∧ sdB (jnT A B) = sdB A + sdB B ∧ ∀ k, rkN (fbB (jnT A B)) (sdB A + sdB B) k = conv (rkN (fbB A) (sdB A)) (rkN (fbB B) (sdB B)) k := by
  have hj0 := h
  obtain ⟨hA, hB, h8⟩ := h
  have ha := good_sd hA
  have hb := good_sd hB
  have e : jnT A B = bdT (joinF (fbB A) (fbB B) (sdB A)) (sdB A + sdB B) (sdB A + sdB B) := by
    unfold jnT
    rw [if_pos hj0]
    refine bdT_same (fun i j hi hj => ?_) _ (Nat.le_refl _)
    unfold jnF joinF plB
    rw [hasP_pos, hasP_pos, Int.toNat_natCast, Int.toNat_natCast]
    by_cases h1 : i < sdB A
    · rw [if_pos h1, show decide (0 ≤ (i : Int) - (sdB A : Nat) ∧ (i : Int) - (sdB A : Nat) < (sdB B : Nat) ∧ 0 ≤ (j : Int) - (sdB A : Nat) ∧ (j : Int) - (sdB A : Nat) < (sdB B : Nat)) = false from decide_eq_false (by omega), Bool.false_and, Bool.or_false]
      congr 1
      exact decide_eq_decide.2 (by omega)
    · rw [if_neg h1, show decide (0 ≤ (i : Int) ∧ (i : Int) < (sdB A : Nat) ∧ 0 ≤ (j : Int) ∧ (j : Int) < (sdB A : Nat)) = false from decide_eq_false (by omega), Bool.false_and, Bool.false_or, show ((i : Int) - (sdB A : Nat)).toNat = i - sdB A by omega, show ((j : Int) - (sdB A : Nat)).toNat = j - sdB A by omega]
      congr 1
      exact decide_eq_decide.2 (by omega)
  have hs : sdB (jnT A B) = sdB A + sdB B := by rw [e]; exact bdT_side _ _ (by omega)
  refine ⟨by rw [e]; exact bdT_good _ (by omega) h8, hs, fun k => ?_⟩
  have := rk_made (joinF (fbB A) (fbB B) (sdB A)) (n := sdB A + sdB B) (by omega) k
  rw [← e, hs] at this
  rw [this]
  exact rk_join _ _ _ _ _
/-- Boards of own coats and of couples. -/
theorem own_dec : ∀ n < 9, 1 ≤ n → (hL (chC (rkN ownFb n) n) n (n + 1)).getD 0 0 = noneN n := by decide +kernel
theorem own_facts {n : Nat} (h1 : 1 ≤ n) (h8 : n ≤ 8) : GoodBd (ownBd n) ∧ GoodBd (cplBd n) ∧ ((hitX (fbB (ownBd n)) (sdB (ownBd n)) 0 : Nat) : Int) = noneN n ∧ hitX (fbB (cplBd n)) (sdB (cplBd n)) 0 ≤ hitX (fbB (ownBd n)) (sdB (ownBd n)) 0 := by
  have hi : 1 ≤ (n : Int) ∧ (n : Int) ≤ 8 := by omega
  have e1 : ownBd n = bdT ownFb n n := by
    unfold ownBd
    rw [if_pos hi, Int.toNat_natCast]
    refine bdT_same (fun i j hi2 hj => ?_) n (Nat.le_refl _)
    rw [own_in n i j hi2 hj]
    unfold ownFb
    rw [Bool.eq_iff_iff]
    simp only [decide_eq_true_eq, beq_iff_eq]
    omega
  have e2 : cplBd n = bdT (cplAt n) n n := by
    unfold cplBd
    rw [if_pos hi, Int.toNat_natCast]
    exact bdT_same (fun i j hi2 hj => cpl_in n i j hi2 hj) n (Nat.le_refl _)
  rw [e1, e2, hit_made ownFb h1 0, hit_made (cplAt n) h1 0]
  refine ⟨bdT_good _ h1 h8, bdT_good _ h1 h8, ?_, hitW_more n (fun i j h => ?_) n 0⟩
  · rw [← own_dec n (by omega) h1, own_none n (by omega) h1]
  · unfold ownFb at h
    have : i = j := by simpa using h
    subst this
    unfold cplAt
    simp
/-- A place told anew. -/
theorem plx_text {B : List UInt8} {a b : Int} {f : Bool} (h : Pl B a b f) : plT B a b f = bdT (upd (fbB B) a.toNat b.toNat f) (sdB B) (sdB B) := by
  unfold plT
  rw [if_pos h]
  have e : B.set (a.toNat * (sdB B + 1) + b.toNat) (sgn f) = (bdT (fbB B) (sdB B) (sdB B)).set (a.toNat * (sdB B + 1) + b.toNat) (sgn f) := congrArg (fun l => l.set (a.toNat * (sdB B + 1) + b.toNat) (sgn f)) (good_text h.1)
  rw [e]
  obtain ⟨_, h2, h3, _⟩ := h
  exact bdT_set (by omega) (sdB B) (by omega)
theorem pl_facts {B : List UInt8} {a b : Int} {f : Bool} (h : Pl B a b f) : GoodBd (plT B a b f) ∧ sdB (plT B a b f) = sdB B ∧ Pl (plT B a b f) a b (!f) ∧ plT (plT B a b f) a b (!f) = B := by
  have hsd := good_sd h.1
  have e := plx_text h
  have hg : GoodBd (plT B a b f) := by rw [e]; exact bdT_good _ hsd.1 hsd.2
  have hs : sdB (plT B a b f) = sdB B := by rw [e]; exact bdT_side _ _ hsd.1
  obtain ⟨h1, h2, h3, h4⟩ := h
  have hf : ∀ i j, i < sdB B → j < sdB B → fbB (plT B a b f) i j = upd (fbB B) a.toNat b.toNat f i j := fun i j hi hj => by rw [e]; exact bdT_fb _ hi hj
  have hp : Pl (plT B a b f) a b (!f) := ⟨hg, by rw [hs]; exact h2, by rw [hs]; exact h3, by rw [hf _ _ (by omega) (by omega), Bool.not_not]; simp [upd]⟩
  refine ⟨hg, hs, hp, ?_⟩
  rw [plx_text hp, hs]
  have e2 : bdT (upd (fbB (plT B a b f)) a.toNat b.toNat (!f)) (sdB B) (sdB B) = bdT (fbB B) (sdB B) (sdB B) := by
    refine bdT_same (fun i j hi hj => ?_) _ (Nat.le_refl _)
    unfold upd
    by_cases hc : i = a.toNat ∧ j = b.toNat
    · rw [if_pos hc, hc.1, hc.2, h4]
    · rw [if_neg hc, hf i j hi hj]
      unfold upd
      rw [if_neg hc]
  rw [e2]
  exact (good_text h1).symm
theorem pl_less {B : List UInt8} {a b : Int} (h : Pl B a b true) : hitX (fbB (plT B a b true)) (sdB B) 0 ≤ hitX (fbB B) (sdB B) 0 := by
  have hsd := good_sd h.1
  have e := plx_text h
  have hs : sdB (plT B a b true) = sdB B := by rw [e]; exact bdT_side _ _ hsd.1
  have := hit_made (upd (fbB B) a.toNat b.toNat true) hsd.1 0
  rw [← e, hs] at this
  rw [this]
  refine hitW_more (sdB B) (fun i j hf => ?_) (sdB B) 0
  unfold upd
  split
  · rfl
  · exact hf
end Go.Proofs.YtmifianbkpiifaaDoor
namespace Go.Am
variable [Go.Am.CodeBlk]
/-- What is added up at a place, by the first k of one board and l of the other. -/
def prT (f g : Nat → Nat) (b k l t : Nat) : Nat := sumN k (fun i => if i ≤ t ∧ t - i ≤ b then f i * g (t - i) else 0) + if k ≤ t ∧ t - k < l then f k * g (t - k) else 0
def prL (f g : Nat → Nat) (a b k l : Nat) : List Int := (List.range (a + b + 1)).map fun t => ((prT f g b k l t : Nat) : Int)
theorem prL_len (f g : Nat → Nat) (a b k l : Nat) : (prL f g a b k l).length = a + b + 1 := by simp [prL]
theorem prL_get (f g : Nat → Nat) {a b k l t : Nat} (h : t < a + b + 1) : (prL f g a b k l).getD t 0 = ((prT f g b k l t : Nat) : Int) := by simp [prL, h]
theorem prT_zero (f g : Nat → Nat) (b t : Nat) : prT f g b 0 0 t = 0 := by
  unfold prT
  simp [sumN]
theorem prT_row (f g : Nat → Nat) (b k t : Nat) : prT f g b k (b + 1) t = prT f g b (k + 1) 0 t := by
  unfold prT
  rw [sumN]
  have e : (if k ≤ t ∧ t - k < b + 1 then f k * g (t - k) else 0) = if k ≤ t ∧ t - k ≤ b then f k * g (t - k) else 0 := by
    by_cases h : k ≤ t ∧ t - k ≤ b
    · rw [if_pos h, if_pos ⟨h.1, by omega⟩]
    · rw [if_neg h, if_neg fun hh => h ⟨hh.1, by omega⟩]
  rw [e, if_neg (show ¬ (k + 1 ≤ t ∧ t - (k + 1) < 0) by omega)]
  omega
theorem prT_step (f g : Nat → Nat) (b k l t : Nat) : prT f g b k (l + 1) t = prT f g b k l t + if t = k + l then f k * g l else 0 := by
  unfold prT
  by_cases h : t = k + l
  · subst h
    rw [if_pos (show k ≤ k + l ∧ k + l - k < l + 1 by omega), if_neg (show ¬ (k ≤ k + l ∧ k + l - k < l) by omega), if_pos rfl, show k + l - k = l by omega]
    omega
  · rw [if_neg h]
    by_cases h2 : k ≤ t ∧ t - k < l
    · rw [if_pos h2, if_pos (show k ≤ t ∧ t - k < l + 1 by omega)]
      omega
    · rw [if_neg h2, if_neg (show ¬ (k ≤ t ∧ t - k < l + 1) by omega)]
theorem prL_set (f g : Nat → Nat) {a b k l : Nat} (hk : k ≤ a) (hl : l ≤ b) : (prL f g a b k l).set (k + l) ((prL f g a b k l).getD (k + l) 0 + ((f k : Nat) : Int) * ((g l : Nat) : Int)) = prL f g a b k (l + 1) := by
  rw [prL_get f g (show k + l < a + b + 1 by omega)]
  apply List.ext_getElem?
  intro t
  rw [List.getElem?_set, prL_len]
  by_cases ht : t < a + b + 1
  · by_cases e : k + l = t
    · subst e
      rw [if_pos rfl, if_pos ht]
      simp only [prL, List.getElem?_map, List.getElem?_range ht, Option.map_some]
      rw [prT_step, if_pos rfl, Int.natCast_add, Int.natCast_mul]
    · rw [if_neg e]
      simp only [prL, List.getElem?_map, List.getElem?_range ht, Option.map_some]
      rw [prT_step, if_neg fun hh => e hh.symm, Nat.add_zero]
  · have h1 : (prL f g a b k l)[t]? = none := List.getElem?_eq_none (by rw [prL_len]; omega)
    have h2 : (prL f g a b k (l + 1))[t]? = none := List.getElem?_eq_none (by rw [prL_len]; omega)
    rw [h1, h2]
    by_cases e : k + l = t
    · rw [if_pos e, if_neg (by omega)]
    · rw [if_neg e]
theorem prL_zero (f g : Nat → Nat) (a b : Nat) : List.replicate (a + b + 1) 0 = prL f g a b 0 0 := by
  apply List.ext_getElem?
  intro t
  by_cases ht : t < a + b + 1
  · simp [prL, ht, prT_zero]
  · simp [prL, ht]
theorem prL_row (f g : Nat → Nat) (a b k : Nat) : prL f g a b k (b + 1) = prL f g a b (k + 1) 0 := by
  unfold prL
  exact List.map_congr_left fun t _ => by rw [prT_row]
/-- At the end they are the rooks multiplied. -/
theorem prT_end {f g : Nat → Nat} {a b t : Nat} (hf : ∀ i, a < i → f i = 0) (hg : ∀ i, b < i → g i = 0) : prT f g b (a + 1) 0 t = conv f g t := by
  unfold prT conv
  rw [if_neg (show ¬ (a + 1 ≤ t ∧ t - (a + 1) < 0) by omega), Nat.add_zero]
  have key : ∀ d, sumN (t + 1 + d) (fun i => if i ≤ t then f i * g (t - i) else 0) = sumN (t + 1) fun i => f i * g (t - i) := by
    intro d
    induction d with
    | zero => exact sumN_congr fun i hi => by rw [if_pos (by omega)]
    | succ d ih => rw [← Nat.add_assoc, sumN, ih, if_neg (by omega), Nat.add_zero]
  have key2 : ∀ d, sumN (a + 1 + d) (fun i => if i ≤ t then f i * g (t - i) else 0) = sumN (a + 1) fun i => if i ≤ t ∧ t - i ≤ b then f i * g (t - i) else 0 := by
    intro d
    induction d with
    | zero =>
      refine sumN_congr fun i _ => ?_
      by_cases h1 : i ≤ t
      · by_cases h2 : t - i ≤ b
        · rw [if_pos h1, if_pos ⟨h1, h2⟩]
        · rw [if_pos h1, if_neg fun hh => h2 hh.2, hg _ (by omega), Nat.mul_zero]
      · rw [if_neg h1, if_neg fun hh => h1 hh.1]
    | succ d ih =>
      rw [← Nat.add_assoc, sumN, ih, hf (a + 1 + d) (by omega), Nat.zero_mul]
      split <;> rfl
  rw [← key2 (t + 1), ← key (a + 1), show a + 1 + (t + 1) = t + 1 + (a + 1) by omega]
theorem prL_end {f g : Nat → Nat} {a b : Nat} (hf : ∀ i, a < i → f i = 0) (hg : ∀ i, b < i → g i = 0) : prL f g a b (a + 1) 0 = rgL (a + b) (conv f g) := by
  unfold prL rgL
  exact List.map_congr_left fun t _ => by rw [prT_end hf hg]
theorem prT_le {f g : Nat → Nat} {a b k l t : Nat} (hk : k ≤ 8) (hf : ∀ i, f i ≤ 43046721) (hg : ∀ i, g i ≤ 43046721) : prT f g b k l t ≤ 9 * (43046721 * 43046721) := by
  unfold prT
  have h1 : ∀ i j, f i * g j ≤ 43046721 * 43046721 := fun i j => Nat.mul_le_mul (hf i) (hg j)
  have h2 : sumN k (fun i => if i ≤ t ∧ t - i ≤ b then f i * g (t - i) else 0) ≤ k * (43046721 * 43046721) := by
    rw [← sumN_const]
    refine sumN_le fun i _ => ?_
    split
    · exact h1 _ _
    · exact Nat.zero_le _
  have h3 : (if k ≤ t ∧ t - k < l then f k * g (t - k) else 0) ≤ 43046721 * 43046721 := by
    split
    · exact h1 _ _
    · exact Nat.zero_le _
  have h4 : k * (43046721 * 43046721) ≤ 8 * (43046721 * 43046721) := Nat.mul_le_mul_right _ hk
  omega
end Go.Am
namespace Go.Proofs.YtmifianbkpiifaaDoor
variable [Go.Am.CodeBlk]
open Go.Am
attribute [local irreducible] AW Outs Weak Lends Lend Sp aops atree aop1 Then Round InBlock Done
theorem none_table : ∀ g < 13, (apOut g g).getD g 0 = noneN g := by decide +kernel
end Go.Proofs.YtmifianbkpiifaaDoor
namespace Go.Proofs.YtmifianbkpiifaaDoor
variable [Go.Am.CodeBlk]
open Go.Am
attribute [local irreducible] AW Outs Weak Lends Lend Sp aops atree aop1 Then Round InBlock Done
def countNoneR (n : Int) : Int := if 1 ≤ n ∧ n ≤ 12 then noneN n.toNat else 0
theorem implCountNone_spec (n : Int) : Sp Tryd.prog 25 [.i n] (.tup [.i (countNoneR n), .b (decide (1 ≤ n ∧ n ≤ 12))]) := by
  refine spec_of Tryd.func25 rfl cc25 rfl ?_
  unfold ac25
  by_cases h : 1 ≤ n ∧ n ≤ 12
  · have e : countNoneR n = noneN n.toNat := if_pos h
    obtain ⟨m, rfl⟩ := Int.eq_ofNat_of_zero_le (show 0 ≤ n by omega)
    repeat (first | (refine step_ops ?_; (refine m_mov (by conv => lhs; whnf) ?_)) | refine end_ops ?_ | refine seq_ops ?_ | refine AW_seq ?_)
    (refine step_ops ?_); (apply m_call (isGuestCount_spec _)); (· repeat (first | exact lends_nil | (refine lends_cons ?_ ?_; (· exact lend_v))))
    repeat (first | (refine step_ops ?_; (first | (refine m_mov (by conv => lhs; whnf) ?_) | (refine m_not rfl ?_))) | refine end_ops ?_ | refine seq_ops ?_ | (refine cond_f rfl ?_ ?_; (· (refine nf ?_; assumption))) | refine skip_then ?_)
    (refine step_ops ?_); (apply m_call (countApart_spec m m (by omega) (by omega))); (· repeat (first | exact lends_nil | (refine lends_cons ?_ ?_; (· exact lend_v))))
    repeat (first | (refine step_ops ?_; (refine m_mov (by conv => lhs; whnf) ?_)) | refine end_ops ?_ | refine AW_ret ?_ | refine ret_done ?_)
    refine outs_tup2 (outs_i ?_) (outs_b ?_)
    · rw [e, none_table m (by omega)]; rfl
    · exact (decide_eq_true h).symm
  · have e : countNoneR n = 0 := if_neg h
    repeat (first | (refine step_ops ?_; (refine m_mov (by conv => lhs; whnf) ?_)) | refine end_ops ?_ | refine seq_ops ?_ | refine AW_seq ?_)
    (refine step_ops ?_); (apply m_call (isGuestCount_spec _)); (· repeat (first | exact lends_nil | (refine lends_cons ?_ ?_; (· exact lend_v))))
    repeat (first | (refine step_ops ?_; (first | (refine m_mov (by conv => lhs; whnf) ?_) | (refine m_not rfl ?_))) | refine end_ops ?_ | refine seq_ops ?_ | (refine cond_t rfl ?_ ?_; (· (refine nt ?_; assumption))) | refine AW_ret ?_ | refine ret_done ?_ | refine ret_then ?_)
    refine outs_tup2 (outs_i ?_) (outs_b ?_)
    · rw [e]
    · exact (decide_eq_false h).symm
end Go.Proofs.YtmifianbkpiifaaDoor
namespace Go.Am
variable [Go.Am.CodeBlk]
theorem g_un {P : Program} {own : Bool} {s : AS} {K : AS → Prop} {d : Option Nat} {op : AOp} {t : Nat} {w : Bool} (h : s.tm t = .v undef) (k : K (s.put d (.v undef))) : aop1 P own ⟨d, op, some (t, w)⟩ s K := .inr ⟨h, k⟩
end Go.Am
namespace Go.Proofs.YtmifianbkpiifaaDoor
variable [Go.Am.CodeBlk]
open Go.Am
attribute [local irreducible] AW Outs Weak Lends Lend Sp aops atree aop1 Then Round InBlock Done
attribute [local irreducible] SpM DoneM SpH DoneH
def sndC : ACode → ACode
  | .seq _ y => y
  | c => c
def fstC : ACode → ACode
  | .seq x _ => x
  | c => c
def sndN : Nat → ACode → ACode
  | 0, c => c
  | n + 1, c => sndN n (sndC c)
theorem xor_self (b : Bool) : (true ^^ (b == b)) = false := by cases b <;> rfl
def bn24 : ACode := sndN 24 ac3
def bn23 : ACode := sndN 23 ac3
def bn22 : ACode := sndN 22 ac3
def bn21 : ACode := sndN 21 ac3
abbrev In64 (x : Int) : Prop := -9223372036854775808 ≤ x ∧ x ≤ 9223372036854775807
theorem pl_len {B : List UInt8} {a b : Int} {f : Bool} (hB : B.length ≤ 1048576) : (plT B a b f).length ≤ 1048576 := by
  unfold plT
  split
  · rw [List.length_set]; exact hB
  · simp
/-- A place allowed is forbidden again. -/
theorem bw24 {D : List UInt8} {i j : Int} (hD : D.length ≤ 1048576) (hi : In64 i) (hj : In64 j) : AW Tryd.prog (min Tryd.f3.ntmps pbase) bn24 (st [(4, str D), (5, .i i), (6, .i j), (60, str (plT D i j false)), (61, .b (decide (Pl D i j false)))] []) (Done [14].reverse (.b true)) := by
  by_cases h : Pl D i j false
  · obtain ⟨_, _, h3, h4⟩ := pl_facts h
    simp only [Bool.not_false] at h3 h4
    have hs := implForbidPlace_spec (plT D i j false) i j (pl_len hD) hi hj
    unfold plR at hs
    rw [h4, decide_eq_true h3] at hs
    rw [decide_eq_true h]
    generalize plT D i j false = E at *
    unfold bn24
    unfold ac3
    simp only [sndN, sndC]
    repeat (first | (refine step_ops ?_; (refine m_mov (by conv => lhs; whnf) ?_)) | refine end_ops ?_ | refine seq_ops ?_ | (refine cond_t rfl ?_ ?_; (· rfl)) | refine AW_seq ?_)
    refine step_ops ?_; (apply m_call (hs)); (· repeat (first | exact lends_nil | (refine lends_cons ?_ ?_; (· exact lend_v))))
    repeat (first | (refine step_ops ?_; ((try (refine g_yes rfl ?_ ?_; (· rfl))); (first | (refine m_mov (by conv => lhs; whnf) ?_) | (refine m_eqs rfl rfl ?_) | (refine m_pick_t rfl ?_ (by conv => lhs; whnf) ?_; (· rfl)) | (refine m_ext rfl rfl ?_)))) | refine end_ops ?_ | refine seq_ops ?_ | refine AW_ret ?_ | refine ret_done ?_ | refine ret_then ?_)
    exact outs_b (by simp)
  · rw [decide_eq_false h]
    generalize plT D i j false = E at *
    unfold bn24
    unfold ac3
    simp only [sndN, sndC]
    repeat (first | (refine step_ops ?_; (refine m_mov (by conv => lhs; whnf) ?_)) | refine end_ops ?_ | refine seq_ops ?_ | (refine cond_f rfl ?_ ?_; (· rfl)) | refine skip_then ?_ | refine AW_seq ?_ | refine AW_ret ?_ | refine ret_done ?_)
    exact outs_b rfl
/-- A place forbidden is allowed again, and leaves no more. -/
theorem bw23 {D : List UInt8} {i j : Int} (hD : D.length ≤ 1048576) (hi : In64 i) (hj : In64 j) : AW Tryd.prog (min Tryd.f3.ntmps pbase) bn23 (st [(4, str D), (5, .i i), (6, .i j), (56, str (plT D i j true)), (57, .b (decide (Pl D i j true))), (60, str (plT D i j false)), (61, .b (decide (Pl D i j false)))] []) (Done [14].reverse (.b true)) := by
  have h24 := bw24 hD hi hj
  have hp : bn23 = .seq (fstC bn23) bn24 := rfl
  rw [hp]
  clear hp
  generalize bn24 = c24 at *
  by_cases h : Pl D i j true
  · obtain ⟨h1, h2, h3, h4⟩ := pl_facts h
    simp only [Bool.not_true] at h3 h4
    have hs := implAllowPlace_spec (plT D i j true) i j (pl_len hD) hi hj
    unfold plR at hs
    rw [h4, decide_eq_true h3] at hs
    have c1 := implCountAllowed_spec D hD
    have c2 := implCountAllowed_spec (plT D i j true) (pl_len hD)
    unfold allwR at c1 c2
    rw [if_pos h.1, decide_eq_true h.1, allw_is h.1, allB_len] at c1
    rw [if_pos h1, decide_eq_true h1, allw_is h1, allB_len, h2] at c2
    have hle := pl_less h
    rw [decide_eq_true h]
    generalize plT D i j false = E2 at *
    generalize decide (Pl D i j false) = b2 at *
    generalize hitX (fbB (plT D i j true)) (sdB D) 0 = y at *
    generalize hitX (fbB D) (sdB D) 0 = x at *
    generalize plT D i j true = E at *
    unfold bn23
    unfold ac3
    simp only [sndN, sndC, fstC]
    repeat (first | (refine step_ops ?_; (refine m_mov (by conv => lhs; whnf) ?_)) | refine end_ops ?_ | refine seq_ops ?_ | (refine cond_t rfl ?_ ?_; (· rfl)) | refine AW_seq ?_)
    refine step_ops ?_; (apply m_call (hs)); (· repeat (first | exact lends_nil | (refine lends_cons ?_ ?_; (· exact lend_v))))
    repeat (first | (refine step_ops ?_; (first | (refine m_mov (by conv => lhs; whnf) ?_) | (refine m_ext rfl rfl ?_))) | refine end_ops ?_ | refine seq_ops ?_)
    refine step_ops ?_; (apply m_call (c1)); (· repeat (first | exact lends_nil | (refine lends_cons ?_ ?_; (· exact lend_v))))
    repeat (first | (refine step_ops ?_; (first | (refine m_mov (by conv => lhs; whnf) ?_) | (refine m_ext rfl rfl ?_))) | refine end_ops ?_ | refine seq_ops ?_)
    refine step_ops ?_; (apply m_call (c2)); (· repeat (first | exact lends_nil | (refine lends_cons ?_ ?_; (· exact lend_v))))
    repeat (first | (refine step_ops ?_; ((try (refine g_yes rfl ?_ ?_; (· rfl))); (first | (refine m_mov (by conv => lhs; whnf) ?_) | (refine m_gtr rfl rfl ?_) | (refine m_neqs_self rfl rfl ?_) | (refine m_not rfl ?_) | (refine m_pick_f rfl ?_ (by conv => lhs; whnf) ?_; (· rfl)) | (refine m_ext rfl rfl ?_)))) | refine end_ops ?_ | refine seq_ops ?_ | (refine cond_f rfl ?_ ?_; (· (refine decide_eq_false ?_; omega))) | refine skip_then ?_)
    refine AW_weak (weak_st ?_ ?_ rfl rfl) h24
    · (repeat' (first | exact trivial | refine And.intro ?_ ?_)) <;> (first | rfl | skip)
    · trivial
  · rw [decide_eq_false h]
    generalize plT D i j false = E2 at *
    generalize decide (Pl D i j false) = b2 at *
    generalize plT D i j true = E at *
    unfold bn23
    unfold ac3
    simp only [sndN, sndC, fstC]
    repeat (first | (refine step_ops ?_; (refine m_mov (by conv => lhs; whnf) ?_)) | refine end_ops ?_ | refine seq_ops ?_ | (refine cond_f rfl ?_ ?_; (· rfl)) | refine skip_then ?_ | refine AW_seq ?_)
    refine AW_weak (weak_st ?_ ?_ rfl rfl) h24
    · (repeat' (first | exact trivial | refine And.intro ?_ ?_)) <;> (first | rfl | skip)
    · trivial
/-- Boards of own coats and of couples. -/
theorem bw22 {D : List UInt8} {n i j : Int} (hD : D.length ≤ 1048576) (hi : In64 i) (hj : In64 j) : AW Tryd.prog (min Tryd.f3.ntmps pbase) bn22 (st [(3, .i n), (4, str D), (5, .i i), (6, .i j), (48, str (ownBd n)), (49, .b (decide (1 ≤ n ∧ n ≤ 8))), (52, str (cplBd n)), (56, str (plT D i j true)), (57, .b (decide (Pl D i j true))), (60, str (plT D i j false)), (61, .b (decide (Pl D i j false)))] []) (Done [14].reverse (.b true)) := by
  have h23 := bw23 hD hi hj
  have hp : bn22 = .seq (fstC bn22) bn23 := rfl
  rw [hp]
  clear hp
  generalize bn23 = c23 at *
  generalize plT D i j false = E2 at *
  generalize decide (Pl D i j false) = b2 at *
  generalize decide (Pl D i j true) = b3 at *
  generalize plT D i j true = E at *
  by_cases h : 1 ≤ n ∧ n ≤ 8
  · obtain ⟨m, rfl⟩ := Int.eq_ofNat_of_zero_le (show 0 ≤ n by omega)
    obtain ⟨o1, o2, o3, o4⟩ := own_facts (n := m) (by omega) (by omega)
    have s1 := implCountNone_spec (m : Nat)
    rw [show countNoneR ((m : Nat) : Int) = noneN m from by rw [countNoneR, if_pos (by omega), Int.toNat_natCast], decide_eq_true (show 1 ≤ ((m : Nat) : Int) ∧ ((m : Nat) : Int) ≤ 12 by omega), ← o3] at s1
    have s2 := implCountAllowed_spec (ownBd (m : Nat)) (by have := good_len72 o1; omega)
    have s3 := implCountAllowed_spec (cplBd (m : Nat)) (by have := good_len72 o2; omega)
    unfold allwR at s2 s3
    rw [if_pos o1, decide_eq_true o1, allw_is o1, allB_len] at s2
    rw [if_pos o2, decide_eq_true o2, allw_is o2, allB_len] at s3
    rw [decide_eq_true h]
    generalize hitX (fbB (ownBd (m : Nat))) (sdB (ownBd (m : Nat))) 0 = x at *
    generalize hitX (fbB (cplBd (m : Nat))) (sdB (cplBd (m : Nat))) 0 = y at *
    generalize ownBd (m : Nat) = O at *
    generalize cplBd (m : Nat) = P at *
    have n1 : decide (((x : Nat) : Int) ≠ ((x : Nat) : Int)) = false := by simp
    clear o3
    unfold bn22
    unfold ac3
    simp only [sndN, sndC, fstC]
    repeat (first | (refine step_ops ?_; (refine m_mov (by conv => lhs; whnf) ?_)) | refine end_ops ?_ | refine seq_ops ?_ | (refine cond_t rfl ?_ ?_; (· rfl)) | refine AW_seq ?_)
    refine step_ops ?_; (apply m_call (s1)); (· repeat (first | exact lends_nil | (refine lends_cons ?_ ?_; (· exact lend_v))))
    repeat (first | (refine step_ops ?_; (first | (refine m_mov (by conv => lhs; whnf) ?_) | (refine m_ext rfl rfl ?_))) | refine end_ops ?_ | refine seq_ops ?_)
    refine step_ops ?_; (apply m_call (s2)); (· repeat (first | exact lends_nil | (refine lends_cons ?_ ?_; (· exact lend_v))))
    repeat (first | (refine step_ops ?_; (first | (refine m_mov (by conv => lhs; whnf) ?_) | (refine m_ext rfl rfl ?_))) | refine end_ops ?_ | refine seq_ops ?_)
    refine step_ops ?_; (apply m_call (s3)); (· repeat (first | exact lends_nil | (refine lends_cons ?_ ?_; (· exact lend_v))))
    repeat (first | (refine step_ops ?_; ((try (refine g_yes rfl ?_ ?_; (· first | rfl | assumption))); (first | (refine m_mov (by conv => lhs; whnf) ?_) | (refine m_gtr rfl rfl ?_) | (refine m_neq rfl rfl ?_) | (refine m_not rfl ?_) | (refine m_pick_f rfl ?_ (by conv => lhs; whnf) ?_; (· first | rfl | assumption)) | (refine m_ext rfl rfl ?_)))) | refine end_ops ?_ | refine seq_ops ?_ | (refine cond_f rfl ?_ ?_; (· (refine decide_eq_false ?_; omega))) | refine skip_then ?_)
    refine AW_weak (weak_st ?_ ?_ rfl rfl) h23
    · (repeat' (first | exact trivial | refine And.intro ?_ ?_)) <;> (first | rfl | skip)
    · trivial
  · rw [decide_eq_false h]
    generalize ownBd n = O at *
    generalize cplBd n = P at *
    unfold bn22
    unfold ac3
    simp only [sndN, sndC, fstC]
    repeat (first | (refine step_ops ?_; (refine m_mov (by conv => lhs; whnf) ?_)) | refine end_ops ?_ | refine seq_ops ?_ | (refine cond_f rfl ?_ ?_; (· rfl)) | refine skip_then ?_ | refine AW_seq ?_)
    refine AW_weak (weak_st ?_ ?_ rfl rfl) h23
    · (repeat' (first | exact trivial | refine And.intro ?_ ?_)) <;> (first | rfl | skip)
    · trivial
theorem rk_big' {fb : Nat → Nat → Bool} {n : Nat} : ∀ i, n < i → rkN fb n i = 0 := fun i hi => rkG_big n 0 i hi
theorem rk_le9 {B : List UInt8} (h : GoodBd B) : ∀ i, rkN (fbB B) (sdB B) i ≤ 43046721 := fun i => rkG_le9 h (good_sd h).2 0 i
/-- Rooks on joined boards multiply. -/
theorem bw21 {A C D : List UInt8} {n i j : Int} (hA : A.length ≤ 1048576) (hC : C.length ≤ 1048576) (hD : D.length ≤ 1048576) (hi : In64 i) (hj : In64 j) : AW Tryd.prog (min Tryd.f3.ntmps pbase) bn21 (st [(1, str A), (2, str C), (3, .i n), (4, str D), (5, .i i), (6, .i j), (44, str (jnT A C)), (45, .b (decide (Jn A C))), (48, str (ownBd n)), (49, .b (decide (1 ≤ n ∧ n ≤ 8))), (52, str (cplBd n)), (56, str (plT D i j true)), (57, .b (decide (Pl D i j true))), (60, str (plT D i j false)), (61, .b (decide (Pl D i j false)))] []) (Done [14].reverse (.b true)) := by
  have h22 := bw22 (n := n) hD hi hj
  have hp : bn21 = .seq (fstC bn21) bn22 := rfl
  rw [hp]
  clear hp
  generalize bn22 = c22 at *
  generalize plT D i j false = E2 at *
  generalize decide (Pl D i j false) = b2 at *
  generalize decide (Pl D i j true) = b3 at *
  generalize plT D i j true = E at *
  generalize ownBd n = O at *
  generalize cplBd n = P at *
  generalize decide (1 ≤ n ∧ n ≤ 8) = b4 at *
  by_cases h : Jn A C
  · obtain ⟨j1, j2, j3⟩ := jn_facts h
    have ga := good_sd h.1
    have gc := good_sd h.2.1
    have g8 := h.2.2
    have s1 := implRookNumbers_spec A hA
    have s2 := implRookNumbers_spec C hC
    have s3 := implRookNumbers_spec (jnT A C) (by have := good_len72 j1; omega)
    unfold rksR at s1 s2 s3
    rw [show rksB A = rgL (sdB A) (rkN (fbB A) (sdB A)) from if_pos h.1, decide_eq_true h.1] at s1
    rw [show rksB C = rgL (sdB C) (rkN (fbB C) (sdB C)) from if_pos h.2.1, decide_eq_true h.2.1] at s2
    have e3 : rksB (jnT A C) = prL (rkN (fbB A) (sdB A)) (rkN (fbB C) (sdB C)) (sdB A) (sdB C) (sdB A + 1) 0 := by
      rw [prL_end rk_big' rk_big', show rksB (jnT A C) = rgL (sdB (jnT A C)) (rkN (fbB (jnT A C)) (sdB (jnT A C))) from if_pos j1, j2]
      exact rgL_congr fun k _ => j3 k
    rw [e3, decide_eq_true j1] at s3
    have l1 := rgL_len (sdB A) (rkN (fbB A) (sdB A))
    have l2 := rgL_len (sdB C) (rkN (fbB C) (sdB C))
    have q1 : ∀ k, k < sdB A + 1 → (rgL (sdB A) (rkN (fbB A) (sdB A))).getD k 0 = (rkN (fbB A) (sdB A) k : Nat) := fun k hk => rgL_get _ hk
    have q2 : ∀ k, k < sdB C + 1 → (rgL (sdB C) (rkN (fbB C) (sdB C))).getD k 0 = (rkN (fbB C) (sdB C) k : Nat) := fun k hk => rgL_get _ hk
    have m1 := rk_le9 h.1
    have m2 := rk_le9 h.2.1
    have s4 := oSame_self (prL (rkN (fbB A) (sdB A)) (rkN (fbB C) (sdB C)) (sdB A) (sdB C) (sdB A + 1) 0) (by rw [prL_len]; omega)
    rw [decide_eq_true h]
    generalize jnT A C = J at *
    generalize rgL (sdB A) (rkN (fbB A) (sdB A)) = X at *
    generalize rgL (sdB C) (rkN (fbB C) (sdB C)) = Y at *
    clear e3 j3 j2 j1
    generalize rkN (fbB A) (sdB A) = f at *
    generalize rkN (fbB C) (sdB C) = g at *
    generalize sdB A = a at *
    generalize sdB C = b at *
    have pl := prL_len f g a b
    unfold bn21
    unfold ac3
    simp only [sndN, sndC, fstC]
    repeat (first | (refine step_ops ?_; (refine m_mov (by conv => lhs; whnf) ?_)) | refine end_ops ?_ | refine seq_ops ?_ | (refine cond_t rfl ?_ ?_; (· rfl)) | refine AW_seq ?_)
    refine step_ops ?_; (apply m_call (s1)); (· repeat (first | exact lends_nil | (refine lends_cons ?_ ?_; (· exact lend_v))))
    repeat (first | (refine step_ops ?_; (first | (refine m_mov (by conv => lhs; whnf) ?_) | (refine m_ext rfl rfl ?_))) | refine end_ops ?_ | refine seq_ops ?_)
    refine step_ops ?_; (apply m_call (s2)); (· repeat (first | exact lends_nil | (refine lends_cons ?_ ?_; (· exact lend_v))))
    repeat (first | (refine step_ops ?_; (first | (refine m_mov (by conv => lhs; whnf) ?_) | (refine m_ext rfl rfl ?_))) | refine end_ops ?_ | refine seq_ops ?_)
    refine step_ops ?_; (apply m_call (s3)); (· repeat (first | exact lends_nil | (refine lends_cons ?_ ?_; (· exact lend_v))))
    repeat (first | (refine step_ops ?_; ((try (refine g_yes rfl ?_ ?_; (· rfl))); (first | (refine m_mov (by conv => lhs; whnf) ?_) | (refine m_add rfl rfl ?_ ?_ ?_; (· omega); (· omega)) | (refine m_sub rfl rfl ?_ ?_ ?_; (· omega); (· omega)) | (refine m_not rfl ?_) | (refine m_len_ro rfl ?_) | (refine m_pick_f rfl ?_ (by conv => lhs; whnf) ?_; (· rfl)) | (refine m_ext rfl rfl ?_)))) | refine end_ops ?_ | refine seq_ops ?_ | (refine cond_f rfl ?_ ?_; (· rfl)) | refine skip_then ?_ | refine AW_seq ?_)
    have hz := prL_zero f g a b
    refine step_ops ?_
    rw [show ((X.length : Nat) : Int) + ((Y.length : Nat) : Int) - 1 = ((a + b + 1 : Nat) : Int) by omega]
    refine m_mk0 (n := a + b) rfl rfl (by omega) (by omega) ?_
    rw [← rgL_zero (a + b), hz]
    repeat (first | (refine step_ops ?_; (first | (refine m_mov (by conv => lhs; whnf) ?_) | (refine m_len_ro rfl ?_))) | refine end_ops ?_ | refine seq_ops ?_ | refine AW_seq ?_ | refine AW_block ?_)
    refine AW_loop (α := Nat) (fun k => k ≤ a + 1) (fun k => st [(3, .i n), (4, str D), (5, .i i), (6, .i j), (48, str O), (49, .b b4), (52, str P), (56, str E), (57, .b b3), (60, str E2), (61, .b b2), (64, newInts X), (66, newInts Y), (68, newInts (prL f g a b (a + 1) 0)), (70, .sl 447 1 0 (a + b + 1)), (448, newInts X), (449, .i X.length), (450, .i (k : Nat))] [(447, (true, (prL f g a b k 0).map AV.i))]) (fun k => a + 1 - k) 0 (Nat.zero_le _) (weak_st ?_ ?_ rfl rfl) ?_
    · (repeat' (first | exact trivial | refine And.intro ?_ ?_)) <;> (first | rfl | skip)
    · (repeat' (first | exact trivial | refine And.intro ?_ ?_)) <;> (first | rfl | skip)
    intro k hk
    by_cases hc : k < a + 1
    · have w1 := q1 k hc
      have w2 := m1 k
      repeat (first | (refine step_ops ?_; (first | (refine m_mov (by conv => lhs; whnf) ?_) | (refine m_lss rfl rfl ?_) | (refine m_len_ro rfl ?_) | (refine m_idx1_ro rfl rfl ?_ ?_; (· omega)) | (refine m_ld_rpi rfl ?_ ?_; (· omega)))) | refine end_ops ?_ | refine seq_ops ?_ | (refine cond_t rfl ?_ ?_; (· (refine decide_eq_true ?_; omega))) | refine skip_then ?_ | refine AW_seq ?_ | refine AW_block ?_)
      refine AW_loop (α := Nat) (fun l => l ≤ b + 1) (fun l => st [(3, .i n), (4, str D), (5, .i i), (6, .i j), (48, str O), (49, .b b4), (52, str P), (56, str E), (57, .b b3), (60, str E2), (61, .b b2), (64, newInts X), (66, newInts Y), (68, newInts (prL f g a b (a + 1) 0)), (70, .sl 447 1 0 (a + b + 1)), (71, .i (k : Nat)), (72, .i (f k : Nat)), (448, newInts X), (449, .i X.length), (450, .i (k : Nat)), (455, newInts Y), (456, .i Y.length), (457, .i (l : Nat))] [(447, (true, (prL f g a b k l).map AV.i))]) (fun l => b + 1 - l) 0 (Nat.zero_le _) (weak_st ?_ ?_ rfl rfl) ?_
      · rw [← w1]; (repeat' (first | exact trivial | refine And.intro ?_ ?_)) <;> (first | rfl | skip)
      · (repeat' (first | exact trivial | refine And.intro ?_ ?_)) <;> (first | rfl | skip)
      intro l hl
      by_cases hc2 : l < b + 1
      · have w3 := q2 l hc2
        have w4 := m2 l
        have hpl := pl k l
        have hst := prL_set f g (a := a) (b := b) (k := k) (l := l) (by omega) (by omega)
        have hle := prT_le (f := f) (g := g) (a := a) (b := b) (k := k) (l := l) (t := k + l) (by omega) m1 m2
        have hgt := prL_get f g (a := a) (b := b) (k := k) (l := l) (t := k + l) (by omega)
        have hml : f k * g l ≤ 43046721 * 43046721 := Nat.mul_le_mul w2 w4
        have hmc : ((f k * g l : Nat) : Int) = ((f k : Nat) : Int) * ((g l : Nat) : Int) := Int.natCast_mul _ _
        have hkl : ((k : Nat) : Int) + ((l : Nat) : Int) = ((k + l : Nat) : Int) := by omega
        rw [← w3] at hmc hst
        have hm0 : 0 ≤ ((f k : Nat) : Int) * Y.getD l 0 := by omega
        have hm1 : ((f k : Nat) : Int) * Y.getD l 0 ≤ 43046721 * 43046721 := by omega
        generalize prL f g a b k l = Q at *
        repeat (first | (refine step_ops ?_; (first | (refine m_mov (by conv => lhs; whnf) ?_) | (refine m_lss rfl rfl ?_) | (refine m_add rfl rfl ?_ ?_ ?_; (· omega); (· omega)) | (refine m_mul rfl rfl ?_ ?_ ?_; (· first | omega | (simp; done)); (· first | omega | (simp; done))) | (refine m_idx1_ro rfl rfl ?_ ?_; (· omega)) | (refine m_idx1_sl rfl rfl ?_ ?_; (· omega)) | (refine m_ld_rpi rfl ?_ ?_; (· omega)) | (refine m_ld_pti rfl (by rfl) ?_ ?_; (· first | omega | (simp; omega))) | (apply m_st; (· rfl); (· rfl); (· rfl); (· first | omega | (simp; done) | (simp; omega)); (· rfl)))) | refine end_ops ?_ | refine seq_ops ?_ | refine AW_ops ?_ | (refine cond_t rfl ?_ ?_; (· (refine decide_eq_true ?_; omega))) | refine skip_then ?_ | refine AW_seq ?_ | refine norm_then ?_ | refine AW_block ?_ | refine norm_block ?_)
        refine next_round (l + 1) (by omega) (weak_st ?_ ?_ rfl rfl) (by omega)
        · (repeat' (first | exact trivial | refine And.intro ?_ ?_)) <;> (first | rfl | skip)
        · refine ⟨?_, trivial⟩
          rw [← hst, List.map_set]
          rfl
      · obtain rfl : l = b + 1 := by omega
        repeat (first | (refine step_ops ?_; (first | (refine m_mov (by conv => lhs; whnf) ?_) | (refine m_lss rfl rfl ?_) | (refine m_add rfl rfl ?_ ?_ ?_; (· omega); (· omega)))) | refine end_ops ?_ | refine seq_ops ?_ | refine AW_ops ?_ | (refine cond_f rfl ?_ ?_; (· (refine decide_eq_false ?_; omega))) | refine AW_seq ?_ | refine norm_then ?_ | refine exit_then ?_ | refine norm_block ?_ | refine exit_round ?_ | refine AW_exit ?_ | refine exit_block ?_)
        refine next_round (k + 1) (by omega) (weak_st ?_ ?_ rfl rfl) (by omega)
        · (repeat' (first | exact trivial | refine And.intro ?_ ?_)) <;> (first | rfl | skip)
        · exact ⟨congrArg (fun Q => some (true, List.map AV.i Q)) (prL_row f g a b k), trivial⟩
    · obtain rfl : k = a + 1 := by omega
      repeat (first | (refine step_ops ?_; (first | (refine m_mov (by conv => lhs; whnf) ?_) | (refine m_lss rfl rfl ?_))) | refine end_ops ?_ | refine seq_ops ?_ | (refine cond_f rfl ?_ ?_; (· (refine decide_eq_false ?_; omega))) | refine AW_seq ?_ | refine norm_then ?_ | refine exit_then ?_ | refine exit_round ?_ | refine AW_exit ?_ | refine exit_block ?_)
      refine step_ops ?_
      refine m_call s4 (lends_cons (lend_sli rfl (pl _ _).symm) (lends_cons (lend_ints rfl) lends_nil)) ?_
      repeat (first | (refine step_ops ?_; (refine m_not rfl ?_)) | refine end_ops ?_ | (refine cond_f rfl ?_ ?_; (· rfl)) | refine skip_then ?_)
      refine AW_weak (weak_st ?_ ?_ rfl rfl) h22
      · (repeat' (first | exact trivial | refine And.intro ?_ ?_)) <;> (first | rfl | skip)
      · trivial
  · rw [decide_eq_false h]
    generalize jnT A C = J at *
    unfold bn21
    unfold ac3
    simp only [sndN, sndC, fstC]
    repeat (first | (refine step_ops ?_; (refine m_mov (by conv => lhs; whnf) ?_)) | refine end_ops ?_ | refine seq_ops ?_ | (refine cond_f rfl ?_ ?_; (· rfl)) | refine skip_then ?_ | refine AW_seq ?_)
    refine AW_weak (weak_st ?_ ?_ rfl rfl) h22
    · (repeat' (first | exact trivial | refine And.intro ?_ ?_)) <;> (first | rfl | skip)
    · trivial
end Go.Proofs.YtmifianbkpiifaaDoor
namespace Go.Proofs.YtmifianbkpiifaaDoor
variable [Go.Am.CodeBlk]
open Go.Am
attribute [local irreducible] AW Outs Weak Lends Lend Sp aops atree aop1 Then Round InBlock Done
attribute [local irreducible] SpM DoneM SpH DoneH
theorem implForbiddenOf_spec (B : List UInt8) (hB : B.length ≤ 1048576) : SpH Tryd.prog 13 [str B] (fun _ => none) (.tup [.sl nbase 1 0 (fobR B).length, .v (.bool (decide (GoodBd B)))]) (matO (fobR B)) := by
  have hpb : pbase = 4000000 := rfl
  have hr := readBoard_spec B hB
  unfold bdR bdV at hr
  refine specH_of Tryd.func13 rfl cc13 rfl (by first | exact static_mat1 _ | exact static_mat2 _ _ | assumption) ?_
  unfold ac13
  by_cases h : GoodBd B
  · have e0 : fobR B = plM B := if_pos h
    rw [e0]
    rw [if_pos h] at hr
    have hsd := good_sd h
    have hlt := plF_lt h
    repeat (first | (refine step_ops ?_; (first | (refine m_mov (by conv => lhs; whnf) ?_) | (refine m_nils ?_))) | refine end_ops ?_ | refine seq_ops ?_)
    (refine step_ops ?_); (apply m_call (hr)); (· repeat (first | exact lends_nil | (refine lends_cons ?_ ?_; (· exact lend_v))))
    repeat (first | (refine step_ops ?_; (first | (refine m_mov (by conv => lhs; whnf) ?_) | (refine m_not rfl ?_) | (apply m_ld_pt; (· rfl); (· rfl); (· rfl)) | (refine m_nils ?_) | (refine m_ext rfl rfl ?_) | (refine m_alloc ?_) | (refine m_fa rfl ?_) | (refine m_stall rfl rfl rfl ?_ ?_ ?_ ?_; (· first | rfl | (simp [*]; done)); (· first | rfl | (simp [*]; done)); (· first | rfl | (simp [cellOk, Value.oneCell']; done))))) | refine end_ops ?_ | refine seq_ops ?_ | (refine cond_f rfl ?_ ?_; (· (refine nf ?_; assumption))) | refine skip_then ?_ | refine AW_seq ?_ | refine AW_block ?_)
    refine AW_loop (α := Nat) (fun k => k ≤ sdB B) (fun k => stM [(4, .pt 4 0), (6, .sl 6 1 0 (posM (fbB B) (sdB B) k 0).length), (17, .i (sdB B : Nat)), (18, .i k)] [(4, (true, [.i (sdB B : Nat), .rmp true (mkEs (plB B)) (plB B).length]))] 6 1000 (posM (fbB B) (sdB B) k 0)) (fun k => sdB B - k) 0 (Nat.zero_le _)
      (weak_keep id ?_ ?_ rfl rfl rfl (.inl (by simp [posM_zero, pbase])) rfl rfl rfl (.inr ⟨rfl, rfl⟩) (fun j hj => by simp [posM_zero] at hj)) ?_
    · (repeat' (first | exact trivial | refine And.intro ?_ ?_)) <;> (first | rfl | skip)
    · (repeat' (first | exact trivial | refine And.intro ?_ ?_)) <;> (first | rfl | skip)
    intro k hk
    have hrl := rowsC_len 1000 (posM (fbB B) (sdB B) k 0)
    have hpl := posM_len (fb := fbB B) (n := sdB B) (k := k) (j := 0) (by omega) hk (by omega)
    by_cases hc : k < sdB B
    · repeat (first | (refine step_ops ?_; (first | (refine m_mov (by conv => lhs; whnf) ?_) | (refine m_lss rfl rfl ?_) | (apply m_ld_pt; (· rfl); (· rfl); (· rfl)) | (refine m_fa rfl ?_))) | refine end_ops ?_ | refine seq_ops ?_ | (refine cond_t rfl ?_ ?_; (· (refine decide_eq_true ?_; omega))) | refine skip_then ?_ | refine AW_seq ?_ | refine AW_block ?_)
      refine AW_loop (α := Nat) (fun j => j ≤ sdB B) (fun j => stM [(4, .pt 4 0), (6, .sl 6 1 0 (posM (fbB B) (sdB B) k j).length), (7, .i k), (17, .i (sdB B : Nat)), (18, .i k), (22, .i (sdB B : Nat)), (23, .i j)] [(4, (true, [.i (sdB B : Nat), .rmp true (mkEs (plB B)) (plB B).length]))] 6 1000 (posM (fbB B) (sdB B) k j)) (fun j => sdB B - j) 0 (Nat.zero_le _)
        (weak_keep id ?_ ?_ rfl rfl rfl (.inl (by omega)) rfl rfl rfl (.inl ⟨rfl, rfl⟩) ?_) ?_
      · (repeat' (first | exact trivial | refine And.intro ?_ ?_)) <;> (first | rfl | skip)
      · (repeat' (first | exact trivial | refine And.intro ?_ ?_)) <;> (first | rfl | skip)
      · (intro j hj; simp (disch := first | omega | assumption) only [hp_put, hp_mem_ne, hp_kill_ne]; first | exact stM_row rfl hj | (rw [stM_row rfl hj]; rfl))
      intro j hj
      have hrl := rowsC_len 1000 (posM (fbB B) (sdB B) k j)
      have hpl := posM_len (fb := fbB B) (n := sdB B) (k := k) (j := j) (by omega) hk hj
      have hsn := posM_snoc (fbB B) (sdB B) k j
      have hen := posM_end (fbB B) (sdB B) k
      by_cases hcj : j < sdB B
      · have hat := hasF_at B hc hcj
        by_cases hf : fbB B k j = true
        · rw [hf, if_pos rfl] at hsn
          generalize posM (fbB B) (sdB B) k j = R at *
          repeat (first | (refine step_ops ?_; (first | (refine m_mov (by conv => lhs; whnf) ?_) | (refine m_lss rfl rfl ?_) | (apply m_ld_pt; (· rfl); (· rfl); (· rfl)) | (refine m_fa rfl ?_) | (refine m_bld_2 (by conv => lhs; whnf) (by conv => lhs; whnf) (by decide)  (by decide) (by rfl) (by rfl) ?_))) | refine end_ops ?_ | refine seq_ops ?_ | (refine cond_t rfl ?_ ?_; (· (refine decide_eq_true ?_; omega))) | refine skip_then ?_ | refine AW_seq ?_ | refine AW_block ?_)
          refine step_ops ?_
          refine m_place (a := (k : Nat)) (b := (j : Nat)) hlt (.inr ⟨true, rfl⟩) rfl (by omega) (by omega) ?_
          rw [hat]
          repeat (first | (refine step_ops ?_; (refine m_mov (by conv => lhs; whnf) ?_)) | refine end_ops ?_ | refine AW_ops ?_ | (refine cond_t rfl ?_ ?_; (· assumption)))
          refine step_ops ?_
          refine m_bsl2i rfl rfl ?_
          refine step_ops ?_
          refine m_bsl1d rfl rfl ?_
          refine step_ops ?_
          refine m_app1d rfl (by decide) rfl ?_ rfl rfl rfl ?_ (by decide) ?_
          · simp [rowsC_kill, rowsC_len]
          · omega
          repeat (first | (refine step_ops ?_; (first | (refine m_mov (by conv => lhs; whnf) ?_) | (refine m_add rfl rfl ?_ ?_ ?_; (· omega); (· omega)))) | refine end_ops ?_ | refine AW_ops ?_ | refine norm_then ?_ | refine norm_block ?_)
          refine next_round (j + 1) hcj ?_ ?_
          · rw [hsn, List.length_append]
            refine weak_push (fun r => if r = 6 then 37 else r) 35 ?_ ?_ rfl rfl rfl (by omega) rfl rfl (by decide) rfl rfl ?_ ?_ ?_
            · (repeat' (first | exact trivial | refine And.intro ?_ ?_)) <;> (first | rfl | skip)
            · (repeat' (first | exact trivial | refine And.intro ?_ ?_)) <;> (first | rfl | skip)
            · simp [rowsC_kill, killL_append, killL]
              rfl
            · rfl
            · (intro j hj; simp (disch := first | omega | assumption) only [hp_put, hp_mem_ne, hp_kill_ne]; first | exact stM_row rfl hj | (rw [stM_row rfl hj]; rfl))
          · omega
        · have hf : fbB B k j = false := by simpa using hf
          rw [hf, if_neg (by simp), List.append_nil] at hsn
          generalize posM (fbB B) (sdB B) k j = R at *
          repeat (first | (refine step_ops ?_; (first | (refine m_mov (by conv => lhs; whnf) ?_) | (refine m_lss rfl rfl ?_) | (apply m_ld_pt; (· rfl); (· rfl); (· rfl)) | (refine m_fa rfl ?_) | (refine m_bld_2 (by conv => lhs; whnf) (by conv => lhs; whnf) (by decide)  (by decide) (by rfl) (by rfl) ?_))) | refine end_ops ?_ | refine seq_ops ?_ | (refine cond_t rfl ?_ ?_; (· (refine decide_eq_true ?_; omega))) | refine skip_then ?_ | refine AW_seq ?_ | refine AW_block ?_)
          refine step_ops ?_
          refine m_place (a := (k : Nat)) (b := (j : Nat)) hlt (.inr ⟨true, rfl⟩) rfl (by omega) (by omega) ?_
          rw [hat]
          repeat (first | (refine step_ops ?_; (first | (refine m_mov (by conv => lhs; whnf) ?_) | (refine m_add rfl rfl ?_ ?_ ?_; (· omega); (· omega)))) | refine end_ops ?_ | refine AW_ops ?_ | (refine cond_f rfl ?_ ?_; (· assumption)) | refine norm_then ?_ | refine norm_block ?_ | refine AW_skip ?_)
          refine next_round (j + 1) hcj ?_ ?_
          · rw [hsn]
            refine weak_keep id ?_ ?_ rfl rfl rfl (.inl (by omega)) rfl rfl rfl (.inl ⟨rfl, rfl⟩) ?_
            · (repeat' (first | exact trivial | refine And.intro ?_ ?_)) <;> (first | rfl | skip)
            · (repeat' (first | exact trivial | refine And.intro ?_ ?_)) <;> (first | rfl | skip)
            · (intro j hj; simp (disch := first | omega | assumption) only [hp_put, hp_mem_ne, hp_kill_ne]; first | exact stM_row rfl hj | (rw [stM_row rfl hj]; rfl))
          · omega
      · obtain rfl : j = sdB B := by omega
        repeat (first | (refine step_ops ?_; (first | (refine m_mov (by conv => lhs; whnf) ?_) | (refine m_lss rfl rfl ?_) | (refine m_add rfl rfl ?_ ?_ ?_; (· omega); (· omega)))) | refine end_ops ?_ | refine seq_ops ?_ | refine AW_ops ?_ | (refine cond_f rfl ?_ ?_; (· (refine decide_eq_false ?_; omega))) | refine AW_seq ?_ | refine norm_then ?_ | refine exit_then ?_ | refine norm_block ?_ | refine exit_round ?_ | refine AW_exit ?_ | refine exit_block ?_)
        refine next_round (k + 1) hc ?_ ?_
        · rw [hen]
          refine weak_keep id ?_ ?_ rfl rfl rfl (.inl (by omega)) rfl rfl rfl (.inl ⟨rfl, rfl⟩) ?_
          · (repeat' (first | exact trivial | refine And.intro ?_ ?_)) <;> (first | rfl | skip)
          · (repeat' (first | exact trivial | refine And.intro ?_ ?_)) <;> (first | rfl | skip)
          · (intro j hj; simp (disch := first | omega | assumption) only [hp_put, hp_mem_ne, hp_kill_ne]; first | exact stM_row rfl hj | (rw [stM_row rfl hj]; rfl))
        · omega
    · obtain rfl : k = sdB B := by omega
      repeat (first | (refine step_ops ?_; (first | (refine m_mov (by conv => lhs; whnf) ?_) | (refine m_lss rfl rfl ?_))) | refine end_ops ?_ | refine seq_ops ?_ | (refine cond_f rfl ?_ ?_; (· (refine decide_eq_false ?_; omega))) | refine AW_seq ?_ | refine AW_ret ?_ | refine norm_then ?_ | refine exit_then ?_ | refine exit_round ?_ | refine AW_exit ?_ | refine exit_block ?_)
      simp only [h, decide_true]
      refine ret_mat (r0 := 6) (b := 1000) (by omega) (by omega) (by show 1000 + (posM (fbB B) (sdB B) (sdB B) 0).length ≤ pbase; omega) rfl rfl ?_
      unfold plM
      (intro j hj; simp (disch := first | omega | assumption) only [hp_put, hp_mem_ne, hp_kill_ne]; first | exact stM_row rfl hj | (rw [stM_row rfl hj]; rfl))
  · have e0 : fobR B = [] := if_neg h
    rw [e0]
    rw [if_neg h] at hr
    repeat (first | (refine step_ops ?_; (first | (refine m_mov (by conv => lhs; whnf) ?_) | (refine m_nils ?_))) | refine end_ops ?_ | refine seq_ops ?_)
    (refine step_ops ?_); (apply m_call (hr)); (· repeat (first | exact lends_nil | (refine lends_cons ?_ ?_; (· exact lend_v))))
    repeat (first | (refine step_ops ?_; (first | (refine m_mov (by conv => lhs; whnf) ?_) | (refine m_not rfl ?_) | (refine m_nils ?_) | (refine m_ext rfl rfl ?_) | (refine m_alloc ?_) | (refine m_stall rfl rfl rfl ?_ ?_ ?_ ?_; (· first | rfl | (simp [*]; done)); (· first | rfl | (simp [*]; done)); (· first | rfl | (simp [cellOk, Value.oneCell']; done))))) | refine end_ops ?_ | refine seq_ops ?_ | (refine cond_t rfl ?_ ?_; (· (refine nt ?_; assumption))) | refine AW_seq ?_ | refine AW_ret ?_ | refine ret_then ?_)
    simp only [h, decide_false]
    exact ret_mat0 (r0 := 2) (fl := true) (by omega) rfl rfl
end Go.Proofs.YtmifianbkpiifaaDoor
namespace Go.Proofs.YtmifianbkpiifaaDoor
variable [Go.Am.CodeBlk]
open Go.Am
attribute [local irreducible] AW Outs Weak Lends Lend Sp aops atree aop1 Then Round InBlock Done
attribute [local irreducible] SpM DoneM SpH DoneH
def bn20 : ACode := sndN 20 ac3
def bn10 : ACode := sndN 10 ac3
def bn9 : ACode := sndN 9 ac3
def bn8 : ACode := sndN 8 ac3
def bn2 : ACode := sndN 2 ac3
theorem bw20 {A C D : List UInt8} {n i j : Int} (hA : A.length ≤ 1048576) (hC : C.length ≤ 1048576) (hD : D.length ≤ 1048576) (hi : In64 i) (hj : In64 j) : AW Tryd.prog (min Tryd.f3.ntmps pbase) bn20 (st [(1, str A), (2, str C), (3, .i n), (4, str D), (5, .i i), (6, .i j), (44, str (jnT A C)), (45, .b (decide (Jn A C))), (46, str (jnT A C)), (47, .b (decide (Jn A C))), (48, str (ownBd n)), (49, .b (decide (1 ≤ n ∧ n ≤ 8))), (50, str (ownBd n)), (51, .b (decide (1 ≤ n ∧ n ≤ 8))), (52, str (cplBd n)), (53, .b (decide (1 ≤ n ∧ n ≤ 8))), (54, str (cplBd n)), (55, .b (decide (1 ≤ n ∧ n ≤ 8))), (56, str (plT D i j true)), (57, .b (decide (Pl D i j true))), (58, str (plT D i j true)), (59, .b (decide (Pl D i j true))), (60, str (plT D i j false)), (61, .b (decide (Pl D i j false))), (62, str (plT D i j false)), (63, .b (decide (Pl D i j false)))] []) (Done [14].reverse (.b true)) := by
  have h21 := bw21 (n := n) hA hC hD hi hj
  have hp : bn20 = .seq (fstC bn20) bn21 := rfl
  rw [hp]
  clear hp
  generalize bn21 = c21 at *
  have hno : Pl D i j true → decide (Pl D i j false) = false := fun h => decide_eq_false fun h2 => by
    have e1 := h.2.2.2
    have e2 := h2.2.2.2
    rw [e1] at e2
    cases e2
  have x1 := xor_self (decide (Jn A C))
  have x2 := xor_self (decide (1 ≤ n ∧ n ≤ 8))
  have x4 := xor_self (decide (Pl D i j false))
  generalize jnT A C = J at *
  generalize decide (Jn A C) = b1 at *
  generalize ownBd n = O at *
  generalize cplBd n = P at *
  generalize decide (1 ≤ n ∧ n ≤ 8) = b2 at *
  generalize plT D i j false = E2 at *
  generalize plT D i j true = E at *
  have n1 : decide (J ≠ J) = false := by simp
  have n2 : decide (O ≠ O) = false := by simp
  have n3 : decide (P ≠ P) = false := by simp
  have n4 : decide (E ≠ E) = false := by simp
  have n5 : decide (E2 ≠ E2) = false := by simp
  by_cases h : Pl D i j true
  · rw [hno h] at *
    rw [decide_eq_true h] at *
    unfold bn20
    unfold ac3
    simp only [sndN, sndC, fstC]
    repeat (first | (refine step_ops ?_; ((try (refine g_yes rfl ?_ ?_; (· first | rfl | assumption))); (first | (refine m_mov (by conv => lhs; whnf) ?_) | (refine m_neqs_self rfl rfl ?_) | (refine m_beq rfl rfl ?_) | (refine m_pick_t rfl ?_ (by conv => lhs; whnf) ?_; (· rfl)) | (refine m_pick_f rfl ?_ (by conv => lhs; whnf) ?_; (· first | rfl | assumption))))) | refine end_ops ?_ | refine seq_ops ?_ | (refine cond_f rfl ?_ ?_; (· rfl)) | refine skip_then ?_ | refine AW_seq ?_)
    refine AW_weak (weak_st ?_ ?_ rfl rfl) h21
    · (repeat' (first | exact trivial | refine And.intro ?_ ?_)) <;> (first | rfl | skip)
    · trivial
  · rw [decide_eq_false h] at *
    generalize decide (Pl D i j false) = b4 at *
    unfold bn20
    unfold ac3
    simp only [sndN, sndC, fstC]
    repeat (first | ((first | (refine step_ops ?_; (first | ((try (refine g_yes rfl ?_ ?_; (· first | rfl | assumption))); (first | (refine m_mov (by conv => lhs; whnf) ?_) | (refine m_neqs_self rfl rfl ?_) | (refine m_beq rfl rfl ?_) | (refine m_pick_f rfl ?_ (by conv => lhs; whnf) ?_; (· first | rfl | assumption)))) | (refine g_noT rfl ?_ ?_; (· rfl)))) | refine end_ops ?_ | refine seq_ops ?_ | (refine cond_f rfl ?_ ?_; (· rfl)) | refine skip_then ?_ | refine AW_seq ?_)) | (refine step_ops ?_; refine g_un rfl ?_))
    refine AW_weak (weak_st ?_ ?_ rfl rfl) h21
    · (repeat' (first | exact trivial | refine And.intro ?_ ?_)) <;> (first | rfl | skip)
    · trivial
theorem bw10 {A C D : List UInt8} {n i j : Int} (hA : A.length ≤ 1048576) (hC : C.length ≤ 1048576) (hD : D.length ≤ 1048576) (hi : In64 i) (hj : In64 j) : AW Tryd.prog (min Tryd.f3.ntmps pbase) bn10 (st [(1, str A), (2, str C), (3, .i n), (4, str D), (5, .i i), (6, .i j)] []) (Done [14].reverse (.b true)) := by
  have h20 := bw20 (n := n) hA hC hD hi hj
  have hp : bn10 = .seq (fstC bn10) (.seq (fstC (sndN 1 bn10)) (.seq (fstC (sndN 2 bn10)) (.seq (fstC (sndN 3 bn10)) (.seq (fstC (sndN 4 bn10)) (.seq (fstC (sndN 5 bn10)) (.seq (fstC (sndN 6 bn10)) (.seq (fstC (sndN 7 bn10)) (.seq (fstC (sndN 8 bn10)) (.seq (fstC (sndN 9 bn10)) bn20))))))))) := rfl
  rw [hp]
  clear hp
  generalize bn20 = c20 at *
  have s1 := implJoinBoards_spec A C hA hC
  have s2 := specJoinBoards_spec A C hA hC
  have s3 := implOwnBoard_spec n
  have s4 := specOwnBoard_spec n
  have s5 := implCoupleBoard_spec n
  have s6 := specCoupleBoard_spec n
  have s7 := implForbidPlace_spec D i j hD hi hj
  have s8 := specForbidPlace_spec D i j hD
  have s9 := implAllowPlace_spec D i j hD hi hj
  have s10 := specAllowPlace_spec D i j hD
  unfold jnR at s1 s2
  unfold plR at s7 s8 s9 s10
  generalize jnT A C = J at *
  generalize decide (Jn A C) = b1 at *
  generalize ownBd n = O at *
  generalize cplBd n = P at *
  generalize decide (1 ≤ n ∧ n ≤ 8) = b2 at *
  generalize plT D i j false = E2 at *
  generalize decide (Pl D i j false) = b4 at *
  generalize decide (Pl D i j true) = b3 at *
  generalize plT D i j true = E at *
  unfold bn10
  unfold ac3
  simp only [sndN, sndC, fstC]
  repeat (first | (refine step_ops ?_; (refine m_mov (by conv => lhs; whnf) ?_)) | refine seq_ops ?_)
  refine step_ops ?_; (apply m_call (s1)); (· repeat (first | exact lends_nil | (refine lends_cons ?_ ?_; (· exact lend_v))))
  repeat (first | (refine step_ops ?_; (first | (refine m_mov (by conv => lhs; whnf) ?_) | (refine m_ext rfl rfl ?_))) | refine end_ops ?_ | refine seq_ops ?_)
  refine step_ops ?_; (apply m_call (s2)); (· repeat (first | exact lends_nil | (refine lends_cons ?_ ?_; (· exact lend_v))))
  repeat (first | (refine step_ops ?_; (first | (refine m_mov (by conv => lhs; whnf) ?_) | (refine m_ext rfl rfl ?_))) | refine end_ops ?_ | refine seq_ops ?_)
  refine step_ops ?_; (apply m_call (s3)); (· repeat (first | exact lends_nil | (refine lends_cons ?_ ?_; (· exact lend_v))))
  repeat (first | (refine step_ops ?_; (first | (refine m_mov (by conv => lhs; whnf) ?_) | (refine m_ext rfl rfl ?_))) | refine end_ops ?_ | refine seq_ops ?_)
  refine step_ops ?_; (apply m_call (s4)); (· repeat (first | exact lends_nil | (refine lends_cons ?_ ?_; (· exact lend_v))))
  repeat (first | (refine step_ops ?_; (first | (refine m_mov (by conv => lhs; whnf) ?_) | (refine m_ext rfl rfl ?_))) | refine end_ops ?_ | refine seq_ops ?_)
  refine step_ops ?_; (apply m_call (s5)); (· repeat (first | exact lends_nil | (refine lends_cons ?_ ?_; (· exact lend_v))))
  repeat (first | (refine step_ops ?_; (first | (refine m_mov (by conv => lhs; whnf) ?_) | (refine m_ext rfl rfl ?_))) | refine end_ops ?_ | refine seq_ops ?_)
  refine step_ops ?_; (apply m_call (s6)); (· repeat (first | exact lends_nil | (refine lends_cons ?_ ?_; (· exact lend_v))))
  repeat (first | (refine step_ops ?_; (first | (refine m_mov (by conv => lhs; whnf) ?_) | (refine m_ext rfl rfl ?_))) | refine end_ops ?_ | refine seq_ops ?_)
  refine step_ops ?_; (apply m_call (s7)); (· repeat (first | exact lends_nil | (refine lends_cons ?_ ?_; (· exact lend_v))))
  repeat (first | (refine step_ops ?_; (first | (refine m_mov (by conv => lhs; whnf) ?_) | (refine m_ext rfl rfl ?_))) | refine end_ops ?_ | refine seq_ops ?_)
  refine step_ops ?_; (apply m_call (s8)); (· repeat (first | exact lends_nil | (refine lends_cons ?_ ?_; (· exact lend_v))))
  repeat (first | (refine step_ops ?_; (first | (refine m_mov (by conv => lhs; whnf) ?_) | (refine m_ext rfl rfl ?_))) | refine end_ops ?_ | refine seq_ops ?_)
  refine step_ops ?_; (apply m_call (s9)); (· repeat (first | exact lends_nil | (refine lends_cons ?_ ?_; (· exact lend_v))))
  repeat (first | (refine step_ops ?_; (first | (refine m_mov (by conv => lhs; whnf) ?_) | (refine m_ext rfl rfl ?_))) | refine end_ops ?_ | refine seq_ops ?_)
  refine step_ops ?_; (apply m_call (s10)); (· repeat (first | exact lends_nil | (refine lends_cons ?_ ?_; (· exact lend_v))))
  repeat (first | (refine step_ops ?_; (first | (refine m_mov (by conv => lhs; whnf) ?_) | (refine m_ext rfl rfl ?_))) | refine end_ops ?_)
  refine AW_weak (weak_st ?_ ?_ rfl rfl) h20
  · (repeat' (first | exact trivial | refine And.intro ?_ ?_)) <;> (first | rfl | skip)
  · trivial
theorem fob_good {B : List UInt8} (h : GoodBd B) : fobR B = plM B := if_pos h
set_option maxRecDepth 100000 in
set_option maxHeartbeats 2000000 in
/-- A board turned, and the other one. -/
theorem bw9 {B A C D : List UInt8} {n i j : Int} (hB : B.length ≤ 1048576) (hA : A.length ≤ 1048576) (hC : C.length ≤ 1048576) (hD : D.length ≤ 1048576) (hi : In64 i) (hj : In64 j) : AW Tryd.prog (min Tryd.f3.ntmps pbase) bn9 (st [(0, str B), (1, str A), (2, str C), (3, .i n), (4, str D), (5, .i i), (6, .i j), (15, str (trnB B)), (16, .b (decide (GoodBd B))), (19, str (othB B)), (23, .i (if GoodBd B then (sdB B : Nat) else (0 : Int)))] []) (Done [14].reverse (.b true)) := by
  have h10 := bw10 (n := n) hA hC hD hi hj
  have hp : bn9 = .seq (fstC bn9) bn10 := rfl
  rw [hp]
  clear hp
  generalize bn10 = c10 at *
  by_cases h : GoodBd B
  · have hsd := good_sd h
    obtain ⟨t1, t2, t3, t4⟩ := trn_facts h
    obtain ⟨o1, o2, o3, o4, o5⟩ := oth_facts h
    have lt := good_len72 t1
    have lo := good_len72 o1
    have s1 := implTurnedBoard_spec (trnB B) (by omega)
    unfold tbR at s1
    rw [t4, decide_eq_true t1] at s1
    have s2 := implOtherBoard_spec (othB B) (by omega)
    unfold txR at s2
    rw [o4, decide_eq_true o1] at s2
    have s3 := implRookNumbers_spec B hB
    have s4 := implRookNumbers_spec (trnB B) (by omega)
    have s5 := implHitNumbers_spec B hB
    have s6 := implHitNumbers_spec (othB B) (by omega)
    have s7 := sp_mat2 (implForbiddenOf_spec B hB)
    have s8 := sp_mat2 (implForbiddenOf_spec (othB B) (by omega))
    unfold rksR at s3 s4
    unfold hitR at s5 s6
    have e1 : rksB B = rgL (sdB B) (rkN (fbB B) (sdB B)) := if_pos h
    have e2 : rksB (trnB B) = rgL (sdB B) (rkN (fbB B) (sdB B)) := by
      rw [show rksB (trnB B) = rgL (sdB (trnB B)) (rkN (fbB (trnB B)) (sdB (trnB B))) from if_pos t1, t2]
      exact rgL_congr fun k _ => t3 k
    have e3 : hitB B = hitL B := if_pos h
    have e4 : hitB (othB B) = hitL (othB B) := if_pos o1
    rw [e1, decide_eq_true h] at s3
    rw [e2, decide_eq_true t1] at s4
    rw [e3, decide_eq_true h] at s5
    rw [e4, decide_eq_true o1] at s6
    rw [fob_good h, decide_eq_true h] at s7
    rw [fob_good o1, decide_eq_true o1] at s8
    have s9 := oSame_self (rgL (sdB B) (rkN (fbB B) (sdB B))) (by rw [rgL_len]; omega)
    have hu : (hitL B).length = sdB B + 1 := hitL_len B
    have hv : (hitL (othB B)).length = sdB B + 1 := by rw [hitL_len, o2]
    have hat : ∀ k, k ≤ sdB B → (hitL B).getD k 0 = (hitL (othB B)).getD (sdB B - k) 0 := fun k hk => by
      have a1 : (hitL B).getD k 0 = (hitX (fbB B) (sdB B) k : Nat) := by rw [hitL_is h]; simp [show k < sdB B + 1 by omega]
      have a2 : (hitL (othB B)).getD (sdB B - k) 0 = (hitX (fbB (othB B)) (sdB B) (sdB B - k) : Nat) := by rw [hitL_is o1, o2]; simp [show sdB B - k < sdB B + 1 by omega]
      rw [a1, a2, o3 _ (by omega), show sdB B - (sdB B - k) = k by omega]
    have hsq : ((plM B).length : Int) + ((plM (othB B)).length : Int) = ((sdB B : Nat) : Int) * ((sdB B : Nat) : Int) := by
      rw [← Int.natCast_mul, ← o5, Int.natCast_add]
    have hsm : ((sdB B : Nat) : Int) * ((sdB B : Nat) : Int) ≤ 64 := by
      have : sdB B * sdB B ≤ 8 * 8 := Nat.mul_le_mul hsd.2 hsd.2
      rw [← Int.natCast_mul]; omega
    have hsm0 : 0 ≤ ((sdB B : Nat) : Int) * ((sdB B : Nat) : Int) := by rw [← Int.natCast_mul]; omega
    rw [decide_eq_true h, if_pos h]
    clear o3 t3 e1 e2 e3 e4
    generalize rgL (sdB B) (rkN (fbB B) (sdB B)) = X at *
    generalize hitL B = U at *
    generalize hitL (othB B) = V at *
    generalize plM B = G1 at *
    generalize plM (othB B) = G2 at *
    generalize trnB B = TB at *
    generalize othB B = OB at *
    generalize sdB B = m at *
    have n1 : decide (B ≠ B) = false := by simp
    unfold bn9
    unfold ac3
    simp only [sndN, sndC, fstC]
    repeat (first | (refine step_ops ?_; (refine m_mov (by conv => lhs; whnf) ?_)) | refine end_ops ?_ | refine seq_ops ?_ | (refine cond_t rfl ?_ ?_; (· rfl)) | refine AW_seq ?_)
    refine step_ops ?_; (apply m_call (s1)); (· repeat (first | exact lends_nil | (refine lends_cons ?_ ?_; (· exact lend_v))))
    repeat (first | (refine step_ops ?_; (first | (refine m_mov (by conv => lhs; whnf) ?_) | (refine m_ext rfl rfl ?_))) | refine end_ops ?_ | refine seq_ops ?_)
    refine step_ops ?_; (apply m_call (s2)); (· repeat (first | exact lends_nil | (refine lends_cons ?_ ?_; (· exact lend_v))))
    repeat (first | (refine step_ops ?_; (first | (refine m_mov (by conv => lhs; whnf) ?_) | (refine m_ext rfl rfl ?_))) | refine end_ops ?_ | refine seq_ops ?_)
    refine step_ops ?_; (apply m_call (s3)); (· repeat (first | exact lends_nil | (refine lends_cons ?_ ?_; (· exact lend_v))))
    repeat (first | (refine step_ops ?_; (first | (refine m_mov (by conv => lhs; whnf) ?_) | (refine m_ext rfl rfl ?_))) | refine end_ops ?_ | refine seq_ops ?_)
    refine step_ops ?_; (apply m_call (s4)); (· repeat (first | exact lends_nil | (refine lends_cons ?_ ?_; (· exact lend_v))))
    repeat (first | (refine step_ops ?_; (first | (refine m_mov (by conv => lhs; whnf) ?_) | (refine m_ext rfl rfl ?_))) | refine end_ops ?_ | refine seq_ops ?_)
    refine step_ops ?_; (apply m_call (s5)); (· repeat (first | exact lends_nil | (refine lends_cons ?_ ?_; (· exact lend_v))))
    repeat (first | (refine step_ops ?_; (first | (refine m_mov (by conv => lhs; whnf) ?_) | (refine m_ext rfl rfl ?_))) | refine end_ops ?_ | refine seq_ops ?_)
    refine step_ops ?_; (apply m_call (s6)); (· repeat (first | exact lends_nil | (refine lends_cons ?_ ?_; (· exact lend_v))))
    repeat (first | (refine step_ops ?_; (first | (refine m_mov (by conv => lhs; whnf) ?_) | (refine m_ext rfl rfl ?_))) | refine end_ops ?_ | refine seq_ops ?_)
    refine step_ops ?_; (apply m_call (s7)); (· repeat (first | exact lends_nil | (refine lends_cons ?_ ?_; (· exact lend_v))))
    repeat (first | (refine step_ops ?_; (first | (refine m_mov (by conv => lhs; whnf) ?_) | (refine m_ext rfl rfl ?_))) | refine end_ops ?_ | refine seq_ops ?_)
    refine step_ops ?_; (apply m_call (s8)); (· repeat (first | exact lends_nil | (refine lends_cons ?_ ?_; (· exact lend_v))))
    repeat (first | (refine step_ops ?_; ((try (refine g_yes rfl ?_ ?_; (· rfl))); (first | (refine m_mov (by conv => lhs; whnf) ?_) | (refine m_neqs_self rfl rfl ?_) | (refine m_not rfl ?_) | (refine m_pick_f rfl ?_ (by conv => lhs; whnf) ?_; (· rfl)) | (refine m_ext rfl rfl ?_)))) | refine end_ops ?_ | refine seq_ops ?_ | refine AW_seq ?_)
    refine step_ops ?_; (refine g_yes rfl ?_ ?_; (· first | (rfl) | (fail)); (apply m_call (s9))); (· repeat (first | exact lends_nil | (refine lends_cons ?_ ?_; (· (refine lend_ints ?_; first | rfl | omega)))))
    repeat (first | (refine step_ops ?_; ((try (refine g_yes rfl ?_ ?_; (· rfl))); (first | (refine m_mov (by conv => lhs; whnf) ?_) | (refine m_neq rfl rfl ?_) | (refine m_add rfl rfl ?_ ?_ ?_; (· omega); (· omega)) | (refine m_mul rfl rfl ?_ ?_ ?_; (· first | omega | (simp; done)); (· first | omega | (simp; done))) | (refine m_not rfl ?_) | (refine m_len_ro rfl ?_) | (refine m_pick_f rfl ?_ (by conv => lhs; whnf) ?_; (· rfl))))) | refine end_ops ?_ | refine seq_ops ?_ | (refine cond_f rfl ?_ ?_; (· (refine decide_eq_false ?_; omega))) | refine skip_then ?_ | refine AW_block ?_)
    refine AW_loop (α := Nat) (fun k => k ≤ m + 1) (fun k => st [(1, str A), (2, str C), (3, .i n), (4, str D), (5, .i i), (6, .i j), (23, .i (m : Nat)), (35, newInts U), (37, newInts V), (280, .i U.length), (281, .i (k : Nat))] []) (fun k => m + 1 - k) 0 (Nat.zero_le _) (weak_st ?_ ?_ rfl rfl) ?_
    · (repeat' (first | exact trivial | refine And.intro ?_ ?_)) <;> (first | rfl | skip)
    · trivial
    intro k hk
    by_cases hc : k < m + 1
    · have w1 := hat k (by omega)
      have w2 : ¬ (U.getD k 0 ≠ V.getD ((((m : Nat) : Int) - ((k : Nat) : Int)).toNat * 1) 0) := by
        rw [show (((m : Nat) : Int) - ((k : Nat) : Int)).toNat * 1 = m - k by omega]
        exact fun hh => hh w1
      repeat (first | ((first | refine step_ops ?_ | refine step_tree ?_); (first | (refine m_mov (by conv => lhs; whnf) ?_) | (refine m_lss rfl rfl ?_) | (refine m_neq rfl rfl ?_) | (refine m_add rfl rfl ?_ ?_ ?_; (· omega); (· omega)) | (refine m_sub rfl rfl ?_ ?_ ?_; (· omega); (· omega)) | (refine m_idx1_ro rfl rfl ?_ ?_; (· omega)) | (refine m_idx_ro rfl rfl ?_ ?_ ?_; (· omega); (· omega)) | (refine m_ld_rpi rfl ?_ ?_; (· omega)))) | refine end_ops ?_ | refine seq_ops ?_ | refine AW_ops ?_ | refine end_tree ?_ | refine seq_tree ?_ | (refine cond_t rfl ?_ ?_; (· (refine decide_eq_true ?_; omega))) | (refine cond_f rfl ?_ ?_; (· (refine decide_eq_false ?_; assumption))) | refine skip_then ?_ | refine AW_seq ?_ | refine norm_then ?_ | refine AW_block ?_ | refine norm_block ?_ | refine AW_skip ?_)
      refine next_round (k + 1) (by omega) (weak_st ?_ ?_ rfl rfl) (by omega)
      · (repeat' (first | exact trivial | refine And.intro ?_ ?_)) <;> (first | rfl | skip)
      · trivial
    · repeat (first | (refine step_ops ?_; (refine m_lss rfl rfl ?_)) | refine end_ops ?_ | refine seq_ops ?_ | (refine cond_f rfl ?_ ?_; (· (refine decide_eq_false ?_; omega))) | refine AW_seq ?_ | refine norm_then ?_ | refine exit_then ?_ | refine exit_round ?_ | refine AW_exit ?_ | refine exit_block ?_)
      refine AW_weak (weak_st ?_ ?_ rfl rfl) h10
      · (repeat' (first | exact trivial | refine And.intro ?_ ?_)) <;> (first | rfl | skip)
      · trivial
  · rw [decide_eq_false h, if_neg h]
    generalize trnB B = TB at *
    generalize othB B = OB at *
    unfold bn9
    unfold ac3
    simp only [sndN, sndC, fstC]
    repeat (first | (refine step_ops ?_; (refine m_mov (by conv => lhs; whnf) ?_)) | refine end_ops ?_ | refine seq_ops ?_ | (refine cond_f rfl ?_ ?_; (· rfl)) | refine skip_then ?_ | refine AW_seq ?_)
    refine AW_weak (weak_st ?_ ?_ rfl rfl) h10
    · (repeat' (first | exact trivial | refine And.intro ?_ ?_)) <;> (first | rfl | skip)
    · trivial
theorem bw8 {B A C D : List UInt8} {n i j : Int} (hB : B.length ≤ 1048576) (hA : A.length ≤ 1048576) (hC : C.length ≤ 1048576) (hD : D.length ≤ 1048576) (hi : In64 i) (hj : In64 j) : AW Tryd.prog (min Tryd.f3.ntmps pbase) bn8 (st [(0, str B), (1, str A), (2, str C), (3, .i n), (4, str D), (5, .i i), (6, .i j), (15, str (trnB B)), (16, .b (decide (GoodBd B))), (17, str (trnB B)), (18, .b (decide (GoodBd B))), (19, str (othB B)), (20, .b (decide (GoodBd B))), (21, str (othB B)), (22, .b (decide (GoodBd B))), (23, .i (if GoodBd B then (sdB B : Nat) else (0 : Int))), (24, .b (decide (GoodBd B))), (25, .i (if GoodBd B then (sdB B : Nat) else (0 : Int))), (26, .b (decide (GoodBd B)))] []) (Done [14].reverse (.b true)) := by
  have h9 := bw9 (n := n) hB hA hC hD hi hj
  have hp : bn8 = .seq (fstC bn8) bn9 := rfl
  rw [hp]
  clear hp
  generalize bn9 = c9 at *
  have s1 := implIsBoard_spec B hB
  have x1 := xor_self (decide (GoodBd B))
  generalize (if GoodBd B then ((sdB B : Nat) : Int) else (0 : Int)) = v at *
  generalize decide (GoodBd B) = b at *
  generalize trnB B = TB at *
  generalize othB B = OB at *
  have n1 : decide (TB ≠ TB) = false := by simp
  have n2 : decide (OB ≠ OB) = false := by simp
  have n3 : decide (v ≠ v) = false := by simp
  unfold bn8
  unfold ac3
  simp only [sndN, sndC, fstC]
  repeat (first | (refine step_ops ?_; ((try (refine g_yes rfl ?_ ?_; (· first | rfl | assumption))); (first | (refine m_mov (by conv => lhs; whnf) ?_) | (refine m_neq rfl rfl ?_) | (refine m_neqs_self rfl rfl ?_) | (refine m_beq rfl rfl ?_) | (refine m_pick_f rfl ?_ (by conv => lhs; whnf) ?_; (· first | rfl | assumption))))) | refine seq_ops ?_ | refine AW_seq ?_)
  refine step_ops ?_; (refine g_yes rfl ?_ ?_; (· first | (assumption) | (fail)); (apply m_call (s1))); (· repeat (first | exact lends_nil | (refine lends_cons ?_ ?_; (· exact lend_v))))
  repeat (first | (refine step_ops ?_; ((try (refine g_yes rfl ?_ ?_; (· assumption))); (first | (refine m_mov (by conv => lhs; whnf) ?_) | (refine m_beq rfl rfl ?_) | (refine m_pick_f rfl ?_ (by conv => lhs; whnf) ?_; (· assumption))))) | refine end_ops ?_ | (refine cond_f rfl ?_ ?_; (· assumption)) | refine skip_then ?_)
  refine AW_weak (weak_st ?_ ?_ rfl rfl) h9
  · (repeat' (first | exact trivial | refine And.intro ?_ ?_)) <;> (first | rfl | skip)
  · trivial
theorem bw2 {B A C D : List UInt8} {n i j : Int} (hB : B.length ≤ 1048576) (hA : A.length ≤ 1048576) (hC : C.length ≤ 1048576) (hD : D.length ≤ 1048576) (hi : In64 i) (hj : In64 j) : AW Tryd.prog (min Tryd.f3.ntmps pbase) bn2 (st [(0, str B), (1, str A), (2, str C), (3, .i n), (4, str D), (5, .i i), (6, .i j)] []) (Done [14].reverse (.b true)) := by
  have h8 := bw8 (n := n) hB hA hC hD hi hj
  have hp : bn2 = .seq (fstC bn2) (.seq (fstC (sndN 1 bn2)) (.seq (fstC (sndN 2 bn2)) (.seq (fstC (sndN 3 bn2)) (.seq (fstC (sndN 4 bn2)) (.seq (fstC (sndN 5 bn2)) bn8))))) := rfl
  rw [hp]
  clear hp
  generalize bn8 = c8 at *
  have s1 := implTurnedBoard_spec B hB
  have s2 := specTurnedBoard_spec B hB
  have s3 := implOtherBoard_spec B hB
  have s4 := specOtherBoard_spec B hB
  have s5 := implSideOf_spec B hB
  have s6 := specSideOf_spec B hB
  unfold tbR at s1 s2
  unfold txR at s3 s4
  unfold sideR at s5 s6
  generalize (if GoodBd B then ((sdB B : Nat) : Int) else (0 : Int)) = v at *
  generalize decide (GoodBd B) = b at *
  generalize trnB B = TB at *
  generalize othB B = OB at *
  unfold bn2
  unfold ac3
  simp only [sndN, sndC, fstC]
  repeat (first | (refine step_ops ?_; (refine m_mov (by conv => lhs; whnf) ?_)) | refine seq_ops ?_)
  refine step_ops ?_; (apply m_call (s1)); (· repeat (first | exact lends_nil | (refine lends_cons ?_ ?_; (· exact lend_v))))
  repeat (first | (refine step_ops ?_; (first | (refine m_mov (by conv => lhs; whnf) ?_) | (refine m_ext rfl rfl ?_))) | refine end_ops ?_ | refine seq_ops ?_)
  refine step_ops ?_; (apply m_call (s2)); (· repeat (first | exact lends_nil | (refine lends_cons ?_ ?_; (· exact lend_v))))
  repeat (first | (refine step_ops ?_; (first | (refine m_mov (by conv => lhs; whnf) ?_) | (refine m_ext rfl rfl ?_))) | refine end_ops ?_ | refine seq_ops ?_)
  refine step_ops ?_; (apply m_call (s3)); (· repeat (first | exact lends_nil | (refine lends_cons ?_ ?_; (· exact lend_v))))
  repeat (first | (refine step_ops ?_; (first | (refine m_mov (by conv => lhs; whnf) ?_) | (refine m_ext rfl rfl ?_))) | refine end_ops ?_ | refine seq_ops ?_)
  refine step_ops ?_; (apply m_call (s4)); (· repeat (first | exact lends_nil | (refine lends_cons ?_ ?_; (· exact lend_v))))
  repeat (first | (refine step_ops ?_; (first | (refine m_mov (by conv => lhs; whnf) ?_) | (refine m_ext rfl rfl ?_))) | refine end_ops ?_ | refine seq_ops ?_)
  refine step_ops ?_; (apply m_call (s5)); (· repeat (first | exact lends_nil | (refine lends_cons ?_ ?_; (· exact lend_v))))
  repeat (first | (refine step_ops ?_; (first | (refine m_mov (by conv => lhs; whnf) ?_) | (refine m_ext rfl rfl ?_))) | refine end_ops ?_ | refine seq_ops ?_)
  refine step_ops ?_; (apply m_call (s6)); (· repeat (first | exact lends_nil | (refine lends_cons ?_ ?_; (· exact lend_v))))
  repeat (first | (refine step_ops ?_; (first | (refine m_mov (by conv => lhs; whnf) ?_) | (refine m_ext rfl rfl ?_))) | refine end_ops ?_)
  refine AW_weak (weak_st ?_ ?_ rfl rfl) h8
  · (repeat' (first | exact trivial | refine And.intro ?_ ?_)) <;> (first | rfl | skip)
  · trivial
end Go.Proofs.YtmifianbkpiifaaDoor
namespace Go.Am
variable [Go.Am.CodeBlk]
open Go.ChangeShapes Go.WideShapes Go.ChangeAt Go.RowKit Go.ChangeMaps
variable {P : Program} {H : Type} {enc : TypeId × Value → H}
theorem and_mk {a b : Bool} (h : a = true) (k : b = true) : (a && b) = true := by rw [h, k]; rfl
theorem More.below {w w' : World} (h : More w w') : Below w.heap.size w w' := ⟨h.os, h.tape, h.output, h.size, h.block⟩
theorem trodAll_stays (hl : laidOutB P = true) {W W' : World} (hb : Below W.heap.size W W') (sp : Nat → Bool) : ∀ {ts : List TypeId} {vs : List Value} {ds : List (DataW H)} {ps : List MemPlace},
    (∀ t ∈ ts, P.readableRec t = true ∧ t < P.types.size) → DataW.TrodAll enc P W 0 (fun _ => true) true ts vs ds ps → (∀ p ∈ ps, p.block < W.heap.size) → (∀ p ∈ ps, sp p.block = true) →
    DataW.TrodAll enc P W' 0 sp true ts vs ds ps
  | [], vs, ds, ps, _, h, _, _ => by
    obtain ⟨rfl, rfl, rfl⟩ := trodAll_nil h
    exact trodAll_mk0
  | t :: ts, vs, ds, ps, hr, h, hlt, hsp => by
    obtain ⟨v, vs', d, ds', p, q, rfl, rfl, rfl, h1, h2⟩ := trodAll_cons h
    refine ⟨p, q, ?_, trodAll_stays hl hb sp (fun t ht => hr t (List.mem_cons_of_mem _ ht)) h2 (fun x hx => hlt x (List.mem_append_right _ hx)) (fun x hx => hsp x (List.mem_append_right _ hx)), rfl⟩
    obtain ⟨h3, h4⟩ := hr t (List.mem_cons_self ..)
    exact WideElems.Trod_stays hl h3 h4 h1 (fun x hx => hb.same (hlt x (List.mem_append_left _ hx))) (fun x hx => hsp x (List.mem_append_left _ hx))
/-- What the row's last words ask of a law that says true. -/
theorem law_post (hl : laidOutB P = true) {f : Func} {s : ChangeSpec} {fresh handsOn again : Bool} {W W' : World} {args : Array Value} {ds gs : List (DataW H)} {before : List MemPlace} {bt : TypeId}
    (hW : DataW.Whole enc P f.params.toList s.vars false W args.toList ds gs before) (hvars : s.vars = []) (hfn : s.fn H (ds ++ gs) = { results := [.lit (.bool true)], args := ds })
    (hres : f.resultTypes = #[bt]) (hbt : P.underlying bt = some .bool) (hread : ∀ t ∈ f.params.toList, P.readableRec t = true ∧ t < P.types.size) (hm : More W W') :
    s.post enc P f false fresh handsOn again W args (.bool true) W' := by
  have hb := hm.below
  have hlt : ∀ p ∈ before, p.block < W.heap.size := fun p hp => hW.lt p hp
  obtain ⟨p, q, hA, hV, hpq, hz, hn⟩ := hW
  rw [hvars] at hV
  obtain ⟨rfl, rfl⟩ := trodVars_none hV
  rw [List.append_nil] at hpq
  subst hpq
  have hargs : ∀ sp : Nat → Bool, (∀ x ∈ before, sp x.block = true) → DataW.TrodAll enc P W' 0 sp true f.params.toList args.toList ds before := fun sp hsp => trodAll_stays hl hb sp hread hA hlt hsp
  have hresT : ∀ (b : Nat) (sp : Nat → Bool) (hd : Bool), DataW.TrodAll enc P W' b sp hd f.resultTypes.toList ((Value.bool true).resultList f.resultTypes.size) [.lit (.bool true)] [] := by
    intro b sp hd
    rw [hres]
    exact trodAll_mk1 (shut_bool hbt true)
  have hvarsT : ∀ sp : Nat → Bool, DataW.TrodVars enc P W' sp s.vars (s.fn H (ds ++ [])).vars [] := by
    intro sp
    rw [hvars, hfn]
    rfl
  have hfull : DataW.Whole enc P f.params.toList s.vars false W args.toList ds [] before := ⟨before, [], hA, by rw [hvars]; rfl, by simp, hz, by simp⟩
  refine ⟨ds, [], before, [], before, [], hfull, by rw [hfn]; exact hresT _ _ _, by rw [hfn]; exact hargs _ (fun x hx => by simpa using hlt x hx), hvarsT _, World.keptBut_mono (fun x hx => ⟨hx, .inr (.inl hx)⟩) (hb.frame (· ∈ before)), fun _ => ?_⟩
  refine ⟨ok_one hres rfl (okWide_bool_mk hbt true), _, _, ([] ++ before) ++ [], ⟨[] ++ before, [], trodAll_append (hargs _ (fun _ _ => rfl)) (hresT _ _ _), hvarsT _, rfl, ?_, by simp⟩, ?_⟩
  · intro b off hp
    have hin : MemPlace.cell b off ∈ before := by simpa using hp
    rw [hb.frozen (hlt _ hin)]
    exact hz b off hin
  · intro x hx _
    simpa using hx
abbrev Outer (w : World) : Ctx := { heap := w.heap, ro := fun b => b < w.heap.size, base := w.heap.size, phi := fun _ => none, live := fun _ => false, loc := false }
/-- An integer that came in. -/
theorem arg_int {W : World} {t : TypeId} {v : Value} {d : DataW H} {ps : List MemPlace} (ht : P.underlying t = some (.int .i64))
    (hval : Value.okWide P W .any 0 t v) (h : DataW.Trod enc P W 0 (fun _ => true) true t v d ps) : ∃ n : Int, SimV (.i n) (Outer W) v ∧ -9223372036854775808 ≤ n ∧ n ≤ 9223372036854775807 := by
  obtain ⟨n, rfl, _, _, hw⟩ := open_int ht hval h
  simp [Lit.wf, IntKind.min, IntKind.max, IntKind.signed, IntKind.bits] at hw
  exact ⟨n, by simp [SimV], by omega, by omega⟩
/-- A string that came in. -/
theorem arg_string {W : World} {t : TypeId} {v : Value} {d : DataW H} {ps : List MemPlace} (ht : P.underlying t = some .string)
    (hval : Value.okWide P W .any 0 t v) (h : DataW.Trod enc P W 0 (fun _ => true) true t v d ps) : ∃ b : ByteArray, SimV (.v (.string b)) (Outer W) v ∧ b.size ≤ maxLen := by
  obtain ⟨b, rfl, _, _, hw⟩ := open_string ht hval h
  exact ⟨b, by simp [SimV], hw⟩
/-- A law says true. -/
theorem law_calls {f : FuncId} {asx : List AV} {W : World} {args : Array Value} (hs : Sp P f asx (.b true)) (he : SimL asx (Outer W) args.toList) (hlen : args.size = asx.length) (hg : GoodW W := by exact goodW_none rfl) :
    Calls P f args W fun e W' => e = .returned (.bool true) ∧ More W W' := by
  refine (hs W args hg ⟨he, by simpa using hlen⟩).mono fun e W' ⟨v, h1, h2, h3⟩ => ?_
  simp only [SimV] at h3
  subst h3
  exact ⟨h1, h2⟩
end Go.Am
namespace Go.Proofs.YtmifianbkpiifaaDoor
open Go.ChangeShapes Go.WideShapes Go.ChangeAt Go.RowKit
theorem factMayEnter : Tryd.checked.prog.mayEnter = true := by kernel_rfl
end Go.Proofs.YtmifianbkpiifaaDoor
namespace Go.Proofs.YtmifianbkpiifaaDoor
open Go.ChangeShapes Go.WideShapes Go.ChangeAt Go.RowKit
theorem factLifts : Tryd.checked.prog.liftsFinal = false := by kernel_rfl
end Go.Proofs.YtmifianbkpiifaaDoor
namespace Go.Proofs.YtmifianbkpiifaaDoor
open Go.ChangeShapes Go.WideShapes Go.ChangeAt Go.RowKit
theorem factMake : Tryd.checked.prog.make = some (OpenClaim.make { program := "", sum := "", func := "", spec := "" }) := by kernel_rfl
end Go.Proofs.YtmifianbkpiifaaDoor
namespace Go.Proofs.YtmifianbkpiifaaDoor
open Go.ChangeShapes Go.WideShapes Go.ChangeAt Go.RowKit
theorem door_met (os : Os) (args : Array Value) : laidMetH Tryd.prog Rows.fnBoardsChangedOfAllRow.laid ((World.laidAll Tryd.prog os Rows.fnBoardsChangedOfAllRow.laid).forCall (fun _ _ => 0) ⟨#[], args, []⟩).memory := by
  rw [MakeChecks.laidMetH_plain _ _ _ (by kernel_rfl)]
  exact laidMet_laidAll _ (by kernel_rfl) (by kernel_rfl)
theorem door_shaped (os : Os) (args : Array Value) : World.Shaped Tryd.prog ((World.laidAll Tryd.prog os Rows.fnBoardsChangedOfAllRow.laid).forCall (fun _ _ => 0) ⟨#[], args, []⟩) := World.shaped_of_ZipB (by kernel_rfl) (by kernel_rfl)
end Go.Proofs.YtmifianbkpiifaaDoor
