/- Contracts: plans by sums. -/
import Derived.Test.YthlgknjipoackaaDoorHtP
import Derived.Test.YthlgknjipoackaaDoorAmHu
import Derived.Test.YthlgknjipoackaaDoorHtG
namespace Go.Proofs.YthlgknjipoackaaDoor
open Go.Am
attribute [local irreducible] AW Outs Weak Lends Lend Sp aops atree aop1 Then Round InBlock Done
attribute [local simp] txs_len

theorem guessBySum_spec (g c : Nat) (mp : AV) (mask : List UInt8) (i : Nat) (D : List UInt8) (hi : i ≤ 100) (hc : c ≤ 3) (hD : IsCol c D) (hl : D.length ≤ 100) (m3 : cellOk true mp = true) :
    Sp Tryd.prog 28 [.agg [.i g, .i c, mp, str mask], .agg [.i i, str D]] (.i ((i : Int) - (hsum D : Nat))) := by
  have hok : ([AV.i (g : Int), AV.i (c : Int), mp, str mask]).all (cellOk true) = true := by
    simp only [List.all_cons, List.all_nil, m3, Bool.true_and, Bool.and_true]
    rfl
  have hs := hsum_le hc hD
  refine spec_of Tryd.func28 rfl cc28 rfl ?_
  unfold ac28
  refine seq_ops ?_
  refine step_ops ?_
  refine m_box rfl hok ?_
  repeat (first | ((first | refine step_ops ?_ | refine step_tree ?_); (first | (refine m_mov (by conv => lhs; whnf) ?_) | (apply m_ld_pt; (· rfl); (· rfl); (· rfl)) | (refine m_fa rfl ?_) | (refine m_box rfl ?_ ?_; (· first | rfl | (simp [cellOk, Value.oneCell']; done))))) | refine end_ops ?_ | refine seq_tree ?_)
  refine step_tree ?_; (apply m_call (sumOf_spec D c hc hl hD)); (· repeat (first | exact lends_nil | (refine lends_cons ?_ ?_; (· exact lend_v))))
  repeat (first | (refine step_tree ?_; (first | (refine m_mov (by conv => lhs; whnf) ?_) | (refine m_sub rfl rfl ?_ ?_ ?_; (· omega); (· omega)))) | refine end_tree ?_ | refine AW_ret ?_ | refine ret_done ?_)
  exact outs_i rfl

/-- What plans by sums guess. -/
def smF (c g i v : Nat) : Nat := (i + g * c * c - hsum (dgs c (g - 1) v)) % c
def PlOk (g c : Int) : Prop := (2 ≤ g ∧ g ≤ 4) ∧ 2 ≤ c ∧ c ≤ 3
instance (g c : Int) : Decidable (PlOk g c) := inferInstanceAs (Decidable (_ ∧ _))
def smC (g c : Int) : Int := if PlOk g c then c else 0
def smG (g c : Int) : List (List UInt8) := if PlOk g c then plG c.toNat g.toNat (smF c.toNat g.toNat) g.toNat else []
def smR (g c : Int) : AV := .tup [newPln (smC g c) (smG g c), .b (decide (PlOk g c))]
theorem smG_le (g c : Int) : (smG g c).length ≤ 4 := by
  unfold smG
  split
  · rename_i h
    rw [plG_len]
    have := h.1
    omega
  · simp
theorem sm_mod {g c : Nat} (hg2 : 2 ≤ g) (hg4 : g ≤ 4) (h2 : 2 ≤ c) (h3 : c ≤ 3) (i v : Nat) : ((i : Int) - (hsum (dgs c (g - 1) v) : Nat)) % (c : Int) = (smF c g i v : Nat) ∧ smF c g i v < c ∧ hsum (dgs c (g - 1) v) ≤ 6 ∧ ((i : Int) + (g : Int) * (c : Int) * (c : Int) - (hsum (dgs c (g - 1) v) : Nat)) % (c : Int) = (smF c g i v : Nat) := by
  have hs := hsum_le h3 (dgs_col (by omega) h3 (g - 1) v)
  rw [dgs_len] at hs
  unfold smF
  generalize hsum (dgs c (g - 1) v) = s at *
  have hgcc : g * c * c = g * (c * c) := Nat.mul_assoc ..
  have h8 : 2 * 4 ≤ g * (c * c) := Nat.mul_le_mul hg2 (Nat.mul_le_mul h2 h2)
  have e : (((i + g * c * c - s : Nat)) : Int) = (i : Int) - (s : Nat) + (g : Int) * (c : Int) * (c : Int) := by
    rw [Int.natCast_sub (by omega)]
    push_cast
    omega
  have e2 : (((i + g * c * c - s) % c : Nat) : Int) = ((i : Int) - (s : Nat)) % (c : Int) := by
    rw [Int.natCast_emod, e, Int.add_mul_emod_self_right]
  refine ⟨e2.symm, Nat.mod_lt _ (by omega), by omega, ?_⟩
  rw [e2, show (i : Int) + (g : Int) * (c : Int) * (c : Int) - (s : Nat) = (i : Int) - (s : Nat) + (g : Int) * (c : Int) * (c : Int) by omega, Int.add_mul_emod_self_right]

set_option maxRecDepth 20000 in
theorem implSumPlan_spec (g c : Int) : Sp Tryd.prog 8 [.i g, .i c] (smR g c) := by
  unfold smR smC smG
  by_cases h : PlOk g c
  · have hh := h
    obtain ⟨⟨hg2, hg4⟩, h2, h3⟩ := hh
    obtain ⟨n, rfl⟩ := Int.eq_ofNat_of_zero_le (show 0 ≤ c by omega)
    obtain ⟨m, rfl⟩ := Int.eq_ofNat_of_zero_le (show 0 ≤ g by omega)
    have hd : decide ((2 ≤ (m : Int) ∧ (m : Int) ≤ 4) ∧ 2 ≤ (n : Int) ∧ (n : Int) ≤ 3) = true := decide_eq_true h
    rw [if_pos h, decide_eq_true h, if_pos h, Int.toNat_natCast, Int.toNat_natCast]
    have hX : ∀ i v, i < m → v < n ^ (m - 1) → -1000 ≤ ((i : Int) - (hsum (dgs n (m - 1) v) : Nat)) ∧ ((i : Int) - (hsum (dgs n (m - 1) v) : Nat)) ≤ 1000 ∧ ((i : Int) - (hsum (dgs n (m - 1) v) : Nat)) % (n : Int) = (smF n m i v : Nat) ∧ smF n m i v < n := by
      intro i v hi hv'
      obtain ⟨e1, e2, e3, _⟩ := sm_mod (g := m) (c := n) (by omega) (by omega) (by omega) (by omega) i v
      exact ⟨by omega, by omega, e1, e2⟩
    have hpb := planBy_spec m n (.v (.map none)) [] 28 (fun i v => ((i : Int) - (hsum (dgs n (m - 1) v) : Nat))) (smF n m) (by omega) (by omega) (by omega) (by omega) rfl rfl rfl ⟨_, Tryd.func28, by rfl, by rfl⟩ hX
      (fun i v hi hv' => guessBySum_spec m n (.v (.map none)) [] i (dgs n (m - 1) v) (by omega) (by omega) (dgs_col (by omega) (by omega) _ _) (by rw [dgs_len]; omega) rfl)
    refine specG_of Tryd.func8 rfl cc8 (by rfl) ?_
    unfold ac8
    repeat (first | (refine step_ops ?_; (first | (refine m_mov (by conv => lhs; whnf) ?_) | (refine m_alloc ?_))) | refine end_ops ?_ | refine seq_ops ?_ | refine AW_seq ?_)
    (refine step_ops ?_); (apply m_call (canPlay_spec _ _)); (· repeat (first | exact lends_nil | (refine lends_cons ?_ ?_; (· exact lend_v))))
    repeat (first | (refine step_ops ?_; (first | (refine m_mov (by conv => lhs; whnf) ?_) | (refine m_not rfl ?_) | (refine m_bld_2 (by conv => lhs; whnf) (by conv => lhs; whnf) (by decide)  (by decide) (by rfl) (by rfl) ?_))) | refine end_ops ?_ | refine seq_ops ?_ | (refine cond_f rfl ?_ ?_; (· first | rfl | assumption | (refine decide_eq_false ?_; first | assumption | omega) | (refine nf ?_; first | assumption | omega) | (simp [*]; done))) | refine skip_then ?_)
    refine step_ops ?_
    refine m_call hpb ?_ ?_
    · exact lends_cons (lend_game rfl rfl) (lends_cons lend_v lends_nil)
    repeat (first | (refine step_ops ?_; (first | (refine m_mov (by conv => lhs; whnf) ?_) | (refine m_stall rfl rfl rfl ?_ ?_ ?_ ?_; (· first | rfl | (simp [*]; done)); (· first | rfl | (simp [*]; done)); (· first | rfl | (simp [cellOk, Value.oneCell']; done))))) | refine end_ops ?_ | refine AW_ret ?_)
    refine ret_doneg2 rfl rfl rfl ?_
    exact outs_tup2 (outs_agg2 (outs_i rfl) (outs_ron (txs_plain _))) (outs_b rfl)
  · have hd : decide ((2 ≤ g ∧ g ≤ 4) ∧ 2 ≤ c ∧ c ≤ 3) = false := decide_eq_false h
    rw [if_neg h, decide_eq_false h, if_neg h]
    refine specG_of Tryd.func8 rfl cc8 (by rfl) ?_
    unfold ac8
    repeat (first | (refine step_ops ?_; (first | (refine m_mov (by conv => lhs; whnf) ?_) | (refine m_alloc ?_))) | refine end_ops ?_ | refine seq_ops ?_ | refine AW_seq ?_)
    (refine step_ops ?_); (apply m_call (canPlay_spec _ _)); (· repeat (first | exact lends_nil | (refine lends_cons ?_ ?_; (· exact lend_v))))
    repeat (first | (refine step_ops ?_; (first | (refine m_mov (by conv => lhs; whnf) ?_) | (refine m_not rfl ?_) | (refine m_bld rfl ?_) | (refine m_stall rfl rfl rfl ?_ ?_ ?_ ?_; (· first | rfl | (simp [*]; done)); (· first | rfl | (simp [*]; done)); (· first | rfl | (simp [cellOk, Value.oneCell']; done))))) | refine end_ops ?_ | refine seq_ops ?_ | (refine cond_t rfl ?_ ?_; (· first | rfl | assumption | (refine decide_eq_true ?_; first | assumption | omega) | (refine nt ?_; first | assumption | omega) | (simp [*]; done))) | refine AW_ret ?_ | refine ret_then ?_)
    refine ret_doneg2 rfl rfl rfl ?_
    exact outs_tup2 (outs_agg2 (outs_i rfl) outs_nilro) (outs_b rfl)

set_option maxRecDepth 20000 in
theorem specSumPlan_spec (g c : Int) : Sp Tryd.prog 7 [.i g, .i c] (smR g c) := by
  unfold smR smC smG
  by_cases h : PlOk g c
  · have hh := h
    obtain ⟨⟨hg2, hg4⟩, h2, h3⟩ := hh
    obtain ⟨n, rfl⟩ := Int.eq_ofNat_of_zero_le (show 0 ≤ c by omega)
    obtain ⟨m, rfl⟩ := Int.eq_ofNat_of_zero_le (show 0 ≤ g by omega)
    have hd : decide ((2 ≤ (m : Int) ∧ (m : Int) ≤ 4) ∧ 2 ≤ (n : Int) ∧ (n : Int) ≤ 3) = true := decide_eq_true h
    rw [if_pos h, decide_eq_true h, if_pos h, Int.toNat_natCast, Int.toNat_natCast]
    have hpw := pow_le n (by omega) (m - 1) (by omega)
    have hm1 : (m : Int) - 1 = ((m - 1 : Nat) : Int) := by omega
    refine specG_of Tryd.func7 rfl cc7 (by rfl) ?_
    unfold ac7
    repeat (first | (refine step_ops ?_; (first | (refine m_mov (by conv => lhs; whnf) ?_) | (refine m_alloc ?_))) | refine end_ops ?_ | refine seq_ops ?_ | refine AW_seq ?_)
    (refine step_ops ?_); (apply m_call (haSize_spec _ _)); (· repeat (first | exact lends_nil | (refine lends_cons ?_ ?_; (· exact lend_v))))
    repeat (first | (refine step_ops ?_; (first | (refine m_mov (by conv => lhs; whnf) ?_) | (refine m_not rfl ?_) | (refine m_alloc ?_) | (refine m_bld_1 (by conv => lhs; whnf) (by decide)  (by rfl) ?_) | (refine m_stall rfl rfl rfl ?_ ?_ ?_ ?_; (· first | rfl | (simp [*]; done)); (· first | rfl | (simp [*]; done)); (· first | rfl | (simp [cellOk, Value.oneCell']; done))))) | refine end_ops ?_ | refine seq_ops ?_ | (refine cond_f rfl ?_ ?_; (· first | rfl | assumption | (refine decide_eq_false ?_; first | assumption | omega) | (refine nf ?_; first | assumption | omega) | (simp [*]; done))) | refine skip_then ?_ | refine AW_seq ?_ | refine AW_block ?_)
    refine AW_loop (α := Nat) (fun k => k ≤ m) (fun k => st [(0, .i m), (1, .i n), (4, .pt 4 0), (6, .pt 6 0), (7, .i k)]
      [(4, (true, [.i 0, .v (.slice none 0 0)])), (6, (false, [.i n, .sl 1000 1 0 (plG n m (smF n m) k).length])), (1000, (true, txs (plG n m (smF n m) k)))]) (fun k => m - k) 0 (Nat.zero_le _) (Weak.trans (weak_nilcell 6 1000 1 1 rfl rfl (by decide) rfl rfl) (weak_st ?_ ?_ rfl rfl)) ?_
    · (repeat' (first | exact trivial | refine And.intro ?_ ?_)) <;> (first | rfl | skip)
    · exact ⟨rfl, rfl, rfl, trivial⟩
    intro k hk
    have hplk := plG_len n m (smF n m) k
    by_cases hlt : k < m
    · have hsn := plG_succ n m (smF n m) k
      have hsm := fun v => sm_mod (g := m) (c := n) (by omega) (by omega) (by omega) (by omega) k v
      have hg12 : 0 ≤ (m : Int) * (n : Int) ∧ (m : Int) * (n : Int) ≤ 12 := by
        have : m * n ≤ 4 * 3 := Nat.mul_le_mul (by omega) (by omega)
        have e : ((m * n : Nat) : Int) = (m : Int) * (n : Int) := by push_cast; rfl
        omega
      have hg36 : 8 ≤ (m : Int) * (n : Int) * (n : Int) ∧ (m : Int) * (n : Int) * (n : Int) ≤ 36 := by
        have h1 : m * n * n ≤ 4 * 3 * 3 := Nat.mul_le_mul (Nat.mul_le_mul (by omega) (by omega)) (by omega)
        have h2 : 2 * 2 * 2 ≤ m * n * n := Nat.mul_le_mul (Nat.mul_le_mul (by omega) (by omega)) (by omega)
        have e : ((m * n * n : Nat) : Int) = (m : Int) * (n : Int) * (n : Int) := by push_cast; rfl
        omega
      generalize smF n m = F at *
      repeat (first | (refine step_ops ?_; (first | (refine m_mov (by conv => lhs; whnf) ?_) | (refine m_lss rfl rfl ?_))) | refine end_ops ?_ | refine seq_ops ?_ | (refine cond_t rfl ?_ ?_; (· first | rfl | assumption | (refine decide_eq_true ?_; first | assumption | omega) | (refine nt ?_; first | assumption | omega) | (simp [*]; done))) | refine skip_then ?_ | refine AW_seq ?_ | refine AW_block ?_)
      refine AW_loop (α := Nat) (fun v => v ≤ n ^ (m - 1)) (fun v => st [(0, .i m), (1, .i n), (4, .pt 4 0), (6, .pt 6 0), (7, .i k), (8, str ((List.range v).map fun v => hg (F k v))), (9, .i v)]
        [(4, (true, [.i 0, .v (.slice none 0 0)])), (6, (false, [.i n, .sl 1000 1 0 (plG n m F k).length])), (1000, (true, txs (plG n m F k)))]) (fun v => n ^ (m - 1) - v) 0 (Nat.zero_le _) (weak_st ?_ ?_ rfl rfl) ?_
      · (repeat' (first | exact trivial | refine And.intro ?_ ?_)) <;> (first | rfl | skip)
      · exact ⟨rfl, rfl, rfl, trivial⟩
      intro v hv'
      have htl : ((List.range v).map fun v => hg (F k v)).length = v := by simp
      by_cases hltv : v < n ^ (m - 1)
      · obtain ⟨_, e2, e3, e4⟩ := hsm v
        have hdig := haDigits_spec v n (m - 1) (by omega) (by omega) (by omega) (by omega)
        have hdl := dgs_len n (m - 1) v
        have hhs := haSum_spec (dgs n (m - 1) v) n (by omega) (by omega) (dgs_col (by omega) (by omega) _ _)
        have hts : ((List.range (v + 1)).map fun v => hg (F k v)) = ((List.range v).map fun v => hg (F k v)) ++ [hg (F k v)] := by simp [List.range_succ]
        generalize dgs n (m - 1) v = D at *
        generalize hsum D = s at *
        generalize ((List.range v).map fun v => hg (F k v)) = T at *
        repeat (first | (refine step_ops ?_; (first | (refine m_mov (by conv => lhs; whnf) ?_) | (refine m_sub rfl rfl ?_ ?_ ?_; (· omega); (· omega)))) | refine seq_ops ?_ | refine AW_seq ?_)
        rw [hm1]
        (refine step_ops ?_); (apply m_call (haCount_spec n (m - 1) (by omega) (by omega))); (· repeat (first | exact lends_nil | (refine lends_cons ?_ ?_; (· exact lend_v))))
        repeat (first | (refine step_ops ?_; (first | (refine m_mov (by conv => lhs; whnf) ?_) | (refine m_lss rfl rfl ?_) | (refine m_sub rfl rfl ?_ ?_ ?_; (· omega); (· omega)))) | refine end_ops ?_ | refine seq_ops ?_ | (refine cond_t rfl ?_ ?_; (· first | rfl | assumption | (refine decide_eq_true ?_; first | assumption | omega) | (refine nt ?_; first | assumption | omega) | (simp [*]; done))) | refine skip_then ?_ | refine AW_seq ?_ | refine AW_block ?_)
        rw [hm1]
        (refine step_ops ?_); (apply m_call (hdig)); (· repeat (first | exact lends_nil | (refine lends_cons ?_ ?_; (· exact lend_v))))
        skip
        (refine step_ops ?_); (apply m_call (hhs)); (· repeat (first | exact lends_nil | (refine lends_cons ?_ ?_; (· exact lend_v))))
        repeat (first | (refine step_ops ?_; (first | (refine m_mov (by conv => lhs; whnf) ?_) | (refine m_add rfl rfl ?_ ?_ ?_; (· omega); (· omega)) | (refine m_sub rfl rfl ?_ ?_ ?_; (· omega); (· omega)) | (refine m_mul rfl rfl ?_ ?_ ?_; (· first | omega | (simp; done)); (· first | omega | (simp; done))) | (refine m_rem rfl rfl ?_ ?_ ?_; (· omega); (· omega)))) | refine end_ops ?_ | refine AW_ops ?_)
        rw [e4]
        (refine step_ops ?_); (apply m_call (l1Num_hg (F k v) (by omega))); (· repeat (first | exact lends_nil | (refine lends_cons ?_ ?_; (· exact lend_v))))
        repeat (first | (refine step_ops ?_; (first | (refine m_mov (by conv => lhs; whnf) ?_) | (refine m_add rfl rfl ?_ ?_ ?_; (· omega); (· omega)) | (refine m_adds rfl rfl ?_ ?_; (· first | omega | (simp; omega))))) | refine end_ops ?_ | refine AW_ops ?_ | refine norm_then ?_ | refine norm_block ?_)
        refine next_round (v + 1) hltv (weak_st ?_ ?_ rfl rfl) ?_
        · rw [hts]
          (repeat' (first | exact trivial | refine And.intro ?_ ?_)) <;> (first | rfl | skip)
        · exact ⟨rfl, rfl, rfl, trivial⟩
        · omega
      · obtain rfl : v = n ^ (m - 1) := by omega
        generalize ((List.range (n ^ (m - 1))).map fun v => hg (F k v)) = T at *
        generalize plG n m F k = L at *
        repeat (first | (refine step_ops ?_; (first | (refine m_mov (by conv => lhs; whnf) ?_) | (refine m_sub rfl rfl ?_ ?_ ?_; (· omega); (· omega)))) | refine seq_ops ?_ | refine AW_seq ?_)
        rw [hm1]
        (refine step_ops ?_); (apply m_call (haCount_spec n (m - 1) (by omega) (by omega))); (· repeat (first | exact lends_nil | (refine lends_cons ?_ ?_; (· exact lend_v))))
        repeat (first | (refine step_ops ?_; (first | (refine m_mov (by conv => lhs; whnf) ?_) | (refine m_lss rfl rfl ?_) | (apply m_ld_pt; (· rfl); (· rfl); (· rfl)) | (refine m_fa rfl ?_) | (refine m_bsl1 rfl rfl ?_) | (refine m_app1 rfl (by decide) rfl (by first | (simp; done) | (simp [*]; done) | (simp; omega)) rfl rfl rfl ?_ (by decide) ?_; (· first | omega | (simp; omega))))) | refine end_ops ?_ | refine AW_ops ?_ | (refine cond_f rfl ?_ ?_; (· first | rfl | assumption | (refine decide_eq_false ?_; first | assumption | omega) | (refine nf ?_; first | assumption | omega) | (simp [*]; done))) | refine norm_then ?_ | refine exit_then ?_ | refine exit_round ?_ | refine AW_exit ?_ | refine exit_block ?_)
        refine step_ops ?_
        refine m_st (off := 1) (cs := [.i n, .any]) (v := .sl 55 1 0 (L.length + 1)) rfl rfl rfl (by simp) rfl ?_
        repeat (first | (refine step_ops ?_; (first | (refine m_mov (by conv => lhs; whnf) ?_) | (refine m_add rfl rfl ?_ ?_ ?_; (· omega); (· omega)))) | refine end_ops ?_ | refine AW_ops ?_ | refine norm_then ?_ | refine norm_block ?_)
        refine next_round (k + 1) hlt ?_ ?_
        · rw [hsn, show (L ++ [T]).length = L.length + 1 by simp, txs_append]
          refine weak_stR (fun r => if r = 1000 then 55 else r) ?_ ?_ (by simp [pbase]) (by simp [pbase]) rfl rfl
          · (repeat' (first | exact trivial | refine And.intro ?_ ?_)) <;> (first | rfl | exact congrArg (fun c => some (true, c)) (renL_ints _ _) | exact congrArg (fun c => some (true, c)) (txs_ren _ _) | skip)
          · (repeat' (first | exact trivial | refine And.intro ?_ ?_)) <;> (first | rfl | exact congrArg (fun c => some (true, c)) (renL_ints _ _) | exact congrArg (fun c => some (true, c)) (txs_ren _ _) | skip)
        · omega
    · obtain rfl : k = m := by omega
      repeat (first | (refine step_ops ?_; (first | (refine m_mov (by conv => lhs; whnf) ?_) | (refine m_lss rfl rfl ?_) | (refine m_ldall rfl rfl ?_ ?_; (· first | rfl | (simp; done) | (simp [*]; done))))) | refine end_ops ?_ | refine seq_ops ?_ | (refine cond_f rfl ?_ ?_; (· first | rfl | assumption | (refine decide_eq_false ?_; first | assumption | omega) | (refine nf ?_; first | assumption | omega) | (simp [*]; done))) | refine AW_seq ?_ | refine norm_then ?_ | refine exit_then ?_ | refine exit_round ?_ | refine AW_exit ?_ | refine exit_block ?_)
      refine step_opsW (weak_deep (r := 4) rfl (by simp) rfl) ?_
      refine m_stall (l := [.i n, .sl 1000 1 0 (plG n k (smF n k) k).length]) rfl rfl rfl rfl rfl rfl ?_
      repeat (first | (refine step_ops ?_; (refine m_mov (by conv => lhs; whnf) ?_)) | refine end_ops ?_ | refine AW_ret ?_)
      refine ret_doneg2 rfl rfl rfl ?_
      exact outs_tup2 (outs_agg2 (outs_i rfl) (outs_txs rfl rfl rfl)) (outs_b rfl)
  · have hd : decide ((2 ≤ g ∧ g ≤ 4) ∧ 2 ≤ c ∧ c ≤ 3) = false := decide_eq_false h
    rw [if_neg h, decide_eq_false h, if_neg h]
    refine specG_of Tryd.func7 rfl cc7 (by rfl) ?_
    unfold ac7
    repeat (first | (refine step_ops ?_; (first | (refine m_mov (by conv => lhs; whnf) ?_) | (refine m_alloc ?_))) | refine end_ops ?_ | refine seq_ops ?_ | refine AW_seq ?_)
    (refine step_ops ?_); (apply m_call (haSize_spec _ _)); (· repeat (first | exact lends_nil | (refine lends_cons ?_ ?_; (· exact lend_v))))
    repeat (first | (refine step_ops ?_; (first | (refine m_mov (by conv => lhs; whnf) ?_) | (refine m_not rfl ?_) | (refine m_bld rfl ?_) | (refine m_stall rfl rfl rfl ?_ ?_ ?_ ?_; (· first | rfl | (simp [*]; done)); (· first | rfl | (simp [*]; done)); (· first | rfl | (simp [cellOk, Value.oneCell']; done))))) | refine end_ops ?_ | refine seq_ops ?_ | (refine cond_t rfl ?_ ?_; (· first | rfl | assumption | (refine decide_eq_true ?_; first | assumption | omega) | (refine nt ?_; first | assumption | omega) | (simp [*]; done))) | refine AW_ret ?_ | refine ret_then ?_)
    refine ret_doneg2 rfl rfl rfl ?_
    exact outs_tup2 (outs_agg2 (outs_i rfl) outs_nilro) (outs_b rfl)
end Go.Proofs.YthlgknjipoackaaDoor
