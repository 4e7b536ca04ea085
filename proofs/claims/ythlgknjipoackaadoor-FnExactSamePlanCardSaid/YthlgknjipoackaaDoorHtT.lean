/- Contracts: plans by which all guess the same. -/
import Derived.Test.YthlgknjipoackaaDoorHtS
import Derived.Test.YthlgknjipoackaaDoorShA
namespace Go.Am
/-- A call with two told values that gives one told value and leaves what was there. -/
theorem sp_more2 {P : Program} {f : FuncId} {x z y : Value} (h : ∀ w, Calls P f #[x, z] w fun e w' => e = .returned y ∧ RowKit.Below w.heap.size w w') : Sp P f [.v x, .v z] (.v y) := by
  intro w vs _ hent
  obtain ⟨hs, hl⟩ := hent
  obtain ⟨l⟩ := vs
  match l with
  | [] => simp at hl
  | [_] => simp at hl
  | _ :: _ :: _ :: _ => simp at hl
  | [a, b] =>
    simp only [SimL, SimV, and_true] at hs
    obtain ⟨rfl, rfl⟩ := hs
    refine (h w).mono fun e w' hp => ?_
    obtain ⟨rfl, hm⟩ := hp
    exact ⟨y, rfl, ⟨hm.os, hm.tape, hm.output, hm.size, hm.block⟩, by simp [SimV]⟩
theorem repeat_one (x : UInt8) : ∀ n, Lib.repeatL [x] n = List.replicate n x
  | 0 => rfl
  | n + 1 => by rw [Lib.repeatL, repeat_one x n]; rfl
end Go.Am
namespace Go.Proofs.YthlgknjipoackaaDoor
open Go.Am
attribute [local irreducible] AW Outs Weak Lends Lend Sp aops atree aop1 Then Round InBlock Done
attribute [local simp] txs_len

theorem repeat_spec (x : UInt8) (n : Nat) (hn : n ≤ 100) : Sp Tryd.prog 34 [str [x], .i n] (str (List.replicate n x)) := by
  refine sp_more2 fun w => ?_
  have h := Tryd.strings_Repeat ⟨[x].toArray⟩ n w (by omega) (by show 1 * n ≤ _; omega)
  have e : (⟨[x].toArray⟩ : ByteArray).data.toList = [x] := rfl
  rw [e, repeat_one] at h
  exact h

def SaOk (g c k : Int) : Prop := PlOk g c ∧ 0 ≤ k ∧ k < c
instance (g c k : Int) : Decidable (SaOk g c k) := inferInstanceAs (Decidable (_ ∧ _))
def saC (g c k : Int) : Int := if SaOk g c k then c else 0
def saG (g c k : Int) : List (List UInt8) := if SaOk g c k then plG c.toNat g.toNat (fun _ _ => k.toNat) g.toNat else []
def saR (g c k : Int) : AV := .tup [newPln (saC g c k) (saG g c k), .b (decide (SaOk g c k))]
theorem saG_le (g c k : Int) : (saG g c k).length ≤ 4 := by
  unfold saG
  split
  · rename_i h
    rw [plG_len]
    have := h.1.1
    omega
  · simp
theorem outs_sano {s : AS} {g c k : Int} (h : ¬ SaOk g c k) : Outs s (.tup [.agg [.i 0, .v (.slice none 0 0)], .b false]) (saR g c k) := by
  unfold saR saC saG
  rw [if_neg h, decide_eq_false h, if_neg h]
  exact outs_tup2 (outs_agg2 (outs_i rfl) outs_nilro) (outs_b rfl)

theorem guessByMask_spec' (g c : Nat) (mp : AV) (mask : List UInt8) (i : Nat) (D : List UInt8) (hi : i < mask.length) (hb : 48 ≤ (mask.getD i 0).toNat) (m3 : cellOk true mp = true) :
    Sp Tryd.prog 36 [.agg [.i g, .i c, mp, str mask], .agg [.i i, str D]] (.i (hv (mask.getD i 0) : Nat)) := by
  have hok : ([AV.i (g : Int), AV.i (c : Int), mp, str mask]).all (cellOk true) = true := by
    simp only [List.all_cons, List.all_nil, m3, Bool.true_and, Bool.and_true]
    rfl
  have hlt := (mask.getD i 0).toNat_lt
  refine spec_of Tryd.func36 rfl cc36 rfl ?_
  unfold ac36
  refine seq_ops ?_
  refine step_ops ?_
  refine m_box rfl hok ?_
  repeat (first | (refine step_ops ?_; (first | (refine m_mov (by conv => lhs; whnf) ?_) | (refine m_six' rfl rfl ?_ ?_; (· first | omega | (simp; omega))) | (apply m_ld_pt; (· rfl); (· rfl); (· rfl)) | (refine m_fa rfl ?_) | (refine m_cvt rfl ?_) | (refine m_box rfl ?_ ?_; (· first | rfl | (simp [cellOk, Value.oneCell']; done))))) | refine end_ops ?_ | refine seq_ops ?_)
  rw [wr32 _ (by omega) (by omega)]
  skip
  (refine step_ops ?_); (apply m_call (colourOf_byte _ hb)); (· repeat (first | exact lends_nil | (refine lends_cons ?_ ?_; (· exact lend_v))))
  repeat (first | (refine step_ops ?_; (refine m_mov (by conv => lhs; whnf) ?_)) | refine end_ops ?_ | refine AW_ret ?_ | refine ret_done ?_)
  exact outs_i rfl

set_option maxRecDepth 20000 in
theorem implSamePlan_spec (g c k : Int) : Sp Tryd.prog 13 [.i g, .i c, .i k] (saR g c k) := by
  by_cases h : PlOk g c
  · have hd : decide ((2 ≤ g ∧ g ≤ 4) ∧ 2 ≤ c ∧ c ≤ 3) = true := decide_eq_true h
    by_cases hk : 0 ≤ k ∧ k < c
    · have hok : SaOk g c k := ⟨h, hk⟩
      obtain ⟨⟨hg2, hg4⟩, h2, h3⟩ := h
      obtain ⟨n, rfl⟩ := Int.eq_ofNat_of_zero_le (show 0 ≤ c by omega)
      obtain ⟨m, rfl⟩ := Int.eq_ofNat_of_zero_le (show 0 ≤ g by omega)
      obtain ⟨q, rfl⟩ := Int.eq_ofNat_of_zero_le hk.1
      have hrl : (List.replicate m (hg q)).length = m := by simp
      have hrg : ∀ i, i < m → (List.replicate m (hg q)).getD i 0 = hg q := fun i hi => by simp [hi]
      have hq48 : 48 ≤ (hg q).toNat := by rw [hg_nat q (by omega)]; omega
      have hhv := hv_hg q (by omega)
      have hX : ∀ i v, i < m → v < n ^ (m - 1) → -1000 ≤ ((q : Nat) : Int) ∧ ((q : Nat) : Int) ≤ 1000 ∧ ((q : Nat) : Int) % (n : Int) = (q : Nat) ∧ q < n := fun i v _ _ => ⟨by omega, by omega, Int.emod_eq_of_lt (by omega) (by omega), by omega⟩
      have hpb := planBy_spec m n (.v (.map none)) (List.replicate m (hg q)) 36 (fun _ _ => ((q : Nat) : Int)) (fun _ _ => q) (by omega) (by omega) (by omega) (by omega) rfl rfl rfl ⟨_, Tryd.func36, by rfl, by rfl⟩ hX
        (fun i v hi hv' => by
          have := guessByMask_spec' m n (.v (.map none)) (List.replicate m (hg q)) i (dgs n (m - 1) v) (by omega) (by rw [hrg i hi]; exact hq48) rfl
          rw [hrg i hi, hhv] at this
          exact this)
      unfold saR saC saG
      rw [if_pos hok, decide_eq_true hok, if_pos hok, Int.toNat_natCast, Int.toNat_natCast, Int.toNat_natCast]
      refine specG_of Tryd.func13 rfl cc13 (by rfl) ?_
      unfold ac13
      repeat (first | (refine step_ops ?_; (first | (refine m_mov (by conv => lhs; whnf) ?_) | (refine m_alloc ?_))) | refine end_ops ?_ | refine seq_ops ?_ | refine AW_seq ?_)
      (refine step_ops ?_); (apply m_call (canPlay_spec _ _)); (· repeat (first | exact lends_nil | (refine lends_cons ?_ ?_; (· exact lend_v))))
      repeat (refine step_ops ?_; ((try (refine g_yes rfl ?_ ?_; (· first | rfl | assumption | (refine decide_eq_true ?_; first | assumption | omega) | (refine nt ?_; first | assumption | omega) | (simp [*]; done) | (refine decide_eq_false ?_; first | assumption | omega) | (refine nf ?_; first | assumption | omega)))); (first | (refine m_mov (by conv => lhs; whnf) ?_) | (refine m_not rfl ?_))))
      (refine step_ops ?_); (refine g_yes rfl ?_ ?_; (· first | (first | rfl | assumption | (refine decide_eq_true ?_; first | assumption | omega) | (refine nt ?_; first | assumption | omega) | (simp [*]; done)) | (first | rfl | assumption | (refine decide_eq_false ?_; first | assumption | omega) | (refine nf ?_; first | assumption | omega) | (simp [*]; done))); (apply m_call (isColour_spec _ _))); (· repeat (first | exact lends_nil | (refine lends_cons ?_ ?_; (· exact lend_v))))
      repeat (first | (refine step_ops ?_; ((try (refine g_yes rfl ?_ ?_; (· first | rfl | assumption | (refine decide_eq_true ?_; first | assumption | omega) | (refine nt ?_; first | assumption | omega) | (simp [*]; done) | (refine decide_eq_false ?_; first | assumption | omega) | (refine nf ?_; first | assumption | omega)))); (first | (refine m_mov (by conv => lhs; whnf) ?_) | (refine m_not rfl ?_) | (refine m_pick_f rfl ?_ (by conv => lhs; whnf) ?_; (· first | rfl | assumption | (refine decide_eq_false ?_; first | assumption | omega) | (refine nf ?_; first | assumption | omega) | (simp [*]; done)))))) | refine end_ops ?_ | refine seq_ops ?_ | (refine cond_f rfl ?_ ?_; (· first | rfl | assumption | (refine decide_eq_false ?_; first | assumption | omega) | (refine nf ?_; first | assumption | omega) | (simp [*]; done))) | refine skip_then ?_)
      (refine step_ops ?_); (apply m_call (itoa_hg q (by omega))); (· repeat (first | exact lends_nil | (refine lends_cons ?_ ?_; (· exact lend_v))))
      repeat (refine step_ops ?_; (refine m_mov (by conv => lhs; whnf) ?_))
      (refine step_ops ?_); (apply m_call (repeat_spec (hg q) m (by omega))); (· repeat (first | exact lends_nil | (refine lends_cons ?_ ?_; (· exact lend_v))))
      repeat (first | (refine step_ops ?_; (first | (refine m_mov (by conv => lhs; whnf) ?_) | (refine m_bld_3 (by conv => lhs; whnf) (by conv => lhs; whnf) (by conv => lhs; whnf) (by decide)  (by decide) (by decide) (by rfl) (by rfl) (by rfl) ?_))) | refine end_ops ?_ | refine seq_ops ?_)
      refine step_ops ?_
      refine m_call hpb ?_ ?_
      · exact lends_cons (lend_game rfl rfl) (lends_cons lend_v lends_nil)
      repeat (first | (refine step_ops ?_; (first | (refine m_mov (by conv => lhs; whnf) ?_) | (refine m_stall rfl rfl rfl ?_ ?_ ?_ ?_; (· first | rfl | (simp [*]; done)); (· first | rfl | (simp [*]; done)); (· first | rfl | (simp [cellOk, Value.oneCell']; done))))) | refine end_ops ?_ | refine AW_ret ?_)
      refine ret_doneg2 rfl rfl rfl ?_
      exact outs_tup2 (outs_agg2 (outs_i rfl) (outs_ron (txs_plain _))) (outs_b rfl)
    · skip
      refine specG_of Tryd.func13 rfl cc13 (by rfl) ?_
      unfold ac13
      repeat (first | (refine step_ops ?_; (first | (refine m_mov (by conv => lhs; whnf) ?_) | (refine m_alloc ?_))) | refine end_ops ?_ | refine seq_ops ?_ | refine AW_seq ?_)
      (refine step_ops ?_); (apply m_call (canPlay_spec _ _)); (· repeat (first | exact lends_nil | (refine lends_cons ?_ ?_; (· exact lend_v))))
      repeat (refine step_ops ?_; ((try (refine g_yes rfl ?_ ?_; (· first | rfl | assumption | (refine decide_eq_true ?_; first | assumption | omega) | (refine nt ?_; first | assumption | omega) | (simp [*]; done) | (refine decide_eq_false ?_; first | assumption | omega) | (refine nf ?_; first | assumption | omega)))); (first | (refine m_mov (by conv => lhs; whnf) ?_) | (refine m_not rfl ?_))))
      (refine step_ops ?_); (refine g_yes rfl ?_ ?_; (· first | (first | rfl | assumption | (refine decide_eq_true ?_; first | assumption | omega) | (refine nt ?_; first | assumption | omega) | (simp [*]; done)) | (first | rfl | assumption | (refine decide_eq_false ?_; first | assumption | omega) | (refine nf ?_; first | assumption | omega) | (simp [*]; done))); (apply m_call (isColour_spec _ _))); (· repeat (first | exact lends_nil | (refine lends_cons ?_ ?_; (· exact lend_v))))
      repeat (first | (refine step_ops ?_; ((try (refine g_yes rfl ?_ ?_; (· first | rfl | assumption | (refine decide_eq_true ?_; first | assumption | omega) | (refine nt ?_; first | assumption | omega) | (simp [*]; done) | (refine decide_eq_false ?_; first | assumption | omega) | (refine nf ?_; first | assumption | omega)))); (first | (refine m_mov (by conv => lhs; whnf) ?_) | (refine m_not rfl ?_) | (refine m_pick_f rfl ?_ (by conv => lhs; whnf) ?_; (· first | rfl | assumption | (refine decide_eq_false ?_; first | assumption | omega) | (refine nf ?_; first | assumption | omega) | (simp [*]; done))) | (refine m_bld rfl ?_) | (refine m_stall rfl rfl rfl ?_ ?_ ?_ ?_; (· first | rfl | (simp [*]; done)); (· first | rfl | (simp [*]; done)); (· first | rfl | (simp [cellOk, Value.oneCell']; done)))))) | refine end_ops ?_ | refine seq_ops ?_ | (refine cond_t rfl ?_ ?_; (· first | rfl | assumption | (refine decide_eq_true ?_; first | assumption | omega) | (refine nt ?_; first | assumption | omega) | (simp [*]; done))) | refine AW_ret ?_ | refine ret_then ?_)
      refine ret_doneg2 rfl rfl rfl ?_
      exact outs_sano fun e => hk e.2
  · have hd : decide ((2 ≤ g ∧ g ≤ 4) ∧ 2 ≤ c ∧ c ≤ 3) = false := decide_eq_false h
    refine specG_of Tryd.func13 rfl cc13 (by rfl) ?_
    unfold ac13
    repeat (first | (refine step_ops ?_; (first | (refine m_mov (by conv => lhs; whnf) ?_) | (refine m_alloc ?_))) | refine end_ops ?_ | refine seq_ops ?_ | refine AW_seq ?_)
    (refine step_ops ?_); (apply m_call (canPlay_spec _ _)); (· repeat (first | exact lends_nil | (refine lends_cons ?_ ?_; (· exact lend_v))))
    repeat (first | (refine step_ops ?_; (first | (first | (refine m_mov (by conv => lhs; whnf) ?_) | (refine m_not rfl ?_) | (refine m_pick_t rfl ?_ (by conv => lhs; whnf) ?_; (· first | rfl | assumption | (refine decide_eq_true ?_; first | assumption | omega) | (refine nt ?_; first | assumption | omega) | (simp [*]; done))) | (refine m_bld rfl ?_) | (refine m_stall rfl rfl rfl ?_ ?_ ?_ ?_; (· first | rfl | (simp [*]; done)); (· first | rfl | (simp [*]; done)); (· first | rfl | (simp [cellOk, Value.oneCell']; done)))) | (refine g_noF rfl ?_ ?_; (· first | rfl | assumption | (refine decide_eq_true ?_; first | assumption | omega) | (refine nt ?_; first | assumption | omega) | (simp [*]; done))))) | refine end_ops ?_ | refine seq_ops ?_ | (refine cond_t rfl ?_ ?_; (· first | rfl | assumption | (refine decide_eq_true ?_; first | assumption | omega) | (refine nt ?_; first | assumption | omega) | (simp [*]; done))) | refine AW_ret ?_ | refine ret_then ?_)
    refine ret_doneg2 rfl rfl rfl ?_
    exact outs_sano fun e => h e.1

set_option maxRecDepth 20000 in
theorem specSamePlan_spec (g c k : Int) : Sp Tryd.prog 12 [.i g, .i c, .i k] (saR g c k) := by
  by_cases h : PlOk g c
  · have hd : decide ((2 ≤ g ∧ g ≤ 4) ∧ 2 ≤ c ∧ c ≤ 3) = true := decide_eq_true h
    by_cases hk : 0 ≤ k ∧ k ≤ c - 1
    · have hok : SaOk g c k := ⟨h, by omega⟩
      obtain ⟨⟨hg2, hg4⟩, h2, h3⟩ := h
      obtain ⟨n, rfl⟩ := Int.eq_ofNat_of_zero_le (show 0 ≤ c by omega)
      obtain ⟨m, rfl⟩ := Int.eq_ofNat_of_zero_le (show 0 ≤ g by omega)
      obtain ⟨q, rfl⟩ := Int.eq_ofNat_of_zero_le hk.1
      have hpw := pow_le n (by omega) (m - 1) (by omega)
      have hm1 : (m : Int) - 1 = ((m - 1 : Nat) : Int) := by omega
      unfold saR saC saG
      rw [if_pos hok, decide_eq_true hok, if_pos hok, Int.toNat_natCast, Int.toNat_natCast, Int.toNat_natCast]
      refine specG_of Tryd.func12 rfl cc12 (by rfl) ?_
      unfold ac12
      repeat (first | (refine step_ops ?_; (first | (refine m_mov (by conv => lhs; whnf) ?_) | (refine m_alloc ?_))) | refine end_ops ?_ | refine seq_ops ?_ | refine AW_seq ?_)
      (refine step_ops ?_); (apply m_call (haSize_spec _ _)); (· repeat (first | exact lends_nil | (refine lends_cons ?_ ?_; (· exact lend_v))))
      repeat (refine step_ops ?_; ((try (refine g_yes rfl ?_ ?_; (· first | rfl | assumption | (refine decide_eq_true ?_; first | assumption | omega) | (refine nt ?_; first | assumption | omega) | (simp [*]; done) | (refine decide_eq_false ?_; first | assumption | omega) | (refine nf ?_; first | assumption | omega)))); (first | (refine m_mov (by conv => lhs; whnf) ?_) | (refine m_sub rfl rfl ?_ ?_ ?_; (· omega); (· omega)) | (refine m_not rfl ?_))))
      (refine step_ops ?_); (refine g_yes rfl ?_ ?_; (· first | (first | rfl | assumption | (refine decide_eq_true ?_; first | assumption | omega) | (refine nt ?_; first | assumption | omega) | (simp [*]; done)) | (first | rfl | assumption | (refine decide_eq_false ?_; first | assumption | omega) | (refine nf ?_; first | assumption | omega) | (simp [*]; done))); (apply m_call (l1In_spec _ _ _))); (· repeat (first | exact lends_nil | (refine lends_cons ?_ ?_; (· exact lend_v))))
      repeat (first | (refine step_ops ?_; ((try (refine g_yes rfl ?_ ?_; (· first | rfl | assumption | (refine decide_eq_true ?_; first | assumption | omega) | (refine nt ?_; first | assumption | omega) | (simp [*]; done) | (refine decide_eq_false ?_; first | assumption | omega) | (refine nf ?_; first | assumption | omega)))); (first | (refine m_mov (by conv => lhs; whnf) ?_) | (refine m_not rfl ?_) | (refine m_pick_f rfl ?_ (by conv => lhs; whnf) ?_; (· first | rfl | assumption | (refine decide_eq_false ?_; first | assumption | omega) | (refine nf ?_; first | assumption | omega) | (simp [*]; done))) | (refine m_alloc ?_) | (refine m_bld_1 (by conv => lhs; whnf) (by decide)  (by rfl) ?_) | (refine m_stall rfl rfl rfl ?_ ?_ ?_ ?_; (· first | rfl | (simp [*]; done)); (· first | rfl | (simp [*]; done)); (· first | rfl | (simp [cellOk, Value.oneCell']; done)))))) | refine end_ops ?_ | refine seq_ops ?_ | (refine cond_f rfl ?_ ?_; (· first | rfl | assumption | (refine decide_eq_false ?_; first | assumption | omega) | (refine nf ?_; first | assumption | omega) | (simp [*]; done))) | refine skip_then ?_ | refine AW_seq ?_ | refine AW_block ?_)
      refine AW_loop (α := Nat) (fun j => j ≤ m) (fun j => st [(0, .i m), (1, .i n), (2, .i q), (6, .pt 6 0), (8, .pt 8 0), (9, .i j)]
        [(6, (true, [.i 0, .v (.slice none 0 0)])), (8, (false, [.i n, .sl 1000 1 0 (plG n m (fun _ _ => q) j).length])), (1000, (true, txs (plG n m (fun _ _ => q) j)))]) (fun j => m - j) 0 (Nat.zero_le _) (Weak.trans (weak_nilcell 8 1000 1 1 rfl rfl (by decide) rfl rfl) (weak_st ?_ ?_ rfl rfl)) ?_
      · (repeat' (first | exact trivial | refine And.intro ?_ ?_)) <;> (first | rfl | skip)
      · exact ⟨rfl, rfl, rfl, trivial⟩
      intro j hj
      have hplk := plG_len n m (fun _ _ => q) j
      by_cases hlt : j < m
      · have hsn := plG_succ n m (fun _ _ => q) j
        repeat (first | (refine step_ops ?_; (first | (refine m_mov (by conv => lhs; whnf) ?_) | (refine m_lss rfl rfl ?_))) | refine end_ops ?_ | refine seq_ops ?_ | (refine cond_t rfl ?_ ?_; (· first | rfl | assumption | (refine decide_eq_true ?_; first | assumption | omega) | (refine nt ?_; first | assumption | omega) | (simp [*]; done))) | refine skip_then ?_ | refine AW_seq ?_ | refine AW_block ?_)
        refine AW_loop (α := Nat) (fun v => v ≤ n ^ (m - 1)) (fun v => st [(0, .i m), (1, .i n), (2, .i q), (6, .pt 6 0), (8, .pt 8 0), (9, .i j), (10, str ((List.range v).map fun v => hg q)), (11, .i v)]
          [(6, (true, [.i 0, .v (.slice none 0 0)])), (8, (false, [.i n, .sl 1000 1 0 (plG n m (fun _ _ => q) j).length])), (1000, (true, txs (plG n m (fun _ _ => q) j)))]) (fun v => n ^ (m - 1) - v) 0 (Nat.zero_le _) (weak_st ?_ ?_ rfl rfl) ?_
        · (repeat' (first | exact trivial | refine And.intro ?_ ?_)) <;> (first | rfl | skip)
        · exact ⟨rfl, rfl, rfl, trivial⟩
        intro v hv'
        have htl : ((List.range v).map fun v => hg q).length = v := by simp
        by_cases hltv : v < n ^ (m - 1)
        · have hts : ((List.range (v + 1)).map fun v => hg q) = ((List.range v).map fun v => hg q) ++ [hg q] := by rw [List.range_succ, List.map_append]; rfl
          generalize ((List.range v).map fun v => hg q) = T at *
          repeat (first | (refine step_ops ?_; (first | (refine m_mov (by conv => lhs; whnf) ?_) | (refine m_sub rfl rfl ?_ ?_ ?_; (· omega); (· omega)))) | refine seq_ops ?_ | refine AW_seq ?_)
          rw [hm1]
          (refine step_ops ?_); (apply m_call (haCount_spec n (m - 1) (by omega) (by omega))); (· repeat (first | exact lends_nil | (refine lends_cons ?_ ?_; (· exact lend_v))))
          repeat (first | (refine step_ops ?_; (first | (refine m_mov (by conv => lhs; whnf) ?_) | (refine m_lss rfl rfl ?_))) | refine end_ops ?_ | refine AW_ops ?_ | (refine cond_t rfl ?_ ?_; (· first | rfl | assumption | (refine decide_eq_true ?_; first | assumption | omega) | (refine nt ?_; first | assumption | omega) | (simp [*]; done))) | refine skip_then ?_ | refine AW_seq ?_ | refine AW_block ?_)
          (refine step_ops ?_); (apply m_call (l1Num_hg q (by omega))); (· repeat (first | exact lends_nil | (refine lends_cons ?_ ?_; (· exact lend_v))))
          repeat (first | (refine step_ops ?_; (first | (refine m_mov (by conv => lhs; whnf) ?_) | (refine m_add rfl rfl ?_ ?_ ?_; (· omega); (· omega)) | (refine m_adds rfl rfl ?_ ?_; (· first | omega | (simp; omega))))) | refine end_ops ?_ | refine AW_ops ?_ | refine norm_then ?_ | refine norm_block ?_)
          refine next_round (v + 1) hltv (weak_st ?_ ?_ rfl rfl) ?_
          · rw [hts]
            (repeat' (first | exact trivial | refine And.intro ?_ ?_)) <;> (first | rfl | skip)
          · exact ⟨rfl, rfl, rfl, trivial⟩
          · omega
        · obtain rfl : v = n ^ (m - 1) := by omega
          generalize ((List.range (n ^ (m - 1))).map fun v => hg q) = T at *
          generalize plG n m (fun _ _ => q) j = L at *
          repeat (first | (refine step_ops ?_; (first | (refine m_mov (by conv => lhs; whnf) ?_) | (refine m_sub rfl rfl ?_ ?_ ?_; (· omega); (· omega)))) | refine seq_ops ?_ | refine AW_seq ?_)
          rw [hm1]
          (refine step_ops ?_); (apply m_call (haCount_spec n (m - 1) (by omega) (by omega))); (· repeat (first | exact lends_nil | (refine lends_cons ?_ ?_; (· exact lend_v))))
          repeat (first | (refine step_ops ?_; (first | (refine m_mov (by conv => lhs; whnf) ?_) | (refine m_lss rfl rfl ?_) | (apply m_ld_pt; (· rfl); (· rfl); (· rfl)) | (refine m_fa rfl ?_) | (refine m_bsl1 rfl rfl ?_) | (refine m_app1 rfl (by decide) rfl (by first | (simp; done) | (simp [*]; done) | (simp; omega)) rfl rfl rfl ?_ (by decide) ?_; (· first | omega | (simp; omega))))) | refine end_ops ?_ | refine AW_ops ?_ | (refine cond_f rfl ?_ ?_; (· first | rfl | assumption | (refine decide_eq_false ?_; first | assumption | omega) | (refine nf ?_; first | assumption | omega) | (simp [*]; done))) | refine norm_then ?_ | refine exit_then ?_ | refine exit_round ?_ | refine AW_exit ?_ | refine exit_block ?_)
          refine step_ops ?_
          refine m_st (off := 1) (cs := [.i n, .any]) (v := .sl 47 1 0 (L.length + 1)) rfl rfl rfl (by simp) rfl ?_
          repeat (first | (refine step_ops ?_; (first | (refine m_mov (by conv => lhs; whnf) ?_) | (refine m_add rfl rfl ?_ ?_ ?_; (· omega); (· omega)))) | refine end_ops ?_ | refine AW_ops ?_ | refine norm_then ?_ | refine norm_block ?_)
          refine next_round (j + 1) hlt ?_ ?_
          · rw [hsn, show (L ++ [T]).length = L.length + 1 by simp, txs_append]
            refine weak_stR (fun r => if r = 1000 then 47 else r) ?_ ?_ (by simp [pbase]) (by simp [pbase]) rfl rfl
            · (repeat' (first | exact trivial | refine And.intro ?_ ?_)) <;> (first | rfl | exact congrArg (fun c => some (true, c)) (renL_ints _ _) | exact congrArg (fun c => some (true, c)) (txs_ren _ _) | skip)
            · (repeat' (first | exact trivial | refine And.intro ?_ ?_)) <;> (first | rfl | exact congrArg (fun c => some (true, c)) (renL_ints _ _) | exact congrArg (fun c => some (true, c)) (txs_ren _ _) | skip)
          · omega
      · obtain rfl : j = m := by omega
        repeat (first | (refine step_ops ?_; (first | (refine m_mov (by conv => lhs; whnf) ?_) | (refine m_lss rfl rfl ?_) | (refine m_ldall rfl rfl ?_ ?_; (· first | rfl | (simp; done) | (simp [*]; done))))) | refine end_ops ?_ | refine seq_ops ?_ | (refine cond_f rfl ?_ ?_; (· first | rfl | assumption | (refine decide_eq_false ?_; first | assumption | omega) | (refine nf ?_; first | assumption | omega) | (simp [*]; done))) | refine AW_seq ?_ | refine norm_then ?_ | refine exit_then ?_ | refine exit_round ?_ | refine AW_exit ?_ | refine exit_block ?_)
        refine step_opsW (weak_deep (r := 6) rfl (by simp) rfl) ?_
        refine m_stall (l := [.i n, .sl 1000 1 0 (plG n j (fun _ _ => q) j).length]) rfl rfl rfl rfl rfl rfl ?_
        repeat (first | (refine step_ops ?_; (refine m_mov (by conv => lhs; whnf) ?_)) | refine end_ops ?_ | refine AW_ret ?_)
        refine ret_doneg2 rfl rfl rfl ?_
        exact outs_tup2 (outs_agg2 (outs_i rfl) (outs_txs rfl rfl rfl)) (outs_b rfl)
    · have hc3 : 2 ≤ c ∧ c ≤ 3 := h.2
      refine specG_of Tryd.func12 rfl cc12 (by rfl) ?_
      unfold ac12
      repeat (first | (refine step_ops ?_; (first | (refine m_mov (by conv => lhs; whnf) ?_) | (refine m_alloc ?_))) | refine end_ops ?_ | refine seq_ops ?_ | refine AW_seq ?_)
      (refine step_ops ?_); (apply m_call (haSize_spec _ _)); (· repeat (first | exact lends_nil | (refine lends_cons ?_ ?_; (· exact lend_v))))
      repeat (refine step_ops ?_; ((try (refine g_yes rfl ?_ ?_; (· first | rfl | assumption | (refine decide_eq_true ?_; first | assumption | omega) | (refine nt ?_; first | assumption | omega) | (simp [*]; done) | (refine decide_eq_false ?_; first | assumption | omega) | (refine nf ?_; first | assumption | omega)))); (first | (refine m_mov (by conv => lhs; whnf) ?_) | (refine m_sub rfl rfl ?_ ?_ ?_; (· omega); (· omega)) | (refine m_not rfl ?_))))
      (refine step_ops ?_); (refine g_yes rfl ?_ ?_; (· first | (first | rfl | assumption | (refine decide_eq_true ?_; first | assumption | omega) | (refine nt ?_; first | assumption | omega) | (simp [*]; done)) | (first | rfl | assumption | (refine decide_eq_false ?_; first | assumption | omega) | (refine nf ?_; first | assumption | omega) | (simp [*]; done))); (apply m_call (l1In_spec _ _ _))); (· repeat (first | exact lends_nil | (refine lends_cons ?_ ?_; (· exact lend_v))))
      repeat (first | (refine step_ops ?_; ((try (refine g_yes rfl ?_ ?_; (· first | rfl | assumption | (refine decide_eq_true ?_; first | assumption | omega) | (refine nt ?_; first | assumption | omega) | (simp [*]; done) | (refine decide_eq_false ?_; first | assumption | omega) | (refine nf ?_; first | assumption | omega)))); (first | (refine m_mov (by conv => lhs; whnf) ?_) | (refine m_not rfl ?_) | (refine m_pick_f rfl ?_ (by conv => lhs; whnf) ?_; (· first | rfl | assumption | (refine decide_eq_false ?_; first | assumption | omega) | (refine nf ?_; first | assumption | omega) | (simp [*]; done))) | (refine m_bld rfl ?_) | (refine m_stall rfl rfl rfl ?_ ?_ ?_ ?_; (· first | rfl | (simp [*]; done)); (· first | rfl | (simp [*]; done)); (· first | rfl | (simp [cellOk, Value.oneCell']; done)))))) | refine end_ops ?_ | refine seq_ops ?_ | (refine cond_t rfl ?_ ?_; (· first | rfl | assumption | (refine decide_eq_true ?_; first | assumption | omega) | (refine nt ?_; first | assumption | omega) | (simp [*]; done))) | refine AW_ret ?_ | refine ret_then ?_)
      refine ret_doneg2 rfl rfl rfl ?_
      exact outs_sano fun e => hk (by have := e.2; omega)
  · have hd : decide ((2 ≤ g ∧ g ≤ 4) ∧ 2 ≤ c ∧ c ≤ 3) = false := decide_eq_false h
    refine specG_of Tryd.func12 rfl cc12 (by rfl) ?_
    unfold ac12
    repeat (first | (refine step_ops ?_; (first | (refine m_mov (by conv => lhs; whnf) ?_) | (refine m_alloc ?_))) | refine end_ops ?_ | refine seq_ops ?_ | refine AW_seq ?_)
    (refine step_ops ?_); (apply m_call (haSize_spec _ _)); (· repeat (first | exact lends_nil | (refine lends_cons ?_ ?_; (· exact lend_v))))
    repeat (first | (refine step_ops ?_; (first | (first | (refine m_mov (by conv => lhs; whnf) ?_) | (refine m_not rfl ?_) | (refine m_pick_t rfl ?_ (by conv => lhs; whnf) ?_; (· first | rfl | assumption | (refine decide_eq_true ?_; first | assumption | omega) | (refine nt ?_; first | assumption | omega) | (simp [*]; done))) | (refine m_bld rfl ?_) | (refine m_stall rfl rfl rfl ?_ ?_ ?_ ?_; (· first | rfl | (simp [*]; done)); (· first | rfl | (simp [*]; done)); (· first | rfl | (simp [cellOk, Value.oneCell']; done)))) | (refine g_noF rfl ?_ ?_; (· first | rfl | assumption | (refine decide_eq_true ?_; first | assumption | omega) | (refine nt ?_; first | assumption | omega) | (simp [*]; done))))) | refine end_ops ?_ | refine seq_ops ?_ | (refine cond_t rfl ?_ ?_; (· first | rfl | assumption | (refine decide_eq_true ?_; first | assumption | omega) | (refine nt ?_; first | assumption | omega) | (simp [*]; done))) | refine AW_ret ?_ | refine ret_then ?_)
    refine ret_doneg2 rfl rfl rfl ?_
    exact outs_sano fun e => h e.1
end Go.Proofs.YthlgknjipoackaaDoor
