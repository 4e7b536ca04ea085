/- Contracts: the least and the most right guests, how often so many are right, the worst hats. -/
import Derived.Test.YtenaaellhghfgaaDoorHtN
namespace Go.Proofs.YtenaaellhghfgaaDoor
open Go.Am
attribute [local irreducible] AW Outs Weak Lends Lend Sp aops atree aop1 Then Round InBlock Done

theorem pow_ne {c : Nat} {G : List (List UInt8)} (h : IsPln c G) : 0 < c ^ G.length := by
  have := pow_pos' c (by have := h.2.1; omega) (by have := h.2.1; omega) G.length (by have := h.1; omega)
  omega
theorem lend_gmr {hp : Hp} {c : Nat} {G : List (List UInt8)} {mask : List UInt8} : Lend hp (.agg [.i (G.length : Nat), .i c, .rmp true (esV (gAll c G G.length)) (gAll c G G.length).length, str mask]) (gmV false c G mask) := lend_gm (c := (c : Int)) rfl

def lrR (c : Int) (G : List (List UInt8)) (k : Nat) : AV := if IsPln c G then .tup [.i (rtN c.toNat G k : Nat), .b true] else .tup [.i 0, .b false]
def mrR (c : Int) (G : List (List UInt8)) (m : Nat) : AV := if IsPln c G then .tup [.i (m : Nat), .b true] else .tup [.i 0, .b false]
def whT (c : Int) (G : List (List UInt8)) (k : Nat) : List UInt8 := if IsPln c G then dgs c.toNat G.length k else []
def whR (c : Int) (G : List (List UInt8)) (k : Nat) : AV := .tup [str (whT c G k), .b (decide (IsPln c G))]
def cbL (c : Int) (G : List (List UInt8)) : List Int := if IsPln c G then cntL c.toNat G (c.toNat ^ G.length) else []
def cbR (c : Int) (G : List (List UInt8)) : AV := .tup [newInts (cbL c G), .b (decide (IsPln c G))]
theorem cbL_le (c : Int) (G : List (List UInt8)) : (cbL c G).length ≤ 5 := by
  unfold cbL
  split
  · rename_i h
    rw [cntL_len]
    have := h.1
    omega
  · simp

theorem specLeastRight_spec (c : Int) (G : List (List UInt8)) (k : Nat) (hG : G.length ≤ 1048576) (hk : IsPln c G → IsWst c.toNat G k) : Sp Tryd.prog 27 [pln c G] (lrR c G k) := by
  unfold lrR
  by_cases h : IsPln c G
  · obtain ⟨n, rfl, h2, h3⟩ := pln_nat h
    have hw := hk h
    rw [Int.toNat_natCast] at hw
    rw [if_pos h, Int.toNat_natCast]
    have h4 := h.1
    have hA := ask_dgs h k
    have hg := haGuesses_spec n G (dgs n G.length k) hA
    have hcol := hA.2.2
    rw [Int.toNat_natCast] at hcol
    have hgl := gsH_len n G (dgs n G.length k) G.length
    have hgc := gsH_col h (dgs_len n G.length k) hcol (Nat.le_refl _)
    have hdl := dgs_len n G.length k
    have hra := haRight_spec (gsH n G (dgs n G.length k) G.length) (dgs n G.length k) n (by omega) hgc (by omega) (by omega)
    rw [hgl] at hra
    refine spec_of Tryd.func27 rfl cc27 rfl ?_
    unfold ac27
    repeat (first | (refine step_ops ?_; (first | (refine m_mov (by conv => lhs; whnf) ?_) | (refine m_box rfl ?_ ?_; (· first | rfl | (simp [cellOk, Value.oneCell']; done))) | (refine m_ldall rfl rfl ?_ ?_; (· first | rfl | (simp; done) | (simp [*]; done))))) | refine end_ops ?_ | refine seq_ops ?_ | refine AW_seq ?_)
    (refine step_ops ?_); (apply m_call (haGood_spec n G hG)); (· repeat (first | exact lends_nil | (refine lends_cons ?_ ?_; (· (refine lend_pln rfl; done)))))
    repeat (first | (refine step_ops ?_; (first | (refine m_not rfl ?_) | (refine m_ldall rfl rfl ?_ ?_; (· first | rfl | (simp; done) | (simp [*]; done))))) | refine end_ops ?_ | refine seq_ops ?_ | (refine cond_f rfl ?_ ?_; (· first | rfl | assumption | (refine decide_eq_false ?_; first | assumption | omega) | (refine nf ?_; first | assumption | omega) | (simp [*]; done))) | refine skip_then ?_)
    (refine step_ops ?_); (apply m_call (haBy_spec n G k h hw)); (· repeat (first | exact lends_nil | (refine lends_cons ?_ ?_; (· (refine lend_pln rfl; done)))))
    repeat (first | (refine step_ops ?_; (first | (refine m_mov (by conv => lhs; whnf) ?_) | (refine m_ext rfl rfl ?_) | (refine m_ldall rfl rfl ?_ ?_; (· first | rfl | (simp; done) | (simp [*]; done))))) | refine end_ops ?_ | refine seq_ops ?_)
    (refine step_ops ?_); (apply m_call (hg)); (· repeat (first | exact lends_nil | (refine lends_cons ?_ ?_; (· (first | exact lend_v | (refine lend_pln rfl; done))))))
    repeat (refine step_ops ?_; (refine m_mov (by conv => lhs; whnf) ?_))
    (refine step_ops ?_); (apply m_call (hra)); (· repeat (first | exact lends_nil | (refine lends_cons ?_ ?_; (· exact lend_v))))
    repeat (first | (refine step_ops ?_; (first | (refine m_mov (by conv => lhs; whnf) ?_) | (refine m_len_ro rfl ?_))) | refine end_ops ?_ | refine AW_ret ?_ | refine ret_done ?_)
    exact outs_tup2 (outs_i rfl) (outs_b rfl)
  · rw [if_neg h]
    refine spec_of Tryd.func27 rfl cc27 rfl ?_
    unfold ac27
    repeat (first | (refine step_ops ?_; (first | (refine m_mov (by conv => lhs; whnf) ?_) | (refine m_box rfl ?_ ?_; (· first | rfl | (simp [cellOk, Value.oneCell']; done))) | (refine m_ldall rfl rfl ?_ ?_; (· first | rfl | (simp; done) | (simp [*]; done))))) | refine end_ops ?_ | refine seq_ops ?_ | refine AW_seq ?_)
    (refine step_ops ?_); (apply m_call (haGood_spec c G hG)); (· repeat (first | exact lends_nil | (refine lends_cons ?_ ?_; (· (refine lend_pln rfl; done)))))
    repeat (first | (refine step_ops ?_; (first | (refine m_mov (by conv => lhs; whnf) ?_) | (refine m_not rfl ?_))) | refine end_ops ?_ | refine seq_ops ?_ | (refine cond_t rfl ?_ ?_; (· first | rfl | assumption | (refine decide_eq_true ?_; first | assumption | omega) | (refine nt ?_; first | assumption | omega) | (simp [*]; done))) | refine AW_ret ?_ | refine ret_done ?_ | refine ret_then ?_)
    exact outs_tup2 (outs_i rfl) (outs_b rfl)
theorem implLeastRight_spec (c : Int) (G : List (List UInt8)) (k : Nat) (hG : G.length ≤ 1048576) (hk : IsPln c G → IsWst c.toNat G k) : Sp Tryd.prog 28 [pln c G] (lrR c G k) := by
  have hr := readHatPlan_spec c G hG
  unfold rdR at hr
  unfold lrR
  by_cases h : IsPln c G
  · obtain ⟨n, rfl, h2, h3⟩ := pln_nat h
    have hw := hk h
    rw [if_pos h] at hr ⊢
    unfold gmV at hr
    rw [Int.toNat_natCast] at hw hr ⊢
    have h4 := h.1
    have hp := pow_le n (by omega) G.length (by omega)
    have hp0 := pow_ne h
    have hrl := rls_len n G (n ^ G.length)
    have hmn := slicesMin_spec (rls n G (n ^ G.length)) (by omega) (by omega)
    rw [mn_rls hw] at hmn
    refine spec_of Tryd.func28 rfl cc28 rfl ?_
    unfold ac28
    repeat (first | (refine step_ops ?_; (first | (refine m_mov (by conv => lhs; whnf) ?_) | (refine m_box rfl ?_ ?_; (· first | rfl | (simp [cellOk, Value.oneCell']; done))) | (refine m_ldall rfl rfl ?_ ?_; (· first | rfl | (simp; done) | (simp [*]; done))))) | refine end_ops ?_ | refine seq_ops ?_)
    (refine step_ops ?_); (apply m_call (hr)); (· repeat (first | exact lends_nil | (refine lends_cons ?_ ?_; (· (refine lend_pln rfl; done)))))
    repeat (first | (refine step_ops ?_; (first | (refine m_mov (by conv => lhs; whnf) ?_) | (refine m_not rfl ?_) | (refine m_ext rfl rfl ?_) | (refine m_alloc ?_) | (refine m_ldall rfl rfl ?_ ?_; (· first | rfl | (simp; done) | (simp [*]; done))) | (refine m_stall rfl rfl rfl ?_ ?_ ?_ ?_; (· first | rfl | (simp [*]; done)); (· first | rfl | (simp [*]; done)); (· first | rfl | (simp [cellOk, Value.oneCell']; done))))) | refine end_ops ?_ | refine seq_ops ?_ | (refine cond_f rfl ?_ ?_; (· first | rfl | assumption | (refine decide_eq_false ?_; first | assumption | omega) | (refine nf ?_; first | assumption | omega) | (simp [*]; done))) | refine skip_then ?_ | refine AW_seq ?_)
    refine step_ops ?_
    refine m_call (rightNumbers_spec n G [] h) ?_ ?_
    · exact lends_cons lend_gmr lends_nil
    skip
    (refine step_ops ?_); (apply m_call (hmn)); (· repeat (first | exact lends_nil | (refine lends_cons ?_ ?_; (· (refine lend_ints ?_; first | rfl | omega)))))
    repeat (first | (refine step_ops ?_; (refine m_mov (by conv => lhs; whnf) ?_)) | refine end_ops ?_ | refine AW_ret ?_ | refine ret_done ?_)
    exact outs_tup2 (outs_i rfl) (outs_b rfl)
  · rw [if_neg h] at hr ⊢
    unfold noGm at hr
    refine spec_of Tryd.func28 rfl cc28 rfl ?_
    unfold ac28
    repeat (first | (refine step_ops ?_; (first | (refine m_mov (by conv => lhs; whnf) ?_) | (refine m_box rfl ?_ ?_; (· first | rfl | (simp [cellOk, Value.oneCell']; done))) | (refine m_ldall rfl rfl ?_ ?_; (· first | rfl | (simp; done) | (simp [*]; done))))) | refine end_ops ?_ | refine seq_ops ?_)
    (refine step_ops ?_); (apply m_call (hr)); (· repeat (first | exact lends_nil | (refine lends_cons ?_ ?_; (· (refine lend_pln rfl; done)))))
    repeat (first | (refine step_ops ?_; (first | (refine m_mov (by conv => lhs; whnf) ?_) | (refine m_not rfl ?_) | (refine m_ext rfl rfl ?_) | (refine m_alloc ?_) | (refine m_stall rfl rfl rfl ?_ ?_ ?_ ?_; (· first | rfl | (simp [*]; done)); (· first | rfl | (simp [*]; done)); (· first | rfl | (simp [cellOk, Value.oneCell']; done))))) | refine end_ops ?_ | refine seq_ops ?_ | (refine cond_t rfl ?_ ?_; (· first | rfl | assumption | (refine decide_eq_true ?_; first | assumption | omega) | (refine nt ?_; first | assumption | omega) | (simp [*]; done))) | refine AW_seq ?_ | refine AW_ret ?_ | refine ret_done ?_ | refine ret_then ?_)
    exact outs_tup2 (outs_i rfl) (outs_b rfl)

theorem specMostRight_spec (c : Int) (G : List (List UInt8)) (m : Nat) (hG : G.length ≤ 1048576) (hm : IsPln c G → IsMst c.toNat G m) : Sp Tryd.prog 29 [pln c G] (mrR c G m) := by
  unfold mrR
  by_cases h : IsPln c G
  · obtain ⟨n, rfl, h2, h3⟩ := pln_nat h
    have hw := hm h
    rw [Int.toNat_natCast] at hw
    rw [if_pos h]
    have h4 := h.1
    obtain ⟨k, hk⟩ := has_wst n G (pow_ne h)
    have hcl := cntL_len n G (n ^ G.length)
    refine spec_of Tryd.func29 rfl cc29 rfl ?_
    unfold ac29
    repeat (first | (refine step_ops ?_; (first | (refine m_mov (by conv => lhs; whnf) ?_) | (refine m_box rfl ?_ ?_; (· first | rfl | (simp [cellOk, Value.oneCell']; done))) | (refine m_ldall rfl rfl ?_ ?_; (· first | rfl | (simp; done) | (simp [*]; done))))) | refine end_ops ?_ | refine seq_ops ?_ | refine AW_seq ?_)
    (refine step_ops ?_); (apply m_call (haGood_spec n G hG)); (· repeat (first | exact lends_nil | (refine lends_cons ?_ ?_; (· (refine lend_pln rfl; done)))))
    repeat (first | (refine step_ops ?_; (first | (refine m_not rfl ?_) | (refine m_ldall rfl rfl ?_ ?_; (· first | rfl | (simp; done) | (simp [*]; done))))) | refine end_ops ?_ | refine seq_ops ?_ | (refine cond_f rfl ?_ ?_; (· first | rfl | assumption | (refine decide_eq_false ?_; first | assumption | omega) | (refine nf ?_; first | assumption | omega) | (simp [*]; done))) | refine skip_then ?_)
    (refine step_ops ?_); (apply m_call (haBy_spec n G k h hk)); (· repeat (first | exact lends_nil | (refine lends_cons ?_ ?_; (· (refine lend_pln rfl; done)))))
    repeat (first | (refine step_ops ?_; (first | (refine m_mov (by conv => lhs; whnf) ?_) | (refine m_len_ro rfl ?_) | (refine m_ext rfl rfl ?_))) | refine end_ops ?_ | refine seq_ops ?_ | refine AW_seq ?_ | refine AW_block ?_)
    refine AW_loop (α := Nat × Nat) (fun a => a.1 ≤ G.length + 1 ∧ (a.2 = 0 ∨ (a.2 < G.length + 1 ∧ 0 < cntR n G (n ^ G.length) a.2)) ∧ ∀ x, x < a.1 → 0 < cntR n G (n ^ G.length) x → x ≤ a.2)
      (fun a => st [(6, .i a.2), (17, newInts (cntL n G (n ^ G.length))), (18, .i (cntL n G (n ^ G.length)).length), (19, .i a.1)] []) (fun a => G.length + 1 - a.1) (0, 0) ⟨Nat.zero_le _, .inl rfl, fun x hx => by omega⟩ (weak_st ?_ ?_ rfl rfl) ?_
    · (repeat' (first | exact trivial | refine And.intro ?_ ?_)) <;> (first | rfl | skip)
    · trivial
    rintro ⟨x, q⟩ ⟨hx, hq, hall⟩
    dsimp only at hx hq hall ⊢
    by_cases hlt : x < G.length + 1
    · have hget := cntL_get n G (n := n ^ G.length) hlt
      by_cases hp : 0 < cntR n G (n ^ G.length) x
      · have hp' : (cntL n G (n ^ G.length)).getD x 0 > 0 := by rw [hget]; omega
        repeat (first | (refine step_ops ?_; (first | (refine m_mov (by conv => lhs; whnf) ?_) | (refine m_lss rfl rfl ?_) | (refine m_gtr rfl rfl ?_) | (refine m_add rfl rfl ?_ ?_ ?_; (· omega); (· omega)) | (refine m_idx1_ro rfl rfl ?_ ?_; (· omega)) | (refine m_ld_rpi rfl ?_ ?_; (· omega)))) | refine end_ops ?_ | refine seq_ops ?_ | refine AW_ops ?_ | (refine cond_t rfl ?_ ?_; (· first | rfl | assumption | (refine decide_eq_true ?_; first | assumption | omega) | (refine nt ?_; first | assumption | omega) | (simp [*]; done))) | refine skip_then ?_ | refine AW_seq ?_ | refine norm_then ?_ | refine AW_block ?_ | refine norm_block ?_)
        refine next_round (x + 1, x) ⟨hlt, .inr ⟨hlt, hp⟩, fun y hy _ => by omega⟩ (weak_st ?_ ?_ rfl rfl) ?_
        · (repeat' (first | exact trivial | refine And.intro ?_ ?_)) <;> (first | rfl | skip)
        · trivial
        · show G.length + 1 - (x + 1) < G.length + 1 - x
          omega
      · have hp' : ¬ (cntL n G (n ^ G.length)).getD x 0 > 0 := by rw [hget]; omega
        repeat (first | (refine step_ops ?_; (first | (refine m_mov (by conv => lhs; whnf) ?_) | (refine m_lss rfl rfl ?_) | (refine m_gtr rfl rfl ?_) | (refine m_add rfl rfl ?_ ?_ ?_; (· omega); (· omega)) | (refine m_idx1_ro rfl rfl ?_ ?_; (· omega)) | (refine m_ld_rpi rfl ?_ ?_; (· omega)))) | refine end_ops ?_ | refine seq_ops ?_ | refine AW_ops ?_ | (refine cond_t rfl ?_ ?_; (· first | rfl | assumption | (refine decide_eq_true ?_; first | assumption | omega) | (refine nt ?_; first | assumption | omega) | (simp [*]; done))) | (refine cond_f rfl ?_ ?_; (· first | rfl | assumption | (refine decide_eq_false ?_; first | assumption | omega) | (refine nf ?_; first | assumption | omega) | (simp [*]; done))) | refine skip_then ?_ | refine AW_seq ?_ | refine norm_then ?_ | refine AW_block ?_ | refine norm_block ?_ | refine AW_skip ?_)
        refine next_round (x + 1, q) ⟨hlt, hq, fun y hy hy2 => ?_⟩ (weak_st ?_ ?_ rfl rfl) ?_
        · by_cases e : y = x
          · subst e; exact absurd hy2 hp
          · exact hall y (by omega) hy2
        · (repeat' (first | exact trivial | refine And.intro ?_ ?_)) <;> (first | rfl | skip)
        · trivial
        · show G.length + 1 - (x + 1) < G.length + 1 - x
          omega
    · obtain rfl : x = G.length + 1 := by omega
      have hqm : q = m := by
        obtain ⟨⟨j, hj, hjm⟩, hmx⟩ := hw
        have h1 := hall m (by have := rtN_le n G j; omega) (cntR_pos.2 ⟨j, hj, hjm⟩)
        rcases hq with hq | ⟨_, hq⟩
        · omega
        · obtain ⟨i, hi, him⟩ := cntR_pos.1 hq
          have := hmx i hi
          omega
      subst hqm
      repeat (first | (refine step_ops ?_; (first | (refine m_mov (by conv => lhs; whnf) ?_) | (refine m_lss rfl rfl ?_))) | refine end_ops ?_ | refine seq_ops ?_ | (refine cond_f rfl ?_ ?_; (· first | rfl | assumption | (refine decide_eq_false ?_; first | assumption | omega) | (refine nf ?_; first | assumption | omega) | (simp [*]; done))) | refine AW_seq ?_ | refine AW_ret ?_ | refine ret_done ?_ | refine norm_then ?_ | refine exit_then ?_ | refine exit_round ?_ | refine AW_exit ?_ | refine exit_block ?_)
      exact outs_tup2 (outs_i rfl) (outs_b rfl)
  · rw [if_neg h]
    refine spec_of Tryd.func29 rfl cc29 rfl ?_
    unfold ac29
    repeat (first | (refine step_ops ?_; (first | (refine m_mov (by conv => lhs; whnf) ?_) | (refine m_box rfl ?_ ?_; (· first | rfl | (simp [cellOk, Value.oneCell']; done))) | (refine m_ldall rfl rfl ?_ ?_; (· first | rfl | (simp; done) | (simp [*]; done))))) | refine end_ops ?_ | refine seq_ops ?_ | refine AW_seq ?_)
    (refine step_ops ?_); (apply m_call (haGood_spec c G hG)); (· repeat (first | exact lends_nil | (refine lends_cons ?_ ?_; (· (refine lend_pln rfl; done)))))
    repeat (first | (refine step_ops ?_; (first | (refine m_mov (by conv => lhs; whnf) ?_) | (refine m_not rfl ?_))) | refine end_ops ?_ | refine seq_ops ?_ | (refine cond_t rfl ?_ ?_; (· first | rfl | assumption | (refine decide_eq_true ?_; first | assumption | omega) | (refine nt ?_; first | assumption | omega) | (simp [*]; done))) | refine AW_ret ?_ | refine ret_done ?_ | refine ret_then ?_)
    exact outs_tup2 (outs_i rfl) (outs_b rfl)
theorem implMostRight_spec (c : Int) (G : List (List UInt8)) (m : Nat) (hG : G.length ≤ 1048576) (hm : IsPln c G → IsMst c.toNat G m) : Sp Tryd.prog 30 [pln c G] (mrR c G m) := by
  have hr := readHatPlan_spec c G hG
  unfold rdR at hr
  unfold mrR
  by_cases h : IsPln c G
  · obtain ⟨n, rfl, h2, h3⟩ := pln_nat h
    have hw := hm h
    rw [if_pos h] at hr ⊢
    unfold gmV at hr
    rw [Int.toNat_natCast] at hw hr
    have h4 := h.1
    have hp := pow_le n (by omega) G.length (by omega)
    have hp0 := pow_ne h
    have hrl := rls_len n G (n ^ G.length)
    have hmn := slicesMax_spec (rls n G (n ^ G.length)) (by omega) (by omega)
    rw [mx_rls hw] at hmn
    refine spec_of Tryd.func30 rfl cc30 rfl ?_
    unfold ac30
    repeat (first | (refine step_ops ?_; (first | (refine m_mov (by conv => lhs; whnf) ?_) | (refine m_box rfl ?_ ?_; (· first | rfl | (simp [cellOk, Value.oneCell']; done))) | (refine m_ldall rfl rfl ?_ ?_; (· first | rfl | (simp; done) | (simp [*]; done))))) | refine end_ops ?_ | refine seq_ops ?_)
    (refine step_ops ?_); (apply m_call (hr)); (· repeat (first | exact lends_nil | (refine lends_cons ?_ ?_; (· (refine lend_pln rfl; done)))))
    repeat (first | (refine step_ops ?_; (first | (refine m_mov (by conv => lhs; whnf) ?_) | (refine m_not rfl ?_) | (refine m_ext rfl rfl ?_) | (refine m_alloc ?_) | (refine m_ldall rfl rfl ?_ ?_; (· first | rfl | (simp; done) | (simp [*]; done))) | (refine m_stall rfl rfl rfl ?_ ?_ ?_ ?_; (· first | rfl | (simp [*]; done)); (· first | rfl | (simp [*]; done)); (· first | rfl | (simp [cellOk, Value.oneCell']; done))))) | refine end_ops ?_ | refine seq_ops ?_ | (refine cond_f rfl ?_ ?_; (· first | rfl | assumption | (refine decide_eq_false ?_; first | assumption | omega) | (refine nf ?_; first | assumption | omega) | (simp [*]; done))) | refine skip_then ?_ | refine AW_seq ?_)
    refine step_ops ?_
    refine m_call (rightNumbers_spec n G [] h) ?_ ?_
    · exact lends_cons lend_gmr lends_nil
    skip
    (refine step_ops ?_); (apply m_call (hmn)); (· repeat (first | exact lends_nil | (refine lends_cons ?_ ?_; (· (refine lend_ints ?_; first | rfl | omega)))))
    repeat (first | (refine step_ops ?_; (refine m_mov (by conv => lhs; whnf) ?_)) | refine end_ops ?_ | refine AW_ret ?_ | refine ret_done ?_)
    exact outs_tup2 (outs_i rfl) (outs_b rfl)
  · rw [if_neg h] at hr ⊢
    unfold noGm at hr
    refine spec_of Tryd.func30 rfl cc30 rfl ?_
    unfold ac30
    repeat (first | (refine step_ops ?_; (first | (refine m_mov (by conv => lhs; whnf) ?_) | (refine m_box rfl ?_ ?_; (· first | rfl | (simp [cellOk, Value.oneCell']; done))) | (refine m_ldall rfl rfl ?_ ?_; (· first | rfl | (simp; done) | (simp [*]; done))))) | refine end_ops ?_ | refine seq_ops ?_)
    (refine step_ops ?_); (apply m_call (hr)); (· repeat (first | exact lends_nil | (refine lends_cons ?_ ?_; (· (refine lend_pln rfl; done)))))
    repeat (first | (refine step_ops ?_; (first | (refine m_mov (by conv => lhs; whnf) ?_) | (refine m_not rfl ?_) | (refine m_ext rfl rfl ?_) | (refine m_alloc ?_) | (refine m_stall rfl rfl rfl ?_ ?_ ?_ ?_; (· first | rfl | (simp [*]; done)); (· first | rfl | (simp [*]; done)); (· first | rfl | (simp [cellOk, Value.oneCell']; done))))) | refine end_ops ?_ | refine seq_ops ?_ | (refine cond_t rfl ?_ ?_; (· first | rfl | assumption | (refine decide_eq_true ?_; first | assumption | omega) | (refine nt ?_; first | assumption | omega) | (simp [*]; done))) | refine AW_seq ?_ | refine AW_ret ?_ | refine ret_done ?_ | refine ret_then ?_)
    exact outs_tup2 (outs_i rfl) (outs_b rfl)

theorem specWorstHats_spec (c : Int) (G : List (List UInt8)) (k : Nat) (hG : G.length ≤ 1048576) (hk : IsPln c G → IsWst c.toNat G k) : Sp Tryd.prog 33 [pln c G] (whR c G k) := by
  unfold whR whT
  by_cases h : IsPln c G
  · obtain ⟨n, rfl, h2, h3⟩ := pln_nat h
    have hw := hk h
    rw [if_pos h, decide_eq_true h]
    rw [Int.toNat_natCast] at hw ⊢
    refine spec_of Tryd.func33 rfl cc33 rfl ?_
    unfold ac33
    repeat (first | (refine step_ops ?_; (first | (refine m_mov (by conv => lhs; whnf) ?_) | (refine m_box rfl ?_ ?_; (· first | rfl | (simp [cellOk, Value.oneCell']; done))) | (refine m_ldall rfl rfl ?_ ?_; (· first | rfl | (simp; done) | (simp [*]; done))))) | refine end_ops ?_ | refine seq_ops ?_ | refine AW_seq ?_)
    (refine step_ops ?_); (apply m_call (haGood_spec n G hG)); (· repeat (first | exact lends_nil | (refine lends_cons ?_ ?_; (· (refine lend_pln rfl; done)))))
    repeat (first | (refine step_ops ?_; (first | (refine m_not rfl ?_) | (refine m_ldall rfl rfl ?_ ?_; (· first | rfl | (simp; done) | (simp [*]; done))))) | refine end_ops ?_ | refine seq_ops ?_ | (refine cond_f rfl ?_ ?_; (· first | rfl | assumption | (refine decide_eq_false ?_; first | assumption | omega) | (refine nf ?_; first | assumption | omega) | (simp [*]; done))) | refine skip_then ?_)
    (refine step_ops ?_); (apply m_call (haBy_spec n G k h hw)); (· repeat (first | exact lends_nil | (refine lends_cons ?_ ?_; (· (refine lend_pln rfl; done)))))
    repeat (first | (refine step_ops ?_; (first | (refine m_mov (by conv => lhs; whnf) ?_) | (refine m_ext rfl rfl ?_))) | refine end_ops ?_ | refine seq_ops ?_ | refine AW_ret ?_ | refine ret_done ?_)
    exact outs_tup2 outs_v (outs_b rfl)
  · rw [if_neg h, decide_eq_false h]
    refine spec_of Tryd.func33 rfl cc33 rfl ?_
    unfold ac33
    repeat (first | (refine step_ops ?_; (first | (refine m_mov (by conv => lhs; whnf) ?_) | (refine m_box rfl ?_ ?_; (· first | rfl | (simp [cellOk, Value.oneCell']; done))) | (refine m_ldall rfl rfl ?_ ?_; (· first | rfl | (simp; done) | (simp [*]; done))))) | refine end_ops ?_ | refine seq_ops ?_ | refine AW_seq ?_)
    (refine step_ops ?_); (apply m_call (haGood_spec c G hG)); (· repeat (first | exact lends_nil | (refine lends_cons ?_ ?_; (· (refine lend_pln rfl; done)))))
    repeat (first | (refine step_ops ?_; (first | (refine m_mov (by conv => lhs; whnf) ?_) | (refine m_not rfl ?_))) | refine end_ops ?_ | refine seq_ops ?_ | (refine cond_t rfl ?_ ?_; (· first | rfl | assumption | (refine decide_eq_true ?_; first | assumption | omega) | (refine nt ?_; first | assumption | omega) | (simp [*]; done))) | refine AW_ret ?_ | refine ret_done ?_ | refine ret_then ?_)
    exact outs_tup2 outs_v (outs_b rfl)
theorem implWorstHats_spec (c : Int) (G : List (List UInt8)) (k : Nat) (hG : G.length ≤ 1048576) (hk : IsPln c G → IsWst c.toNat G k) : Sp Tryd.prog 34 [pln c G] (whR c G k) := by
  have hr := readHatPlan_spec c G hG
  unfold rdR at hr
  unfold whR whT
  by_cases h : IsPln c G
  · obtain ⟨n, rfl, h2, h3⟩ := pln_nat h
    have hw := hk h
    rw [if_pos h, decide_eq_true h] at hr ⊢
    unfold gmV at hr
    rw [Int.toNat_natCast] at hw hr ⊢
    have h4 := h.1
    have hp := pow_le n (by omega) G.length (by omega)
    have hp0 := pow_ne h
    have hrl := rls_len n G (n ^ G.length)
    have hmn := slicesMin_spec (rls n G (n ^ G.length)) (by omega) (by omega)
    rw [mn_rls hw] at hmn
    have hix := slicesIdx_spec (rls n G (n ^ G.length)) (rtN n G k : Nat) k (by have := hw.1; omega) (rls_get n G hw.1) (fun j hj => by
      rw [rls_get n G (by have := hw.1; omega)]
      have := hw.2.1 j hj
      omega) (by omega)
    have hal := allH_len n G.length
    have hat := txs_at (G := allH n G.length) (k := k) (by have := hw.1; omega)
    rw [allH_get hw.1] at hat
    have hkl : k < (allH n G.length).length := by have := hw.1; omega
    refine spec_of Tryd.func34 rfl cc34 rfl ?_
    unfold ac34
    repeat (first | (refine step_ops ?_; (first | (refine m_mov (by conv => lhs; whnf) ?_) | (refine m_box rfl ?_ ?_; (· first | rfl | (simp [cellOk, Value.oneCell']; done))) | (refine m_ldall rfl rfl ?_ ?_; (· first | rfl | (simp; done) | (simp [*]; done))))) | refine end_ops ?_ | refine seq_ops ?_)
    (refine step_ops ?_); (apply m_call (hr)); (· repeat (first | exact lends_nil | (refine lends_cons ?_ ?_; (· (refine lend_pln rfl; done)))))
    repeat (first | (refine step_ops ?_; (first | (refine m_mov (by conv => lhs; whnf) ?_) | (refine m_not rfl ?_) | (refine m_ext rfl rfl ?_) | (refine m_alloc ?_) | (refine m_ldall rfl rfl ?_ ?_; (· first | rfl | (simp; done) | (simp [*]; done))) | (refine m_stall rfl rfl rfl ?_ ?_ ?_ ?_; (· first | rfl | (simp [*]; done)); (· first | rfl | (simp [*]; done)); (· first | rfl | (simp [cellOk, Value.oneCell']; done))))) | refine end_ops ?_ | refine seq_ops ?_ | (refine cond_f rfl ?_ ?_; (· first | rfl | assumption | (refine decide_eq_false ?_; first | assumption | omega) | (refine nf ?_; first | assumption | omega) | (simp [*]; done))) | refine skip_then ?_ | refine AW_seq ?_)
    refine step_ops ?_
    refine m_call (rightNumbers_spec n G [] h) ?_ ?_
    · exact lends_cons lend_gmr lends_nil
    repeat (first | (refine step_ops ?_; (first | (refine m_mov (by conv => lhs; whnf) ?_) | (apply m_ld_pt; (· rfl); (· rfl); (· rfl)) | (refine m_fa rfl ?_))) | refine end_ops ?_ | refine seq_ops ?_)
    (refine step_ops ?_); (apply m_call (allHats_spec G.length n (by omega) (by omega) (by omega))); (· repeat (first | exact lends_nil | (refine lends_cons ?_ ?_; (· exact lend_v))))
    repeat (refine step_ops ?_; (refine m_mov (by conv => lhs; whnf) ?_))
    (refine step_ops ?_); (apply m_call (hmn)); (· repeat (first | exact lends_nil | (refine lends_cons ?_ ?_; (· (refine lend_ints ?_; first | rfl | omega)))))
    skip
    (refine step_ops ?_); (apply m_call (hix)); (· repeat (first | exact lends_nil | (refine lends_cons ?_ ?_; (· (first | exact lend_v | (refine lend_ints ?_; first | rfl | omega))))))
    repeat (refine step_ops ?_; (refine m_idx1_ro rfl rfl ?_ ?_; (· omega)))
    refine step_ops ?_
    refine m_ld_rp rfl hat ?_
    repeat (first | (refine step_ops ?_; (refine m_mov (by conv => lhs; whnf) ?_)) | refine end_ops ?_ | refine AW_ret ?_ | refine ret_done ?_)
    exact outs_tup2 outs_v (outs_b rfl)
  · rw [if_neg h, decide_eq_false h] at hr ⊢
    unfold noGm at hr
    refine spec_of Tryd.func34 rfl cc34 rfl ?_
    unfold ac34
    repeat (first | (refine step_ops ?_; (first | (refine m_mov (by conv => lhs; whnf) ?_) | (refine m_box rfl ?_ ?_; (· first | rfl | (simp [cellOk, Value.oneCell']; done))) | (refine m_ldall rfl rfl ?_ ?_; (· first | rfl | (simp; done) | (simp [*]; done))))) | refine end_ops ?_ | refine seq_ops ?_)
    (refine step_ops ?_); (apply m_call (hr)); (· repeat (first | exact lends_nil | (refine lends_cons ?_ ?_; (· (refine lend_pln rfl; done)))))
    repeat (first | (refine step_ops ?_; (first | (refine m_mov (by conv => lhs; whnf) ?_) | (refine m_not rfl ?_) | (refine m_ext rfl rfl ?_) | (refine m_alloc ?_) | (refine m_stall rfl rfl rfl ?_ ?_ ?_ ?_; (· first | rfl | (simp [*]; done)); (· first | rfl | (simp [*]; done)); (· first | rfl | (simp [cellOk, Value.oneCell']; done))))) | refine end_ops ?_ | refine seq_ops ?_ | (refine cond_t rfl ?_ ?_; (· first | rfl | assumption | (refine decide_eq_true ?_; first | assumption | omega) | (refine nt ?_; first | assumption | omega) | (simp [*]; done))) | refine AW_seq ?_ | refine AW_ret ?_ | refine ret_done ?_ | refine ret_then ?_)
    exact outs_tup2 outs_v (outs_b rfl)

theorem specCountByRight_spec (c : Int) (G : List (List UInt8)) (hG : G.length ≤ 1048576) : Sp Tryd.prog 31 [pln c G] (cbR c G) := by
  unfold cbR cbL
  by_cases h : IsPln c G
  · obtain ⟨n, rfl, h2, h3⟩ := pln_nat h
    obtain ⟨k, hk⟩ := has_wst n G (pow_ne h)
    rw [if_pos h, decide_eq_true h, Int.toNat_natCast]
    refine spec_of Tryd.func31 rfl cc31 rfl ?_
    unfold ac31
    repeat (first | (refine step_ops ?_; (first | (refine m_mov (by conv => lhs; whnf) ?_) | (refine m_nils ?_) | (refine m_box rfl ?_ ?_; (· first | rfl | (simp [cellOk, Value.oneCell']; done))) | (refine m_ldall rfl rfl ?_ ?_; (· first | rfl | (simp; done) | (simp [*]; done))))) | refine end_ops ?_ | refine seq_ops ?_ | refine AW_seq ?_)
    (refine step_ops ?_); (apply m_call (haGood_spec n G hG)); (· repeat (first | exact lends_nil | (refine lends_cons ?_ ?_; (· (refine lend_pln rfl; done)))))
    repeat (first | (refine step_ops ?_; (first | (refine m_not rfl ?_) | (refine m_ldall rfl rfl ?_ ?_; (· first | rfl | (simp; done) | (simp [*]; done))))) | refine end_ops ?_ | refine seq_ops ?_ | (refine cond_f rfl ?_ ?_; (· first | rfl | assumption | (refine decide_eq_false ?_; first | assumption | omega) | (refine nf ?_; first | assumption | omega) | (simp [*]; done))) | refine skip_then ?_)
    (refine step_ops ?_); (apply m_callt (haBy_spec n G k h hk)); (· repeat (first | exact lends_nil | (refine lends_cons ?_ ?_; (· (refine lend_pln rfl; done))))); (· first | exact allv_ints _ | rfl | (simp; done)); (· first | rfl | (simp; done))
    repeat (first | (refine step_ops ?_; (first | (refine m_mov (by conv => lhs; whnf) ?_) | (refine m_ext rfl rfl ?_))) | refine end_ops ?_ | refine seq_ops ?_ | refine AW_ret ?_ | refine ret_done ?_)
    exact outs_tup2 (outs_ints rfl rfl rfl) (outs_b rfl)
  · rw [if_neg h, decide_eq_false h]
    refine spec_of Tryd.func31 rfl cc31 rfl ?_
    unfold ac31
    repeat (first | (refine step_ops ?_; (first | (refine m_mov (by conv => lhs; whnf) ?_) | (refine m_nils ?_) | (refine m_box rfl ?_ ?_; (· first | rfl | (simp [cellOk, Value.oneCell']; done))) | (refine m_ldall rfl rfl ?_ ?_; (· first | rfl | (simp; done) | (simp [*]; done))))) | refine end_ops ?_ | refine seq_ops ?_ | refine AW_seq ?_)
    (refine step_ops ?_); (apply m_call (haGood_spec c G hG)); (· repeat (first | exact lends_nil | (refine lends_cons ?_ ?_; (· (refine lend_pln rfl; done)))))
    repeat (first | (refine step_ops ?_; (first | (refine m_mov (by conv => lhs; whnf) ?_) | (refine m_not rfl ?_) | (refine m_nils ?_))) | refine end_ops ?_ | refine seq_ops ?_ | (refine cond_t rfl ?_ ?_; (· first | rfl | assumption | (refine decide_eq_true ?_; first | assumption | omega) | (refine nt ?_; first | assumption | omega) | (simp [*]; done))) | refine AW_ret ?_ | refine ret_done ?_ | refine ret_then ?_)
    exact outs_tup2 (outs_ints rfl rfl rfl) (outs_b rfl)
theorem implCountByRight_spec (c : Int) (G : List (List UInt8)) (hG : G.length ≤ 1048576) : Sp Tryd.prog 32 [pln c G] (cbR c G) := by
  have hr := readHatPlan_spec c G hG
  unfold rdR at hr
  unfold cbR cbL
  by_cases h : IsPln c G
  · obtain ⟨n, rfl, h2, h3⟩ := pln_nat h
    rw [if_pos h, decide_eq_true h] at hr ⊢
    unfold gmV at hr
    rw [Int.toNat_natCast] at hr ⊢
    have h4 := h.1
    have hp := pow_le n (by omega) G.length (by omega)
    have hrl := rls_len n G (n ^ G.length)
    refine spec_of Tryd.func32 rfl cc32 rfl ?_
    unfold ac32
    repeat (first | (refine step_ops ?_; (first | (refine m_mov (by conv => lhs; whnf) ?_) | (refine m_nils ?_) | (refine m_box rfl ?_ ?_; (· first | rfl | (simp [cellOk, Value.oneCell']; done))) | (refine m_ldall rfl rfl ?_ ?_; (· first | rfl | (simp; done) | (simp [*]; done))))) | refine end_ops ?_ | refine seq_ops ?_)
    (refine step_ops ?_); (apply m_call (hr)); (· repeat (first | exact lends_nil | (refine lends_cons ?_ ?_; (· (refine lend_pln rfl; done)))))
    repeat (first | (refine step_ops ?_; (first | (refine m_mov (by conv => lhs; whnf) ?_) | (refine m_add rfl rfl ?_ ?_ ?_; (· omega); (· omega)) | (refine m_not rfl ?_) | (apply m_ld_pt; (· rfl); (· rfl); (· rfl)) | (refine m_ext rfl rfl ?_) | (refine m_alloc ?_) | (refine m_fa rfl ?_) | (refine m_stall rfl rfl rfl ?_ ?_ ?_ ?_; (· first | rfl | (simp [*]; done)); (· first | rfl | (simp [*]; done)); (· first | rfl | (simp [cellOk, Value.oneCell']; done))))) | refine end_ops ?_ | refine seq_ops ?_ | (refine cond_f rfl ?_ ?_; (· first | rfl | assumption | (refine decide_eq_false ?_; first | assumption | omega) | (refine nf ?_; first | assumption | omega) | (simp [*]; done))) | refine skip_then ?_ | refine AW_seq ?_)
    refine step_ops ?_
    refine m_mk (n := G.length + 1) rfl rfl ?_ ?_ ?_
    · omega
    · omega
    repeat (first | (refine step_ops ?_; (first | (refine m_mov (by conv => lhs; whnf) ?_) | (refine m_ldall rfl rfl ?_ ?_; (· first | rfl | (simp; done) | (simp [*]; done))))) | refine end_ops ?_ | refine seq_ops ?_ | refine AW_seq ?_)
    refine step_ops ?_
    refine m_call (rightNumbers_spec n G [] h) ?_ ?_
    · exact lends_cons lend_gmr lends_nil
    repeat (first | (refine step_ops ?_; (first | (refine m_mov (by conv => lhs; whnf) ?_) | (refine m_len_ro rfl ?_))) | refine end_ops ?_ | refine AW_block ?_)
    refine AW_loop (α := Nat) (fun k => k ≤ n ^ G.length) (fun k => st [(6, .sl 19 1 0 (G.length + 1)), (21, newInts (rls n G (n ^ G.length))), (22, .i (rls n G (n ^ G.length)).length), (23, .i k)] [(19, (true, (cntL n G k).map AV.i))]) (fun k => n ^ G.length - k) 0 (Nat.zero_le _) (weak_st ?_ ?_ rfl rfl) ?_
    · (repeat' (first | exact trivial | refine And.intro ?_ ?_)) <;> (first | rfl | skip)
    · refine ⟨?_, trivial⟩
      rw [cntL_zero]
      show some (true, (List.replicate (G.length + 1) (List.map AV.v [Value.int .i64 0])).flatten) = _
      simp [List.flatten_replicate_singleton]
    intro k hk
    by_cases hlt : k < n ^ G.length
    · have hrk := rls_get n G hlt
      have hle := rtN_le n G k
      have hcl := cntL_len n G k
      have hset := cntL_set n G k
      have hget := cntL_get n G (n := k) (r := rtN n G k) (by omega)
      have hcle := cntR_le n G k (rtN n G k)
      rw [← hget] at hset
      have hL : 0 ≤ (cntL n G k).getD (rtN n G k) 0 ∧ (cntL n G k).getD (rtN n G k) 0 ≤ 81 := by omega
      repeat (first | (refine step_ops ?_; (first | (refine m_mov (by conv => lhs; whnf) ?_) | (refine m_lss rfl rfl ?_) | (refine m_add rfl rfl ?_ ?_ ?_; (· omega); (· omega)) | (refine m_idx1_ro rfl rfl ?_ ?_; (· omega)) | (apply m_idx1_slj; (· rfl); (· rfl); (· assumption); (· omega)) | (refine m_ld_rpi rfl ?_ ?_; (· omega)) | (refine m_ld_pti rfl (by rfl) ?_ ?_; (· first | omega | (simp; omega))) | (apply m_st; (· rfl); (· rfl); (· rfl); (· first | omega | (simp; done) | (simp; omega)); (· rfl)))) | refine end_ops ?_ | refine seq_ops ?_ | refine AW_ops ?_ | (refine cond_t rfl ?_ ?_; (· first | rfl | assumption | (refine decide_eq_true ?_; first | assumption | omega) | (refine nt ?_; first | assumption | omega) | (simp [*]; done))) | refine skip_then ?_ | refine AW_seq ?_ | refine norm_then ?_ | refine AW_block ?_ | refine norm_block ?_)
      refine next_round (k + 1) hlt (weak_st ?_ ?_ rfl rfl) ?_
      · (repeat' (first | exact trivial | refine And.intro ?_ ?_)) <;> (first | rfl | skip)
      · refine ⟨?_, trivial⟩
        show some (true, ((cntL n G k).map AV.i).set (rtN n G k) (AV.i ((cntL n G k).getD (rtN n G k) 0 + 1))) = _
        rw [← hset, List.map_set]
      · omega
    · obtain rfl : k = n ^ G.length := by omega
      repeat (first | (refine step_ops ?_; (first | (refine m_mov (by conv => lhs; whnf) ?_) | (refine m_lss rfl rfl ?_))) | refine end_ops ?_ | refine seq_ops ?_ | (refine cond_f rfl ?_ ?_; (· first | rfl | assumption | (refine decide_eq_false ?_; first | assumption | omega) | (refine nf ?_; first | assumption | omega) | (simp [*]; done))) | refine AW_seq ?_ | refine AW_ret ?_ | refine ret_done ?_ | refine norm_then ?_ | refine exit_then ?_ | refine exit_round ?_ | refine AW_exit ?_ | refine exit_block ?_)
      exact outs_tup2 (outs_ints rfl rfl (by rw [cntL_len])) (outs_b rfl)
  · rw [if_neg h, decide_eq_false h] at hr ⊢
    unfold noGm at hr
    refine spec_of Tryd.func32 rfl cc32 rfl ?_
    unfold ac32
    repeat (first | (refine step_ops ?_; (first | (refine m_mov (by conv => lhs; whnf) ?_) | (refine m_nils ?_) | (refine m_box rfl ?_ ?_; (· first | rfl | (simp [cellOk, Value.oneCell']; done))) | (refine m_ldall rfl rfl ?_ ?_; (· first | rfl | (simp; done) | (simp [*]; done))))) | refine end_ops ?_ | refine seq_ops ?_)
    (refine step_ops ?_); (apply m_call (hr)); (· repeat (first | exact lends_nil | (refine lends_cons ?_ ?_; (· (refine lend_pln rfl; done)))))
    repeat (first | (refine step_ops ?_; (first | (refine m_mov (by conv => lhs; whnf) ?_) | (refine m_not rfl ?_) | (refine m_nils ?_) | (refine m_ext rfl rfl ?_) | (refine m_alloc ?_) | (refine m_stall rfl rfl rfl ?_ ?_ ?_ ?_; (· first | rfl | (simp [*]; done)); (· first | rfl | (simp [*]; done)); (· first | rfl | (simp [cellOk, Value.oneCell']; done))))) | refine end_ops ?_ | refine seq_ops ?_ | (refine cond_t rfl ?_ ?_; (· first | rfl | assumption | (refine decide_eq_true ?_; first | assumption | omega) | (refine nt ?_; first | assumption | omega) | (simp [*]; done))) | refine AW_seq ?_ | refine AW_ret ?_ | refine ret_done ?_ | refine ret_then ?_)
    exact outs_tup2 (outs_ints rfl rfl rfl) (outs_b rfl)
end Go.Proofs.YtenaaellhghfgaaDoor
