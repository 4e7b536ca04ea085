/- Contracts: masked plans. -/
import Derived.Test.YtenaaellhghfgaaDoorHtP
import Derived.Test.YtenaaellhghfgaaDoorHtX3
namespace Go.Am
variable {s : AS}
theorem outs_nilro {z : Nat} : Outs s (.v (.slice none 0 0)) (.ro true z [] 0) := by
  intro w0 N tm w phi ro y hS hy
  simp only [SimV] at hy ⊢
  exact .inl ⟨trivial, trivial, none, 0, hy, by simp⟩
theorem outs_ron {z n : Nat} {cs : List AV} (hall : cs.all plainV = true) : Outs s (.ro true z cs n) (.ro true z cs n) := by
  intro w0 N tm w phi ro y hS h
  simp only [SimV] at h ⊢
  rcases h with h | ⟨b, o, cap, cur, e, fz, h1, h2, h3, h4, h5, h6, h7⟩
  · exact .inl h
  · obtain ⟨k1, k2⟩ := h6 trivial
    exact .inr ⟨b, o, cap, cur, e, fz, h1, h2, ⟨k1, lt_of_get h2⟩, h4, h5, fun _ => ⟨k1, k2⟩, simL_allv hall h7⟩
end Go.Am
namespace Go.Proofs.YtenaaellhghfgaaDoor
open Go.Am
attribute [local irreducible] AW Outs Weak Lends Lend Sp aops atree aop1 Then Round InBlock Done
attribute [local simp] txs_len

theorem guessByMask_spec (g c : Nat) (mp : AV) (mask : List UInt8) (i : Nat) (D : List UInt8) (hi : i < mask.length) (hb : 48 ≤ (mask.getD i 0).toNat) (m3 : cellOk true mp = true) :
    Sp Tryd.prog 74 [.agg [.i g, .i c, mp, str mask], .agg [.i i, str D]] (.i (hv (mask.getD i 0) : Nat)) := by
  have hok : ([AV.i (g : Int), AV.i (c : Int), mp, str mask]).all (cellOk true) = true := by
    simp only [List.all_cons, List.all_nil, m3, Bool.true_and, Bool.and_true]
    rfl
  have hlt := (mask.getD i 0).toNat_lt
  refine spec_of Tryd.func74 rfl cc74 rfl ?_
  unfold ac74
  refine seq_ops ?_
  refine step_ops ?_
  refine m_box rfl hok ?_
  repeat (first | (refine step_ops ?_; (first | (refine m_mov (by conv => lhs; whnf) ?_) | (refine m_six' rfl rfl ?_ ?_; (· first | omega | (simp; omega))) | (apply m_ld_pt; (· rfl); (· rfl); (· rfl)) | (refine m_fa rfl ?_) | (refine m_cvt rfl ?_) | (refine m_box rfl ?_ ?_; (· first | rfl | (simp [cellOk, Value.oneCell']; done))))) | refine end_ops ?_ | refine seq_ops ?_)
  rw [wr32 _ (by omega) (by omega)]
  skip
  (refine step_ops ?_); (apply m_call (colourOf_byte _ hb)); (· repeat (first | exact lends_nil | (refine lends_cons ?_ ?_; (· exact lend_v))))
  repeat (first | (refine step_ops ?_; (refine m_mov (by conv => lhs; whnf) ?_)) | refine end_ops ?_ | refine AW_ret ?_ | refine ret_done ?_)
  exact outs_i rfl

theorem guessByBoth_spec (c : Nat) (G : List (List UInt8)) (mask : List UInt8) (h : AskOk c G mask) (i v : Nat) (hi : i < G.length) (hv' : v < c ^ (G.length - 1)) :
    Sp Tryd.prog 63 [.agg [.i G.length, .i c, .rmp false (esV (gAll c G G.length)) (gAll c G G.length).length, str mask], .agg [.i i, str (dgs c (G.length - 1) v)]] (.i ((hv ((G.getD i []).getD v 0) : Nat) + (hv (mask.getD i 0) : Nat) : Int)) := by
  obtain ⟨h1, hl, ht⟩ := h
  rw [Int.toNat_natCast] at ht
  have h4 := h1.1
  have hc := h1.2.1
  have hb := col_at ht (k := i) (by omega)
  have hin : ((i, dgs c (G.length - 1) v), hv ((G.getD i []).getD v 0)) ∈ gAll c G G.length := mem_gAll.2 ⟨i, v, hi, hv', rfl⟩
  have huq : ∀ p ∈ gAll c G G.length, p.1 = (i, dgs c (G.length - 1) v) → p.2 = hv ((G.getD i []).getD v 0) := by
    intro p hp e
    obtain ⟨g, j, hg, hj, rfl⟩ := mem_gAll.1 hp
    simp only [Prod.mk.injEq] at e
    obtain ⟨rfl, e⟩ := e
    rw [dgs_inj (by omega) (by omega) (by omega) hj hv' e]
  have hdl := dgs_len c (G.length - 1) v
  have hm := guessByMask_spec G.length c (.rmp false (esV (gAll c G G.length)) (gAll c G G.length).length) mask i (dgs c (G.length - 1) v) (by omega) hb.1 rfl
  have hhv : hv ((G.getD i []).getD v 0) < 256 := by
    have := ((G.getD i []).getD v 0).toNat_lt
    unfold hv
    omega
  have hhm : hv (mask.getD i 0) < 256 := by unfold hv; omega
  generalize dgs c (G.length - 1) v = D at *
  refine spec_of Tryd.func63 rfl cc63 rfl ?_
  unfold ac63
  repeat (first | ((first | refine step_ops ?_ | refine step_tree ?_); (first | (refine m_mov (by conv => lhs; whnf) ?_) | (apply m_ld_pt; (· rfl); (· rfl); (· rfl)) | (refine m_fa rfl ?_) | (refine m_box rfl ?_ ?_; (· first | rfl | (simp [cellOk, Value.oneCell']; done))) | (refine m_ldall rfl rfl ?_ ?_; (· first | rfl | (simp; done) | (simp [*]; done))))) | refine end_ops ?_ | refine seq_ops ?_ | refine seq_tree ?_)
  refine step_tree ?_
  refine m_getView (l := gAll c G G.length) (g := i) (t := D) (v := hv ((G.getD i []).getD v 0)) (few_gAll (by omega)) (.inr ⟨false, rfl⟩) rfl (by omega) (by omega) hin huq ?_
  repeat (refine step_tree ?_; (refine m_ldall rfl rfl ?_ ?_; (· first | rfl | (simp; done) | (simp [*]; done))))
  refine step_tree ?_
  refine m_call hm ?_ ?_
  · exact lends_cons (lend_game rfl rfl) (lends_cons (lend_agg rfl) lends_nil)
  repeat (first | (refine step_tree ?_; (first | (refine m_mov (by conv => lhs; whnf) ?_) | (refine m_add rfl rfl ?_ ?_ ?_; (· omega); (· omega)))) | refine end_tree ?_ | refine AW_ret ?_ | refine ret_done ?_)
  exact outs_i rfl

/-- What MaskPlan tells. -/
def mkF (c : Nat) (G : List (List UInt8)) (t : List UInt8) (i v : Nat) : Nat := (hv ((G.getD i []).getD v 0) + hv (t.getD i 0)) % c
def mpC (c : Int) (G : List (List UInt8)) (t : List UInt8) : Int := if AskOk c G t then c else 0
def mpG (c : Int) (G : List (List UInt8)) (t : List UInt8) : List (List UInt8) := if AskOk c G t then plG c.toNat G.length (mkF c.toNat G t) G.length else []
def mpR (c : Int) (G : List (List UInt8)) (t : List UInt8) : AV := .tup [newPln (mpC c G t) (mpG c G t), .b (decide (AskOk c G t))]
theorem mpG_le (c : Int) (G : List (List UInt8)) (t : List UInt8) : (mpG c G t).length ≤ 4 := by
  unfold mpG
  split
  · rename_i h
    rw [plG_len]
    exact h.1.1.2
  · simp

set_option maxRecDepth 20000 in
theorem implMaskPlan_spec (c : Int) (G : List (List UInt8)) (t : List UInt8) (hG : G.length ≤ 1048576) : Sp Tryd.prog 36 [pln c G, str t] (mpR c G t) := by
  have hr := readHatPlanFor_spec c G t hG
  unfold rfR at hr
  unfold mpR mpC mpG
  by_cases h : AskOk c G t
  · obtain ⟨n, rfl, h2, h3⟩ := pln_nat h.1
    have h4 := h.1.1
    rw [if_pos h, decide_eq_true h] at hr ⊢
    rw [if_pos h]
    unfold gmV at hr
    rw [Int.toNat_natCast] at hr ⊢
    have hht := h.2.2
    rw [Int.toNat_natCast] at hht
    have hX : ∀ i v, i < G.length → v < n ^ (G.length - 1) → -1000 ≤ ((hv ((G.getD i []).getD v 0) : Nat) + (hv (t.getD i 0) : Nat) : Int) ∧ ((hv ((G.getD i []).getD v 0) : Nat) + (hv (t.getD i 0) : Nat) : Int) ≤ 1000 ∧ ((hv ((G.getD i []).getD v 0) : Nat) + (hv (t.getD i 0) : Nat) : Int) % (n : Int) = (mkF n G t i v : Nat) ∧ mkF n G t i v < n := by
      intro i v hi hv'
      have hu1 := ((G.getD i []).getD v 0).toNat_lt
      have hu2 := (t.getD i 0).toNat_lt
      have hh1 : hv ((G.getD i []).getD v 0) < 256 := by unfold hv; omega
      have hh2 : hv (t.getD i 0) < 256 := by unfold hv; omega
      refine ⟨by omega, by omega, ?_, Nat.mod_lt _ (by omega)⟩
      unfold mkF
      push_cast
      rfl
    have hpb := planBy_spec G.length n (.rmp false (esV (gAll n G G.length)) (gAll n G G.length).length) t 63 (fun i v => ((hv ((G.getD i []).getD v 0) : Nat) + (hv (t.getD i 0) : Nat) : Int)) (mkF n G t) h4.1 h4.2 h2 h3 rfl rfl rfl ⟨_, Tryd.func63, by rfl, by rfl⟩ hX (fun i v hi hv' => guessByBoth_spec n G t h i v hi hv')
    refine specG_of Tryd.func36 rfl cc36 (by rfl) ?_
    unfold ac36
    repeat (first | (refine step_ops ?_; (first | (refine m_mov (by conv => lhs; whnf) ?_) | (refine m_alloc ?_) | (refine m_box rfl ?_ ?_; (· first | rfl | (simp [cellOk, Value.oneCell']; done))) | (refine m_ldall rfl rfl ?_ ?_; (· first | rfl | (simp; done) | (simp [*]; done))))) | refine end_ops ?_ | refine seq_ops ?_)
    (refine step_ops ?_); (apply m_call (hr)); (· repeat (first | exact lends_nil | (refine lends_cons ?_ ?_; (· (first | exact lend_v | (refine lend_pln rfl; done))))))
    repeat (first | (refine step_ops ?_; (first | (refine m_mov (by conv => lhs; whnf) ?_) | (refine m_not rfl ?_) | (refine m_ext rfl rfl ?_) | (refine m_alloc ?_) | (refine m_fa rfl ?_) | (refine m_stall rfl rfl rfl ?_ ?_ ?_ ?_; (· first | rfl | (simp [*]; done)); (· first | rfl | (simp [*]; done)); (· first | rfl | (simp [cellOk, Value.oneCell']; done))))) | refine end_ops ?_ | refine seq_ops ?_ | (refine cond_f rfl ?_ ?_; (· first | rfl | assumption | (refine decide_eq_false ?_; first | assumption | omega) | (refine nf ?_; first | assumption | omega) | (simp [*]; done))) | refine skip_then ?_ | refine AW_seq ?_)
    refine step_ops ?_
    refine m_st (off := 3) (cs := [.i G.length, .i n, .rmp true (esV (gAll n G G.length)) (gAll n G G.length).length, str []]) (v := str t) rfl rfl rfl (by simp) rfl ?_
    repeat (first | (refine step_ops ?_; (refine m_ldall rfl rfl ?_ ?_; (· first | rfl | (simp; done) | (simp [*]; done)))) | refine end_ops ?_ | refine seq_ops ?_)
    refine step_ops ?_
    refine m_call hpb ?_ ?_
    · exact lends_cons (lend_aggM rfl) (lends_cons lend_v lends_nil)
    repeat (first | (refine step_ops ?_; (first | (refine m_mov (by conv => lhs; whnf) ?_) | (refine m_stall rfl rfl rfl ?_ ?_ ?_ ?_; (· first | rfl | (simp [*]; done)); (· first | rfl | (simp [*]; done)); (· first | rfl | (simp [cellOk, Value.oneCell']; done))))) | refine end_ops ?_ | refine AW_ret ?_)
    refine ret_doneg2 rfl rfl rfl ?_
    exact outs_tup2 (outs_agg2 (outs_i rfl) (outs_ron (txs_plain _))) (outs_b rfl)
  · rw [if_neg h, decide_eq_false h] at hr ⊢
    rw [if_neg h]
    unfold noGm at hr
    refine specG_of Tryd.func36 rfl cc36 (by rfl) ?_
    unfold ac36
    repeat (first | (refine step_ops ?_; (first | (refine m_mov (by conv => lhs; whnf) ?_) | (refine m_alloc ?_) | (refine m_box rfl ?_ ?_; (· first | rfl | (simp [cellOk, Value.oneCell']; done))) | (refine m_ldall rfl rfl ?_ ?_; (· first | rfl | (simp; done) | (simp [*]; done))))) | refine end_ops ?_ | refine seq_ops ?_)
    (refine step_ops ?_); (apply m_call (hr)); (· repeat (first | exact lends_nil | (refine lends_cons ?_ ?_; (· (first | exact lend_v | (refine lend_pln rfl; done))))))
    repeat (first | (refine step_ops ?_; (first | (refine m_mov (by conv => lhs; whnf) ?_) | (refine m_not rfl ?_) | (refine m_ext rfl rfl ?_) | (refine m_alloc ?_) | (refine m_bld rfl ?_) | (refine m_stall rfl rfl rfl ?_ ?_ ?_ ?_; (· first | rfl | (simp [*]; done)); (· first | rfl | (simp [*]; done)); (· first | rfl | (simp [cellOk, Value.oneCell']; done))))) | refine end_ops ?_ | refine seq_ops ?_ | (refine cond_t rfl ?_ ?_; (· first | rfl | assumption | (refine decide_eq_true ?_; first | assumption | omega) | (refine nt ?_; first | assumption | omega) | (simp [*]; done))) | refine AW_seq ?_ | refine AW_ret ?_ | refine ret_then ?_)
    refine ret_doneg2 rfl rfl rfl ?_
    exact outs_tup2 (outs_agg2 (outs_i rfl) outs_nilro) (outs_b rfl)
end Go.Proofs.YtenaaellhghfgaaDoor
