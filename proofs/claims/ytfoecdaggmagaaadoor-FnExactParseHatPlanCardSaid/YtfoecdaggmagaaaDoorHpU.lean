/- Contracts: a plan read out of a text, by the specification. -/
import Derived.Test.YtfoecdaggmagaaaDoorHtU
import Derived.Test.YtfoecdaggmagaaaDoorHpX2
import Derived.Test.YtfoecdaggmagaaaDoorAmHv
namespace Go.Proofs.YtfoecdaggmagaaaDoor
open Go.Am
attribute [local irreducible] AW Outs Weak Lends Lend Sp aops atree aop1 Then Round InBlock Done
attribute [local simp] txs_len

theorem word_len : ∀ (k : Nat) (B : List UInt8), ∀ w ∈ splitNB k B, w.length ≤ B.length
  | 0, B, w, h => by simp [splitNB] at h; subst h; exact Nat.le_refl _
  | k + 1, B, w, h => by
    by_cases hm : (58 : UInt8) ∈ B
    · obtain ⟨p, q, h1, rfl⟩ := cut_at hm
      rw [splitNB_cut h1] at h
      rcases List.mem_cons.1 h with rfl | h
      · simp
      · have := word_len k q w h
        simp
        omega
    · rw [splitNB_one hm] at h
      simp at h; subst h; exact Nat.le_refl _
/-- What ParseHatPlan tells. -/
def ppC (B : List UInt8) : Int := if PaOk B then paC B else 0
def ppG (B : List UInt8) : List (List UInt8) := if PaOk B then paG B else []
def ppR (B : List UInt8) : AV := .tup [newPln (ppC B) (ppG B), .b (decide (PaOk B))]
theorem ppG_le (B : List UInt8) : (ppG B).length ≤ 4 := by
  unfold ppG
  split
  · rename_i h
    exact h.1.1.2
  · simp
theorem pln_of_int {c : Int} {G : List (List UInt8)} (h : IsPln c G) : IsPln (c.toNat : Nat) G := by
  obtain ⟨n, rfl, _⟩ := pln_nat h
  rw [Int.toNat_natCast]
  exact h
theorem pa_iff {c : Int} {G : List (List UInt8)} {B : List UInt8} (h : IsPln c G) (ht : shT c.toNat G = B) : PaOk B ∧ (paC B : Int) = c ∧ paG B = G := by
  obtain ⟨h1, h2, h3⟩ := pa_of (pln_of_int h) ht
  obtain ⟨n, rfl, _⟩ := pln_nat h
  rw [Int.toNat_natCast] at h2
  exact ⟨h1, by rw [h2], h3⟩
/-- What haParse finds. -/
def hpC (B : List UInt8) : Int := if B.length ≤ 200 then rd ((splitB B).getD 0 []) else 0
def hpG (B : List UInt8) : List (List UInt8) := if B.length ≤ 200 then (splitB B).drop 1 else []
theorem pa_short {B : List UInt8} (h : PaOk B) : B.length ≤ 200 := by
  have := shT_len h.1
  rw [h.2] at this
  omega
theorem pa_hp {B : List UInt8} (h : PaOk B) : hpC B = ppC B ∧ hpG B = ppG B := by
  unfold hpC hpG ppC ppG
  rw [if_pos (pa_short h), if_pos (pa_short h), if_pos h, if_pos h, (pa_words h).1]
  have hc := h.1.2.1
  exact ⟨rd_hg (paC B) (by omega), rfl⟩
theorem hp_pa {B : List UInt8} (hl : B.length ≤ 200) : PaOk B ↔ IsPln (rd ((splitB B).getD 0 [])) ((splitB B).drop 1) ∧ shT (rd ((splitB B).getD 0 [])).toNat ((splitB B).drop 1) = B := by
  constructor
  · intro h
    obtain ⟨h1, h2⟩ := pa_hp h
    unfold hpC ppC at h1
    unfold hpG ppG at h2
    rw [if_pos hl, if_pos h] at h1 h2
    rw [h1, h2, Int.toNat_natCast]
    exact h
  · rintro ⟨h1, h2⟩
    exact (pa_iff h1 h2).1

theorem txs_cut {W : List (List UInt8)} : ((txs W).drop (1 * 1)).take ((W.length - 1) * 1) = txs (W.drop 1) := by
  rw [Nat.mul_one, Nat.mul_one, List.take_of_length_le (by simp)]
  simp [txs, List.map_drop]
theorem step_end {P : Program} {s : AS} {R : AS → Prop} (h : R s) : atree P .done s R := by unfold atree; exact h
set_option maxRecDepth 20000 in
theorem haParse_spec (B : List UInt8) (hB : B.length ≤ 1048576) : Sp Tryd.prog 9 [str B] (.tup [newPln (hpC B) (hpG B), .b (decide (PaOk B))]) := by
  unfold hpC hpG
  by_cases hl : B.length ≤ 200
  · rw [if_pos hl, if_pos hl]
    have hpa := hp_pa hl
    have hlen := splitB_len B
    have hcnt : B.count 58 ≤ B.length := List.count_le_length
    have hw0 : ((splitB B).getD 0 []).length ≤ 200 := by
      have := word_len _ B _ (show (splitB B).getD 0 [] ∈ splitNB _ B from getD_memL (d := []) (show 0 < (splitB B).length by omega))
      omega
    have hsp := l1Split_spec B hB
    have hat := txs_at (G := splitB B) (k := 0) (by omega)
    have hrd := l1Read_spec ((splitB B).getD 0 []) (by omega)
    have hcut := txs_cut (W := splitB B)
    have hGl : ((splitB B).drop 1).length = (splitB B).length - 1 := by simp
    have hW : 1 ≤ (splitB B).length := by omega
    have hW2 : (splitB B).length ≤ 300 := by omega
    have hok : (((txs (splitB B)).drop (1 * 1)).take (((splitB B).length - 1) * 1)).all (cellOk true) = true := by rw [hcut]; exact txs_ok _
    generalize rd ((splitB B).getD 0 []) = c at *
    generalize (splitB B).getD 0 [] = w0 at *
    generalize hGd : (splitB B).drop 1 = G at *
    generalize splitB B = W at *
    have hgood := haGood_spec c G (by omega)
    have hnl : 0 + (W.length - 1) = G.length := by omega
    refine specG_of Tryd.func9 rfl cc9 (by rfl) ?_
    unfold ac9
    repeat (first | (refine step_ops ?_; (first | (refine m_mov (by conv => lhs; whnf) ?_) | (refine m_gtr rfl rfl ?_) | (refine m_slen rfl ?_) | (refine m_alloc ?_))) | refine end_ops ?_ | refine seq_ops ?_ | (refine cond_f rfl ?_ ?_; (· first | rfl | assumption | (refine decide_eq_false ?_; first | assumption | omega) | (refine nf ?_; first | assumption | omega) | (simp [*]; done))) | refine skip_then ?_ | refine AW_seq ?_)
    refine step_ops ?_; (apply m_call (hsp)); (· repeat (first | exact lends_nil | (refine lends_cons ?_ ?_; (· exact lend_v))))
    repeat (first | (refine step_ops ?_; (refine m_mov (by conv => lhs; whnf) ?_)) | refine end_ops ?_ | refine seq_tree ?_)
    refine tree_weak (st [(0, str B), (2, .pt 2 0), (5, .pt 5 0)] [(2, (true, [.i 0, .v (.slice none 0 0)])), (5, (false, [.i c, .sl 19 1 0 G.length])), (19, (true, txs G))]) ?_ ?_
    · refine step_pre1 rfl rfl rfl rfl ?_
      refine m_mov (by conv => lhs; whnf) ?_
      refine ⟨⟨rfl, rfl⟩, ?_⟩
      refine step_pre1 rfl rfl rfl rfl ?_
      refine m_idx1_ro (j := 0) rfl rfl hW ?_
      refine ⟨⟨rfl, rfl⟩, ?_⟩
      refine step_pre1 rfl rfl rfl rfl ?_
      refine m_mov (by conv => lhs; whnf) ?_
      refine ⟨⟨rfl, rfl⟩, ?_⟩
      refine step_pre1 rfl rfl rfl rfl ?_
      refine m_cut_ro (l := 1) (h := W.length) rfl ⟨_, rfl⟩ rfl hW (Nat.le_refl _) ?_
      refine ⟨⟨rfl, rfl⟩, ?_⟩
      repeat' (first
        | refine step_alt ?_ ?_
        | exact step_top
        | refine step_two ?_ ?_
        | (refine step_pre2 rfl rfl ⟨rfl, rfl⟩ ⟨rfl, rfl⟩ ?_; refine m_bld_2 (v1 := .i c) (v2 := .sl 19 1 0 (0 + (W.length - 1))) rfl rfl (by decide) (by decide) rfl rfl ?_; refine ⟨⟨rfl, rfl⟩, ?_⟩)
        | (refine step_tree ?_; first
          | refine m_ld_rp rfl hat ?_
          | refine m_call hrd (lends_cons lend_v lends_nil) ?_
          | refine m_bsl0 ?_
          | refine m_allocd ?_
          | refine m_appro (cs := []) rfl (by decide) rfl rfl rfl hok (by omega) (by decide) ?_
          | refine m_bld_2 (v1 := .i c) (v2 := .sl 19 1 0 (0 + (W.length - 1))) rfl rfl (by decide) (by decide) rfl rfl ?_
          | refine m_stall (l := [.i c, .sl 19 1 0 (0 + (W.length - 1))]) rfl rfl rfl rfl rfl rfl ?_)
        | (refine step_end ?_; exact weak_st ⟨rfl, rfl, rfl, trivial⟩ ⟨rfl, congrArg (fun n => some (false, [AV.i c, AV.sl 19 1 0 n])) hnl, congrArg (fun l => some (true, l)) hcut, trivial⟩ rfl rfl))
    · intro s' hs'
      refine AW_weak (Weak.trans hs' (weak_deep (r := 2) (cs := [.i 0, .v (.slice none 0 0)]) rfl (by simp) rfl)) ?_
      have hpln : Lend (st [(0, str B), (2, .pt 2 0), (5, .pt 5 0)] [(2, (false, [.i 0, .v (.slice none 0 0)])), (5, (false, [.i c, .sl 19 1 0 G.length])), (19, (true, txs G))]).hp (.agg [.i c, .sl 19 1 0 G.length]) (pln c G) := lend_plns rfl rfl
      by_cases h : IsPln c G
      · obtain ⟨n, rfl, _⟩ := pln_nat h
        have hsh := haShown_spec n G h
        rw [Int.toNat_natCast] at hpa
        have hd : decide (PaOk B) = decide (shT n G = B) := by
          rw [decide_eq_decide, hpa]
          exact ⟨fun h => h.2, fun h2 => ⟨h, h2⟩⟩
        rw [decide_eq_true h] at hgood
        rw [hd]
        repeat (first | (refine step_tree ?_; (refine m_ldall rfl rfl ?_ ?_; (· first | rfl | (simp; done) | (simp [*]; done)))) | refine seq_tree ?_)
        refine step_tree ?_; (apply m_call (hgood)); (· repeat (first | exact lends_nil | (refine lends_cons ?_ ?_; (· (refine lend_plns rfl rfl; done)))))
        repeat (refine step_tree ?_; ((try (refine g_yes rfl ?_ ?_; (· first | rfl | assumption | (refine decide_eq_true ?_; first | assumption | omega) | (refine nt ?_; first | assumption | omega) | (simp [*]; done) | (refine decide_eq_false ?_; first | assumption | omega) | (refine nf ?_; first | assumption | omega)))); (first | (refine m_mov (by conv => lhs; whnf) ?_) | (refine m_ldall rfl rfl ?_ ?_; (· first | rfl | (simp; done) | (simp [*]; done))))))
        refine step_tree ?_; (refine g_yes rfl ?_ ?_; (· first | (first | rfl | assumption | (refine decide_eq_true ?_; first | assumption | omega) | (refine nt ?_; first | assumption | omega) | (simp [*]; done)) | (first | rfl | assumption | (refine decide_eq_false ?_; first | assumption | omega) | (refine nf ?_; first | assumption | omega) | (simp [*]; done))); (apply m_call (hsh))); (· repeat (first | exact lends_nil | (refine lends_cons ?_ ?_; (· (refine lend_plns rfl rfl; done)))))
        repeat (first | (refine step_tree ?_; ((try (refine g_yes rfl ?_ ?_; (· first | rfl | assumption | (refine decide_eq_true ?_; first | assumption | omega) | (refine nt ?_; first | assumption | omega) | (simp [*]; done) | (refine decide_eq_false ?_; first | assumption | omega) | (refine nf ?_; first | assumption | omega)))); (first | (refine m_mov (by conv => lhs; whnf) ?_) | (refine m_eqs rfl rfl ?_) | (refine m_pick_t rfl ?_ (by conv => lhs; whnf) ?_; (· first | rfl | assumption | (refine decide_eq_true ?_; first | assumption | omega) | (refine nt ?_; first | assumption | omega) | (simp [*]; done))) | (refine m_stall rfl rfl rfl ?_ ?_ ?_ ?_; (· first | rfl | (simp [*]; done)); (· first | rfl | (simp [*]; done)); (· first | rfl | (simp [cellOk, Value.oneCell']; done)))))) | refine end_tree ?_ | refine AW_ret ?_)
        refine ret_doneg2 rfl rfl rfl ?_
        exact outs_tup2 (outs_agg2 (outs_i rfl) (outs_txs rfl rfl rfl)) (outs_b rfl)
      · have hno : ¬ PaOk B := fun hp => h (hpa.1 hp).1
        rw [decide_eq_false h] at hgood
        rw [decide_eq_false hno]
        repeat (first | (refine step_tree ?_; (refine m_ldall rfl rfl ?_ ?_; (· first | rfl | (simp; done) | (simp [*]; done)))) | refine seq_tree ?_)
        refine step_tree ?_; (apply m_call (hgood)); (· repeat (first | exact lends_nil | (refine lends_cons ?_ ?_; (· (refine lend_plns rfl rfl; done)))))
        repeat (first | (refine step_tree ?_; (first | (first | (refine m_mov (by conv => lhs; whnf) ?_) | (refine m_pick_f rfl ?_ (by conv => lhs; whnf) ?_; (· first | rfl | assumption | (refine decide_eq_false ?_; first | assumption | omega) | (refine nf ?_; first | assumption | omega) | (simp [*]; done))) | (refine m_stall rfl rfl rfl ?_ ?_ ?_ ?_; (· first | rfl | (simp [*]; done)); (· first | rfl | (simp [*]; done)); (· first | rfl | (simp [cellOk, Value.oneCell']; done)))) | (refine g_noT rfl ?_ ?_; (· first | rfl | assumption | (refine decide_eq_false ?_; first | assumption | omega) | (refine nf ?_; first | assumption | omega) | (simp [*]; done))))) | refine end_tree ?_ | refine AW_ret ?_)
        refine ret_doneg2 rfl rfl rfl ?_
        exact outs_tup2 (outs_agg2 (outs_i rfl) (outs_txs rfl rfl rfl)) (outs_b rfl)
  · have hno : ¬ PaOk B := fun h => hl (pa_short h)
    rw [if_neg hl, if_neg hl, decide_eq_false hno]
    refine specG_of Tryd.func9 rfl cc9 (by rfl) ?_
    unfold ac9
    repeat (first | (refine step_ops ?_; (first | (refine m_mov (by conv => lhs; whnf) ?_) | (refine m_gtr rfl rfl ?_) | (refine m_slen rfl ?_) | (refine m_alloc ?_) | (refine m_bld rfl ?_) | (refine m_stall rfl rfl rfl ?_ ?_ ?_ ?_; (· first | rfl | (simp [*]; done)); (· first | rfl | (simp [*]; done)); (· first | rfl | (simp [cellOk, Value.oneCell']; done))))) | refine end_ops ?_ | refine seq_ops ?_ | (refine cond_t rfl ?_ ?_; (· first | rfl | assumption | (refine decide_eq_true ?_; first | assumption | omega) | (refine nt ?_; first | assumption | omega) | (simp [*]; done))) | refine AW_seq ?_ | refine AW_ret ?_ | refine ret_then ?_)
    refine ret_doneg2 rfl rfl rfl ?_
    exact outs_tup2 (outs_agg2 (outs_i rfl) outs_nilro) (outs_b rfl)

set_option maxRecDepth 20000 in
theorem specParseHatPlan_spec (B : List UInt8) (hB : B.length ≤ 1048576) : Sp Tryd.prog 4 [str B] (ppR B) := by
  have hsp := haParse_spec B hB
  unfold ppR
  by_cases h : PaOk B
  · rw [(pa_hp h).1, (pa_hp h).2, decide_eq_true h] at hsp
    rw [decide_eq_true h]
    generalize ppC B = c at *
    generalize ppG B = G at *
    refine specG_of Tryd.func4 rfl cc4 (by rfl) ?_
    unfold ac4
    repeat (first | (refine step_ops ?_; (first | (refine m_mov (by conv => lhs; whnf) ?_) | (refine m_alloc ?_))) | refine end_ops ?_ | refine seq_ops ?_)
    (refine step_ops ?_); (apply m_call (hsp)); (· repeat (first | exact lends_nil | (refine lends_cons ?_ ?_; (· exact lend_v))))
    repeat (first | (refine step_ops ?_; (first | (refine m_mov (by conv => lhs; whnf) ?_) | (refine m_not rfl ?_) | (refine m_ext rfl rfl ?_) | (refine m_alloc ?_) | (refine m_ldall rfl rfl ?_ ?_; (· first | rfl | (simp; done) | (simp [*]; done))) | (refine m_stall rfl rfl rfl ?_ ?_ ?_ ?_; (· first | rfl | (simp [*]; done)); (· first | rfl | (simp [*]; done)); (· first | rfl | (simp [cellOk, Value.oneCell']; done))))) | refine end_ops ?_ | refine seq_ops ?_ | (refine cond_f rfl ?_ ?_; (· first | rfl | assumption | (refine decide_eq_false ?_; first | assumption | omega) | (refine nf ?_; first | assumption | omega) | (simp [*]; done))) | refine skip_then ?_ | refine AW_seq ?_ | refine AW_ret ?_)
    refine ret_doneg2 rfl rfl rfl ?_
    exact outs_tup2 (outs_agg2 (outs_i rfl) (outs_ron (txs_plain _))) (outs_b rfl)
  · rw [decide_eq_false h] at hsp
    unfold ppC ppG
    rw [if_neg h, if_neg h, decide_eq_false h]
    generalize hpC B = c at *
    generalize hpG B = G at *
    refine specG_of Tryd.func4 rfl cc4 (by rfl) ?_
    unfold ac4
    repeat (first | (refine step_ops ?_; (first | (refine m_mov (by conv => lhs; whnf) ?_) | (refine m_alloc ?_))) | refine end_ops ?_ | refine seq_ops ?_)
    (refine step_ops ?_); (apply m_call (hsp)); (· repeat (first | exact lends_nil | (refine lends_cons ?_ ?_; (· exact lend_v))))
    repeat (first | (refine step_ops ?_; (first | (refine m_mov (by conv => lhs; whnf) ?_) | (refine m_not rfl ?_) | (refine m_ext rfl rfl ?_) | (refine m_alloc ?_) | (refine m_bld rfl ?_) | (refine m_stall rfl rfl rfl ?_ ?_ ?_ ?_; (· first | rfl | (simp [*]; done)); (· first | rfl | (simp [*]; done)); (· first | rfl | (simp [cellOk, Value.oneCell']; done))))) | refine end_ops ?_ | refine seq_ops ?_ | (refine cond_t rfl ?_ ?_; (· first | rfl | assumption | (refine decide_eq_true ?_; first | assumption | omega) | (refine nt ?_; first | assumption | omega) | (simp [*]; done))) | refine AW_seq ?_ | refine AW_ret ?_ | refine ret_then ?_)
    refine ret_doneg2 rfl rfl rfl ?_
    exact outs_tup2 (outs_agg2 (outs_i rfl) outs_nilro) (outs_b rfl)
end Go.Proofs.YtfoecdaggmagaaaDoor
