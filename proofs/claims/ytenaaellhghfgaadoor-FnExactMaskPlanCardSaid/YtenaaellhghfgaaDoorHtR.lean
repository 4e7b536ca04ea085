/- Contracts: the specification masks a plan. -/
import Derived.Test.YtenaaellhghfgaaDoorHtQ
namespace Go.Proofs.YtenaaellhghfgaaDoor
open Go.Am
attribute [local irreducible] AW Outs Weak Lends Lend Sp aops atree aop1 Then Round InBlock Done
attribute [local simp] txs_len

set_option maxRecDepth 20000 in
theorem specMaskPlan_spec (c : Int) (G : List (List UInt8)) (t : List UInt8) (hG : G.length ≤ 1048576) : Sp Tryd.prog 35 [pln c G, str t] (mpR c G t) := by
  unfold mpR mpC mpG
  by_cases h : AskOk c G t
  · obtain ⟨n, rfl, h2, h3⟩ := pln_nat h.1
    have h4 := h.1.1
    rw [if_pos h, decide_eq_true h, if_pos h, Int.toNat_natCast]
    have hht := h.2.2
    rw [Int.toNat_natCast] at hht
    have hlt4 := h.2.1
    have hpw := pow_le n (by omega) (G.length - 1) (by omega)
    refine specG_of Tryd.func35 rfl cc35 (by rfl) ?_
    unfold ac35
    repeat (first | (refine step_ops ?_; (first | (refine m_mov (by conv => lhs; whnf) ?_) | (refine m_alloc ?_) | (refine m_box rfl ?_ ?_; (· first | rfl | (simp [cellOk, Value.oneCell']; done))) | (refine m_ldall rfl rfl ?_ ?_; (· first | rfl | (simp; done) | (simp [*]; done))))) | refine end_ops ?_ | refine seq_ops ?_ | refine AW_seq ?_)
    refine step_ops ?_; (apply m_call (haAsked_spec n G t hG)); (· repeat (first | exact lends_nil | (refine lends_cons ?_ ?_; (· (first | exact lend_v | (refine lend_pln rfl; done))))))
    repeat (first | (refine step_ops ?_; (first | (refine m_mov (by conv => lhs; whnf) ?_) | (refine m_not rfl ?_) | (refine m_len_ro rfl ?_) | (apply m_ld_pt; (· rfl); (· rfl); (· rfl)) | (refine m_alloc ?_) | (refine m_fa rfl ?_) | (refine m_bld_1 (by conv => lhs; whnf) (by decide)  (by rfl) ?_) | (refine m_stall rfl rfl rfl ?_ ?_ ?_ ?_; (· first | rfl | (simp [*]; done)); (· first | rfl | (simp [*]; done)); (· first | rfl | (simp [cellOk, Value.oneCell']; done))))) | refine end_ops ?_ | refine seq_ops ?_ | (refine cond_f rfl ?_ ?_; (· first | rfl | assumption | (refine decide_eq_false ?_; first | assumption | omega) | (refine nf ?_; first | assumption | omega) | (simp [*]; done))) | refine skip_then ?_ | refine AW_seq ?_ | refine AW_block ?_)
    refine AW_loop (α := Nat) (fun k => k ≤ G.length) (fun k => st [(1, str t), (2, .pt 2 0), (4, .pt 4 0), (6, .pt 6 0), (20, .ro false 1 (txs G) G.length), (21, .i G.length), (22, .i k)]
      [(2, (true, [.i n, .ro false 1 (txs G) G.length])), (4, (true, [.i 0, .v (.slice none 0 0)])), (6, (false, [.i n, .sl 1000 1 0 (plG n G.length (mkF n G t) k).length])), (1000, (true, txs (plG n G.length (mkF n G t) k)))]) (fun k => G.length - k) 0 (Nat.zero_le _) (Weak.trans (weak_nilcell 6 1000 1 1 rfl rfl (by decide) rfl rfl) (weak_st ?_ ?_ rfl rfl)) ?_
    · (repeat' (first | exact trivial | refine And.intro ?_ ?_)) <;> (first | rfl | skip)
    · exact ⟨rfl, rfl, rfl, rfl, trivial⟩
    intro k hk
    have hplk := plG_len n G.length (mkF n G t) k
    by_cases hlt : k < G.length
    · have hat := txs_at hlt
      have hsn := plG_succ n G.length (mkF n G t) k
      have hr := h.1.2.2 _ (getD_memL (d := []) hlt)
      rw [Int.toNat_natCast] at hr
      have hF : ∀ v, mkF n G t k v = (hv ((G.getD k []).getD v 0) + hv (t.getD k 0)) % n := fun v => rfl
      have hmk := col_at hht (k := k) (by omega)
      have hmh : hv (t.getD k 0) < 10 := by unfold hv; omega
      generalize G.getD k [] = r at *
      generalize mkF n G t = F at *
      repeat (first | (refine step_ops ?_; (first | (refine m_mov (by conv => lhs; whnf) ?_) | (refine m_lss rfl rfl ?_) | (refine m_idx1_ro rfl rfl ?_ ?_; (· omega)))) | refine end_ops ?_ | refine seq_ops ?_ | (refine cond_t rfl ?_ ?_; (· first | rfl | assumption | (refine decide_eq_true ?_; first | assumption | omega) | (refine nt ?_; first | assumption | omega) | (simp [*]; done))) | refine skip_then ?_ | refine AW_seq ?_ | refine AW_block ?_)
      refine step_ops ?_
      refine m_ld_rp rfl hat ?_
      repeat (first | (refine step_ops ?_; (refine m_mov (by conv => lhs; whnf) ?_)) | refine end_ops ?_ | refine seq_ops ?_ | refine AW_seq ?_)
      refine step_ops ?_
      refine m_rng rfl ?_
      repeat (first | refine end_ops ?_ | refine AW_block ?_)
      refine AW_loop (α := Nat) (fun p => p ≤ r.length) (fun p => st [(1, str t), (2, .pt 2 0), (4, .pt 4 0), (6, .pt 6 0), (7, .i k), (8, str r), (9, str ((List.range p).map fun v => hg (F k v))), (20, .ro false 1 (txs G) G.length), (21, .i G.length), (22, .i k), (28, .itr 28)]
        [(2, (true, [.i n, .ro false 1 (txs G) G.length])), (4, (true, [.i 0, .v (.slice none 0 0)])), (6, (false, [.i n, .sl 1000 1 0 (plG n G.length F k).length])), (1000, (true, txs (plG n G.length F k))), (28, itS r p)]) (fun p => r.length - p) 0 (Nat.zero_le _) (weak_st ?_ ?_ rfl rfl) ?_
      · (repeat' (first | exact trivial | refine And.intro ?_ ?_)) <;> (first | rfl | skip)
      · exact ⟨rfl, rfl, rfl, rfl, rfl, trivial⟩
      intro p hp
      have htl : ((List.range p).map fun v => hg (F k v)).length = p := by simp
      by_cases hltp : p < r.length
      · have hb := col_at hr.2 hltp
        have hbh : hv (r.getD p 0) < 10 := by unfold hv; omega
        have hFp := hF p
        have hFl : F k p < n := by rw [hFp]; exact Nat.mod_lt _ (by omega)
        have hts : ((List.range (p + 1)).map fun v => hg (F k v)) = ((List.range p).map fun v => hg (F k v)) ++ [hg (F k p)] := by simp [List.range_succ]
        have hrem : ((hv (r.getD p 0) : Nat) + (hv (t.getD k 0) : Nat) : Int) % (n : Int) = (F k p : Nat) := by rw [hFp]; push_cast; rfl
        generalize ((List.range p).map fun v => hg (F k v)) = T at *
        repeat refine seq_ops ?_
        refine step_ops ?_
        refine m_nxa rfl rfl hltp (by omega) ?_
        repeat (first | ((first | refine step_ops ?_ | refine step_tree ?_); (first | (refine m_mov (by conv => lhs; whnf) ?_) | (refine m_six' rfl rfl ?_ ?_; (· first | omega | (simp; omega))) | (refine m_ext rfl rfl ?_))) | refine end_ops ?_ | refine seq_ops ?_ | refine AW_tree ?_ | (refine cond_t rfl ?_ ?_; (· first | rfl | assumption | (refine decide_eq_true ?_; first | assumption | omega) | (refine nt ?_; first | assumption | omega) | (simp [*]; done))) | refine skip_then ?_ | refine AW_seq ?_ | refine AW_block ?_)
        refine step_tree ?_
        refine m_subk (c := ((hv (r.getD p 0) : Nat) : Int)) rfl rfl (u8_sub hb.1) ?_
        repeat (refine step_tree ?_; (first | (refine m_mov (by conv => lhs; whnf) ?_) | (refine m_six' rfl rfl ?_ ?_; (· first | omega | (simp; omega))) | (refine m_cvt rfl ?_)))
        rw [wr64 _ (by omega) (by omega)]
        skip
        refine step_tree ?_
        refine m_subk (c := ((hv (t.getD k 0) : Nat) : Int)) rfl rfl (u8_sub hmk.1) ?_
        repeat (refine step_tree ?_; (refine m_cvt rfl ?_))
        rw [wr64 _ (by omega) (by omega)]
        repeat (refine step_tree ?_; (first | (refine m_add rfl rfl ?_ ?_ ?_; (· omega); (· omega)) | (apply m_ld_pt; (· rfl); (· rfl); (· rfl)) | (refine m_fa rfl ?_) | (refine m_rem rfl rfl ?_ ?_ ?_; (· omega); (· omega))))
        rw [hrem]
        refine step_tree ?_; (apply m_call (l1Num_hg (F k p) (by omega))); (· repeat (first | exact lends_nil | (refine lends_cons ?_ ?_; (· exact lend_v))))
        repeat (first | (refine step_tree ?_; (first | (refine m_mov (by conv => lhs; whnf) ?_) | (refine m_adds rfl rfl ?_ ?_; (· first | omega | (simp; omega))))) | refine end_tree ?_ | refine norm_block ?_)
        refine next_round (p + 1) hltp (weak_st ?_ ?_ rfl rfl) ?_
        · rw [hts]
          (repeat' (first | exact trivial | refine And.intro ?_ ?_)) <;> (first | rfl | skip)
        · exact ⟨rfl, rfl, rfl, rfl, rfl, trivial⟩
        · show r.length - (p + 1) < r.length - p
          omega
      · obtain rfl : p = r.length := by omega
        rw [← hr.1] at hsn
        generalize ((List.range r.length).map fun v => hg (F k v)) = T at *
        generalize plG n G.length F k = L at *
        repeat refine seq_ops ?_
        refine step_ops ?_
        refine m_nxs_end rfl rfl (by omega) ?_
        repeat (first | (refine step_ops ?_; (first | (refine m_mov (by conv => lhs; whnf) ?_) | (apply m_ld_pt; (· rfl); (· rfl); (· rfl)) | (refine m_ext rfl rfl ?_) | (refine m_fa rfl ?_) | (refine m_bsl1 rfl rfl ?_) | (refine m_app1 rfl (by decide) rfl (by first | (simp; done) | (simp [*]; done) | (simp; omega)) rfl rfl rfl ?_ (by decide) ?_; (· first | omega | (simp; omega))))) | refine end_ops ?_ | refine AW_ops ?_ | (refine cond_f rfl ?_ ?_; (· first | rfl | assumption | (refine decide_eq_false ?_; first | assumption | omega) | (refine nf ?_; first | assumption | omega) | (simp [*]; done))) | refine AW_seq ?_ | refine norm_then ?_ | refine exit_then ?_ | refine exit_round ?_ | refine AW_exit ?_ | refine exit_block ?_)
        refine step_ops ?_
        refine m_st (off := 1) (cs := [.i n, .any]) (v := .sl 53 1 0 (L.length + 1)) rfl rfl rfl (by simp) rfl ?_
        repeat (first | (refine step_ops ?_; (first | (refine m_mov (by conv => lhs; whnf) ?_) | (refine m_add rfl rfl ?_ ?_ ?_; (· omega); (· omega)))) | refine end_ops ?_ | refine AW_ops ?_ | refine norm_then ?_ | refine norm_block ?_)
        refine next_round (k + 1) hlt ?_ ?_
        · rw [hsn, show (L ++ [T]).length = L.length + 1 by simp, txs_append]
          refine weak_stR (fun r => if r = 1000 then 53 else r) ?_ ?_ (by simp [pbase]) (by simp [pbase]) rfl rfl
          · (repeat' (first | exact trivial | refine And.intro ?_ ?_)) <;> (first | rfl | exact congrArg (fun c => some (true, c)) (renL_ints _ _) | exact congrArg (fun c => some (true, c)) (txs_ren _ _) | skip)
          · (repeat' (first | exact trivial | refine And.intro ?_ ?_)) <;> (first | rfl | exact congrArg (fun c => some (true, c)) (renL_ints _ _) | exact congrArg (fun c => some (true, c)) (txs_ren _ _) | skip)
        · omega
    · obtain rfl : k = G.length := by omega
      repeat (first | (refine step_ops ?_; (first | (refine m_lss rfl rfl ?_) | (refine m_ldall rfl rfl ?_ ?_; (· first | rfl | (simp; done) | (simp [*]; done))))) | refine end_ops ?_ | refine seq_ops ?_ | (refine cond_f rfl ?_ ?_; (· first | rfl | assumption | (refine decide_eq_false ?_; first | assumption | omega) | (refine nf ?_; first | assumption | omega) | (simp [*]; done))) | refine AW_seq ?_ | refine norm_then ?_ | refine exit_then ?_ | refine exit_round ?_ | refine AW_exit ?_ | refine exit_block ?_)
      refine step_opsW (weak_deep (r := 4) rfl (by simp) rfl) ?_
      refine m_stall (l := [.i n, .sl 1000 1 0 (plG n G.length (mkF n G t) G.length).length]) rfl rfl rfl rfl rfl rfl ?_
      repeat (first | (refine step_ops ?_; (refine m_mov (by conv => lhs; whnf) ?_)) | refine end_ops ?_ | refine AW_ret ?_)
      refine ret_doneg2 rfl rfl rfl ?_
      exact outs_tup2 (outs_agg2 (outs_i rfl) (outs_txs rfl rfl rfl)) (outs_b rfl)
  · rw [if_neg h, decide_eq_false h, if_neg h]
    refine specG_of Tryd.func35 rfl cc35 (by rfl) ?_
    unfold ac35
    repeat (first | (refine step_ops ?_; (first | (refine m_mov (by conv => lhs; whnf) ?_) | (refine m_alloc ?_) | (refine m_box rfl ?_ ?_; (· first | rfl | (simp [cellOk, Value.oneCell']; done))) | (refine m_ldall rfl rfl ?_ ?_; (· first | rfl | (simp; done) | (simp [*]; done))))) | refine end_ops ?_ | refine seq_ops ?_ | refine AW_seq ?_)
    refine step_ops ?_; (apply m_call (haAsked_spec c G t hG)); (· repeat (first | exact lends_nil | (refine lends_cons ?_ ?_; (· (first | exact lend_v | (refine lend_pln rfl; done))))))
    repeat (first | (refine step_ops ?_; (first | (refine m_mov (by conv => lhs; whnf) ?_) | (refine m_not rfl ?_) | (refine m_bld rfl ?_) | (refine m_stall rfl rfl rfl ?_ ?_ ?_ ?_; (· first | rfl | (simp [*]; done)); (· first | rfl | (simp [*]; done)); (· first | rfl | (simp [cellOk, Value.oneCell']; done))))) | refine end_ops ?_ | refine seq_ops ?_ | (refine cond_t rfl ?_ ?_; (· first | rfl | assumption | (refine decide_eq_true ?_; first | assumption | omega) | (refine nt ?_; first | assumption | omega) | (simp [*]; done))) | refine AW_ret ?_ | refine ret_then ?_)
    refine ret_doneg2 rfl rfl rfl ?_
    exact outs_tup2 (outs_agg2 (outs_i rfl) outs_nilro) (outs_b rfl)
end Go.Proofs.YtenaaellhghfgaaDoor
