/- Contracts: a plan read out of a text, by the code. -/
import Derived.Test.YtfoecdaggmagaaaDoorHpU
import Derived.Test.YtfoecdaggmagaaaDoorHpX2
import Derived.Test.YtfoecdaggmagaaaDoorAmHG
namespace Go.Proofs.YtfoecdaggmagaaaDoor
open Go.Am
attribute [local irreducible] AW Outs Weak Lends Lend Sp aops atree aop1 Then Round InBlock Done
attribute [local simp] txs_len
attribute [local irreducible] SpM SpH

/-- A slice of the words behind the first one. -/
theorem lend_rest {hp : Hp} {r n : Nat} {w : List UInt8} {G : List (List UInt8)} (hr : hp r = some (true, txs (w :: G))) (hn : n = G.length) : Lend hp (.sl r 1 1 n) (.ro false 1 (txs G) G.length) := by
  subst hn
  have h := lend_sl (z := 1) (off := 1) (n := G.length) hr (by rw [txs_len]; simp; omega) (txs_plain _)
  have e : ((txs (w :: G)).drop 1).take (G.length * 1) = txs G := by
    show (txs G).take _ = _
    rw [Nat.mul_one]
    exact List.take_of_length_le (by rw [txs_len]; omega)
  rw [e] at h
  exact h
theorem lend_plno {hp : Hp} {r n : Nat} {c : Int} {w : List UInt8} {G : List (List UInt8)} (hr : hp r = some (true, txs (w :: G))) (hn : n = G.length) : Lend hp (.agg [.i c, .sl r 1 1 n]) (pln c G) :=
  lend_aggs (lends_cons lend_v (lends_cons (lend_rest hr hn) lends_nil))
theorem static_one {cs : List AV} {res : AV} (h1 : ownL false cs = true) (h2 : refsL (fun r => (Am.look (oneH cs) r).isSome) cs = true) (h3 : ownV false res = true) (h4 : refsV (fun r => (Am.look (oneH cs) r).isSome) res = true) : Static (Am.look []) res (Am.look (oneH cs)) :=
  static_R (by simp) (fun p hp => by rw [List.mem_singleton] at hp; subst hp; exact ⟨h1, h2⟩) ⟨h3, h4⟩

set_option maxRecDepth 20000 in
theorem implParse_yes (B : List UInt8) (hB : B.length ≤ 1048576) (h : PaOk B) : SpH Tryd.prog 5 [str B] (Am.look []) (.tup [.agg [.i (paC B), .sl nbase 1 1 (paG B).length], .b true]) (Am.look (oneH (txs ([hg (paC B)] :: paG B)))) := by
  have hw := (pa_words h).2
  have hc := h.1.2.1
  have hsp := splitN_spec B hB
  have hat := atoi_ok [hg (paC B)] (paC B) (atoi_hg (paC B) (by omega)) (by simp)
  have hln := h.1.1
  have htx := implHatPlanText_spec (paC B) (paG B) (by omega)
  unfold htR htT at htx
  rw [if_pos h.1, decide_eq_true h.1, Int.toNat_natCast, h.2] at htx
  rw [hw] at hsp
  generalize hg (paC B) = x at *
  generalize paG B = G at *
  generalize paC B = c at *
  have hst : Static (Am.look []) (.tup [.agg [.i c, .sl nbase 1 1 G.length], .b true]) (Am.look (oneH (txs ([x] :: G)))) := static_one (txs_own _ _) (txs_refs _ _) rfl rfl
  refine specHG_of Tryd.func5 rfl cc5 (by rfl) hst ?_
  unfold ac5
  repeat (first | (refine step_ops ?_; (first | (refine m_mov (by conv => lhs; whnf) ?_) | (refine m_alloc ?_))) | refine end_ops ?_ | refine seq_ops ?_)
  refine step_ops ?_
  refine m_callo (r := 11) hsp (lends_cons lend_v (lends_cons lend_v (lends_cons lend_v lends_nil))) (txs_plain _) ?_
  repeat (first | (refine step_ops ?_; (refine m_mov (by conv => lhs; whnf) ?_)) | refine end_ops ?_ | refine seq_ops ?_)
  refine step_ops ?_
  refine m_idx1_sl (j := 0) rfl rfl (by simp) ?_
  refine step_ops ?_
  refine m_ld_pt rfl rfl rfl ?_
  refine step_ops ?_; (apply m_call (hat)); (· repeat (first | exact lends_nil | (refine lends_cons ?_ ?_; (· exact lend_v))))
  repeat (first | (refine step_ops ?_; (first | (refine m_mov (by conv => lhs; whnf) ?_) | (refine m_inil rfl ?_) | (refine m_ext rfl rfl ?_))) | refine end_ops ?_ | refine seq_ops ?_ | (refine cond_f rfl ?_ ?_; (· first | rfl | assumption | (refine decide_eq_false ?_; first | assumption | omega) | (refine nf ?_; first | assumption | omega) | (simp [*]; done))) | refine skip_then ?_ | refine AW_seq ?_)
  refine step_ops ?_
  refine m_cut_sl (l := 1) (h := ([x] :: G).length) rfl ⟨_, rfl⟩ rfl (by simp) (Nat.le_refl _) ?_
  refine step_ops ?_
  refine m_bld_2 (v1 := .i c) (v2 := .sl 11 1 1 G.length) rfl rfl (by decide) (by decide) rfl rfl ?_
  refine step_ops ?_
  refine m_allocd ?_
  refine step_ops ?_
  refine m_stall (l := [.i c, .sl 11 1 1 G.length]) rfl rfl rfl rfl rfl rfl ?_
  repeat (first | (refine step_ops ?_; (refine m_ldall rfl rfl ?_ ?_; (· first | rfl | (simp; done) | (simp [*]; done)))) | refine end_ops ?_ | refine seq_ops ?_)
  refine step_ops ?_
  refine m_call htx (lends_cons (lend_plno rfl rfl) lends_nil) ?_
  repeat (first | (refine step_ops ?_; ((try (refine g_yes rfl ?_ ?_; (· first | rfl | assumption | (refine decide_eq_true ?_; first | assumption | omega) | (refine nt ?_; first | assumption | omega) | (simp [*]; done) | (refine decide_eq_false ?_; first | assumption | omega) | (refine nf ?_; first | assumption | omega)))); (first | (refine m_mov (by conv => lhs; whnf) ?_) | (refine m_neqs_self rfl rfl ?_) | (refine m_not rfl ?_) | (refine m_pick_f rfl ?_ (by conv => lhs; whnf) ?_; (· first | rfl | assumption | (refine decide_eq_false ?_; first | assumption | omega) | (refine nf ?_; first | assumption | omega) | (simp [*]; done))) | (refine m_ext rfl rfl ?_) | (refine m_ldall rfl rfl ?_ ?_; (· first | rfl | (simp; done) | (simp [*]; done)))))) | refine end_ops ?_ | refine seq_ops ?_ | (refine cond_f rfl ?_ ?_; (· first | rfl | assumption | (refine decide_eq_false ?_; first | assumption | omega) | (refine nf ?_; first | assumption | omega) | (simp [*]; done))) | refine skip_then ?_ | refine AW_seq ?_)
  refine step_opsW (weak_deep (r := 2) rfl (by simp) rfl) ?_
  refine m_stall (l := [.i c, .sl 11 1 1 G.length]) rfl rfl rfl rfl rfl rfl ?_
  repeat (first | (refine step_ops ?_; (refine m_mov (by conv => lhs; whnf) ?_)) | refine end_ops ?_ | refine AW_ret ?_)
  refine ret_donehg (fun r => if r = nbase then 11 else r) [.agg [.i c, .sl 11 1 1 G.length], .b true] ⟨⟨2, 0, false, [.i c, .sl 11 1 1 G.length], rfl, rfl, (show 0 + 2 ≤ 2 from Nat.le_refl _), rfl⟩, rfl, trivial⟩ ?_ (fun r c' hc' => ?_) (fun r hr => by simp [Am.look] at hr) (fun r hr _ => ?_) (fun r r' h1 h2 _ => ?_)
  · show _ = AV.tup [.agg [.i c, .sl (if nbase = nbase then 11 else nbase) 1 1 G.length], .b true]
    rw [if_pos rfl]
    rfl
  · obtain ⟨rfl, rfl⟩ := look_one hc'
    rw [if_pos rfl]
    exact ⟨_, rfl, .inl (congrArg (Prod.mk true) (txs_ren _ _).symm)⟩
  · rw [look_one_is hr, if_pos rfl]
    decide
  · rw [look_one_is h1, look_one_is h2]

theorem outs_ppno {s : AS} {B : List UInt8} (h : ¬ PaOk B) : Outs s (.tup [.agg [.i 0, .v (.slice none 0 0)], .b false]) (ppR B) := by
  unfold ppR ppC ppG
  rw [if_neg h, decide_eq_false h, if_neg h]
  exact outs_tup2 (outs_agg2 (outs_i rfl) outs_nilro) (outs_b rfl)
set_option maxRecDepth 20000 in
theorem implParse_no (B : List UInt8) (hB : B.length ≤ 1048576) (h : ¬ PaOk B) : Sp Tryd.prog 5 [str B] (ppR B) := by
  have hl := splitNB_len 5 B
  have hwl := word_len 5 B
  have hsp := splitN_spec B hB
  have hpos : 1 ≤ (splitNB 5 B).length := by omega
  have hle : (splitNB 5 B).length ≤ 6 := by omega
  have hw0 : ((splitNB 5 B).getD 0 []).length ≤ 1048576 := by
    have := hwl _ (getD_memL (d := []) (show 0 < (splitNB 5 B).length by omega))
    omega
  have hbad : ∀ v : Int, IsPln v ((splitNB 5 B).drop 1) → shT v.toNat ((splitNB 5 B).drop 1) ≠ B := fun v hp e => h (pa_iff hp e).1
  generalize splitNB 5 B = W at *
  obtain ⟨w, G, rfl⟩ := List.exists_cons_of_ne_nil (show W ≠ [] from fun e => by rw [e] at hpos; simp at hpos)
  change ∀ v : Int, IsPln v G → shT v.toNat G ≠ B at hbad
  change w.length ≤ 1048576 at hw0
  simp only [List.length_cons] at hle
  refine specG_of Tryd.func5 rfl cc5 (by rfl) ?_
  unfold ac5
  repeat (first | (refine step_ops ?_; (first | (refine m_mov (by conv => lhs; whnf) ?_) | (refine m_alloc ?_))) | refine end_ops ?_ | refine seq_ops ?_)
  refine step_ops ?_
  refine m_callo (r := 11) hsp (lends_cons lend_v (lends_cons lend_v (lends_cons lend_v lends_nil))) (txs_plain _) ?_
  repeat (first | (refine step_ops ?_; (first | (refine m_mov (by conv => lhs; whnf) ?_) | (refine m_idx_sl rfl rfl ?_ ?_ ?_; (· omega); (· omega)) | (apply m_ld_pt; (· rfl); (· rfl); (· rfl)))) | refine end_ops ?_ | refine seq_ops ?_)
  by_cases hv : ∃ v, Lib.atoiAll w = .ok v
  · obtain ⟨v, hv⟩ := hv
    have hat := atoi_ok w v hv hw0
    have htx := implHatPlanText_spec v G (by omega)
    unfold htR htT at htx
    (refine step_ops ?_); (apply m_call (hat)); (· repeat (first | exact lends_nil | (refine lends_cons ?_ ?_; (· exact lend_v))))
    repeat (first | (refine step_ops ?_; (first | (refine m_mov (by conv => lhs; whnf) ?_) | (refine m_inil rfl ?_) | (refine m_ext rfl rfl ?_))) | refine end_ops ?_ | refine seq_ops ?_ | (refine cond_f rfl ?_ ?_; (· first | rfl | assumption | (refine decide_eq_false ?_; first | assumption | omega) | (refine nf ?_; first | assumption | omega) | (simp [*]; done))) | refine skip_then ?_ | refine AW_seq ?_)
    refine step_ops ?_
    refine m_cut_sl (l := 1) (h := (w :: G).length) rfl ⟨_, rfl⟩ rfl (by simp) (Nat.le_refl _) ?_
    refine step_ops ?_
    refine m_bld_2 (v1 := .i v) (v2 := .sl 11 1 1 G.length) rfl rfl (by decide) (by decide) rfl rfl ?_
    refine step_ops ?_
    refine m_allocd ?_
    refine step_ops ?_
    refine m_stall (l := [.i v, .sl 11 1 1 G.length]) rfl rfl rfl rfl rfl rfl ?_
    repeat (first | (refine step_ops ?_; (refine m_ldall rfl rfl ?_ ?_; (· first | rfl | (simp; done) | (simp [*]; done)))) | refine end_ops ?_ | refine seq_ops ?_)
    refine step_ops ?_
    by_cases hp : IsPln v G
    · have hne := hbad v hp
      rw [if_pos hp, decide_eq_true hp] at htx
      generalize shT v.toNat G = T at *
      have hx : (!decide (T = B)) = true := by rw [decide_eq_false hne]; rfl
      refine m_call htx (lends_cons (lend_plno rfl rfl) lends_nil) ?_
      repeat (first | (refine step_ops ?_; ((try (refine g_yes rfl ?_ ?_; (· first | rfl | assumption | (refine decide_eq_true ?_; first | assumption | omega) | (refine nt ?_; first | assumption | omega) | (simp [*]; done) | (refine decide_eq_false ?_; first | assumption | omega) | (refine nf ?_; first | assumption | omega)))); (first | (refine m_mov (by conv => lhs; whnf) ?_) | (refine m_neqs rfl rfl ?_) | (refine m_not rfl ?_) | (refine m_pick_f rfl ?_ (by conv => lhs; whnf) ?_; (· first | rfl | assumption | (refine decide_eq_false ?_; first | assumption | omega) | (refine nf ?_; first | assumption | omega) | (simp [*]; done))) | (refine m_ext rfl rfl ?_) | (refine m_bld rfl ?_) | (refine m_stall rfl rfl rfl ?_ ?_ ?_ ?_; (· first | rfl | (simp [*]; done)); (· first | rfl | (simp [*]; done)); (· first | rfl | (simp [cellOk, Value.oneCell']; done)))))) | refine end_ops ?_ | refine seq_ops ?_ | (refine cond_t rfl ?_ ?_; (· first | rfl | assumption | (refine decide_eq_true ?_; first | assumption | omega) | (refine nt ?_; first | assumption | omega) | (simp [*]; done))) | refine AW_seq ?_ | refine AW_ret ?_ | refine ret_then ?_)
      refine ret_doneg2 rfl rfl rfl ?_
      exact outs_ppno h
    · rw [if_neg hp, decide_eq_false hp] at htx
      refine m_call htx (lends_cons (lend_plno rfl rfl) lends_nil) ?_
      repeat (first | (refine step_ops ?_; (first | (first | (refine m_mov (by conv => lhs; whnf) ?_) | (refine m_not rfl ?_) | (refine m_pick_t rfl ?_ (by conv => lhs; whnf) ?_; (· first | rfl | assumption | (refine decide_eq_true ?_; first | assumption | omega) | (refine nt ?_; first | assumption | omega) | (simp [*]; done))) | (refine m_ext rfl rfl ?_) | (refine m_bld rfl ?_) | (refine m_stall rfl rfl rfl ?_ ?_ ?_ ?_; (· first | rfl | (simp [*]; done)); (· first | rfl | (simp [*]; done)); (· first | rfl | (simp [cellOk, Value.oneCell']; done)))) | (refine g_noF rfl ?_ ?_; (· first | rfl | assumption | (refine decide_eq_true ?_; first | assumption | omega) | (refine nt ?_; first | assumption | omega) | (simp [*]; done))))) | refine end_ops ?_ | refine seq_ops ?_ | (refine cond_t rfl ?_ ?_; (· first | rfl | assumption | (refine decide_eq_true ?_; first | assumption | omega) | (refine nt ?_; first | assumption | omega) | (simp [*]; done))) | refine AW_seq ?_ | refine AW_ret ?_ | refine ret_then ?_)
      refine ret_doneg2 rfl rfl rfl ?_
      exact outs_ppno h
  · refine step_ops ?_
    refine m_callxe (atoi_err w (fun v h => hv ⟨v, h⟩) hw0) (lends_cons lend_v lends_nil) (0, 0) (fun i => rfl) (fun i => rfl) fun i => ?_
    unfold errV
    repeat (first | (refine step_ops ?_; (first | (refine m_mov (by conv => lhs; whnf) ?_) | (refine m_iface rfl ?_) | (refine m_ext rfl rfl ?_) | (refine m_bld rfl ?_) | (refine m_stall rfl rfl rfl ?_ ?_ ?_ ?_; (· first | rfl | (simp [*]; done)); (· first | rfl | (simp [*]; done)); (· first | rfl | (simp [cellOk, Value.oneCell']; done))))) | refine end_ops ?_ | refine seq_ops ?_ | (refine cond_t rfl ?_ ?_; (· first | rfl | assumption | (refine decide_eq_true ?_; first | assumption | omega) | (refine nt ?_; first | assumption | omega) | (simp [*]; done))) | refine AW_seq ?_ | refine AW_ret ?_ | refine ret_then ?_)
    refine ret_doneg2 rfl rfl rfl ?_
    exact outs_ppno h
end Go.Proofs.YtfoecdaggmagaaaDoor
