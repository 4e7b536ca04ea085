/- Contracts: a plan as a text. -/
import Derived.Test.YtfoecdaggmagaaaDoorHtX3
import Derived.Test.YtfoecdaggmagaaaDoorAmHv
import Derived.Test.YtfoecdaggmagaaaDoorShA
import Derived.Test.YtfoecdaggmagaaaDoorHpX1
namespace Go.Proofs.YtfoecdaggmagaaaDoor
open Go.Am
attribute [local irreducible] AW Outs Weak Lends Lend Sp aops atree aop1 Then Round InBlock Done

theorem joinT_spec (ls : List (List UInt8)) (sep : List UInt8) (h1 : ls.length ≤ 1000000) (h2 : (Lib.join ls sep).length ≤ 1000000) : Sp Tryd.prog 25 [.ro false 1 (txs ls) ls.length, str sep] (str (Lib.join ls sep)) := by
  have e : (ls.map fun r => (⟨r.toArray⟩ : ByteArray)).map (·.data.toList) = ls := by rw [List.map_map]; simp [Function.comp_def]
  refine sp_joinT (fun h0 a c w => ?_) fun bk o c w hc hb hcap => ?_
  · subst h0
    exact Tryd.strings_Join_none a c ⟨sep.toArray⟩ w
  · have := Tryd.strings_Join bk o c (ls.map fun r => (⟨r.toArray⟩ : ByteArray)) ⟨sep.toArray⟩ w hc hb (by rw [List.length_map]; omega) (by rw [List.length_map]; exact hcap) (by rw [e]; show (Lib.join ls sep).length ≤ _; omega)
    rw [e, List.length_map] at this
    exact this

theorem tail_join {G : List (List UInt8)} (h : G ≠ []) : tailT G = 58 :: Lib.join G [58] := by
  cases G with
  | nil => exact absurd rfl h
  | cons a l =>
    rw [Lib.join_cons]
    have key : ∀ l : List (List UInt8), tailT l = Lib.joinTail [58] l := by
      intro l
      induction l with
      | nil => rfl
      | cons b l ih =>
        show 58 :: b ++ tailT l = _
        rw [ih]
        rfl
    show 58 :: a ++ tailT l = _
    rw [key l]
    rfl
def htT (c : Int) (G : List (List UInt8)) : List UInt8 := if IsPln c G then shT c.toNat G else []
def htR (c : Int) (G : List (List UInt8)) : AV := .tup [str (htT c G), .b (decide (IsPln c G))]
theorem haShown_spec (c : Nat) (G : List (List UInt8)) (h : IsPln c G) : Sp Tryd.prog 19 [pln c G] (str (shT c G)) := by
  have h4 := h.1
  have hc := h.2.1
  have hls := pln_lens h
  refine spec_of Tryd.func19 rfl cc19 rfl ?_
  unfold ac19
  repeat (first | (refine step_ops ?_; (first | (refine m_mov (by conv => lhs; whnf) ?_) | (apply m_ld_pt; (· rfl); (· rfl); (· rfl)) | (refine m_fa rfl ?_) | (refine m_box rfl ?_ ?_; (· first | rfl | (simp [cellOk, Value.oneCell']; done))))) | refine end_ops ?_ | refine seq_ops ?_)
  (refine step_ops ?_); (apply m_call (l1Num_hg c (by omega))); (· repeat (first | exact lends_nil | (refine lends_cons ?_ ?_; (· exact lend_v))))
  repeat (first | (refine step_ops ?_; (first | (refine m_mov (by conv => lhs; whnf) ?_) | (refine m_len_ro rfl ?_) | (apply m_ld_pt; (· rfl); (· rfl); (· rfl)) | (refine m_fa rfl ?_))) | refine end_ops ?_ | refine seq_ops ?_ | refine AW_seq ?_ | refine AW_block ?_)
  refine AW_loop (α := Nat) (fun k => k ≤ G.length) (fun k => st [(3, str (shT c (G.take k))), (10, .ro false 1 (txs G) G.length), (11, .i G.length), (12, .i k)] []) (fun k => G.length - k) 0 (Nat.zero_le _) (weak_st ?_ ?_ rfl rfl) ?_
  · (repeat' (first | exact trivial | refine And.intro ?_ ?_)) <;> (first | rfl | skip)
  · trivial
  intro k hk
  by_cases hlt : k < G.length
  · have hat := txs_at hlt
    have hs := take_snoc G k [] hlt
    have hl1 := hls _ (getD_memL (d := []) hlt)
    have hl2 : (shT c (G.take k)).length ≤ 400 := by
      have := tail_len (G := G.take k) (b := 81) fun t ht => hls t (List.mem_of_mem_take ht)
      rw [List.length_take_of_le hk] at this
      show (tailT (G.take k)).length + 1 ≤ _
      have : k * 82 ≤ 4 * 82 := Nat.mul_le_mul_right _ (by omega)
      omega
    have hsn : shT c (G.take (k + 1)) = shT c (G.take k) ++ ([58] ++ G.getD k []) := by
      rw [hs]
      unfold shT
      rw [tail_snoc]
      rfl
    generalize G.getD k [] = r at *
    generalize shT c (G.take k) = T at *
    repeat (first | (refine step_ops ?_; (first | (refine m_lss rfl rfl ?_) | (refine m_idx1_ro rfl rfl ?_ ?_; (· omega)))) | refine end_ops ?_ | refine seq_ops ?_ | (refine cond_t rfl ?_ ?_; (· first | rfl | assumption | (refine decide_eq_true ?_; first | assumption | omega) | (refine nt ?_; first | assumption | omega) | (simp [*]; done))) | refine skip_then ?_ | refine AW_seq ?_ | refine AW_block ?_)
    refine step_ops ?_
    refine m_ld_rp rfl hat ?_
    repeat (first | (refine step_ops ?_; (first | (refine m_mov (by conv => lhs; whnf) ?_) | (refine m_add rfl rfl ?_ ?_ ?_; (· omega); (· omega)) | (refine m_adds rfl rfl ?_ ?_; (· first | omega | (simp; omega))))) | refine end_ops ?_ | refine AW_ops ?_ | refine norm_then ?_ | refine norm_block ?_)
    refine next_round (k + 1) hlt (weak_st ?_ ?_ rfl rfl) ?_
    · rw [hsn]
      (repeat' (first | exact trivial | refine And.intro ?_ ?_)) <;> (first | rfl | skip)
    · trivial
    · omega
  · obtain rfl : k = G.length := by omega
    rw [List.take_length]
    repeat (first | (refine step_ops ?_; (first | (refine m_mov (by conv => lhs; whnf) ?_) | (refine m_lss rfl rfl ?_))) | refine end_ops ?_ | refine seq_ops ?_ | (refine cond_f rfl ?_ ?_; (· first | rfl | assumption | (refine decide_eq_false ?_; first | assumption | omega) | (refine nf ?_; first | assumption | omega) | (simp [*]; done))) | refine AW_seq ?_ | refine AW_ret ?_ | refine ret_done ?_ | refine norm_then ?_ | refine exit_then ?_ | refine exit_round ?_ | refine AW_exit ?_ | refine exit_block ?_)
    exact outs_v

theorem implHatPlanText_spec (c : Int) (G : List (List UInt8)) (hG : G.length ≤ 1048576) : Sp Tryd.prog 12 [pln c G] (htR c G) := by
  unfold htR htT
  by_cases h : IsPln c G
  · obtain ⟨n, rfl, h2, h3⟩ := pln_nat h
    have h4 := h.1
    have hne : G ≠ [] := fun e => by rw [e] at h4; simp at h4
    have hj := tail_join hne
    have hl := tail_len (pln_lens h)
    have hm : G.length * 82 ≤ 4 * 82 := Nat.mul_le_mul_right _ (by omega)
    have hjl : (Lib.join G [58]).length ≤ 400 := by
      have : (tailT G).length = (Lib.join G [58]).length + 1 := by rw [hj]; rfl
      omega
    have hjs := joinT_spec G [58] (by omega) (by omega)
    have hsh : shT n G = [hg n] ++ [58] ++ Lib.join G [58] := by
      unfold shT
      rw [hj]
      rfl
    rw [if_pos h, decide_eq_true h, Int.toNat_natCast, hsh]
    generalize Lib.join G [58] = J at *
    refine spec_of Tryd.func12 rfl cc12 rfl ?_
    unfold ac12
    repeat (first | (refine step_ops ?_; (first | (refine m_mov (by conv => lhs; whnf) ?_) | (refine m_box rfl ?_ ?_; (· first | rfl | (simp [cellOk, Value.oneCell']; done))) | (refine m_ldall rfl rfl ?_ ?_; (· first | rfl | (simp; done) | (simp [*]; done))))) | refine end_ops ?_ | refine seq_ops ?_ | refine AW_seq ?_)
    refine step_ops ?_; (apply m_call (implIsHatPlan_spec n G hG)); (· repeat (first | exact lends_nil | (refine lends_cons ?_ ?_; (· (refine lend_pln rfl; done)))))
    repeat (first | ((first | refine step_ops ?_ | refine step_tree ?_); (first | (refine m_not rfl ?_) | (apply m_ld_pt; (· rfl); (· rfl); (· rfl)) | (refine m_fa rfl ?_))) | refine end_ops ?_ | refine seq_tree ?_ | (refine cond_f rfl ?_ ?_; (· first | rfl | assumption | (refine decide_eq_false ?_; first | assumption | omega) | (refine nf ?_; first | assumption | omega) | (simp [*]; done))) | refine skip_then ?_)
    refine step_tree ?_; (apply m_call (itoa_hg n (by omega))); (· repeat (first | exact lends_nil | (refine lends_cons ?_ ?_; (· exact lend_v))))
    skip
    refine step_tree ?_
    refine m_adds (a := [hg n]) (b := [58]) rfl rfl (by simp) ?_
    repeat (refine step_tree ?_; (first | (apply m_ld_pt; (· rfl); (· rfl); (· rfl)) | (refine m_fa rfl ?_)))
    refine step_tree ?_
    refine m_call hjs ?_ ?_
    · exact lends_cons (lend_txr rfl) (lends_cons lend_v lends_nil)
    repeat (first | (refine step_tree ?_; (first | (refine m_mov (by conv => lhs; whnf) ?_) | (refine m_adds rfl rfl ?_ ?_; (· first | omega | (simp; omega))))) | refine end_tree ?_ | refine AW_ret ?_ | refine ret_done ?_)
    exact outs_tup2 outs_v (outs_b rfl)
  · rw [if_neg h, decide_eq_false h]
    refine spec_of Tryd.func12 rfl cc12 rfl ?_
    unfold ac12
    repeat (first | (refine step_ops ?_; (first | (refine m_mov (by conv => lhs; whnf) ?_) | (refine m_box rfl ?_ ?_; (· first | rfl | (simp [cellOk, Value.oneCell']; done))) | (refine m_ldall rfl rfl ?_ ?_; (· first | rfl | (simp; done) | (simp [*]; done))))) | refine end_ops ?_ | refine seq_ops ?_ | refine AW_seq ?_)
    refine step_ops ?_; (apply m_call (implIsHatPlan_spec c G hG)); (· repeat (first | exact lends_nil | (refine lends_cons ?_ ?_; (· (refine lend_pln rfl; done)))))
    repeat (first | (refine step_ops ?_; (first | (refine m_mov (by conv => lhs; whnf) ?_) | (refine m_not rfl ?_))) | refine end_ops ?_ | refine seq_ops ?_ | (refine cond_t rfl ?_ ?_; (· first | rfl | assumption | (refine decide_eq_true ?_; first | assumption | omega) | (refine nt ?_; first | assumption | omega) | (simp [*]; done))) | refine AW_ret ?_ | refine ret_done ?_ | refine ret_then ?_)
    exact outs_tup2 outs_v (outs_b rfl)
end Go.Proofs.YtfoecdaggmagaaaDoor
