/- The law FnSeatsChancedOfAll says true for all numbers and lists: chances and counts of displaced guests sum up, and chances, counts and means are those of the model. No condition. -/
import Derived.Test.YtdbjchmmdfjhjaaZs5
namespace Go.Proofs.Ytdbjchmmdfjhjaa
open Go.Am
attribute [local irreducible] AW Outs Weak Lends Lend Sp aops atree aop1 Then Round InBlock Done
attribute [local irreducible] SpM DoneM SpH DoneH

theorem sgParts : ac3 = (.seq (fstC ac3) (.seq (fstC (sndC ac3)) (.seq (fstC (sndC (sndC ac3))) (.seq (fstC (sndC (sndC (sndC ac3)))) (.seq (fstC (sndC (sndC (sndC (sndC ac3))))) (.seq (fstC (sndC (sndC (sndC (sndC (sndC ac3)))))) (.seq (fstC (sndC (sndC (sndC (sndC (sndC (sndC ac3))))))) (.seq (.seq (fstC sgBlock) (.cond (.t 128) (cndC (sndC sgBlock)) .skip)) sgRest)))))))) := rfl

set_option maxRecDepth 16000 in
set_option maxHeartbeats 4000000 in
theorem lawSeatsChancedOfAll (g l x n m i p q : Int) (L : List Int) : Sp Try.prog 3 [.i g, .i l, .i x, .i n, .i m, .i i, .i p, .i q, ints L] (.b true) := by
  have hparts := sgParts
  have a5 := implChanceDisplaced_spec g l x
  have a6 := specChanceDisplaced_spec g l x
  have a7 := implCountDisplaced_spec g l x
  have a8 := specCountDisplaced_spec g l x
  refine spec_of Try.func3 rfl cc3 rfl ?_
  by_cases hL : L.length ≤ 10000
  · have hsec := sgSecond n m i p q L hL
    by_cases h : DisOk g l x
    · have h1 := h.1.1
      have h2 := h.1.2
      have h3 := h.2
      obtain ⟨G, rfl⟩ := Int.eq_ofNat_of_zero_le (show 0 ≤ g by omega)
      obtain ⟨K, rfl⟩ := Int.eq_ofNat_of_zero_le (show 0 ≤ l by omega)
      obtain ⟨X, rfl⟩ := Int.eq_ofNat_of_zero_le (show 0 ≤ x by omega)
      have F := sgE G K (by omega) (by omega) (by omega)
      have hall := sgAllK n m i p q L G K X _ _ _ _ _ F (by omega)
      rw [F.c5 X (by omega)] at a5 a6
      rw [F.c7 X (by omega)] at a7 a8
      clear F
      generalize sgN ((K : Nat) : Int) (sgS G K) = n0 at *
      generalize (fun k => sumC ((K : Nat) : Int) ((sgS G K).filter (keepD ((k : Nat) : Int)))) = f at *
      rw [hparts]
      clear hparts
      generalize cndC (sndC sgBlock) = cB at *
      generalize sgRest = cR at *
      unfold sgBlock
      unfold ac3
      simp only [fstC, sndC, cndC]
      repeat (first | (refine step_ops ?_; (first | (refine m_mov (by conv => lhs; whnf) ?_) | (refine m_gtr rfl rfl ?_) | (refine m_len_ro rfl ?_))) | refine end_ops ?_ | refine seq_ops ?_ | (refine cond_f rfl ?_ ?_; (· first | rfl | assumption | (refine decide_eq_false ?_; first | assumption | omega) | (refine nf ?_; first | assumption | omega) | (simp [*]; done))) | refine skip_then ?_ | refine AW_seq ?_)
      refine step_ops ?_; (apply m_call (a5)); (· repeat (first | exact lends_nil | (refine lends_cons ?_ ?_; (· exact lend_v))))
      repeat (first | (refine step_ops ?_; (first | (refine m_mov (by conv => lhs; whnf) ?_) | (refine m_ext rfl rfl ?_))) | refine end_ops ?_ | refine seq_ops ?_)
      refine step_ops ?_; (apply m_call (a6)); (· repeat (first | exact lends_nil | (refine lends_cons ?_ ?_; (· exact lend_v))))
      repeat (first | (refine step_ops ?_; (first | (refine m_mov (by conv => lhs; whnf) ?_) | (refine m_ext rfl rfl ?_))) | refine end_ops ?_ | refine seq_ops ?_)
      refine step_ops ?_; (apply m_call (a7)); (· repeat (first | exact lends_nil | (refine lends_cons ?_ ?_; (· exact lend_v))))
      repeat (first | (refine step_ops ?_; (first | (refine m_mov (by conv => lhs; whnf) ?_) | (refine m_ext rfl rfl ?_))) | refine end_ops ?_ | refine seq_ops ?_)
      refine step_ops ?_; (apply m_call (a8)); (· repeat (first | exact lends_nil | (refine lends_cons ?_ ?_; (· exact lend_v))))
      repeat (first | (refine step_ops ?_; ((try (refine g_yes rfl ?_ ?_; (· first | rfl | assumption | (refine decide_eq_true ?_; first | assumption | omega) | (refine nt ?_; first | assumption | omega) | (simp [*]; done) | (refine decide_eq_false ?_; first | assumption | omega) | (refine nf ?_; first | assumption | omega)))); (first | (refine m_mov (by conv => lhs; whnf) ?_) | (refine m_neq rfl rfl ?_) | (refine m_beq rfl rfl ?_) | (refine m_pick_f rfl ?_ (by conv => lhs; whnf) ?_; (· first | rfl | assumption | (refine decide_eq_false ?_; first | assumption | omega) | (refine nf ?_; first | assumption | omega) | (simp [*]; done))) | (refine m_ext rfl rfl ?_)))) | refine end_ops ?_ | refine seq_ops ?_ | (refine cond_t rfl ?_ ?_; (· first | rfl | assumption | (refine decide_eq_true ?_; first | assumption | omega) | (refine nt ?_; first | assumption | omega) | (simp [*]; done))) | (refine cond_f rfl ?_ ?_; (· first | rfl | assumption | (refine decide_eq_false ?_; first | assumption | omega) | (refine nf ?_; first | assumption | omega) | (simp [*]; done))) | refine skip_then ?_ | refine AW_seq ?_)
      refine AW_weak (weak_st ?_ ?_ rfl rfl) (hall _ ?_)
      · (repeat' (first | exact trivial | refine And.intro ?_ ?_)) <;> (first | rfl | skip)
      · trivial
      intro s1 hs1
      refine norm_then ?_
      exact AW_weak hs1 hsec
    · have e1 : disTup g l x = .tup [.i 0, .b false] := by
        unfold disTup disN
        rw [if_neg h, decide_eq_false h]
      have e2 : disFTup g l x = .tup [.i 0, .i 0, .b false] := by
        unfold disFTup disF
        rw [if_neg h, decide_eq_false h]
        rfl
      rw [e2] at a5 a6
      rw [e1] at a7 a8
      rw [hparts]
      clear hparts
      generalize cndC (sndC sgBlock) = cB at *
      generalize sgRest = cR at *
      unfold sgBlock
      unfold ac3
      simp only [fstC, sndC, cndC]
      repeat (first | (refine step_ops ?_; (first | (refine m_mov (by conv => lhs; whnf) ?_) | (refine m_gtr rfl rfl ?_) | (refine m_len_ro rfl ?_))) | refine end_ops ?_ | refine seq_ops ?_ | (refine cond_f rfl ?_ ?_; (· first | rfl | assumption | (refine decide_eq_false ?_; first | assumption | omega) | (refine nf ?_; first | assumption | omega) | (simp [*]; done))) | refine skip_then ?_ | refine AW_seq ?_)
      refine step_ops ?_; (apply m_call (a5)); (· repeat (first | exact lends_nil | (refine lends_cons ?_ ?_; (· exact lend_v))))
      repeat (first | (refine step_ops ?_; (first | (refine m_mov (by conv => lhs; whnf) ?_) | (refine m_ext rfl rfl ?_))) | refine end_ops ?_ | refine seq_ops ?_)
      refine step_ops ?_; (apply m_call (a6)); (· repeat (first | exact lends_nil | (refine lends_cons ?_ ?_; (· exact lend_v))))
      repeat (first | (refine step_ops ?_; (first | (refine m_mov (by conv => lhs; whnf) ?_) | (refine m_ext rfl rfl ?_))) | refine end_ops ?_ | refine seq_ops ?_)
      refine step_ops ?_; (apply m_call (a7)); (· repeat (first | exact lends_nil | (refine lends_cons ?_ ?_; (· exact lend_v))))
      repeat (first | (refine step_ops ?_; (first | (refine m_mov (by conv => lhs; whnf) ?_) | (refine m_ext rfl rfl ?_))) | refine end_ops ?_ | refine seq_ops ?_)
      refine step_ops ?_; (apply m_call (a8)); (· repeat (first | exact lends_nil | (refine lends_cons ?_ ?_; (· exact lend_v))))
      repeat (first | (refine step_ops ?_; ((try (refine g_yes rfl ?_ ?_; (· first | rfl | assumption | (refine decide_eq_true ?_; first | assumption | omega) | (refine nt ?_; first | assumption | omega) | (simp [*]; done) | (refine decide_eq_false ?_; first | assumption | omega) | (refine nf ?_; first | assumption | omega)))); (first | (refine m_mov (by conv => lhs; whnf) ?_) | (refine m_neq rfl rfl ?_) | (refine m_beq rfl rfl ?_) | (refine m_pick_f rfl ?_ (by conv => lhs; whnf) ?_; (· first | rfl | assumption | (refine decide_eq_false ?_; first | assumption | omega) | (refine nf ?_; first | assumption | omega) | (simp [*]; done))) | (refine m_ext rfl rfl ?_)))) | refine end_ops ?_ | refine seq_ops ?_ | (refine cond_f rfl ?_ ?_; (· first | rfl | assumption | (refine decide_eq_false ?_; first | assumption | omega) | (refine nf ?_; first | assumption | omega) | (simp [*]; done))) | refine skip_then ?_ | refine AW_seq ?_)
      refine AW_weak (weak_st ?_ ?_ rfl rfl) hsec
      · (repeat' (first | exact trivial | refine And.intro ?_ ?_)) <;> (first | rfl | skip)
      · trivial
  · clear hparts
    unfold ac3
    repeat (first | (refine step_ops ?_; (first | (refine m_mov (by conv => lhs; whnf) ?_) | (refine m_gtr rfl rfl ?_) | (refine m_len_ro rfl ?_))) | refine end_ops ?_ | refine seq_ops ?_ | (refine cond_t rfl ?_ ?_; (· first | rfl | assumption | (refine decide_eq_true ?_; first | assumption | omega) | (refine nt ?_; first | assumption | omega) | (simp [*]; done))) | refine AW_seq ?_ | refine AW_ret ?_ | refine ret_done ?_ | refine ret_then ?_)
    exact outs_b rfl
end Go.Proofs.Ytdbjchmmdfjhjaa
