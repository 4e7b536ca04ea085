/- Contracts: marks written into texts that stand behind a first one. -/
import Derived.Test.YtfoecdaggmagaaaDoorHtX3
namespace Go.Proofs.YtfoecdaggmagaaaDoor
open Go.Am
attribute [local irreducible] AW Outs Weak Lends Lend Sp aops atree aop1 Then Round InBlock Done
attribute [local irreducible] SpM DoneM SpH DoneH
attribute [local simp] txs_len

theorem markStringS_off (w : List UInt8) (G : List (List UInt8)) (k : Nat) (hG : G.length ≤ 1048576) (h0 : 1 ≤ k) (h1 : k ≤ 1048577) :
    SpH Tryd.prog 14 [.sl pbase 1 1 G.length, .i k] (Am.look (lenH (txs (w :: G)))) (.i ((k + G.length : Nat) : Int)) (Am.look (lenH (txs (w :: marksT k G.length)))) := by
  have hst := static_len (txs (w :: G)) (txs (w :: marksT k G.length)) (txs_own _ _) (txs_refs _ _) (.int .i64 ((k + G.length : Nat) : Int))
  refine specH_of Tryd.func14 rfl cc14 rfl (by first | exact static_mat1 _ | exact static_mat2 _ _ | assumption) ?_
  unfold ac14
  repeat (first | (refine step_ops ?_; (refine m_mov (by conv => lhs; whnf) ?_)) | refine end_ops ?_ | refine seq_ops ?_ | refine AW_seq ?_ | refine AW_block ?_)
  refine AW_loop (α := Nat) (fun j => j ≤ G.length) (fun j => st [(0, .sl pbase 1 1 G.length), (1, .i ((k + j : Nat) : Int)), (5, .i j)] [(pbase, (true, txs (w :: markedT G k j)))]) (fun j => G.length - j) 0 (by omega) (weak_st ?_ ?_ rfl rfl) ?_
  · (repeat' (first | exact trivial | refine And.intro ?_ ?_)) <;> (first | rfl | skip)
  · refine ⟨?_, trivial⟩
    rw [markedT_zero]
    rfl
  intro j hj
  have hml := markedT_len G k j hj
  have htl := txs_len (w :: markedT G k j)
  rw [List.length_cons] at htl
  by_cases h : j < G.length
  · repeat (first | (refine step_ops ?_; (first | (refine m_mov (by conv => lhs; whnf) ?_) | (refine m_lss rfl rfl ?_) | (refine m_len_sl rfl ?_))) | refine end_ops ?_ | refine seq_ops ?_ | (refine cond_t rfl ?_ ?_; (· first | rfl | assumption | (refine decide_eq_true ?_; first | assumption | omega) | (refine nt ?_; first | assumption | omega) | (simp [*]; done))) | refine skip_then ?_ | refine AW_seq ?_ | refine AW_block ?_)
    (refine step_ops ?_); (apply m_call (markText_spec (k + j) (by omega) (by omega))); (· repeat (first | exact lends_nil | (refine lends_cons ?_ ?_; (· exact lend_v))))
    repeat (first | (refine step_ops ?_; (first | (refine m_mov (by conv => lhs; whnf) ?_) | (refine m_add rfl rfl ?_ ?_ ?_; (· omega); (· omega)) | (refine m_idx_sl rfl rfl ?_ ?_ ?_; (· omega); (· omega)) | (apply m_st; (· rfl); (· rfl); (· rfl); (· first | omega | (simp; done) | (simp; omega)); (· rfl)))) | refine end_ops ?_ | refine AW_ops ?_ | refine norm_then ?_ | refine norm_block ?_)
    refine next_round (j + 1) h (weak_st ?_ ?_ rfl rfl) ?_
    · rw [show ((k + (j + 1) : Nat) : Int) = ((k + j : Nat) : Int) + 1 by omega]
      (repeat' (first | exact trivial | refine And.intro ?_ ?_)) <;> (first | rfl | skip)
    · refine ⟨?_, trivial⟩
      show some (true, (txs (w :: markedT G k j)).set (1 + ((j : Nat) : Int).toNat * 1) (str (mkT (k + j)))) = _
      rw [Int.toNat_natCast, Nat.mul_one, Nat.add_comm 1 j, txs_set, List.set_cons_succ, markedT_set G k j h]
    · omega
  · obtain rfl : j = G.length := by omega
    repeat (first | (refine step_ops ?_; (first | (refine m_mov (by conv => lhs; whnf) ?_) | (refine m_lss rfl rfl ?_) | (refine m_len_sl rfl ?_))) | refine end_ops ?_ | refine seq_ops ?_ | (refine cond_f rfl ?_ ?_; (· first | rfl | assumption | (refine decide_eq_false ?_; first | assumption | omega) | (refine nf ?_; first | assumption | omega) | (simp [*]; done))) | refine AW_seq ?_ | refine AW_ret ?_ | refine norm_then ?_ | refine exit_then ?_ | refine exit_round ?_ | refine AW_exit ?_ | refine exit_block ?_)
    refine ret_R id (by rfl) ?_ (by simp) (by simp) (by simp)
    refine ⟨⟨_, rfl, .inl ?_⟩, trivial⟩
    rw [markedT_all]
    exact congrArg (Prod.mk true) (txs_ren _ _).symm

theorem markHatPlan_off (c : Int) (w : List UInt8) (G : List (List UInt8)) (k : Nat) (hG : G.length ≤ 1048576) (h0 : 1 ≤ k) (h1 : k ≤ 1048577) :
    SpH Tryd.prog 7 [.agg [.i c, .sl pbase 1 1 G.length], .i k] (Am.look (lenH (txs (w :: G)))) (.i ((k + G.length : Nat) : Int)) (Am.look (lenH (txs (w :: marksT k G.length)))) := by
  have hst := static_len (txs (w :: G)) (txs (w :: marksT k G.length)) (txs_own _ _) (txs_refs _ _) (.int .i64 ((k + G.length : Nat) : Int))
  have hms := markStringS_off w G k hG h0 h1
  refine specH_of Tryd.func7 rfl cc7 rfl (by first | exact static_mat1 _ | exact static_mat2 _ _ | assumption) ?_
  unfold ac7
  refine seq_ops ?_
  refine step_ops ?_
  refine m_boxd (l := [.i c, .sl pbase 1 1 G.length]) rfl rfl rfl ?_
  repeat (first | (refine step_ops ?_; (first | (refine m_mov (by conv => lhs; whnf) ?_) | (apply m_ld_pt; (· rfl); (· rfl); (· rfl)) | (refine m_fa rfl ?_))) | refine end_ops ?_ | refine seq_ops ?_)
  refine step_ops ?_
  refine m_callR id hms rfl rfl (by simp [refsL, refsV, Am.look]) ⟨?_, trivial⟩ (by simp) (by simp) (by simp) ?_ ?_ rfl ?_
  · exact congrArg (fun l => some (true, l)) (txs_ren id (w :: G)).symm
  · intro p hp
    rw [List.mem_singleton] at hp
    subst hp
    exact ⟨txs_own _ _, txs_refs _ _⟩
  · intro p hp
    rw [List.mem_singleton] at hp
    subst hp
    exact txs_own _ _
  repeat (first | (refine step_ops ?_; (refine m_mov (by conv => lhs; whnf) ?_)) | refine end_ops ?_ | refine seq_ops ?_ | refine AW_ret ?_)
  refine ret_R id (by rfl) ?_ (by simp) (by simp) (by simp)
  exact ⟨⟨_, rfl, .inl rfl⟩, trivial⟩
/-- A call that writes the texts of a struct, which stand behind a first one. -/
theorem m_markO {P : Program} {s : AS} {K : AS → Prop} {d : Option Nat} {f : FuncId} {args : List Opd} {c : Int} {n : Nat} {x y : Value} {w : List UInt8} {G M : List (List UInt8)} (q : Nat) (hs : SpH P f [.agg [.i c, .sl pbase 1 1 n], .v x] (Am.look (lenH (txs (w :: G)))) (.v y) (Am.look (lenH (txs (w :: M)))))
    (ha : args.map s.ev = [.agg [.i c, .sl q 1 1 n], .v x]) (hq : s.hp q = some (true, txs (w :: G))) (k : K ((s.mem q (true, txs (w :: M))).put d (.v y))) : aop1 P true ⟨d, .call f args, none⟩ s K := by
  generalize w :: G = G at *
  generalize w :: M = M at *
  have hin : Am.look (lenH (txs G)) pbase = some (true, txs G) := by simp [Am.look]
  have hout : Am.look (lenH (txs M)) pbase = some (true, txs M) := by simp [Am.look]
  refine m_callh (hp' := (s.mem q (true, txs M)).hp) (fun r => if r = pbase then q else r) hs ?_ ⟨fun r c hc => ?_, fun r r' h1 h2 _ => ?_, fun r hr => ?_, fun r hr hn => ?_, fun r c hc => ?_, fun q' hq' => ?_, fun r c hc => ?_, fun r c hc => ?_, rfl⟩ k
  · rw [ha]
    have e : [AV.agg [.i c, .sl q 1 1 n], AV.v x] = renL (fun r => if r = pbase then q else r) [.agg [.i c, .sl pbase 1 1 n], .v x] := by simp [renL, renV]
    rw [e]
    refine lendsH_ren (fun r c hc => ?_) rfl ?_
    · obtain ⟨rfl, rfl⟩ := look_len hc
      rw [if_pos rfl, hq]
      rfl
    · simp [refsL, refsV, Am.look]
  · obtain ⟨rfl, rfl⟩ := look_len hc
    rw [if_pos rfl, hq]
    show _ = some (true, renL _ (txs G))
    rw [txs_ren]
  · rw [look_len_is h1, look_len_is h2]
  · rw [look_len_is hr, hout]
    rfl
  · rw [look_len_is hr, hin] at hn
    cases hn
  · obtain ⟨rfl, rfl⟩ := look_len hc
    rw [if_pos rfl]
    show (if q = q then some (true, txs M) else s.hp q) = some (true, renL _ (txs M))
    rw [if_pos rfl, txs_ren]
  · have hne : q' ≠ q := fun e => by
      refine hq' pbase (by rw [hout]; rfl) ?_
      rw [if_pos rfl]
      exact e.symm
    exact hp_mem_ne hne
  · obtain ⟨rfl, rfl⟩ := look_len hc
    exact ⟨txs_own _ _, txs_refs _ _⟩
  · obtain ⟨rfl, rfl⟩ := look_len hc
    exact txs_own _ _
end Go.Proofs.YtfoecdaggmagaaaDoor
