/- Contracts: the first list that fits, and the first one behind another; the code's first giving. -/
import Derived.Test.YtlcjipgnflncfaaSpSe
namespace Go.Am
theorem lend_nil {hp : Hp} : Lend hp (.v (.slice none 0 0)) (ints []) := by
  intro w0 mu N tm w phi ro v hS hv
  simp only [SimV] at hv ⊢
  exact .inl ⟨rfl, rfl, none, 0, hv, by simp⟩
/-- New memory that a callee made is handed on. -/
theorem outs_ro {s : AS} {z n : Nat} {cs : List AV} (hall : cs.all plainV = true) : Outs s (.ro true z cs n) (.ro true z cs n) := by
  intro w0 N tm w phi ro y hS h
  simp only [SimV] at h ⊢
  rcases h with h | ⟨b, o, cap, cur, e, fz, h1, h2, h3, h4, h5, h6, h7⟩
  · exact .inl h
  · obtain ⟨k1, k2⟩ := h6 trivial
    exact .inr ⟨b, o, cap, cur, e, fz, h1, h2, ⟨k1, lt_of_get h2⟩, h4, h5, fun _ => ⟨k1, k2⟩, simL_allv hall h7⟩
end Go.Am
namespace Go.Proofs.Ytlcjipgnflncfaa
open Go.Am
attribute [local irreducible] AW Outs Weak Lends Lend Sp aops atree aop1 Then Round InBlock Done

theorem firstFitting_spec {f : FuncId} {fl : List AV} {n : Nat} {fits : List Int → Nat → Bool} (A : Asks Try.prog f fl n fits) (hn : n ≤ 1000) (h1 : 1 ≤ n) :
    Sp Try.prog 17 [.i n, .fn f fl fl.length] (srchR (goOn fits n n []).head?) := by
  have hs := fittingFrom_spec A [] 0 hn h1 (fun x hx => by simp at hx) (Nat.zero_le _)
  rw [goAt_start _ _ h1] at hs
  unfold srchR at hs ⊢
  generalize hsr : (goOn fits n n []).head? = sr at hs ⊢
  refine spec_of Try.func17 rfl cc17 rfl ?_
  unfold ac17
  repeat (first | (refine step_ops ?_; (first | (refine m_mov (by conv => lhs; whnf) ?_) | (refine m_nils ?_) | (refine m_ext rfl rfl ?_))) | refine end_ops ?_ | refine seq_ops ?_ | refine AW_ops ?_ | refine AW_seq ?_ | refine AW_ret ?_ | refine ret_done ?_ | refine norm_then ?_ | refine ret_then ?_ | refine exit_then ?_)
  refine step_ops ?_
  refine m_callt hs ?_ (allv_ints _) rfl ?_
  · refine lends_cons lend_v (lends_cons lend_nil (lends_cons lend_v (lends_cons ?_ lends_nil)))
    rw [show AS.ev _ (.t 7) = AV.fn f fl fl.length by (show killV 4 (AV.fn f fl fl.length) = _; exact kill_fn A.nokill)]
    exact lend_bears A.bears
  repeat (first | (refine step_ops ?_; (first | (refine m_mov (by conv => lhs; whnf) ?_) | (refine m_nils ?_) | (refine m_ext rfl rfl ?_))) | refine end_ops ?_ | refine seq_ops ?_ | refine AW_ops ?_ | refine AW_seq ?_ | refine AW_ret ?_ | refine ret_done ?_ | refine norm_then ?_ | refine ret_then ?_ | refine exit_then ?_)
  exact outs_tup2 (outs_ints rfl rfl rfl) (outs_b rfl)

/-- The first giving, if there is one. -/
def firstG (F : List Int) : Option (List Int) := if IsFam F then (goOn (fitsG F) F.length F.length []).head? else none

theorem asks_gift {F : List Int} (h : IsFam F) : Asks Try.prog 25 [.agg (kinV F)] F.length (fitsG F) where
  call := ⟨_, Try.func25, by rfl, by rfl⟩
  bears := bears_agg (kinV_plain F)
  norefs := fun _ => refsL_aggs (kinV_plain F)
  nokill := fun _ => killL_aggs (kinV_plain F)
  spec := fun M y hM _ hy => canTakeGift_spec F M y h hM hy

/-- The first giving behind a list, if there is one. -/
def nextG (F L : List Int) : Option (List Int) := if Givers F L then (goOn (fitsG F) F.length F.length []).find? (fun m => comesB L m) else none

end Go.Proofs.Ytlcjipgnflncfaa
