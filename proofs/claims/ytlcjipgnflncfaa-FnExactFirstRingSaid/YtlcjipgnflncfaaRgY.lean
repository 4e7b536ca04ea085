/- Contracts: all givings, as the specification lists them. Contracts: the first ring and how many there are, as the specification tells them. -/
import Derived.Test.YtlcjipgnflncfaaRgC
import Derived.Test.YtlcjipgnflncfaaAmPx
import Derived.Test.YtlcjipgnflncfaaSpC
import Derived.Test.YtlcjipgnflncfaaSpFg
namespace Go.Proofs.Ytlcjipgnflncfaa
open Go.Am
attribute [local irreducible] AW Outs Weak Lends Lend Sp aops atree aop1 Then Round InBlock Done
attribute [local irreducible] SpM DoneM SpH DoneH SpG DoneT

/-- All givings, in order. -/
def allG (F : List Int) : List (List Int) := goOn (fitsG F) F.length F.length []
theorem fitsG_new (F : List Int) : ∀ l x, fitsG F l x = true → (x : Int) ∉ l := by
  intro l x h
  unfold fitsG at h
  simp only [Bool.and_eq_true, Bool.not_eq_true', decide_eq_false_iff_not] at h
  exact h.2
theorem facR_le9 : ∀ n < 10, facR n ≤ 362880 := by decide
theorem allG_len {F : List Int} (h9 : F.length ≤ 9) : (allG F).length ≤ 362880 :=
  Nat.le_trans (goOn_fac (fitsG_new F) F.length [] (by simp) List.nodup_nil (by simp)) (facR_le9 _ (by omega))
theorem giAll_spec (F : List Int) (h1 : 1 ≤ F.length) (h9 : F.length ≤ 9) : SpH Try.prog 14 [ints F] (fun _ => none) (.sl nbase 1 0 (allG F).length) (matO (allG F)) := by
  have hpb : pbase = 4000000 := rfl
  have hx : mxA = 1000000 := rfl
  have hl := allG_len h9
  obtain ⟨k, hk⟩ : ∃ k, F.length = k + 1 := ⟨F.length - 1, by omega⟩
  have hnode := giLook_node F h9 k [] [] (by simp; omega) (by rw [← hk]; show 0 + (allG F).length ≤ _; omega)
  rw [← hk, List.nil_append] at hnode
  change SpG Try.prog _ _ _ _ (houtA (allG F)) at hnode
  generalize allG F = R at *
  refine specH_of Try.func14 rfl cc14 rfl (by first | exact static_mat1 _ | exact static_mat2 _ _ | assumption) ?_
  unfold ac14
  repeat (first | (refine step_ops ?_; (first | (refine m_mov (by conv => lhs; whnf) ?_) | (refine m_ld_rpi rfl ?_ ?_; (· omega)) | (refine m_ld_pti rfl (by rfl) ?_ ?_; (· first | omega | (simp; omega))) | (apply m_ld_ptb; (· rfl); (· rfl); (· assumption)) | (apply m_ld_rp; (· rfl); (· rfl)) | (apply m_ld_pt; (· rfl); (· rfl); (· rfl)) | (refine m_nils ?_) | (refine m_alloc ?_))) | refine end_ops ?_ | refine seq_ops ?_ | refine AW_ops ?_ | refine AW_seq ?_ | refine AW_ret ?_ | refine ret_done ?_ | refine norm_then ?_ | refine ret_then ?_ | refine exit_then ?_)
  refine step_opsW (weak_nilcellG false 3 900 1 0 rfl rfl (by decide) rfl rfl) ?_
  refine m_callG (nmR 3) gvR hnode ?_ (stA_given0 (by decide) (by omega) rfl rfl fun j hj => ?_) ?_
  · have hin1 := hin0_live (q0 := 3) (hp := (((((((((enterH [ints F] fun x => none).kill 2).mem 2 (true, [])).put (some 2) (AV.sl 2 1 0 0)).kill 3).mem 3 (true, List.map AV.v [Value.slice none 0 0])).put (some 3) (AV.pt 3 0)).put (some 4) (AV.ro false 1 (List.map AV.i F) F.length)).mem 900 (false, []) |>.mem 3 (false, [AV.sl 900 1 0 0])).hp) rfl rfl
    exact lendH_cons (lendH_ren (x := ints F) hin1 (by simp [ownV, plainV]) (by simp [refsV])) (lendH_cons lendH_nil0 (lendH_cons lendH_nil0 (lendH_cons lendH_v (lendH_cons (lendH_ren (x := .pt pbase 0) hin1 rfl rfl) lendH_nil))))
  · simp (disch := omega) only [hp_put, hp_mem_ne, hp_kill_ne]
    rfl
  repeat (first | (refine step_ops ?_; (first | (refine m_mov (by conv => lhs; whnf) ?_) | (refine m_ld_rpi rfl ?_ ?_; (· omega)) | (refine m_ld_pti rfl (by rfl) ?_ ?_; (· first | omega | (simp; omega))) | (apply m_ld_ptb; (· rfl); (· rfl); (· assumption)) | (apply m_ld_rp; (· rfl); (· rfl)) | (apply m_ld_pt; (· rfl); (· rfl); (· rfl)) | (refine m_nils ?_) | (refine m_alloc ?_))) | refine end_ops ?_ | refine seq_ops ?_ | refine AW_ops ?_ | refine AW_seq ?_ | refine AW_ret ?_ | refine ret_done ?_ | refine norm_then ?_ | refine ret_then ?_ | refine exit_then ?_)
  refine ret_mat (r0 := 900) (b := 1000) (by omega) (by omega) (by omega) rfl rfl fun j hj => ?_
  simp (disch := omega) only [hp_put]
  exact hpR_row (by decide) hj
end Go.Proofs.Ytlcjipgnflncfaa

namespace Go.Proofs.Ytlcjipgnflncfaa
open Go.Am
attribute [local irreducible] AW Outs Weak Lends Lend Sp aops atree aop1 Then Round InBlock Done
attribute [local irreducible] SpM DoneM SpH DoneH SpG DoneT

def isRing (L : List Int) : Bool := decide ((chs L).length = 1)
theorem allG_ex {F : List Int} (h : IsFam F) : ∀ m ∈ allG F, IsEx m := fun m hm => by
  obtain ⟨h1, h2, h3⟩ := goOn_pm (fitsG_new F) F.length [] List.nodup_nil (by simp) m hm
  have h9 := h.2.1
  have h1' := h.1
  have hl : m.length = F.length := by simpa using h3
  exact ⟨by omega, by omega, fun x hx => by rw [hl]; exact h2 x hx, h1⟩
theorem giRing_spec (L : List Int) (h : IsEx L) : Sp Try.prog 15 [ints L] (.b (isRing L)) := by
  have e : isRing L = decide (((chs L).length : Int) = 1) := by
    unfold isRing
    rw [decide_eq_decide]
    omega
  rw [e]
  refine spec_of Try.func15 rfl cc15 rfl ?_
  unfold ac15
  repeat (first | (refine step_ops ?_; (refine m_mov (by conv => lhs; whnf) ?_)) | refine end_ops ?_ | refine seq_ops ?_)
  (refine step_ops ?_); (apply m_call (sp_mat1 (exChains_spec L h))); (· repeat (first | exact lends_nil | (refine lends_cons ?_ ?_; (· (refine lend_ints ?_; first | rfl | omega)))))
  repeat (first | (refine step_ops ?_; (first | (refine m_mov (by conv => lhs; whnf) ?_) | (refine m_eql rfl rfl ?_) | (refine m_len_ro rfl ?_))) | refine end_ops ?_ | refine AW_ret ?_ | refine ret_done ?_)
  exact outs_b rfl
/-- The first ring, if there is one. -/
def ringS (F : List Int) : Option (List Int) := if IsFam F then (allG F).find? isRing else none
theorem rows_at {R : List (List Int)} {k : Nat} (h : k < R.length) : ((R.map newInts).drop k)[0]? = some (newInts (R.getD k [])) := by simp [h]
theorem specFirstRing_spec (F : List Int) (hF : F.length ≤ 1048576) : Sp Try.prog 5 [ints F] (srchR (ringS F)) := by
  unfold srchR
  by_cases h : IsFam F
  · have e : ringS F = (allG F).find? isRing := if_pos h
    have hall := sp_mat1 (giAll_spec F h.1 h.2.1)
    have hex := allG_ex h
    have hlen := allG_len h.2.1
    rw [e]
    generalize allG F = R at *
    refine spec_of Try.func5 rfl cc5 rfl ?_
    unfold ac5
    repeat (first | (refine step_ops ?_; (first | (refine m_mov (by conv => lhs; whnf) ?_) | (refine m_nils ?_))) | refine end_ops ?_ | refine seq_ops ?_ | refine AW_seq ?_)
    (refine step_ops ?_); (apply m_call (giGood_spec F hF)); (· repeat (first | exact lends_nil | (refine lends_cons ?_ ?_; (· (refine lend_ints ?_; first | rfl | omega)))))
    repeat (first | (refine step_ops ?_; (first | (refine m_mov (by conv => lhs; whnf) ?_) | (refine m_not rfl ?_))) | refine end_ops ?_ | refine seq_ops ?_ | (refine cond_f rfl ?_ ?_; (· first | rfl | assumption | (refine decide_eq_false ?_; first | assumption | omega) | (refine nf ?_; first | assumption | omega) | (simp [*]; done))) | refine skip_then ?_ | refine AW_seq ?_)
    (refine step_ops ?_); (apply m_call (hall)); (· repeat (first | exact lends_nil | (refine lends_cons ?_ ?_; (· (refine lend_ints ?_; first | rfl | omega)))))
    repeat (first | (refine step_ops ?_; (first | (refine m_mov (by conv => lhs; whnf) ?_) | (refine m_len_ro rfl ?_))) | refine end_ops ?_ | refine AW_block ?_)
    refine AW_loop (α := Nat) (fun k => k ≤ R.length ∧ (R.take k).find? isRing = none) (fun k => st [(10, .ro true 1 (R.map newInts) R.length), (11, .i R.length), (12, .i k)] []) (fun k => R.length - k) 0 ⟨Nat.zero_le _, rfl⟩ (weak_st ?_ ?_ rfl rfl) ?_
    · (repeat' (first | exact trivial | refine And.intro ?_ ?_)) <;> (first | rfl | skip)
    · trivial
    rintro k ⟨hk, hno⟩
    by_cases hc : k < R.length
    · have hat := rows_at hc
      have hx := hex _ (getD_memL (d := []) hc)
      have hsn := take_snoc R k [] hc
      have hri := giRing_spec _ hx
      have hfind : isRing (R.getD k []) = true → R.find? isRing = some (R.getD k []) := fun hr => by
        conv => lhs; rw [← List.take_append_drop (k + 1) R, hsn]
        rw [List.append_assoc, List.find?_append, hno, Option.none_or, List.singleton_append, List.find?_cons, hr]
      by_cases hr : isRing (R.getD k []) = true
      · rw [hfind hr]
        rw [hr] at hri
        generalize R.getD k [] = L at *
        repeat (first | (refine step_ops ?_; (first | (refine m_lss rfl rfl ?_) | (refine m_idx1_ro rfl rfl ?_ ?_; (· omega)))) | refine end_ops ?_ | refine seq_ops ?_ | (refine cond_t rfl ?_ ?_; (· first | rfl | assumption | (refine decide_eq_true ?_; first | assumption | omega) | (refine nt ?_; first | assumption | omega) | (simp [*]; done))) | refine skip_then ?_ | refine AW_seq ?_ | refine AW_block ?_)
        refine step_ops ?_
        refine m_ld_rp rfl hat ?_
        repeat (first | (refine step_ops ?_; (refine m_mov (by conv => lhs; whnf) ?_)) | refine end_ops ?_ | refine seq_ops ?_)
        (refine step_ops ?_); (apply m_call (hri)); (· repeat (first | exact lends_nil | (refine lends_cons ?_ ?_; (· (refine lend_ints ?_; first | rfl | omega)))))
        repeat (first | (refine step_ops ?_; (refine m_mov (by conv => lhs; whnf) ?_)) | refine end_ops ?_ | refine seq_ops ?_ | (refine cond_t rfl ?_ ?_; (· first | rfl | assumption | (refine decide_eq_true ?_; first | assumption | omega) | (refine nt ?_; first | assumption | omega) | (simp [*]; done))) | refine AW_ret ?_ | refine ret_done ?_ | refine ret_then ?_ | refine ret_block ?_ | refine ret_round ?_)
        refine outs_tup2 ?_ (outs_b rfl)
        exact outs_ro (allv_ints _)
      · have hr : isRing (R.getD k []) = false := by simpa using hr
        have hno' : (R.take (k + 1)).find? isRing = none := by
          rw [hsn, List.find?_append, hno, Option.none_or]
          simp only [List.find?_cons, hr, List.find?_nil]
        rw [hr] at hri
        generalize R.getD k [] = L at *
        repeat (first | (refine step_ops ?_; (first | (refine m_lss rfl rfl ?_) | (refine m_idx1_ro rfl rfl ?_ ?_; (· omega)))) | refine end_ops ?_ | refine seq_ops ?_ | (refine cond_t rfl ?_ ?_; (· first | rfl | assumption | (refine decide_eq_true ?_; first | assumption | omega) | (refine nt ?_; first | assumption | omega) | (simp [*]; done))) | refine skip_then ?_ | refine AW_seq ?_ | refine AW_block ?_)
        refine step_ops ?_
        refine m_ld_rp rfl hat ?_
        repeat (first | (refine step_ops ?_; (refine m_mov (by conv => lhs; whnf) ?_)) | refine end_ops ?_ | refine seq_ops ?_)
        (refine step_ops ?_); (apply m_call (hri)); (· repeat (first | exact lends_nil | (refine lends_cons ?_ ?_; (· (refine lend_ints ?_; first | rfl | omega)))))
        repeat (first | (refine step_ops ?_; (first | (refine m_mov (by conv => lhs; whnf) ?_) | (refine m_add rfl rfl ?_ ?_ ?_; (· omega); (· omega)))) | refine end_ops ?_ | refine AW_ops ?_ | (refine cond_f rfl ?_ ?_; (· first | rfl | assumption | (refine decide_eq_false ?_; first | assumption | omega) | (refine nf ?_; first | assumption | omega) | (simp [*]; done))) | refine norm_then ?_ | refine norm_block ?_ | refine AW_skip ?_)
        refine next_round (k + 1) ⟨hc, hno'⟩ (weak_st ?_ ?_ rfl rfl) ?_
        · (repeat' (first | exact trivial | refine And.intro ?_ ?_)) <;> (first | rfl | skip)
        · trivial
        · omega
    · obtain rfl : k = R.length := by omega
      rw [List.take_length] at hno
      rw [hno]
      repeat (first | (refine step_ops ?_; (first | (refine m_mov (by conv => lhs; whnf) ?_) | (refine m_lss rfl rfl ?_) | (refine m_nils ?_))) | refine end_ops ?_ | refine seq_ops ?_ | (refine cond_f rfl ?_ ?_; (· first | rfl | assumption | (refine decide_eq_false ?_; first | assumption | omega) | (refine nf ?_; first | assumption | omega) | (simp [*]; done))) | refine AW_seq ?_ | refine AW_ret ?_ | refine ret_done ?_ | refine norm_then ?_ | refine exit_then ?_ | refine exit_round ?_ | refine AW_exit ?_ | refine exit_block ?_)
      exact outs_tup2 (outs_ints rfl rfl rfl) (outs_b rfl)
  · have e : ringS F = none := if_neg h
    rw [e]
    refine spec_of Try.func5 rfl cc5 rfl ?_
    unfold ac5
    repeat (first | (refine step_ops ?_; (first | (refine m_mov (by conv => lhs; whnf) ?_) | (refine m_nils ?_))) | refine end_ops ?_ | refine seq_ops ?_ | refine AW_seq ?_)
    (refine step_ops ?_); (apply m_call (giGood_spec F hF)); (· repeat (first | exact lends_nil | (refine lends_cons ?_ ?_; (· (refine lend_ints ?_; first | rfl | omega)))))
    repeat (first | (refine step_ops ?_; (first | (refine m_mov (by conv => lhs; whnf) ?_) | (refine m_not rfl ?_) | (refine m_nils ?_))) | refine end_ops ?_ | refine seq_ops ?_ | (refine cond_t rfl ?_ ?_; (· first | rfl | assumption | (refine decide_eq_true ?_; first | assumption | omega) | (refine nt ?_; first | assumption | omega) | (simp [*]; done))) | refine AW_ret ?_ | refine ret_done ?_ | refine ret_then ?_)
    exact outs_tup2 (outs_ints rfl rfl rfl) (outs_b rfl)
end Go.Proofs.Ytlcjipgnflncfaa
