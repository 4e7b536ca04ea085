/- Contracts: the specification's search for all givings: it appends them behind a pointer. -/
import Derived.Test.YtlcjipgnflncfaaSpSe
import Derived.Test.YtlcjipgnflncfaaSpB2
import Derived.Test.YtlcjipgnflncfaaSpOwn
import Derived.Test.YtlcjipgnflncfaaMaL2
import Derived.Test.YtlcjipgnflncfaaRgX
namespace Go.Proofs.Ytlcjipgnflncfaa
open Go.Am
attribute [local irreducible] AW Outs Weak Lends Lend Sp aops atree aop1 Then Round InBlock Done
attribute [local irreducible] SpM DoneM SpH DoneH SpG DoneT

abbrev gaArgs (F : List Int) (x : AV) : List AV := [ints F, x, ints [], .i (-1), .pt pbase 0]

theorem giLook_leaf (F M : List Int) (P : List (List Int)) (hF : F.length ≤ 9) (hl : M.length = F.length) (hP : P.length + 1 ≤ mxA) : SpG Try.prog 22 (gaArgs F (.sl (gvb + 1 + P.length) 1 0 M.length)) (hinA P (P ++ [M])) (.tup []) (houtA (P ++ [M])) := by
  have hpb : pbase = 4000000 := rfl
  have hx : mxA = 1000000 := rfl
  have hl1 : (P ++ [M]).length = P.length + 1 := by simp
  have hrl := rowsC_len 1000 P
  refine specT_of Try.func22 rfl cc22 rfl (stA_static P (P ++ [M]) (P ++ [M])) (stA [(0, ints F), (1, .sl (1000 + P.length) 1 0 M.length), (2, ints []), (3, .i (-1)), (4, .pt pbase 0)] P (P ++ [M])) (stA_enter (by omega) (by omega) ?_ ?_) ?_
  · refine ⟨rfl, ?_, rfl, rfl, rfl, trivial⟩
    show AV.sl (gvb + 1 + P.length) 1 0 M.length = .sl (nmA (1000 + P.length)) 1 0 M.length
    rw [nmA_row (by omega)]
  · simp only [refsT, refsV, Bool.true_and, Bool.and_true, Bool.and_eq_true]
    refine ⟨?_, rfl⟩
    rw [famH_row (look2_none (by omega) (by omega)) (by omega)]
    rfl
  unfold ac22
  repeat (first | (refine step_ops ?_; (first | (first | (refine m_mov (by conv => lhs; whnf) ?_) | (refine m_eql rfl rfl ?_) | (refine m_len_ro rfl ?_) | (refine m_len_sl rfl ?_) | (apply m_ld_pt; (· rfl); (· rfl); (· rfl)) | (refine m_pick_t rfl ?_ (by conv => lhs; whnf) ?_; (· first | rfl | assumption | (refine decide_eq_true ?_; first | assumption | omega) | (refine nt ?_; first | assumption | omega) | (simp [*]; done))) | (refine m_nchk rfl ?_)) | (refine g_noF rfl ?_ ?_; (· first | rfl | assumption | (refine decide_eq_true ?_; first | assumption | omega) | (refine nt ?_; first | assumption | omega) | (simp [*]; done))))) | refine end_ops ?_ | refine seq_ops ?_ | refine AW_ops ?_ | (refine cond_t rfl ?_ ?_; (· first | rfl | assumption | (refine decide_eq_true ?_; first | assumption | omega) | (refine nt ?_; first | assumption | omega) | (simp [*]; done))) | (refine cond_f rfl ?_ ?_; (· first | rfl | assumption | (refine decide_eq_false ?_; first | assumption | omega) | (refine nf ?_; first | assumption | omega) | (simp [*]; done))) | refine skip_then ?_ | refine AW_seq ?_)
  refine step_ops ?_
  refine m_bsl1d rfl rfl ?_
  refine step_ops ?_
  have hk36 : killV 36 (AV.sl (1000 + P.length) 1 0 M.length) = .sl (1000 + P.length) 1 0 M.length := by
    simp only [killV]
    rw [if_neg (by omega)]
  refine m_app1d (v := .sl (1000 + P.length) 1 0 M.length) rfl (by decide) rfl ?_ rfl (by show some (false, [killV 36 (AV.sl (1000 + P.length) 1 0 M.length)]) = _; rw [hk36]) rfl ?_ (by decide) ?_
  · simp [rowsC_kill, rowsC_len]
  · omega
  repeat (refine step_ops ?_; (refine m_nchk rfl ?_))
  refine step_ops ?_
  refine m_st (r := pbase) (off := 0) (fl := false) (cs := [.any]) rfl rfl rfl (by decide) rfl ?_
  repeat (first | refine end_ops ?_ | refine AW_ret ?_ | refine norm_then ?_ | refine ret_then ?_)
  refine stA_done (P' := P ++ [M]) (q := 37) (by decide) (by omega) ?_ ?_ fun j hj => ?_
  · rw [hl1]
    rfl
  · rw [rowsC_snoc]
    simp (disch := decide) only [hp_put, hp_mem_ne]
    simp [AS.mem, killR, rowsC_kill, killL_append, killL, killV]
    rw [if_neg (by omega)]
    simp only [killV]
    rw [if_neg (by omega)]
  · simp (disch := omega) only [hp_put, hp_mem_ne, hp_kill_ne]
    rw [stA_row hj (by omega)]
    rfl

/-- One more guest goes on: the call within the loop. -/
theorem giLook_step (F l : List Int) (x k : Nat) (Q : List (List Int)) (hF : F.length ≤ 9) (hl : l.length + (k + 1) = F.length) (hQ : Q.length + (goOn (fitsG F) F.length k (l ++ [(x : Int)])).length ≤ mxA)
    (ih : 0 < k → SpG Try.prog 22 (gaArgs F (ints (l ++ [(x : Int)]))) (hinA Q Q) (.tup []) (houtA (Q ++ goOn (fitsG F) F.length k (l ++ [(x : Int)]))))
    {s : AS} {K : AS → Prop} {d : Option Nat} {a0 a1 a2 a3 a4 : Opd} (e0 : s.ev a0 = ints F) (e1 : s.ev a1 = .sl 95 1 0 (l ++ [(x : Int)]).length) (e2 : s.ev a2 = ints []) (e3 : s.ev a3 = .i (-1)) (e4 : s.ev a4 = .pt pbase 0)
    (h1 : s.hp pbase = some (tyC 900 Q.length)) (h2 : s.hp 900 = some (false, rowsC 1000 Q)) (h3 : ∀ j, j < Q.length → s.hp (1000 + j) = some (true, (Q.getD j []).map AV.i)) (h95 : s.hp 95 = some (true, (l ++ [(x : Int)]).map AV.i))
    (kk : K (AS.put ⟨(s.drop (gvA 95)).tm, hpA 95 s (Q ++ goOn (fitsG F) F.length k (l ++ [(x : Int)]))⟩ d (.tup []))) : aop1 Try.prog true ⟨d, .call 22 [a0, a1, a2, a3, a4], none⟩ s K := by
  have hlen : (l ++ [(x : Int)]).length = l.length + 1 := by simp
  by_cases hk : k = 0
  · subst hk
    have hlf := giLook_leaf F (l ++ [(x : Int)]) Q hF (by omega) (by simpa [goOn] using hQ)
    have hG := stA_givenL (X := 95) (P' := Q ++ [l ++ [(x : Int)]]) (by decide) (by omega) (by simpa [goOn] using hQ) h1 h2 h3 h95
    refine m_callG (nmB 95 Q.length) (gvA 95) hlf ?_ hG kk
    show LendsH s.hp _ _ [s.ev a0, s.ev a1, s.ev a2, s.ev a3, s.ev a4] _
    rw [e0, e1, e2, e3, e4]
    exact lendH_cons (lendH_ro hG (by simp [ownV, plainV]) (by simp [refsV]) rfl) (lendH_cons (lendH_leaf hG) (lendH_cons (lendH_ro hG rfl rfl rfl) (lendH_cons lendH_v (lendH_cons (lendH_pt hG) lendH_nil))))
  · have hG := stA_givenN (X := 95) (P' := Q ++ goOn (fitsG F) F.length k (l ++ [(x : Int)])) (by decide) (by omega) (by rw [List.length_append]; omega) h1 h2 h3
    refine m_callG (nmB 95 Q.length) (gvA 95) (ih (by omega)) ?_ hG kk
    show LendsH s.hp _ _ [s.ev a0, s.ev a1, s.ev a2, s.ev a3, s.ev a4] _
    rw [e0, e1, e2, e3, e4]
    exact lendH_cons (lendH_ro hG (by simp [ownV, plainV]) (by simp [refsV]) rfl) (lendH_cons (lendH_node (by decide) (by omega) hG h95) (lendH_cons (lendH_ro hG rfl rfl rfl) (lendH_cons lendH_v (lendH_cons (lendH_pt hG) lendH_nil))))

set_option maxRecDepth 20000 in
theorem giLook_in2 (F : List Int) (hF : F.length ≤ 9) (k : Nat) (ih : 0 < k → ∀ (l : List Int) (P : List (List Int)), l.length + k = F.length → P.length + (goOn (fitsG F) F.length k l).length ≤ mxA → SpG Try.prog 22 (gaArgs F (ints l)) (hinA P P) (.tup []) (houtA (P ++ goOn (fitsG F) F.length k l)))
    (l : List Int) (P : List (List Int)) (hl : l.length + (k + 1) = F.length) (hN : P.length + (goOn (fitsG F) F.length (k + 1) l).length ≤ mxA) :
    SpG Try.prog 22 (gaArgs F (ints l)) (hinA P P) (.tup []) (houtA (P ++ goOn (fitsG F) F.length (k + 1) l)) := by
  have hpb : pbase = 4000000 := rfl
  have hx : mxA = 1000000 := rfl
  have hall := partA_all (fitsG F) F.length k l
  have hmono := fun x hx => partA_mono (fitsG F) F.length k l (x := x) (y := F.length) hx
  rw [← hall] at hN ⊢
  refine specT_of Try.func22 rfl cc22 rfl (stA_static P P _) (stA [(0, ints F), (1, ints l), (2, ints []), (3, .i (-1)), (4, .pt pbase 0)] P P) (stA_enter (by omega) (Nat.le_refl _) ⟨rfl, rfl, rfl, rfl, rfl, trivial⟩ rfl) ?_
  unfold ac22
  repeat (first | (refine step_ops ?_; (first | (refine m_mov (by conv => lhs; whnf) ?_) | (refine m_eql rfl rfl ?_) | (refine m_len_ro rfl ?_) | (refine m_len_sl rfl ?_) | (apply m_ld_pt; (· rfl); (· rfl); (· rfl)) | (refine m_nchk rfl ?_))) | refine end_ops ?_ | refine seq_ops ?_ | (refine cond_f rfl ?_ ?_; (· first | rfl | assumption | (refine decide_eq_false ?_; first | assumption | omega) | (refine nf ?_; first | assumption | omega) | (simp [*]; done))) | refine skip_then ?_ | refine AW_seq ?_ | refine AW_block ?_)
  refine AW_cutloop (stA [(0, ints F), (1, ints l), (2, ints []), (3, .i (-1)), (4, .pt pbase 0)] P P) ?_ ?_
  case refine_2 =>
    refine AW_loop (α := Nat) (fun i => i = 0) (fun i => stA [(0, ints F), (1, ints l), (2, ints []), (3, .i (-1)), (4, .pt pbase 0), (10, .i i)] P P) (fun _ => 0) 0 rfl ?_ ?_
    · refine stA_weak (by omega) ⟨rfl, rfl, rfl, rfl, rfl, rfl, trivial⟩ rfl rfl (fun j hj => ?_) rfl
      simp (disch := omega) only [hp_put]
      exact stA_row hj (by omega)
    intro i hi
    subst hi
    by_cases hl0 : 0 < l.length
    · repeat (first | (refine step_ops ?_; ((try (refine g_yes rfl ?_ ?_; (· first | rfl | assumption | (refine decide_eq_true ?_; first | assumption | omega) | (refine nt ?_; first | assumption | omega) | (simp [*]; done) | (refine decide_eq_false ?_; first | assumption | omega) | (refine nf ?_; first | assumption | omega)))); (first | (refine m_mov (by conv => lhs; whnf) ?_) | (refine m_lss rfl rfl ?_) | (refine m_len_ro rfl ?_) | (refine m_pick_t rfl ?_ (by conv => lhs; whnf) ?_; (· first | rfl | assumption | (refine decide_eq_true ?_; first | assumption | omega) | (refine nt ?_; first | assumption | omega) | (simp [*]; done)))))) | refine end_ops ?_ | refine seq_ops ?_ | (refine cond_f rfl ?_ ?_; (· first | rfl | assumption | (refine decide_eq_false ?_; first | assumption | omega) | (refine nf ?_; first | assumption | omega) | (simp [*]; done))) | refine AW_seq ?_ | refine exit_then ?_ | refine exit_round ?_ | refine AW_exit ?_ | refine exit_block ?_)
      refine stA_weak (by omega) ⟨rfl, rfl, rfl, rfl, rfl, trivial⟩ rfl rfl (fun j hj => ?_) rfl
      simp (disch := omega) only [hp_put]
      exact stA_row hj (by omega)
    · repeat (first | (refine step_ops ?_; (first | (first | (refine m_mov (by conv => lhs; whnf) ?_) | (refine m_lss rfl rfl ?_) | (refine m_len_ro rfl ?_) | (refine m_pick_f rfl ?_ (by conv => lhs; whnf) ?_; (· first | rfl | assumption | (refine decide_eq_false ?_; first | assumption | omega) | (refine nf ?_; first | assumption | omega) | (simp [*]; done)))) | (refine g_noT rfl ?_ ?_; (· first | rfl | assumption | (refine decide_eq_false ?_; first | assumption | omega) | (refine nf ?_; first | assumption | omega) | (simp [*]; done))))) | refine end_ops ?_ | refine seq_ops ?_ | (refine cond_f rfl ?_ ?_; (· first | rfl | assumption | (refine decide_eq_false ?_; first | assumption | omega) | (refine nf ?_; first | assumption | omega) | (simp [*]; done))) | refine AW_seq ?_ | refine exit_then ?_ | refine exit_round ?_ | refine AW_exit ?_ | refine exit_block ?_)
      refine stA_weak (by omega) ⟨rfl, rfl, rfl, rfl, rfl, trivial⟩ rfl rfl (fun j hj => ?_) rfl
      simp (disch := omega) only [hp_put]
      exact stA_row hj (by omega)
  have hlen : ∀ x, x ≤ F.length → (P ++ partA (fitsG F) F.length k l x).length ≤ mxA := fun x hx => by
    have := hmono x hx
    rw [List.length_append]
    omega
  have hp0 : P ++ partA (fitsG F) F.length k l 0 = P := by rw [partA_zero, List.append_nil]
  repeat (first | (refine step_ops ?_; (first | (refine m_mov (by conv => lhs; whnf) ?_) | (refine m_len_ro rfl ?_))) | refine end_ops ?_ | refine seq_ops ?_ | refine AW_block ?_)
  refine AW_loop (α := Nat) (fun x => x ≤ F.length) (fun x => stA [(0, ints F), (1, ints l), (2, ints []), (3, .i (-1)), (4, .pt pbase 0), (70, .i F.length), (71, .i x)] (P ++ partA (fitsG F) F.length k l x) (P ++ partA (fitsG F) F.length k l x)) (fun x => F.length - x) 0 (Nat.zero_le _) ?_ ?_
  · rw [hp0]
    refine stA_weak (by omega) ⟨rfl, rfl, rfl, rfl, rfl, rfl, rfl, trivial⟩ rfl rfl (fun j hj => ?_) rfl
    simp (disch := omega) only [hp_put]
    exact stA_row hj (by omega)
  intro x hx'
  have hQ := hlen x hx'
  by_cases hc : x < F.length
  · have hsucc := partA_succ (fitsG F) F.length k l x
    have hQ1 := hlen (x + 1) hc
    rw [hsucc, ← List.append_assoc] at hQ1
    have hsame : fitsG F l x = false → P ++ partA (fitsG F) F.length k l (x + 1) = P ++ partA (fitsG F) F.length k l x := fun h => by rw [hsucc, h]; simp
    have hmore : fitsG F l x = true → P ++ partA (fitsG F) F.length k l (x + 1) = P ++ partA (fitsG F) F.length k l x ++ goOn (fitsG F) F.length k (l ++ [(x : Int)]) := fun h => by rw [hsucc, if_pos h, List.append_assoc]
    have hih : 0 < k → SpG Try.prog 22 (gaArgs F (ints (l ++ [(x : Int)]))) (hinA (P ++ partA (fitsG F) F.length k l x) (P ++ partA (fitsG F) F.length k l x)) (.tup []) (houtA (P ++ partA (fitsG F) F.length k l x ++ goOn (fitsG F) F.length k (l ++ [(x : Int)]))) ∨ fitsG F l x = false := fun h => by
      cases hf : fitsG F l x with
      | false => exact .inr rfl
      | true =>
        refine .inl (ih h _ _ (by simp; omega) ?_)
        rw [hf, if_pos rfl] at hQ1
        rw [List.length_append] at hQ1
        exact hQ1
    generalize P ++ partA (fitsG F) F.length k l x = Q at *
    by_cases hfam : F.getD x 0 = F.getD l.length 0
    · have hfit : fitsG F l x = false := by unfold fitsG; rw [hfam]; simp
      repeat (first | ((first | refine step_ops ?_ | refine step_tree ?_); (first | (first | (refine m_mov (by conv => lhs; whnf) ?_) | (refine m_lss rfl rfl ?_) | (refine m_neq rfl rfl ?_) | (refine m_add rfl rfl ?_ ?_ ?_; (· omega); (· omega)) | (refine m_len_ro rfl ?_) | (refine m_idx1_ro rfl rfl ?_ ?_; (· omega)) | (refine m_ld_rpi rfl ?_ ?_; (· omega)) | (refine m_pick_f rfl ?_ (by conv => lhs; whnf) ?_; (· first | rfl | assumption | (refine decide_eq_false ?_; first | assumption | omega) | (refine nf ?_; first | assumption | omega) | (simp [*]; done)))) | (refine g_noT rfl ?_ ?_; (· first | rfl | assumption | (refine decide_eq_false ?_; first | assumption | omega) | (refine nf ?_; first | assumption | omega) | (simp [*]; done))))) | refine end_ops ?_ | refine seq_ops ?_ | refine AW_ops ?_ | refine end_tree ?_ | refine seq_tree ?_ | (refine cond_t rfl ?_ ?_; (· first | rfl | assumption | (refine decide_eq_true ?_; first | assumption | omega) | (refine nt ?_; first | assumption | omega) | (simp [*]; done))) | (refine cond_f rfl ?_ ?_; (· first | rfl | assumption | (refine decide_eq_false ?_; first | assumption | omega) | (refine nf ?_; first | assumption | omega) | (simp [*]; done))) | refine skip_then ?_ | refine AW_seq ?_ | refine norm_then ?_ | refine AW_block ?_ | refine norm_block ?_ | refine AW_skip ?_)
      refine next_round (x + 1) hc ?_ (by omega)
      show Weak _ (stA [(0, ints F), (1, ints l), (2, ints []), (3, .i (-1)), (4, .pt pbase 0), (70, .i F.length), (71, .i ((x + 1 : Nat) : Int))] (P ++ partA (fitsG F) F.length k l (x + 1)) (P ++ partA (fitsG F) F.length k l (x + 1)))
      rw [hsame hfit]
      refine stA_weak hQ ⟨rfl, rfl, rfl, rfl, rfl, rfl, rfl, trivial⟩ rfl rfl (fun j hj => ?_) rfl
      simp (disch := omega) only [hp_put]
      exact stA_row hj (by omega)
    by_cases hm : (x : Int) ∈ l
    · have hfit : fitsG F l x = false := by unfold fitsG; simp [hm]
      repeat (first | ((first | refine step_ops ?_ | refine step_tree ?_); ((try (refine g_yes rfl ?_ ?_; (· first | rfl | assumption | (refine decide_eq_true ?_; first | assumption | omega) | (refine nt ?_; first | assumption | omega) | (simp [*]; done) | (refine decide_eq_false ?_; first | assumption | omega) | (refine nf ?_; first | assumption | omega)))); (first | (refine m_mov (by conv => lhs; whnf) ?_) | (refine m_lss rfl rfl ?_) | (refine m_neq rfl rfl ?_) | (refine m_len_ro rfl ?_) | (refine m_idx1_ro rfl rfl ?_ ?_; (· omega)) | (refine m_ld_rpi rfl ?_ ?_; (· omega))))) | refine end_ops ?_ | refine seq_ops ?_ | refine seq_tree ?_ | (refine cond_t rfl ?_ ?_; (· first | rfl | assumption | (refine decide_eq_true ?_; first | assumption | omega) | (refine nt ?_; first | assumption | omega) | (simp [*]; done))) | refine skip_then ?_ | refine AW_seq ?_ | refine AW_block ?_)
      refine step_tree ?_; (refine g_yes rfl ?_ ?_; (· first | (first | rfl | assumption | (refine decide_eq_true ?_; first | assumption | omega) | (refine nt ?_; first | assumption | omega) | (simp [*]; done)) | (first | rfl | assumption | (refine decide_eq_false ?_; first | assumption | omega) | (refine nf ?_; first | assumption | omega) | (simp [*]; done))); (apply m_call (l1Has_spec l x (by omega)))); (· repeat (first | exact lends_nil | (refine lends_cons ?_ ?_; (· (first | exact lend_v | (refine lend_ints ?_; first | rfl | omega))))))
      repeat (first | ((first | refine step_ops ?_ | refine step_tree ?_); ((try (refine g_yes rfl ?_ ?_; (· first | rfl | assumption | (refine decide_eq_true ?_; first | assumption | omega) | (refine nt ?_; first | assumption | omega) | (simp [*]; done) | (refine decide_eq_false ?_; first | assumption | omega) | (refine nf ?_; first | assumption | omega)))); (first | (refine m_mov (by conv => lhs; whnf) ?_) | (refine m_add rfl rfl ?_ ?_ ?_; (· omega); (· omega)) | (refine m_not rfl ?_) | (refine m_pick_t rfl ?_ (by conv => lhs; whnf) ?_; (· first | rfl | assumption | (refine decide_eq_true ?_; first | assumption | omega) | (refine nt ?_; first | assumption | omega) | (simp [*]; done)))))) | refine end_ops ?_ | refine AW_ops ?_ | refine end_tree ?_ | (refine cond_f rfl ?_ ?_; (· first | rfl | assumption | (refine decide_eq_false ?_; first | assumption | omega) | (refine nf ?_; first | assumption | omega) | (simp [*]; done))) | refine norm_then ?_ | refine norm_block ?_ | refine AW_skip ?_)
      refine next_round (x + 1) hc ?_ (by omega)
      show Weak _ (stA [(0, ints F), (1, ints l), (2, ints []), (3, .i (-1)), (4, .pt pbase 0), (70, .i F.length), (71, .i ((x + 1 : Nat) : Int))] (P ++ partA (fitsG F) F.length k l (x + 1)) (P ++ partA (fitsG F) F.length k l (x + 1)))
      rw [hsame hfit]
      refine stA_weak hQ ⟨rfl, rfl, rfl, rfl, rfl, rfl, rfl, trivial⟩ rfl rfl (fun j hj => ?_) rfl
      simp (disch := omega) only [hp_put]
      exact stA_row hj (by omega)
    have hfit : fitsG F l x = true := by
      unfold fitsG
      rw [decide_eq_true (show F.getD l.length 0 ≠ F.getD x 0 from fun e => hfam e.symm), decide_eq_false hm]
      rfl
    have hih2 : 0 < k → SpG Try.prog 22 (gaArgs F (ints (l ++ [(x : Int)]))) (hinA Q Q) (.tup []) (houtA (Q ++ goOn (fitsG F) F.length k (l ++ [(x : Int)]))) := fun h => (hih h).resolve_right (by rw [hfit]; simp)
    rw [hfit, if_pos rfl] at hQ1
    repeat (first | ((first | refine step_ops ?_ | refine step_tree ?_); ((try (refine g_yes rfl ?_ ?_; (· first | rfl | assumption | (refine decide_eq_true ?_; first | assumption | omega) | (refine nt ?_; first | assumption | omega) | (simp [*]; done) | (refine decide_eq_false ?_; first | assumption | omega) | (refine nf ?_; first | assumption | omega)))); (first | (refine m_mov (by conv => lhs; whnf) ?_) | (refine m_lss rfl rfl ?_) | (refine m_neq rfl rfl ?_) | (refine m_len_ro rfl ?_) | (refine m_idx1_ro rfl rfl ?_ ?_; (· omega)) | (refine m_ld_rpi rfl ?_ ?_; (· omega))))) | refine end_ops ?_ | refine seq_ops ?_ | refine seq_tree ?_ | (refine cond_t rfl ?_ ?_; (· first | rfl | assumption | (refine decide_eq_true ?_; first | assumption | omega) | (refine nt ?_; first | assumption | omega) | (simp [*]; done))) | refine skip_then ?_ | refine AW_seq ?_ | refine AW_block ?_)
    refine step_tree ?_; (refine g_yes rfl ?_ ?_; (· first | (first | rfl | assumption | (refine decide_eq_true ?_; first | assumption | omega) | (refine nt ?_; first | assumption | omega) | (simp [*]; done)) | (first | rfl | assumption | (refine decide_eq_false ?_; first | assumption | omega) | (refine nf ?_; first | assumption | omega) | (simp [*]; done))); (apply m_call (l1Has_spec l x (by omega)))); (· repeat (first | exact lends_nil | (refine lends_cons ?_ ?_; (· (first | exact lend_v | (refine lend_ints ?_; first | rfl | omega))))))
    repeat (first | ((first | refine step_ops ?_ | refine step_tree ?_); ((try (refine g_yes rfl ?_ ?_; (· first | rfl | assumption | (refine decide_eq_true ?_; first | assumption | omega) | (refine nt ?_; first | assumption | omega) | (simp [*]; done) | (refine decide_eq_false ?_; first | assumption | omega) | (refine nf ?_; first | assumption | omega)))); (first | (refine m_mov (by conv => lhs; whnf) ?_) | (refine m_not rfl ?_) | (refine m_pick_t rfl ?_ (by conv => lhs; whnf) ?_; (· first | rfl | assumption | (refine decide_eq_true ?_; first | assumption | omega) | (refine nt ?_; first | assumption | omega) | (simp [*]; done)))))) | refine AW_ops ?_ | refine end_tree ?_ | (refine cond_t rfl ?_ ?_; (· first | rfl | assumption | (refine decide_eq_true ?_; first | assumption | omega) | (refine nt ?_; first | assumption | omega) | (simp [*]; done))))
    refine step_ops ?_; (apply m_callo (l1Own_spec l (by omega))); (· repeat (first | exact lends_nil | (refine lends_cons ?_ ?_; (· (refine lend_ints ?_; first | rfl | omega))))); (· first | exact allv_ints _ | rfl | (simp; done))
    repeat (refine step_ops ?_; (first | (refine m_mov (by conv => lhs; whnf) ?_) | (refine m_bsl1 rfl rfl ?_) | (refine m_app1i rfl (by decide) (by rfl) (by first | rfl | omega | (simp; done)) rfl rfl ?_ (by decide) ?_; (· first | omega | (simp; omega)))))
    refine step_ops ?_
    refine giLook_step F l x k Q hF hl (by rw [List.length_append] at hQ1; exact hQ1) hih2
      rfl
      rfl
      rfl
      rfl
      rfl
      rfl
      ?_ (fun j hj => ?_) ?_ ?_
    · show some (false, killL 95 (killL 92 (killL 94 (killL 92 (rowsC 1000 Q))))) = _
      have hk := fun r (h : r < 1000) => rowsC_kill r 1000 Q h
      rw [hk 92 (by decide), hk 94 (by decide), hk 92 (by decide), hk 95 (by decide)]
    · simp (disch := omega) only [hp_put, hp_mem_ne, hp_kill_ne]
      rw [stA_row hj (by omega)]
      rfl
    · rfl
    repeat (first | (refine step_ops ?_; (first | (refine m_mov (by conv => lhs; whnf) ?_) | (refine m_add rfl rfl ?_ ?_ ?_; (· omega); (· omega)))) | refine end_ops ?_ | refine AW_ops ?_ | refine norm_then ?_ | refine norm_block ?_)
    refine next_round (x + 1) hc ?_ (by omega)
    show Weak _ (stA [(0, ints F), (1, ints l), (2, ints []), (3, .i (-1)), (4, .pt pbase 0), (70, .i F.length), (71, .i ((x + 1 : Nat) : Int))] (P ++ partA (fitsG F) F.length k l (x + 1)) (P ++ partA (fitsG F) F.length k l (x + 1)))
    rw [hmore hfit]
    refine stA_weak hQ1 ⟨rfl, rfl, rfl, rfl, rfl, rfl, rfl, trivial⟩ rfl rfl (fun j hj => ?_) rfl
    simp (disch := omega) only [hp_put]
    exact hpA_row hj hQ1
  · obtain rfl : x = F.length := by omega
    repeat (first | (refine step_ops ?_; (refine m_lss rfl rfl ?_)) | refine end_ops ?_ | refine seq_ops ?_ | (refine cond_f rfl ?_ ?_; (· first | rfl | assumption | (refine decide_eq_false ?_; first | assumption | omega) | (refine nf ?_; first | assumption | omega) | (simp [*]; done))) | refine AW_seq ?_ | refine exit_then ?_ | refine exit_round ?_ | refine AW_exit ?_ | refine exit_block ?_)
    refine normal_doneT (stA_done (q := 900) (by decide) hQ ?_ ?_ fun j hj => ?_)
    · rfl
    · rfl
    · simp (disch := omega) only [hp_put]
      exact stA_row hj (by omega)
theorem giLook_node (F : List Int) (hF : F.length ≤ 9) : ∀ (k : Nat) (l : List Int) (P : List (List Int)), l.length + (k + 1) = F.length → P.length + (goOn (fitsG F) F.length (k + 1) l).length ≤ mxA →
    SpG Try.prog 22 (gaArgs F (ints l)) (hinA P P) (.tup []) (houtA (P ++ goOn (fitsG F) F.length (k + 1) l)) := by
  intro k
  induction k with
  | zero => exact giLook_in2 F hF 0 (fun h => absurd h (by omega))
  | succ k ih => exact giLook_in2 F hF (k + 1) (fun _ => ih)
end Go.Proofs.Ytlcjipgnflncfaa
