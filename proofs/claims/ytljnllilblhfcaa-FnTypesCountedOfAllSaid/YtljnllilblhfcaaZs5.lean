/- The abstract machine, contracts: part 5 of what this claim needs. -/
import Derived.Test.YtljnllilblhfcaaZs4
namespace Go.Proofs.Ytljnllilblhfcaa
open Go.Am
attribute [local irreducible] AW Outs Weak Lends Lend Sp aops atree aop1 Then Round InBlock Done
attribute [local irreducible] SpM DoneM SpH DoneH
def pA : List Int → Bool := fun _ => true
def pS : List Int → Bool := fun K => decide (K.getD 0 0 ≤ 2)
def qN : List Int → Int := fun K => ((K.length : Nat) : Int)
def qF : List Int → Int := fun K => K.getD 0 0
def qE : List Int → Int := fun K => K.getD (K.length - 1) 0
/-- What is done of two. -/
def cndC : ACode → ACode
  | .cond _ x _ => x
  | c => c
/-- The block of all types, and its loops. -/
def tcAll : ACode := fstC (sndC (sndC (sndC (sndC (sndC (sndC (sndC (sndC (sndC (sndC ac3))))))))))
def tcOne : ACode := fstC (sndC (sndC (sndC (sndC (sndC (sndC (cndC (sndC tcAll))))))))
def tcTwo : ACode := sndC (sndC (sndC (sndC (sndC (sndC (sndC (cndC (sndC tcAll))))))))
/-- What is known of all types of so many guests. -/
structure TcF (G : Nat) (R : List (List Int)) (PQ : Nat × Nat) (w : Int) : Prop where
  g1 : 1 ≤ G
  g12 : G ≤ 12
  ty : ∀ K ∈ R, TyOk K
  len : R.length ≤ 77
  row : ∀ K ∈ R, K.sum = ((G : Nat) : Int) ∧ 1 ≤ K.length ∧ K.length ≤ G ∧ ∀ x ∈ K, 1 ≤ x ∧ x ≤ ((G : Nat) : Int)
  lex : ∀ k, k + 1 < R.length → lexL (R.getD (k + 1) []) (R.getD k []) = true
  all : tyS R pA R.length = w
  chs : chS R R.length * ((PQ.2 : Nat) : Int) = ((PQ.1 : Nat) : Int) * w
  pq : PQ.1 ≤ 1000000 ∧ 1 ≤ PQ.2 ∧ PQ.2 ≤ 1000000
  w1 : 1 ≤ w ∧ w ≤ 479001600
  cb : ∀ j, j ≤ G → cbTup ((G : Nat) : Int) ((j : Nat) : Int) = .tup [.i ((wL R qN G R.length).getD j 0), .b true]
  lo : ∀ j, 1 ≤ j → j ≤ G → loTup ((G : Nat) : Int) ((j : Nat) : Int) = .tup [.i ((wL R qF G R.length).getD j 0), .b true]
  cs : ∀ j, 1 ≤ j → j ≤ G → csTup ((G : Nat) : Int) ((j : Nat) : Int) = .tup [.i ((wL R qE G R.length).getD j 0), .b true]
  ml : ∀ j, 1 ≤ j → j ≤ G → mlTup ((G : Nat) : Int) ((j : Nat) : Int) = .tup [.i 1, .i ((j : Nat) : Int), .b true]
  off : ∀ j, 1 ≤ j → j ≤ G → (oL R G R.length 0).getD j 0 * ((j : Nat) : Int) = 1 * w
theorem tcFacts (G : Nat) (h1 : 1 ≤ G) (h12 : G ≤ 12) : TcF G (tyAll G G) (mcP G) (fac G) where
  g1 := h1
  g12 := h12
  ty := tyAll_ty h1 h12
  len := tyAll_len h12 h12
  row := fun K hK => of_decide_eq_true (List.all_eq_true.1 (tz_rows G (by omega) h1) K hK)
  lex := fun k hk => List.all_eq_true.1 (tz_lex G (by omega)) k (List.mem_range.2 (by omega))
  all := (tz_all G (by omega) h1).2.1
  chs := (tz_all G (by omega) h1).2.2
  pq := mcP_bd G (by omega)
  w1 := fac_le G (by omega)
  cb := fun j hj => by
    have h : CbOk ((G : Nat) : Int) ((j : Nat) : Int) := ⟨⟨by omega, by omega⟩, by omega, by omega⟩
    unfold cbTup cbR
    rw [if_pos h, decide_eq_true h, wL_get _ _ _ _ (by omega), Int.toNat_natCast]
    rfl
  lo := fun j hj1 hj => by
    have h : LoOk ((G : Nat) : Int) ((j : Nat) : Int) := ⟨⟨by omega, by omega⟩, by omega, by omega⟩
    unfold loTup loR
    rw [if_pos h, decide_eq_true h, wL_get _ _ _ _ (by omega), Int.toNat_natCast, longest_cnt G (by omega) h1 j (by omega) hj1]
    rfl
  cs := fun j hj1 hj => by
    have h : LoOk ((G : Nat) : Int) ((j : Nat) : Int) := ⟨⟨by omega, by omega⟩, by omega, by omega⟩
    unfold csTup csR
    rw [if_pos h, decide_eq_true h, wL_get _ _ _ _ (by omega), Int.toNat_natCast]
    rfl
  ml := fun j hj1 hj => by
    have h : LoOk ((G : Nat) : Int) ((j : Nat) : Int) := ⟨⟨by omega, by omega⟩, by omega, by omega⟩
    unfold mlTup mlR
    rw [if_pos h, decide_eq_true h]
  off := fun j hj1 hj => by
    rw [oL_get _ _ _ _ (by omega)]
    have := tz_of G (by omega) h1 j (by omega) hj1
    simpa [numI] using this
set_option maxHeartbeats 4000000 in
theorem tcRound (n k m t : Int) (G : Nat) (R : List (List Int)) (PQ : Nat × Nat) (w : Int) (F : TcF G R PQ w) (Q : Exit → AS → Prop)
    (hQ : ∀ s', Weak s' (st [(0, .i G), (1, .i n), (2, .i k), (3, .i m), (4, .i t), (11, roF R), (15, .i ((PQ.1 : Nat) : Int)), (16, .i ((PQ.2 : Nat) : Int)), (21, .i (tyS R pS R.length)), (25, .i (gtM R R.length)), (29, .i w), (30, .i (tyS R pA R.length)), (31, .i (chS R R.length)), (32, .i (tyS R pS R.length)), (33, .i (gtM R R.length)), (34, .sl 194 1 0 (G + 1)), (35, .sl 197 1 0 (G + 1)), (36, .sl 200 1 0 (G + 1)), (37, .sl 203 1 0 (G + 1))] [(194, (true, (wL R qN G R.length).map AV.i)), (197, (true, (wL R qF G R.length).map AV.i)), (200, (true, (wL R qE G R.length).map AV.i)), (203, (true, (oL R G R.length 0).map AV.i))]) → Q .normal s') :
    AW Try.prog (min Try.f3.ntmps pbase) (sndC tcOne) (st [(0, .i G), (1, .i n), (2, .i k), (3, .i m), (4, .i t), (11, roF R), (15, .i ((PQ.1 : Nat) : Int)), (16, .i ((PQ.2 : Nat) : Int)), (21, .i (tyS R pS R.length)), (25, .i (gtM R R.length)), (29, .i w), (30, .i (tyS R pA 0)), (31, .i (chS R 0)), (32, .i (tyS R pS 0)), (33, .i (gtM R 0)), (34, .sl 194 1 0 (G + 1)), (35, .sl 197 1 0 (G + 1)), (36, .sl 200 1 0 (G + 1)), (37, .sl 203 1 0 (G + 1)), (204, roF R), (205, .i R.length), (206, .i ((0 : Nat) : Int))] [(194, (true, (wL R qN G 0).map AV.i)), (197, (true, (wL R qF G 0).map AV.i)), (200, (true, (wL R qE G 0).map AV.i)), (203, (true, (oL R G 0 0).map AV.i))]) Q := by
  have hty := F.ty
  have hlen := F.len
  have g1 := F.g1
  have g12 := F.g12
  unfold tcOne tcAll
  unfold ac3
  simp only [sndC, fstC, cndC]
  repeat refine AW_block ?_
  refine AW_loop (α := Nat) (fun kk => kk ≤ R.length) (fun kk => st [(0, .i G), (1, .i n), (2, .i k), (3, .i m), (4, .i t), (11, roF R), (15, .i ((PQ.1 : Nat) : Int)), (16, .i ((PQ.2 : Nat) : Int)), (21, .i (tyS R pS R.length)), (25, .i (gtM R R.length)), (29, .i w), (30, .i (tyS R pA kk)), (31, .i (chS R kk)), (32, .i (tyS R pS kk)), (33, .i (gtM R kk)), (34, .sl 194 1 0 (G + 1)), (35, .sl 197 1 0 (G + 1)), (36, .sl 200 1 0 (G + 1)), (37, .sl 203 1 0 (G + 1)), (204, roF R), (205, .i R.length), (206, .i ((kk : Nat) : Int))] [(194, (true, (wL R qN G kk).map AV.i)), (197, (true, (wL R qF G kk).map AV.i)), (200, (true, (wL R qE G kk).map AV.i)), (203, (true, (oL R G kk 0).map AV.i))]) (fun kk => R.length - kk) 0 (Nat.zero_le _) (Weak.refl _) ?_
  intro kk hk
  by_cases hc : kk < R.length
  · obtain ⟨row, hrw⟩ : ∃ row, row = R.getD kk [] := ⟨_, rfl⟩
    have hmem : row ∈ R := by rw [hrw]; exact getD_memL hc
    have hok := hty row hmem
    have hr := F.row row hmem
    have hl12 := hok.2.1
    have hsum := hr.1
    have hr1 := hr.2.1
    have hr2 := hr.2.2.1
    have hnat : ∀ i, i < row.length → ∃ c : Nat, row.getD i 0 = ((c : Nat) : Int) ∧ c < G + 1 := fun i hi => by
      have h := hr.2.2.2 _ (getD_mem hi)
      obtain ⟨c, hc⟩ := Int.eq_ofNat_of_zero_le (show 0 ≤ row.getD i 0 by omega)
      exact ⟨c, hc, by omega⟩
    obtain ⟨a, ha, ha1⟩ := hnat 0 (by omega)
    obtain ⟨e, he, he1⟩ := hnat (row.length - 1) (by omega)
    have he2 : row.getD (Int.toNat (((row.length : Nat) : Int) - 1) * 1) 0 = ((e : Nat) : Int) := by
      rw [show Int.toNat (((row.length : Nat) : Int) - 1) * 1 = row.length - 1 by omega, he]
    obtain ⟨b, hb0⟩ : ∃ b, b = tyCnt row := ⟨_, rfl⟩
    have hbb := tyCnt_bd hok
    have hbc := chT_bd hok
    have c15 := implCountType_spec row (by omega)
    have c16 := implTimesOfType_spec row (by omega)
    have c17 := oSum_spec row hl12 hok.2.2.1
    unfold ctTup ctR at c15
    rw [if_pos hok, decide_eq_true hok, ← hb0] at c15
    unfold toTup toR at c16
    rw [if_pos hok, decide_eq_true hok] at c16
    rw [hsum] at c17
    rw [← hb0] at hbb hbc
    have wN := wL_set (R := R) (q := qN) (g := G) (k := kk) (a := row.length) (by rw [← hrw]; rfl) (by omega)
    have wF := wL_set (R := R) (q := qF) (g := G) (k := kk) (a := a) (by rw [← hrw]; exact ha) ha1
    have wE := wL_set (R := R) (q := qE) (g := G) (k := kk) (a := e) (by rw [← hrw]; exact he) he1
    rw [← hrw, ← hb0] at wN wF wE
    have bN := wL_bd hty qN hk (show row.length < G + 1 by omega)
    have bF := wL_bd hty qF hk ha1
    have bE := wL_bd hty qE hk he1
    have lN := wL_len R qN G kk
    have lF := wL_len R qF G kk
    have lE := wL_len R qE G kk
    have sA : tyS R pA (kk + 1) = tyS R pA kk + b := by
      show tyS R pA kk + (if pA (R.getD kk []) = true then tyCnt (R.getD kk []) else 0) = _
      rw [← hrw, ← hb0, if_pos (show pA row = true from rfl)]
    have sC : chS R (kk + 1) = chS R kk + b * ((row.length : Nat) : Int) := by
      show chS R kk + tyCnt (R.getD kk []) * ((R.getD kk []).length : Nat) = _
      rw [← hrw, ← hb0]
    have bA := tyS_bd hty pA kk hk
    have bS := tyS_bd hty pS kk hk
    have bC := chS_bd hty kk hk
    obtain ⟨lc, hlc⟩ : ∃ lc, lc = lcT row row.length := ⟨_, rfl⟩
    rw [← hlc] at c16
    have sG : gtM R (kk + 1) = max (gtM R kk) ((lc : Nat) : Int) := by
      show max (gtM R kk) (lcT (R.getD kk []) (R.getD kk []).length : Nat) = _
      rw [← hrw, ← hlc]
    repeat (first | (refine step_ops ?_; (first | (refine m_mov (by conv => lhs; whnf) ?_) | (refine m_lss rfl rfl ?_) | (refine m_idx1_ro rfl rfl ?_ ?_; (· omega)))) | refine end_ops ?_ | refine seq_ops ?_ | (refine cond_t rfl ?_ ?_; (· first | rfl | assumption | (refine decide_eq_true ?_; first | assumption | omega) | (refine nt ?_; first | assumption | omega) | (simp [*]; done))) | refine skip_then ?_ | refine AW_seq ?_ | refine AW_block ?_)
    refine step_ops ?_
    refine m_ld_rp rfl (rowT_at hc) ?_
    rw [← hrw]
    repeat (first | (refine step_ops ?_; (refine m_mov (by conv => lhs; whnf) ?_)) | refine end_ops ?_ | refine seq_ops ?_)
    refine step_ops ?_; (apply m_call (c15)); (· repeat (first | exact lends_nil | (refine lends_cons ?_ ?_; (· (refine lend_ints ?_; first | rfl | omega)))))
    repeat (first | (refine step_ops ?_; (first | (refine m_mov (by conv => lhs; whnf) ?_) | (refine m_ext rfl rfl ?_))) | refine end_ops ?_ | refine seq_ops ?_)
    refine step_ops ?_; (apply m_call (c16)); (· repeat (first | exact lends_nil | (refine lends_cons ?_ ?_; (· (refine lend_ints ?_; first | rfl | omega)))))
    repeat (first | (refine step_ops ?_; ((try (refine g_yes rfl ?_ ?_; (· first | rfl | assumption | (refine decide_eq_true ?_; first | assumption | omega) | (refine nt ?_; first | assumption | omega) | (simp [*]; done) | (refine decide_eq_false ?_; first | assumption | omega) | (refine nf ?_; first | assumption | omega)))); (first | (refine m_mov (by conv => lhs; whnf) ?_) | (refine m_not rfl ?_) | (refine m_pick_f rfl ?_ (by conv => lhs; whnf) ?_; (· first | rfl | assumption | (refine decide_eq_false ?_; first | assumption | omega) | (refine nf ?_; first | assumption | omega) | (simp [*]; done))) | (refine m_ext rfl rfl ?_)))) | refine end_ops ?_ | refine seq_ops ?_ | refine AW_seq ?_)
    refine step_ops ?_; (refine g_yes rfl ?_ ?_; (· first | (first | rfl | assumption | (refine decide_eq_true ?_; first | assumption | omega) | (refine nt ?_; first | assumption | omega) | (simp [*]; done)) | (first | rfl | assumption | (refine decide_eq_false ?_; first | assumption | omega) | (refine nf ?_; first | assumption | omega) | (simp [*]; done))); (apply m_call (c17))); (· repeat (first | exact lends_nil | (refine lends_cons ?_ ?_; (· (refine lend_ints ?_; first | rfl | omega)))))
    by_cases hk0 : kk = 0
    · repeat (first | (refine step_ops ?_; (first | ((try (refine g_yes rfl ?_ ?_; (· first | rfl | assumption | (refine decide_eq_true ?_; first | assumption | omega) | (refine nt ?_; first | assumption | omega) | (simp [*]; done) | (refine decide_eq_false ?_; first | assumption | omega) | (refine nf ?_; first | assumption | omega)))); (first | (refine m_mov (by conv => lhs; whnf) ?_) | (refine m_gtr rfl rfl ?_) | (refine m_neq rfl rfl ?_) | (refine m_add rfl rfl ?_ ?_ ?_; (· omega); (· omega)) | (refine m_sub rfl rfl ?_ ?_ ?_; (· omega); (· omega)) | (refine m_mul rfl rfl ?_ ?_ ?_; (· first | omega | (simp; done)); (· first | omega | (simp; done))) | (refine m_len_ro rfl ?_) | (refine m_idx1_sl rfl rfl ?_ ?_; (· omega)) | (apply m_idx1_slj; (· rfl); (· rfl); (· assumption); (· omega)) | (refine m_idx_ro rfl rfl ?_ ?_ ?_; (· omega); (· omega)) | (refine m_ld_rpi rfl ?_ ?_; (· omega)) | (refine m_ld_pti rfl (by rfl) ?_ ?_; (· first | omega | (simp; omega))) | (apply m_st; (· rfl); (· rfl); (· rfl); (· first | omega | (simp; done) | (simp; omega)); (· rfl)) | (refine m_pick_f rfl ?_ (by conv => lhs; whnf) ?_; (· first | rfl | assumption | (refine decide_eq_false ?_; first | assumption | omega) | (refine nf ?_; first | assumption | omega) | (simp [*]; done))))) | (refine g_noT rfl ?_ ?_; (· first | rfl | assumption | (refine decide_eq_false ?_; first | assumption | omega) | (refine nf ?_; first | assumption | omega) | (simp [*]; done))))) | refine end_ops ?_ | refine seq_ops ?_ | (refine cond_f rfl ?_ ?_; (· first | rfl | assumption | (refine decide_eq_false ?_; first | assumption | omega) | (refine nf ?_; first | assumption | omega) | (simp [*]; done))) | refine skip_then ?_ | refine AW_seq ?_ | refine AW_block ?_)
      refine AW_loop (α := Nat) (fun i => i ≤ row.length) (fun i => st [(0, .i G), (1, .i n), (2, .i k), (3, .i m), (4, .i t), (11, roF R), (15, .i ((PQ.1 : Nat) : Int)), (16, .i ((PQ.2 : Nat) : Int)), (21, .i (tyS R pS R.length)), (25, .i (gtM R R.length)), (29, .i w), (30, .i (tyS R pA (kk + 1))), (31, .i (chS R (kk + 1))), (32, .i (tyS R pS kk)), (33, .i (gtM R kk)), (34, .sl 194 1 0 (G + 1)), (35, .sl 197 1 0 (G + 1)), (36, .sl 200 1 0 (G + 1)), (37, .sl 203 1 0 (G + 1)), (204, roF R), (205, .i R.length), (206, .i ((kk : Nat) : Int)), (39, newInts row), (40, .i b), (42, .i ((lc : Nat) : Int)), (285, newInts row), (286, .i row.length), (287, .i ((i : Nat) : Int))] [(194, (true, (wL R qN G (kk + 1)).map AV.i)), (197, (true, (wL R qF G (kk + 1)).map AV.i)), (200, (true, (wL R qE G (kk + 1)).map AV.i)), (203, (true, (oL R G kk i).map AV.i))]) (fun i => row.length - i) 0 (Nat.zero_le _) (weak_st ?_ ?_ rfl rfl) ?_
      · rw [sA, sC]
        (repeat' (first | exact trivial | refine And.intro ?_ ?_)) <;> (first | rfl | skip)
      · refine ⟨?_, ?_, ?_, rfl, trivial⟩
        · rw [← wN, List.map_set]; rfl
        · rw [← wF, List.map_set]; rfl
        · rw [← wE, List.map_set]; rfl
      intro i hi
      by_cases hci : i < row.length
      · obtain ⟨c, hce, hc1⟩ := hnat i hci
        have hob := oL_bd hty hc hlen (show i ≤ (R.getD kk []).length by rw [← hrw]; omega) hc1
        have hos := oL_set (R := R) (g := G) (k := kk) (i := i) (a := c) (by rw [← hrw]; exact hce) hc1
        have hol := oL_len R G kk i
        rw [← hrw, ← hb0] at hos
        repeat (first | (refine step_ops ?_; (first | (refine m_mov (by conv => lhs; whnf) ?_) | (refine m_lss rfl rfl ?_) | (refine m_add rfl rfl ?_ ?_ ?_; (· omega); (· omega)) | (refine m_idx1_ro rfl rfl ?_ ?_; (· omega)) | (apply m_idx1_slj; (· rfl); (· rfl); (· assumption); (· omega)) | (refine m_ld_rpi rfl ?_ ?_; (· omega)) | (refine m_ld_pti rfl (by rfl) ?_ ?_; (· first | omega | (simp; omega))) | (apply m_st; (· rfl); (· rfl); (· rfl); (· first | omega | (simp; done) | (simp; omega)); (· rfl)))) | refine end_ops ?_ | refine seq_ops ?_ | refine AW_ops ?_ | (refine cond_t rfl ?_ ?_; (· first | rfl | assumption | (refine decide_eq_true ?_; first | assumption | omega) | (refine nt ?_; first | assumption | omega) | (simp [*]; done))) | refine skip_then ?_ | refine AW_seq ?_ | refine norm_then ?_ | refine AW_block ?_ | refine norm_block ?_)
        refine next_round (i + 1) (by omega) (weak_st ?_ ?_ rfl rfl) ?_
        · (repeat' (first | exact trivial | refine And.intro ?_ ?_)) <;> (first | rfl | skip)
        · refine ⟨rfl, rfl, rfl, ?_, trivial⟩
          rw [← hos, List.map_set]; rfl
        · omega
      · obtain rfl : i = row.length := by omega
        have hnx := oL_next R G kk
        rw [← hrw] at hnx
        rw [hnx]
        by_cases hsm : row.getD 0 0 ≤ 2
        · have sS : tyS R pS (kk + 1) = tyS R pS kk + b := by
            show tyS R pS kk + (if pS (R.getD kk []) = true then tyCnt (R.getD kk []) else 0) = _
            rw [← hrw, ← hb0, if_pos (show pS row = true from decide_eq_true hsm)]
          by_cases hgt : ((lc : Nat) : Int) > gtM R kk
          · rw [show max (gtM R kk) ((lc : Nat) : Int) = ((lc : Nat) : Int) by omega] at sG
            repeat (first | (refine step_ops ?_; (first | (refine m_mov (by conv => lhs; whnf) ?_) | (refine m_lss rfl rfl ?_) | (refine m_leq rfl rfl ?_) | (refine m_gtr rfl rfl ?_) | (refine m_add rfl rfl ?_ ?_ ?_; (· omega); (· omega)) | (refine m_idx_ro rfl rfl ?_ ?_ ?_; (· omega); (· omega)) | (refine m_ld_rpi rfl ?_ ?_; (· omega)))) | refine end_ops ?_ | refine seq_ops ?_ | refine AW_ops ?_ | (refine cond_t rfl ?_ ?_; (· first | rfl | assumption | (refine decide_eq_true ?_; first | assumption | omega) | (refine nt ?_; first | assumption | omega) | (simp [*]; done))) | (refine cond_f rfl ?_ ?_; (· first | rfl | assumption | (refine decide_eq_false ?_; first | assumption | omega) | (refine nf ?_; first | assumption | omega) | (simp [*]; done))) | refine AW_seq ?_ | refine norm_then ?_ | refine exit_then ?_ | refine norm_block ?_ | refine exit_round ?_ | refine AW_exit ?_ | refine exit_block ?_)
            refine next_round (kk + 1) (by omega) (weak_st ?_ ?_ rfl rfl) ?_
            · rw [sS, sG]
              (repeat' (first | exact trivial | refine And.intro ?_ ?_)) <;> (first | rfl | skip)
            · exact ⟨rfl, rfl, rfl, rfl, trivial⟩
            · omega
          · rw [show max (gtM R kk) ((lc : Nat) : Int) = gtM R kk by omega] at sG
            repeat (first | (refine step_ops ?_; (first | (refine m_mov (by conv => lhs; whnf) ?_) | (refine m_lss rfl rfl ?_) | (refine m_leq rfl rfl ?_) | (refine m_gtr rfl rfl ?_) | (refine m_add rfl rfl ?_ ?_ ?_; (· omega); (· omega)) | (refine m_idx_ro rfl rfl ?_ ?_ ?_; (· omega); (· omega)) | (refine m_ld_rpi rfl ?_ ?_; (· omega)))) | refine end_ops ?_ | refine seq_ops ?_ | refine AW_ops ?_ | (refine cond_t rfl ?_ ?_; (· first | rfl | assumption | (refine decide_eq_true ?_; first | assumption | omega) | (refine nt ?_; first | assumption | omega) | (simp [*]; done))) | (refine cond_f rfl ?_ ?_; (· first | rfl | assumption | (refine decide_eq_false ?_; first | assumption | omega) | (refine nf ?_; first | assumption | omega) | (simp [*]; done))) | refine AW_seq ?_ | refine norm_then ?_ | refine exit_then ?_ | refine norm_block ?_ | refine exit_round ?_ | refine AW_exit ?_ | refine exit_block ?_ | refine AW_skip ?_)
            refine next_round (kk + 1) (by omega) (weak_st ?_ ?_ rfl rfl) ?_
            · rw [sS, sG]
              (repeat' (first | exact trivial | refine And.intro ?_ ?_)) <;> (first | rfl | skip)
            · exact ⟨rfl, rfl, rfl, rfl, trivial⟩
            · omega
        · have sS : tyS R pS (kk + 1) = tyS R pS kk := by
            show tyS R pS kk + (if pS (R.getD kk []) = true then tyCnt (R.getD kk []) else 0) = _
            rw [← hrw, if_neg (show ¬ pS row = true from fun h => hsm (of_decide_eq_true h)), Int.add_zero]
          by_cases hgt : ((lc : Nat) : Int) > gtM R kk
          · rw [show max (gtM R kk) ((lc : Nat) : Int) = ((lc : Nat) : Int) by omega] at sG
            repeat (first | (refine step_ops ?_; (first | (refine m_mov (by conv => lhs; whnf) ?_) | (refine m_lss rfl rfl ?_) | (refine m_leq rfl rfl ?_) | (refine m_gtr rfl rfl ?_) | (refine m_add rfl rfl ?_ ?_ ?_; (· omega); (· omega)) | (refine m_idx_ro rfl rfl ?_ ?_ ?_; (· omega); (· omega)) | (refine m_ld_rpi rfl ?_ ?_; (· omega)))) | refine end_ops ?_ | refine seq_ops ?_ | refine AW_ops ?_ | (refine cond_t rfl ?_ ?_; (· first | rfl | assumption | (refine decide_eq_true ?_; first | assumption | omega) | (refine nt ?_; first | assumption | omega) | (simp [*]; done))) | (refine cond_f rfl ?_ ?_; (· first | rfl | assumption | (refine decide_eq_false ?_; first | assumption | omega) | (refine nf ?_; first | assumption | omega) | (simp [*]; done))) | refine skip_then ?_ | refine AW_seq ?_ | refine norm_then ?_ | refine exit_then ?_ | refine norm_block ?_ | refine exit_round ?_ | refine AW_exit ?_ | refine exit_block ?_)
            refine next_round (kk + 1) (by omega) (weak_st ?_ ?_ rfl rfl) ?_
            · rw [sS, sG]
              (repeat' (first | exact trivial | refine And.intro ?_ ?_)) <;> (first | rfl | skip)
            · exact ⟨rfl, rfl, rfl, rfl, trivial⟩
            · omega
          · rw [show max (gtM R kk) ((lc : Nat) : Int) = gtM R kk by omega] at sG
            repeat (first | (refine step_ops ?_; (first | (refine m_mov (by conv => lhs; whnf) ?_) | (refine m_lss rfl rfl ?_) | (refine m_leq rfl rfl ?_) | (refine m_gtr rfl rfl ?_) | (refine m_add rfl rfl ?_ ?_ ?_; (· omega); (· omega)) | (refine m_idx_ro rfl rfl ?_ ?_ ?_; (· omega); (· omega)) | (refine m_ld_rpi rfl ?_ ?_; (· omega)))) | refine end_ops ?_ | refine seq_ops ?_ | refine AW_ops ?_ | (refine cond_f rfl ?_ ?_; (· first | rfl | assumption | (refine decide_eq_false ?_; first | assumption | omega) | (refine nf ?_; first | assumption | omega) | (simp [*]; done))) | refine skip_then ?_ | refine AW_seq ?_ | refine norm_then ?_ | refine exit_then ?_ | refine norm_block ?_ | refine exit_round ?_ | refine AW_exit ?_ | refine exit_block ?_ | refine AW_skip ?_)
            refine next_round (kk + 1) (by omega) (weak_st ?_ ?_ rfl rfl) ?_
            · rw [sS, sG]
              (repeat' (first | exact trivial | refine And.intro ?_ ?_)) <;> (first | rfl | skip)
            · exact ⟨rfl, rfl, rfl, rfl, trivial⟩
            · omega
    · have hrw2 : ((R.map newInts).drop (Int.toNat (((kk : Nat) : Int) - 1) * 1))[0]? = some (newInts (R.getD (kk - 1) [])) := by
        rw [show Int.toNat (((kk : Nat) : Int) - 1) * 1 = kk - 1 by omega]
        exact rowT_at (by omega)
      have hlx := F.lex (kk - 1) (by omega)
      rw [show kk - 1 + 1 = kk by omega, ← hrw] at hlx
      have hok2 := hty _ (getD_memL (show kk - 1 < R.length by omega) : R.getD (kk - 1) [] ∈ R)
      have c18 := oLess_spec row (R.getD (kk - 1) []) hl12 hok2.2.1
      rw [hlx] at c18
      repeat (refine step_ops ?_; ((try (refine g_yes rfl ?_ ?_; (· first | rfl | assumption | (refine decide_eq_true ?_; first | assumption | omega) | (refine nt ?_; first | assumption | omega) | (simp [*]; done) | (refine decide_eq_false ?_; first | assumption | omega) | (refine nf ?_; first | assumption | omega)))); (first | (refine m_mov (by conv => lhs; whnf) ?_) | (refine m_gtr rfl rfl ?_) | (refine m_neq rfl rfl ?_) | (refine m_sub rfl rfl ?_ ?_ ?_; (· omega); (· omega)) | (refine m_idx_ro rfl rfl ?_ ?_ ?_; (· omega); (· omega)) | (refine m_pick_f rfl ?_ (by conv => lhs; whnf) ?_; (· first | rfl | assumption | (refine decide_eq_false ?_; first | assumption | omega) | (refine nf ?_; first | assumption | omega) | (simp [*]; done))))))
      refine step_ops ?_
      refine g_yes rfl (decide_eq_true (by omega)) ?_
      refine m_ld_rp rfl hrw2 ?_
      skip
      refine step_ops ?_; (refine g_yes rfl ?_ ?_; (· first | (first | rfl | assumption | (refine decide_eq_true ?_; first | assumption | omega) | (refine nt ?_; first | assumption | omega) | (simp [*]; done)) | (first | rfl | assumption | (refine decide_eq_false ?_; first | assumption | omega) | (refine nf ?_; first | assumption | omega) | (simp [*]; done))); (apply m_call (c18))); (· repeat (first | exact lends_nil | (refine lends_cons ?_ ?_; (· (refine lend_ints ?_; first | rfl | omega)))))
      repeat (first | (refine step_ops ?_; ((try (refine g_yes rfl ?_ ?_; (· first | rfl | assumption | (refine decide_eq_true ?_; first | assumption | omega) | (refine nt ?_; first | assumption | omega) | (simp [*]; done) | (refine decide_eq_false ?_; first | assumption | omega) | (refine nf ?_; first | assumption | omega)))); (first | (refine m_mov (by conv => lhs; whnf) ?_) | (refine m_add rfl rfl ?_ ?_ ?_; (· omega); (· omega)) | (refine m_sub rfl rfl ?_ ?_ ?_; (· omega); (· omega)) | (refine m_mul rfl rfl ?_ ?_ ?_; (· first | omega | (simp; done)); (· first | omega | (simp; done))) | (refine m_not rfl ?_) | (refine m_len_ro rfl ?_) | (refine m_idx1_sl rfl rfl ?_ ?_; (· omega)) | (apply m_idx1_slj; (· rfl); (· rfl); (· assumption); (· omega)) | (refine m_idx_ro rfl rfl ?_ ?_ ?_; (· omega); (· omega)) | (refine m_ld_rpi rfl ?_ ?_; (· omega)) | (refine m_ld_pti rfl (by rfl) ?_ ?_; (· first | omega | (simp; omega))) | (apply m_st; (· rfl); (· rfl); (· rfl); (· first | omega | (simp; done) | (simp; omega)); (· rfl)) | (refine m_pick_t rfl ?_ (by conv => lhs; whnf) ?_; (· first | rfl | assumption | (refine decide_eq_true ?_; first | assumption | omega) | (refine nt ?_; first | assumption | omega) | (simp [*]; done))) | (refine m_pick_f rfl ?_ (by conv => lhs; whnf) ?_; (· first | rfl | assumption | (refine decide_eq_false ?_; first | assumption | omega) | (refine nf ?_; first | assumption | omega) | (simp [*]; done)))))) | refine end_ops ?_ | refine seq_ops ?_ | (refine cond_f rfl ?_ ?_; (· first | rfl | assumption | (refine decide_eq_false ?_; first | assumption | omega) | (refine nf ?_; first | assumption | omega) | (simp [*]; done))) | refine skip_then ?_ | refine AW_seq ?_ | refine AW_block ?_)
      refine AW_loop (α := Nat) (fun i => i ≤ row.length) (fun i => st [(0, .i G), (1, .i n), (2, .i k), (3, .i m), (4, .i t), (11, roF R), (15, .i ((PQ.1 : Nat) : Int)), (16, .i ((PQ.2 : Nat) : Int)), (21, .i (tyS R pS R.length)), (25, .i (gtM R R.length)), (29, .i w), (30, .i (tyS R pA (kk + 1))), (31, .i (chS R (kk + 1))), (32, .i (tyS R pS kk)), (33, .i (gtM R kk)), (34, .sl 194 1 0 (G + 1)), (35, .sl 197 1 0 (G + 1)), (36, .sl 200 1 0 (G + 1)), (37, .sl 203 1 0 (G + 1)), (204, roF R), (205, .i R.length), (206, .i ((kk : Nat) : Int)), (39, newInts row), (40, .i b), (42, .i ((lc : Nat) : Int)), (285, newInts row), (286, .i row.length), (287, .i ((i : Nat) : Int))] [(194, (true, (wL R qN G (kk + 1)).map AV.i)), (197, (true, (wL R qF G (kk + 1)).map AV.i)), (200, (true, (wL R qE G (kk + 1)).map AV.i)), (203, (true, (oL R G kk i).map AV.i))]) (fun i => row.length - i) 0 (Nat.zero_le _) (weak_st ?_ ?_ rfl rfl) ?_
      · rw [sA, sC]
        (repeat' (first | exact trivial | refine And.intro ?_ ?_)) <;> (first | rfl | skip)
      · refine ⟨?_, ?_, ?_, rfl, trivial⟩
        · rw [← wN, List.map_set]; rfl
        · rw [← wF, List.map_set]; rfl
        · rw [← wE, List.map_set]; rfl
      intro i hi
      by_cases hci : i < row.length
      · obtain ⟨c, hce, hc1⟩ := hnat i hci
        have hob := oL_bd hty hc hlen (show i ≤ (R.getD kk []).length by rw [← hrw]; omega) hc1
        have hos := oL_set (R := R) (g := G) (k := kk) (i := i) (a := c) (by rw [← hrw]; exact hce) hc1
        have hol := oL_len R G kk i
        rw [← hrw, ← hb0] at hos
        repeat (first | (refine step_ops ?_; (first | (refine m_mov (by conv => lhs; whnf) ?_) | (refine m_lss rfl rfl ?_) | (refine m_add rfl rfl ?_ ?_ ?_; (· omega); (· omega)) | (refine m_idx1_ro rfl rfl ?_ ?_; (· omega)) | (apply m_idx1_slj; (· rfl); (· rfl); (· assumption); (· omega)) | (refine m_ld_rpi rfl ?_ ?_; (· omega)) | (refine m_ld_pti rfl (by rfl) ?_ ?_; (· first | omega | (simp; omega))) | (apply m_st; (· rfl); (· rfl); (· rfl); (· first | omega | (simp; done) | (simp; omega)); (· rfl)))) | refine end_ops ?_ | refine seq_ops ?_ | refine AW_ops ?_ | (refine cond_t rfl ?_ ?_; (· first | rfl | assumption | (refine decide_eq_true ?_; first | assumption | omega) | (refine nt ?_; first | assumption | omega) | (simp [*]; done))) | refine skip_then ?_ | refine AW_seq ?_ | refine norm_then ?_ | refine AW_block ?_ | refine norm_block ?_)
        refine next_round (i + 1) (by omega) (weak_st ?_ ?_ rfl rfl) ?_
        · (repeat' (first | exact trivial | refine And.intro ?_ ?_)) <;> (first | rfl | skip)
        · refine ⟨rfl, rfl, rfl, ?_, trivial⟩
          rw [← hos, List.map_set]; rfl
        · omega
      · obtain rfl : i = row.length := by omega
        have hnx := oL_next R G kk
        rw [← hrw] at hnx
        rw [hnx]
        by_cases hsm : row.getD 0 0 ≤ 2
        · have sS : tyS R pS (kk + 1) = tyS R pS kk + b := by
            show tyS R pS kk + (if pS (R.getD kk []) = true then tyCnt (R.getD kk []) else 0) = _
            rw [← hrw, ← hb0, if_pos (show pS row = true from decide_eq_true hsm)]
          by_cases hgt : ((lc : Nat) : Int) > gtM R kk
          · rw [show max (gtM R kk) ((lc : Nat) : Int) = ((lc : Nat) : Int) by omega] at sG
            repeat (first | (refine step_ops ?_; (first | (refine m_mov (by conv => lhs; whnf) ?_) | (refine m_lss rfl rfl ?_) | (refine m_leq rfl rfl ?_) | (refine m_gtr rfl rfl ?_) | (refine m_add rfl rfl ?_ ?_ ?_; (· omega); (· omega)) | (refine m_idx_ro rfl rfl ?_ ?_ ?_; (· omega); (· omega)) | (refine m_ld_rpi rfl ?_ ?_; (· omega)))) | refine end_ops ?_ | refine seq_ops ?_ | refine AW_ops ?_ | (refine cond_t rfl ?_ ?_; (· first | rfl | assumption | (refine decide_eq_true ?_; first | assumption | omega) | (refine nt ?_; first | assumption | omega) | (simp [*]; done))) | (refine cond_f rfl ?_ ?_; (· first | rfl | assumption | (refine decide_eq_false ?_; first | assumption | omega) | (refine nf ?_; first | assumption | omega) | (simp [*]; done))) | refine AW_seq ?_ | refine norm_then ?_ | refine exit_then ?_ | refine norm_block ?_ | refine exit_round ?_ | refine AW_exit ?_ | refine exit_block ?_)
            refine next_round (kk + 1) (by omega) (weak_st ?_ ?_ rfl rfl) ?_
            · rw [sS, sG]
              (repeat' (first | exact trivial | refine And.intro ?_ ?_)) <;> (first | rfl | skip)
            · exact ⟨rfl, rfl, rfl, rfl, trivial⟩
            · omega
          · rw [show max (gtM R kk) ((lc : Nat) : Int) = gtM R kk by omega] at sG
            repeat (first | (refine step_ops ?_; (first | (refine m_mov (by conv => lhs; whnf) ?_) | (refine m_lss rfl rfl ?_) | (refine m_leq rfl rfl ?_) | (refine m_gtr rfl rfl ?_) | (refine m_add rfl rfl ?_ ?_ ?_; (· omega); (· omega)) | (refine m_idx_ro rfl rfl ?_ ?_ ?_; (· omega); (· omega)) | (refine m_ld_rpi rfl ?_ ?_; (· omega)))) | refine end_ops ?_ | refine seq_ops ?_ | refine AW_ops ?_ | (refine cond_t rfl ?_ ?_; (· first | rfl | assumption | (refine decide_eq_true ?_; first | assumption | omega) | (refine nt ?_; first | assumption | omega) | (simp [*]; done))) | (refine cond_f rfl ?_ ?_; (· first | rfl | assumption | (refine decide_eq_false ?_; first | assumption | omega) | (refine nf ?_; first | assumption | omega) | (simp [*]; done))) | refine AW_seq ?_ | refine norm_then ?_ | refine exit_then ?_ | refine norm_block ?_ | refine exit_round ?_ | refine AW_exit ?_ | refine exit_block ?_ | refine AW_skip ?_)
            refine next_round (kk + 1) (by omega) (weak_st ?_ ?_ rfl rfl) ?_
            · rw [sS, sG]
              (repeat' (first | exact trivial | refine And.intro ?_ ?_)) <;> (first | rfl | skip)
            · exact ⟨rfl, rfl, rfl, rfl, trivial⟩
            · omega
        · have sS : tyS R pS (kk + 1) = tyS R pS kk := by
            show tyS R pS kk + (if pS (R.getD kk []) = true then tyCnt (R.getD kk []) else 0) = _
            rw [← hrw, if_neg (show ¬ pS row = true from fun h => hsm (of_decide_eq_true h)), Int.add_zero]
          by_cases hgt : ((lc : Nat) : Int) > gtM R kk
          · rw [show max (gtM R kk) ((lc : Nat) : Int) = ((lc : Nat) : Int) by omega] at sG
            repeat (first | (refine step_ops ?_; (first | (refine m_mov (by conv => lhs; whnf) ?_) | (refine m_lss rfl rfl ?_) | (refine m_leq rfl rfl ?_) | (refine m_gtr rfl rfl ?_) | (refine m_add rfl rfl ?_ ?_ ?_; (· omega); (· omega)) | (refine m_idx_ro rfl rfl ?_ ?_ ?_; (· omega); (· omega)) | (refine m_ld_rpi rfl ?_ ?_; (· omega)))) | refine end_ops ?_ | refine seq_ops ?_ | refine AW_ops ?_ | (refine cond_t rfl ?_ ?_; (· first | rfl | assumption | (refine decide_eq_true ?_; first | assumption | omega) | (refine nt ?_; first | assumption | omega) | (simp [*]; done))) | (refine cond_f rfl ?_ ?_; (· first | rfl | assumption | (refine decide_eq_false ?_; first | assumption | omega) | (refine nf ?_; first | assumption | omega) | (simp [*]; done))) | refine skip_then ?_ | refine AW_seq ?_ | refine norm_then ?_ | refine exit_then ?_ | refine norm_block ?_ | refine exit_round ?_ | refine AW_exit ?_ | refine exit_block ?_)
            refine next_round (kk + 1) (by omega) (weak_st ?_ ?_ rfl rfl) ?_
            · rw [sS, sG]
              (repeat' (first | exact trivial | refine And.intro ?_ ?_)) <;> (first | rfl | skip)
            · exact ⟨rfl, rfl, rfl, rfl, trivial⟩
            · omega
          · rw [show max (gtM R kk) ((lc : Nat) : Int) = gtM R kk by omega] at sG
            repeat (first | (refine step_ops ?_; (first | (refine m_mov (by conv => lhs; whnf) ?_) | (refine m_lss rfl rfl ?_) | (refine m_leq rfl rfl ?_) | (refine m_gtr rfl rfl ?_) | (refine m_add rfl rfl ?_ ?_ ?_; (· omega); (· omega)) | (refine m_idx_ro rfl rfl ?_ ?_ ?_; (· omega); (· omega)) | (refine m_ld_rpi rfl ?_ ?_; (· omega)))) | refine end_ops ?_ | refine seq_ops ?_ | refine AW_ops ?_ | (refine cond_f rfl ?_ ?_; (· first | rfl | assumption | (refine decide_eq_false ?_; first | assumption | omega) | (refine nf ?_; first | assumption | omega) | (simp [*]; done))) | refine skip_then ?_ | refine AW_seq ?_ | refine norm_then ?_ | refine exit_then ?_ | refine norm_block ?_ | refine exit_round ?_ | refine AW_exit ?_ | refine exit_block ?_ | refine AW_skip ?_)
            refine next_round (kk + 1) (by omega) (weak_st ?_ ?_ rfl rfl) ?_
            · rw [sS, sG]
              (repeat' (first | exact trivial | refine And.intro ?_ ?_)) <;> (first | rfl | skip)
            · exact ⟨rfl, rfl, rfl, rfl, trivial⟩
            · omega
  · obtain rfl : kk = R.length := by omega
    repeat (first | (refine step_ops ?_; (refine m_lss rfl rfl ?_)) | refine end_ops ?_ | refine seq_ops ?_ | (refine cond_f rfl ?_ ?_; (· first | rfl | assumption | (refine decide_eq_false ?_; first | assumption | omega) | (refine nf ?_; first | assumption | omega) | (simp [*]; done))) | refine AW_seq ?_ | refine exit_then ?_ | refine exit_round ?_ | refine AW_exit ?_ | refine exit_block ?_)
    refine hQ _ (weak_st ?_ ?_ rfl rfl)
    · (repeat' (first | exact trivial | refine And.intro ?_ ?_)) <;> (first | rfl | skip)
    · exact ⟨rfl, rfl, rfl, rfl, trivial⟩
end Go.Proofs.Ytljnllilblhfcaa
namespace Go.Proofs.Ytljnllilblhfcaa
open Go.Am
attribute [local irreducible] AW Outs Weak Lends Lend Sp aops atree aop1 Then Round InBlock Done
attribute [local irreducible] SpM DoneM SpH DoneH
set_option maxHeartbeats 4000000 in
theorem tcNext (n k m t : Int) (G : Nat) (R : List (List Int)) (PQ : Nat × Nat) (w : Int) (F : TcF G R PQ w) (Q : Exit → AS → Prop)
    (hQ : ∀ s', Weak s' (st [(1, .i n), (2, .i k), (3, .i m), (4, .i t)] []) → Q .normal s') :
    AW Try.prog (min Try.f3.ntmps pbase) tcTwo (st [(0, .i G), (1, .i n), (2, .i k), (3, .i m), (4, .i t), (11, roF R), (15, .i ((PQ.1 : Nat) : Int)), (16, .i ((PQ.2 : Nat) : Int)), (21, .i (tyS R pS R.length)), (25, .i (gtM R R.length)), (29, .i w), (30, .i (tyS R pA R.length)), (31, .i (chS R R.length)), (32, .i (tyS R pS R.length)), (33, .i (gtM R R.length)), (34, .sl 194 1 0 (G + 1)), (35, .sl 197 1 0 (G + 1)), (36, .sl 200 1 0 (G + 1)), (37, .sl 203 1 0 (G + 1))] [(194, (true, (wL R qN G R.length).map AV.i)), (197, (true, (wL R qF G R.length).map AV.i)), (200, (true, (wL R qE G R.length).map AV.i)), (203, (true, (oL R G R.length 0).map AV.i))]) Q := by
  have hlen := F.len
  have g1 := F.g1
  have g12 := F.g12
  have hw := F.w1
  have hpq := F.pq
  have hch := F.chs
  have hd1 : decide (tyS R pA R.length ≠ w) = false := by simp [F.all]
  have hd2 : decide (chS R R.length * ((PQ.2 : Nat) : Int) ≠ ((PQ.1 : Nat) : Int) * w) = false := by simp [hch]
  have hm1 : 0 ≤ ((PQ.1 : Nat) : Int) * w := Int.mul_nonneg (by omega) (by omega)
  have hm2 : ((PQ.1 : Nat) : Int) * w ≤ 1000000 * 479001600 := Int.mul_le_mul (by omega) (by omega) (by omega) (by omega)
  have lN := wL_len R qN G R.length
  have lF := wL_len R qF G R.length
  have lE := wL_len R qE G R.length
  have lO := oL_len R G R.length 0
  unfold tcTwo tcAll
  unfold ac3
  simp only [sndC, fstC, cndC]
  repeat (first | (refine step_ops ?_; ((try (refine g_yes rfl ?_ ?_; (· first | rfl | assumption | (refine decide_eq_true ?_; first | assumption | omega) | (refine nt ?_; first | assumption | omega) | (simp [*]; done) | (refine decide_eq_false ?_; first | assumption | omega) | (refine nf ?_; first | assumption | omega)))); (first | (refine m_mov (by conv => lhs; whnf) ?_) | (refine m_gtr rfl rfl ?_) | (refine m_neq rfl rfl ?_) | (refine m_mul rfl rfl ?_ ?_ ?_; (· first | omega | (simp; done)); (· first | omega | (simp; done))) | (refine m_len_ro rfl ?_) | (refine m_pick_f rfl ?_ (by conv => lhs; whnf) ?_; (· first | rfl | assumption | (refine decide_eq_false ?_; first | assumption | omega) | (refine nf ?_; first | assumption | omega) | (simp [*]; done)))))) | refine end_ops ?_ | refine seq_ops ?_ | (refine cond_f rfl ?_ ?_; (· first | rfl | assumption | (refine decide_eq_false ?_; first | assumption | omega) | (refine nf ?_; first | assumption | omega) | (simp [*]; done))) | refine skip_then ?_ | refine AW_seq ?_ | refine AW_block ?_)
  refine AW_loop (α := Nat) (fun j => j ≤ G + 1) (fun j => st [(0, .i G), (1, .i n), (2, .i k), (3, .i m), (4, .i t), (29, .i w), (34, .sl 194 1 0 (G + 1)), (35, .sl 197 1 0 (G + 1)), (36, .sl 200 1 0 (G + 1)), (37, .sl 203 1 0 (G + 1)), (46, .i ((j : Nat) : Int))] [(194, (true, (wL R qN G R.length).map AV.i)), (197, (true, (wL R qF G R.length).map AV.i)), (200, (true, (wL R qE G R.length).map AV.i)), (203, (true, (oL R G R.length 0).map AV.i))]) (fun j => G + 1 - j) 0 (Nat.zero_le _) (weak_st ?_ ?_ rfl rfl) ?_
  · (repeat' (first | exact trivial | refine And.intro ?_ ?_)) <;> (first | rfl | skip)
  · exact ⟨rfl, rfl, rfl, rfl, trivial⟩
  intro j hj
  by_cases hc : j ≤ G
  · have c19 := implCountByChains_spec ((G : Nat) : Int) ((j : Nat) : Int)
    rw [F.cb j hc] at c19
    by_cases hj0 : j = 0
    · repeat (first | (refine step_ops ?_; (first | (refine m_mov (by conv => lhs; whnf) ?_) | (refine m_leq rfl rfl ?_))) | refine end_ops ?_ | refine seq_ops ?_ | (refine cond_t rfl ?_ ?_; (· first | rfl | assumption | (refine decide_eq_true ?_; first | assumption | omega) | (refine nt ?_; first | assumption | omega) | (simp [*]; done))) | refine skip_then ?_ | refine AW_seq ?_ | refine AW_block ?_)
      refine step_ops ?_; (apply m_call (c19)); (· repeat (first | exact lends_nil | (refine lends_cons ?_ ?_; (· exact lend_v))))
      repeat (first | (refine step_ops ?_; ((try (refine g_yes rfl ?_ ?_; (· first | rfl | assumption | (refine decide_eq_true ?_; first | assumption | omega) | (refine nt ?_; first | assumption | omega) | (simp [*]; done) | (refine decide_eq_false ?_; first | assumption | omega) | (refine nf ?_; first | assumption | omega)))); (first | (refine m_mov (by conv => lhs; whnf) ?_) | (refine m_gtr rfl rfl ?_) | (refine m_neq rfl rfl ?_) | (refine m_add rfl rfl ?_ ?_ ?_; (· omega); (· omega)) | (refine m_not rfl ?_) | (refine m_idx1_sl rfl rfl ?_ ?_; (· omega)) | (refine m_ld_pti rfl (by rfl) ?_ ?_; (· first | omega | (simp; omega))) | (refine m_pick_f rfl ?_ (by conv => lhs; whnf) ?_; (· first | rfl | assumption | (refine decide_eq_false ?_; first | assumption | omega) | (refine nf ?_; first | assumption | omega) | (simp [*]; done))) | (refine m_ext rfl rfl ?_)))) | refine end_ops ?_ | refine seq_ops ?_ | refine AW_ops ?_ | (refine cond_f rfl ?_ ?_; (· first | rfl | assumption | (refine decide_eq_false ?_; first | assumption | omega) | (refine nf ?_; first | assumption | omega) | (simp [*]; done))) | refine skip_then ?_ | refine AW_seq ?_ | refine norm_then ?_ | refine norm_block ?_ | refine AW_skip ?_)
      refine next_round (j + 1) (by omega) (weak_st ?_ ?_ rfl rfl) ?_
      · (repeat' (first | exact trivial | refine And.intro ?_ ?_)) <;> (first | rfl | skip)
      · exact ⟨rfl, rfl, rfl, rfl, trivial⟩
      · omega
    · have c20 := implCountLongest_spec ((G : Nat) : Int) ((j : Nat) : Int)
      rw [F.lo j (by omega) hc] at c20
      have c21 := implCountShortest_spec ((G : Nat) : Int) ((j : Nat) : Int)
      rw [F.cs j (by omega) hc] at c21
      have c22 := implMeanOfLength_spec ((G : Nat) : Int) ((j : Nat) : Int)
      rw [F.ml j (by omega) hc] at c22
      have hoff := F.off j (by omega) hc
      have hd3 : decide ((oL R G R.length 0).getD j 0 * ((j : Nat) : Int) ≠ 1 * w) = false := decide_eq_false fun h => h hoff
      repeat (first | (refine step_ops ?_; (first | (refine m_mov (by conv => lhs; whnf) ?_) | (refine m_leq rfl rfl ?_))) | refine end_ops ?_ | refine seq_ops ?_ | (refine cond_t rfl ?_ ?_; (· first | rfl | assumption | (refine decide_eq_true ?_; first | assumption | omega) | (refine nt ?_; first | assumption | omega) | (simp [*]; done))) | refine skip_then ?_ | refine AW_seq ?_ | refine AW_block ?_)
      refine step_ops ?_; (apply m_call (c19)); (· repeat (first | exact lends_nil | (refine lends_cons ?_ ?_; (· exact lend_v))))
      repeat (first | (refine step_ops ?_; ((try (refine g_yes rfl ?_ ?_; (· first | rfl | assumption | (refine decide_eq_true ?_; first | assumption | omega) | (refine nt ?_; first | assumption | omega) | (simp [*]; done) | (refine decide_eq_false ?_; first | assumption | omega) | (refine nf ?_; first | assumption | omega)))); (first | (refine m_mov (by conv => lhs; whnf) ?_) | (refine m_gtr rfl rfl ?_) | (refine m_neq rfl rfl ?_) | (refine m_not rfl ?_) | (refine m_idx1_sl rfl rfl ?_ ?_; (· omega)) | (refine m_ld_pti rfl (by rfl) ?_ ?_; (· first | omega | (simp; omega))) | (refine m_pick_f rfl ?_ (by conv => lhs; whnf) ?_; (· first | rfl | assumption | (refine decide_eq_false ?_; first | assumption | omega) | (refine nf ?_; first | assumption | omega) | (simp [*]; done))) | (refine m_ext rfl rfl ?_)))) | refine end_ops ?_ | refine seq_ops ?_ | (refine cond_t rfl ?_ ?_; (· first | rfl | assumption | (refine decide_eq_true ?_; first | assumption | omega) | (refine nt ?_; first | assumption | omega) | (simp [*]; done))) | (refine cond_f rfl ?_ ?_; (· first | rfl | assumption | (refine decide_eq_false ?_; first | assumption | omega) | (refine nf ?_; first | assumption | omega) | (simp [*]; done))) | refine skip_then ?_ | refine AW_seq ?_)
      refine step_ops ?_; (apply m_call (c20)); (· repeat (first | exact lends_nil | (refine lends_cons ?_ ?_; (· exact lend_v))))
      repeat (first | (refine step_ops ?_; (first | (refine m_mov (by conv => lhs; whnf) ?_) | (refine m_ext rfl rfl ?_))) | refine end_ops ?_ | refine seq_ops ?_)
      refine step_ops ?_; (apply m_call (c21)); (· repeat (first | exact lends_nil | (refine lends_cons ?_ ?_; (· exact lend_v))))
      repeat (first | (refine step_ops ?_; (first | (refine m_mov (by conv => lhs; whnf) ?_) | (refine m_ext rfl rfl ?_))) | refine end_ops ?_ | refine seq_ops ?_)
      refine step_ops ?_; (apply m_call (c22)); (· repeat (first | exact lends_nil | (refine lends_cons ?_ ?_; (· exact lend_v))))
      repeat (first | (refine step_ops ?_; ((try (refine g_yes rfl ?_ ?_; (· first | rfl | assumption | (refine decide_eq_true ?_; first | assumption | omega) | (refine nt ?_; first | assumption | omega) | (simp [*]; done) | (refine decide_eq_false ?_; first | assumption | omega) | (refine nf ?_; first | assumption | omega)))); (first | (refine m_mov (by conv => lhs; whnf) ?_) | (refine m_neq rfl rfl ?_) | (refine m_add rfl rfl ?_ ?_ ?_; (· omega); (· omega)) | (refine m_mul rfl rfl ?_ ?_ ?_; (· first | omega | (simp; done)); (· first | omega | (simp; done))) | (refine m_not rfl ?_) | (refine m_idx1_sl rfl rfl ?_ ?_; (· omega)) | (refine m_ld_pti rfl (by rfl) ?_ ?_; (· first | omega | (simp; omega))) | (refine m_pick_f rfl ?_ (by conv => lhs; whnf) ?_; (· first | rfl | assumption | (refine decide_eq_false ?_; first | assumption | omega) | (refine nf ?_; first | assumption | omega) | (simp [*]; done))) | (refine m_ext rfl rfl ?_)))) | refine end_ops ?_ | refine seq_ops ?_ | refine AW_ops ?_ | (refine cond_f rfl ?_ ?_; (· first | rfl | assumption | (refine decide_eq_false ?_; first | assumption | omega) | (refine nf ?_; first | assumption | omega) | (simp [*]; done))) | refine norm_then ?_ | refine norm_block ?_ | refine AW_skip ?_)
      refine next_round (j + 1) (by omega) (weak_st ?_ ?_ rfl rfl) ?_
      · (repeat' (first | exact trivial | refine And.intro ?_ ?_)) <;> (first | rfl | skip)
      · exact ⟨rfl, rfl, rfl, rfl, trivial⟩
      · omega
  · obtain rfl : j = G + 1 := by omega
    repeat (first | (refine step_ops ?_; (first | (refine m_mov (by conv => lhs; whnf) ?_) | (refine m_leq rfl rfl ?_))) | refine end_ops ?_ | refine seq_ops ?_ | (refine cond_f rfl ?_ ?_; (· first | rfl | assumption | (refine decide_eq_false ?_; first | assumption | omega) | (refine nf ?_; first | assumption | omega) | (simp [*]; done))) | refine AW_seq ?_ | refine exit_then ?_ | refine exit_round ?_ | refine AW_exit ?_ | refine exit_block ?_)
    refine hQ _ (weak_st ?_ ?_ rfl rfl)
    · (repeat' (first | exact trivial | refine And.intro ?_ ?_)) <;> (first | rfl | skip)
    · trivial
end Go.Proofs.Ytljnllilblhfcaa
namespace Go.Am
open Go.ChangeShapes Go.WideShapes Go.ChangeAt Go.RowKit Go.ChangeMaps
variable {P : Program} {H : Type} {enc : TypeId × Value → H}
theorem and_mk {a b : Bool} (h : a = true) (k : b = true) : (a && b) = true := by rw [h, k]; rfl
theorem More.below {w w' : World} (h : More w w') : Below w.heap.size w w' := ⟨h.os, h.tape, h.output, h.size, h.block⟩
theorem trodAll_stays (hl : laidOutB P = true) {W W' : World} (hb : Below W.heap.size W W') (sp : Nat → Bool) : ∀ {ts : List TypeId} {vs : List Value} {ds : List (DataW H)} {ps : List MemPlace},
    (∀ t ∈ ts, P.readableRec t = true ∧ t < P.types.size) → DataW.TrodAll enc P W 0 (fun _ => true) true ts vs ds ps → (∀ p ∈ ps, p.block < W.heap.size) → (∀ p ∈ ps, sp p.block = true) →
    DataW.TrodAll enc P W' 0 sp true ts vs ds ps
  | [], vs, ds, ps, _, h, _, _ => by
    obtain ⟨rfl, rfl, rfl⟩ := trodAll_nil h
    exact trodAll_mk0
  | t :: ts, vs, ds, ps, hr, h, hlt, hsp => by
    obtain ⟨v, vs', d, ds', p, q, rfl, rfl, rfl, h1, h2⟩ := trodAll_cons h
    refine ⟨p, q, ?_, trodAll_stays hl hb sp (fun t ht => hr t (List.mem_cons_of_mem _ ht)) h2 (fun x hx => hlt x (List.mem_append_right _ hx)) (fun x hx => hsp x (List.mem_append_right _ hx)), rfl⟩
    obtain ⟨h3, h4⟩ := hr t (List.mem_cons_self ..)
    exact WideElems.Trod_stays hl h3 h4 h1 (fun x hx => hb.same (hlt x (List.mem_append_left _ hx))) (fun x hx => hsp x (List.mem_append_left _ hx))
/-- What the row's last words ask of a law that says true. -/
theorem law_post (hl : laidOutB P = true) {f : Func} {s : ChangeSpec} {fresh handsOn again : Bool} {W W' : World} {args : Array Value} {ds gs : List (DataW H)} {before : List MemPlace} {bt : TypeId}
    (hW : DataW.Whole enc P f.params.toList s.vars false W args.toList ds gs before) (hvars : s.vars = []) (hfn : s.fn H (ds ++ gs) = { results := [.lit (.bool true)], args := ds })
    (hres : f.resultTypes = #[bt]) (hbt : P.underlying bt = some .bool) (hread : ∀ t ∈ f.params.toList, P.readableRec t = true ∧ t < P.types.size) (hm : More W W') :
    s.post enc P f false fresh handsOn again W args (.bool true) W' := by
  have hb := hm.below
  have hlt : ∀ p ∈ before, p.block < W.heap.size := fun p hp => hW.lt p hp
  obtain ⟨p, q, hA, hV, hpq, hz, hn⟩ := hW
  rw [hvars] at hV
  obtain ⟨rfl, rfl⟩ := trodVars_none hV
  rw [List.append_nil] at hpq
  subst hpq
  have hargs : ∀ sp : Nat → Bool, (∀ x ∈ before, sp x.block = true) → DataW.TrodAll enc P W' 0 sp true f.params.toList args.toList ds before := fun sp hsp => trodAll_stays hl hb sp hread hA hlt hsp
  have hresT : ∀ (b : Nat) (sp : Nat → Bool) (hd : Bool), DataW.TrodAll enc P W' b sp hd f.resultTypes.toList ((Value.bool true).resultList f.resultTypes.size) [.lit (.bool true)] [] := by
    intro b sp hd
    rw [hres]
    exact trodAll_mk1 (shut_bool hbt true)
  have hvarsT : ∀ sp : Nat → Bool, DataW.TrodVars enc P W' sp s.vars (s.fn H (ds ++ [])).vars [] := by
    intro sp
    rw [hvars, hfn]
    rfl
  have hfull : DataW.Whole enc P f.params.toList s.vars false W args.toList ds [] before := ⟨before, [], hA, by rw [hvars]; rfl, by simp, hz, by simp⟩
  refine ⟨ds, [], before, [], before, [], hfull, by rw [hfn]; exact hresT _ _ _, by rw [hfn]; exact hargs _ (fun x hx => by simpa using hlt x hx), hvarsT _, World.keptBut_mono (fun x hx => ⟨hx, .inr (.inl hx)⟩) (hb.frame (· ∈ before)), fun _ => ?_⟩
  refine ⟨ok_one hres rfl (okWide_bool_mk hbt true), _, _, ([] ++ before) ++ [], ⟨[] ++ before, [], trodAll_append (hargs _ (fun _ _ => rfl)) (hresT _ _ _), hvarsT _, rfl, ?_, by simp⟩, ?_⟩
  · intro b off hp
    have hin : MemPlace.cell b off ∈ before := by simpa using hp
    rw [hb.frozen (hlt _ hin)]
    exact hz b off hin
  · intro x hx _
    simpa using hx
abbrev Outer (w : World) : Ctx := { heap := w.heap, ro := fun b => b < w.heap.size, base := w.heap.size, phi := fun _ => none, live := fun _ => false, loc := false }
/-- An integer that came in. -/
theorem arg_int {W : World} {t : TypeId} {v : Value} {d : DataW H} {ps : List MemPlace} (ht : P.underlying t = some (.int .i64))
    (hval : Value.okWide P W .any 0 t v) (h : DataW.Trod enc P W 0 (fun _ => true) true t v d ps) : ∃ n : Int, SimV (.i n) (Outer W) v ∧ -9223372036854775808 ≤ n ∧ n ≤ 9223372036854775807 := by
  obtain ⟨n, rfl, _, _, hw⟩ := open_int ht hval h
  simp [Lit.wf, IntKind.min, IntKind.max, IntKind.signed, IntKind.bits] at hw
  exact ⟨n, by simp [SimV], by omega, by omega⟩
/-- A law says true. -/
theorem law_calls {f : FuncId} {asx : List AV} {W : World} {args : Array Value} (hs : Sp P f asx (.b true)) (he : SimL asx (Outer W) args.toList) (hlen : args.size = asx.length) (hg : GoodW W := by exact goodW_none rfl) :
    Calls P f args W fun e W' => e = .returned (.bool true) ∧ More W W' := by
  refine (hs W args hg ⟨he, by simpa using hlen⟩).mono fun e W' ⟨v, h1, h2, h3⟩ => ?_
  simp only [SimV] at h3
  subst h3
  exact ⟨h1, h2⟩
end Go.Am
namespace Go.Proofs.Ytljnllilblhfcaa
open Go.ChangeShapes Go.WideShapes Go.ChangeAt Go.RowKit
theorem factMayEnter : Try.checked.prog.mayEnter = true := by kernel_rfl
end Go.Proofs.Ytljnllilblhfcaa
namespace Go.Proofs.Ytljnllilblhfcaa
open Go.ChangeShapes Go.WideShapes Go.ChangeAt Go.RowKit
theorem factLifts : Try.checked.prog.liftsFinal = false := by kernel_rfl
end Go.Proofs.Ytljnllilblhfcaa
namespace Go.Proofs.Ytljnllilblhfcaa
open Go.ChangeShapes Go.WideShapes Go.ChangeAt Go.RowKit
theorem factMake : Try.checked.prog.make = some (OpenClaim.make { program := "", sum := "", func := "", spec := "" }) := by kernel_rfl
end Go.Proofs.Ytljnllilblhfcaa
