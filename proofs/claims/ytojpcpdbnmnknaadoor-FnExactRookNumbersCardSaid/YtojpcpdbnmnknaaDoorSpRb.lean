/- Contracts: the code reads a board. -/
import Derived.Test.YtojpcpdbnmnknaaDoorSpKy
import Derived.Test.YtojpcpdbnmnknaaDoorAmS
namespace Go.Proofs.YtojpcpdbnmnknaaDoor
open Go.Am
attribute [local irreducible] AW Outs Weak Lends Lend Sp aops atree aop1 Then Round InBlock Done

theorem isSide_spec (n : Int) : Sp Tryd.prog 49 [.i n] (.b (decide (1 ≤ n ∧ n ≤ 8))) := by
  refine spec_of Tryd.func49 rfl cc49 rfl ?_
  unfold ac49
  by_cases h1 : 1 ≤ n
  · by_cases h2 : n ≤ 8
    · repeat (first | (refine step_ops ?_; ((try (refine g_yes rfl ?_ ?_; (· first | rfl | assumption | (refine decide_eq_true ?_; first | assumption | omega) | (refine nt ?_; first | assumption | omega) | (simp [*]; done) | (refine decide_eq_false ?_; first | assumption | omega) | (refine nf ?_; first | assumption | omega)))); (first | (refine m_mov (by conv => lhs; whnf) ?_) | (refine m_leq rfl rfl ?_) | (refine m_geq rfl rfl ?_) | (refine m_pick_t rfl ?_ (by conv => lhs; whnf) ?_; (· first | rfl | assumption | (refine decide_eq_true ?_; first | assumption | omega) | (refine nt ?_; first | assumption | omega) | (simp [*]; done)))))) | refine end_ops ?_ | refine seq_ops ?_ | refine AW_ret ?_ | refine ret_done ?_)
      exact outs_b (by simp [h1, h2])
    · repeat (first | (refine step_ops ?_; ((try (refine g_yes rfl ?_ ?_; (· first | rfl | assumption | (refine decide_eq_true ?_; first | assumption | omega) | (refine nt ?_; first | assumption | omega) | (simp [*]; done) | (refine decide_eq_false ?_; first | assumption | omega) | (refine nf ?_; first | assumption | omega)))); (first | (refine m_mov (by conv => lhs; whnf) ?_) | (refine m_leq rfl rfl ?_) | (refine m_geq rfl rfl ?_) | (refine m_pick_t rfl ?_ (by conv => lhs; whnf) ?_; (· first | rfl | assumption | (refine decide_eq_true ?_; first | assumption | omega) | (refine nt ?_; first | assumption | omega) | (simp [*]; done)))))) | refine end_ops ?_ | refine seq_ops ?_ | refine AW_ret ?_ | refine ret_done ?_)
      exact outs_b (by simp [h2])
  · repeat (first | (refine step_ops ?_; (first | (first | (refine m_mov (by conv => lhs; whnf) ?_) | (refine m_geq rfl rfl ?_) | (refine m_pick_f rfl ?_ (by conv => lhs; whnf) ?_; (· first | rfl | assumption | (refine decide_eq_false ?_; first | assumption | omega) | (refine nf ?_; first | assumption | omega) | (simp [*]; done)))) | (refine g_noT rfl ?_ ?_; (· first | rfl | assumption | (refine decide_eq_false ?_; first | assumption | omega) | (refine nf ?_; first | assumption | omega) | (simp [*]; done))))) | refine end_ops ?_ | refine seq_ops ?_ | refine AW_ret ?_ | refine ret_done ?_)
    exact outs_b (by simp [h1])

/-- The places of a board. -/
def plB (B : List UInt8) : List (Nat × Nat) := posP (fbB B) (sdB B) (sdB B)
/-- A board that was read. -/
def bdV (fr : Bool) (B : List UInt8) : AV := if GoodBd B then .agg [.i (sdB B : Nat), .rmp fr (mkEs (plB B)) (plB B).length] else .agg [.i 0, .v (.map none)]
def bdR (fr : Bool) (B : List UInt8) : AV := .tup [bdV fr B, .b (decide (GoodBd B))]

theorem pos_lt {fb : Nat → Nat → Bool} {n k i j : Nat} (hn : n ≤ 8) (hk : k ≤ n) (hi : i < 8) (hj : j ≤ n) : ∀ p ∈ posP fb n k ++ rowP fb i j, p.1 < 1000 ∧ p.2 < 1000 := by
  intro p hp
  rcases List.mem_append.1 hp with hp | hp
  · have := mem_posP.1 hp; omega
  · have := mem_rowP.1 hp; omega

theorem readBoard_spec (B : List UInt8) (hB : B.length ≤ 1048576) : Sp Tryd.prog 29 [str B] (bdR true B) := by
  have hl := splitB_len B
  have hnl := splitNB_len 8 B
  refine specG_of Tryd.func29 rfl cc29 (by rfl) ?_
  unfold ac29
  by_cases hc7 : B.count 47 ≤ 7
  · have hsp : splitNB 8 B = splitB B := splitNB_all 8 B (by omega)
    have hspec := splitN_spec B hB
    rw [hsp] at hspec
    have hsd : sdB B = (splitB B).length := hl.symm
    have hsd8 : sdB B ≤ 8 := by unfold sdB; omega
    repeat (first | (refine step_ops ?_; (first | (refine m_mov (by conv => lhs; whnf) ?_) | (refine m_alloc ?_))) | refine end_ops ?_ | refine seq_ops ?_)
    (refine step_ops ?_); (apply m_call (hspec)); (· repeat (first | exact lends_nil | (refine lends_cons ?_ ?_; (· exact lend_v))))
    repeat (first | (refine step_ops ?_; (first | (refine m_mov (by conv => lhs; whnf) ?_) | (refine m_len_ro rfl ?_))) | refine end_ops ?_ | refine seq_ops ?_ | refine AW_seq ?_)
    (refine step_ops ?_); (apply m_call (isSide_spec _)); (· repeat (first | exact lends_nil | (refine lends_cons ?_ ?_; (· exact lend_v))))
    repeat (first | (refine step_ops ?_; (first | (refine m_mov (by conv => lhs; whnf) ?_) | (refine m_not rfl ?_) | (refine m_len_ro rfl ?_) | (refine m_mmk ?_) | (refine m_alloc ?_) | (refine m_bld_2 (by conv => lhs; whnf) (by conv => lhs; whnf) (by decide)  (by decide) (by rfl) (by rfl) ?_))) | refine end_ops ?_ | refine seq_ops ?_ | (refine cond_f rfl ?_ ?_; (· first | rfl | assumption | (refine decide_eq_false ?_; first | assumption | omega) | (refine nf ?_; first | assumption | omega) | (simp [*]; done))) | refine skip_then ?_)
    refine step_opsW (weak_deep (r := 5) rfl (by simp) rfl) ?_
    refine m_stall (l := [.i (splitB B).length, .mp 18]) rfl rfl rfl rfl rfl rfl ?_
    repeat (first | (refine step_ops ?_; (first | (refine m_mov (by conv => lhs; whnf) ?_) | (refine m_len_ro rfl ?_))) | refine end_ops ?_ | refine seq_ops ?_ | refine AW_seq ?_ | refine AW_block ?_)
    refine AW_loop (α := Nat) (fun k => k ≤ sdB B ∧ ∀ i < k, OkRow (sdB B) ((splitB B).getD i []))
      (fun k => st [(2, .pt 2 0), (5, .pt 5 0), (20, .ro true 1 (strs (splitB B)) (splitB B).length), (21, .i (splitB B).length), (22, .i k)]
        [(2, (true, [.i 0, .v (.map none)])), (5, (false, [.i (splitB B).length, .mp 18])), (18, (true, [.ob (.map (mkEs (posP (fbB B) (sdB B) k)) (posP (fbB B) (sdB B) k).length)]))]) (fun k => sdB B - k) 0 ⟨Nat.zero_le _, fun i hi => by omega⟩ (weak_st ?_ ?_ rfl rfl) ?_
    · (repeat' (first | exact trivial | refine And.intro ?_ ?_)) <;> (first | rfl | skip)
    · (repeat' (first | exact trivial | refine And.intro ?_ ?_)) <;> (first | rfl | skip)
    rintro k ⟨hk, hok⟩
    by_cases hc : k < (splitB B).length
    · have hat := strs_at hc
      obtain ⟨row, hrow⟩ : ∃ row, row = (splitB B).getD k [] := ⟨_, rfl⟩
      rw [← hrow] at hat
      have hsn : OkRow (sdB B) row → ∀ i < k + 1, OkRow (sdB B) ((splitB B).getD i []) := fun h => all_snoc hok (by rw [← hrow]; exact h)
      have hbad : ¬ OkRow (sdB B) row → ¬ GoodBd B := fun h hg => h (by rw [hrow]; exact (good_iff hc7).1 hg k (by omega))
      have hfb : ∀ j, fbB B k j = decide (row.getD j 0 = 35) := fun j => by rw [hrow]; rfl
      have hout : ∀ {s : AS}, ¬ GoodBd B → s.tm 2 = .pt 2 0 → s.hp 2 = some (true, [.i 0, .v (.map none)]) → s.tm 3 = .b false → DoneG [.c 2 2, .t 3] (bdR true B) .ret s := by
        intro s hng h1 h2 h3
        refine ret_doneg2 h1 h2 rfl ?_
        unfold bdR bdV
        rw [h3, if_neg hng, decide_eq_false hng]
        exact outs_tup2 (outs_agg rfl) (outs_b rfl)
      by_cases hlen : row.length = (splitB B).length
      · repeat (first | (refine step_ops ?_; (first | (refine m_mov (by conv => lhs; whnf) ?_) | (refine m_lss rfl rfl ?_) | (refine m_idx1_ro rfl rfl ?_ ?_; (· omega)))) | refine end_ops ?_ | refine seq_ops ?_ | (refine cond_t rfl ?_ ?_; (· first | rfl | assumption | (refine decide_eq_true ?_; first | assumption | omega) | (refine nt ?_; first | assumption | omega) | (simp [*]; done))) | refine skip_then ?_ | refine AW_seq ?_ | refine AW_block ?_)
        refine step_ops ?_
        refine m_ld_rp rfl hat ?_
        repeat (first | (refine step_ops ?_; (first | (refine m_mov (by conv => lhs; whnf) ?_) | (refine m_neq rfl rfl ?_) | (refine m_slen rfl ?_) | (apply m_ld_pt; (· rfl); (· rfl); (· rfl)) | (refine m_fa rfl ?_))) | refine end_ops ?_ | refine seq_ops ?_ | (refine cond_f rfl ?_ ?_; (· first | rfl | assumption | (refine decide_eq_false ?_; first | assumption | omega) | (refine nf ?_; first | assumption | omega) | (simp [*]; done))) | refine skip_then ?_ | refine AW_seq ?_ | refine AW_block ?_)
        refine AW_loop (α := Nat) (fun j => j ≤ row.length ∧ ∀ c ∈ row.take j, c = 46 ∨ c = 35)
          (fun j => st [(2, .pt 2 0), (5, .pt 5 0), (6, .i k), (7, str row), (20, .ro true 1 (strs (splitB B)) (splitB B).length), (21, .i (splitB B).length), (22, .i k), (34, .i row.length), (35, .i j)]
            [(2, (true, [.i 0, .v (.map none)])), (5, (false, [.i (splitB B).length, .mp 18])), (18, (true, [.ob (.map (mkEs (posP (fbB B) (sdB B) k ++ rowP (fbB B) k j)) (posP (fbB B) (sdB B) k ++ rowP (fbB B) k j).length)]))]) (fun j => row.length - j) 0 ⟨Nat.zero_le _, fun c hc => by simp at hc⟩ (weak_st ?_ ?_ rfl rfl) ?_
        · (repeat' (first | exact trivial | refine And.intro ?_ ?_)) <;> (first | rfl | skip)
        · rw [show posP (fbB B) (sdB B) k ++ rowP (fbB B) k 0 = posP (fbB B) (sdB B) k by simp [rowP]]
          (repeat' (first | exact trivial | refine And.intro ?_ ?_)) <;> (first | rfl | skip)
        rintro j ⟨hj, hjok⟩
        by_cases hcj : j < row.length
        · have hts := take_snoc row j 0 hcj
          have hrs := rowP_snoc (fbB B) k j
          have hlt := pos_lt (fb := fbB B) (n := sdB B) (k := k) (i := k) (j := j) hsd8 (by omega) (by omega) (by omega)
          by_cases h46 : row.getD j 0 = 46
          · have h46' : ((row.getD j 0).toNat : Int) = 46 := by rw [h46]; rfl
            have hfj : fbB B k j = false := by rw [hfb, h46]; rfl
            rw [hfj] at hrs
            repeat (first | (refine step_ops ?_; (first | (refine m_mov (by conv => lhs; whnf) ?_) | (refine m_lss rfl rfl ?_) | (refine m_eqk rfl rfl ?_) | (refine m_add rfl rfl ?_ ?_ ?_; (· omega); (· omega)) | (refine m_six' rfl rfl ?_ ?_; (· first | omega | (simp; omega))))) | refine end_ops ?_ | refine seq_ops ?_ | refine AW_ops ?_ | (refine cond_t rfl ?_ ?_; (· first | rfl | assumption | (refine decide_eq_true ?_; first | assumption | omega) | (refine nt ?_; first | assumption | omega) | (simp [*]; done))) | refine skip_then ?_ | refine AW_seq ?_ | refine norm_then ?_ | refine AW_block ?_ | refine norm_block ?_ | refine AW_skip ?_)
            refine next_round (j + 1) ⟨hcj, fun c hc => ?_⟩ (weak_st ?_ ?_ rfl rfl) ?_
            · rw [hts] at hc
              rcases List.mem_append.1 hc with hc | hc
              · exact hjok c hc
              · rw [List.mem_singleton.1 hc]; exact .inl h46
            · (repeat' (first | exact trivial | refine And.intro ?_ ?_)) <;> (first | rfl | skip)
            · rw [hrs]
              simp only [Bool.false_eq_true, if_false, List.append_nil]
              (repeat' (first | exact trivial | refine And.intro ?_ ?_)) <;> (first | rfl | skip)
            · omega
          · have h46' : ¬ ((row.getD j 0).toNat : Int) = 46 := fun e => h46 (u8_eq (n := 46) (by omega) 46 rfl)
            by_cases h35 : row.getD j 0 = 35
            · have h35' : ((row.getD j 0).toNat : Int) = 35 := by rw [h35]; rfl
              have hfj : fbB B k j = true := by rw [hfb, h35]; rfl
              rw [hfj, if_pos rfl] at hrs
              repeat (first | (refine step_ops ?_; (first | (refine m_mov (by conv => lhs; whnf) ?_) | (refine m_lss rfl rfl ?_) | (refine m_eqk rfl rfl ?_) | (refine m_six' rfl rfl ?_ ?_; (· first | omega | (simp; omega))) | (apply m_ld_pt; (· rfl); (· rfl); (· rfl)) | (refine m_fa rfl ?_) | (refine m_bld_2 (by conv => lhs; whnf) (by conv => lhs; whnf) (by decide)  (by decide) (by rfl) (by rfl) ?_))) | refine end_ops ?_ | refine seq_ops ?_ | refine AW_ops ?_ | (refine cond_t rfl ?_ ?_; (· first | rfl | assumption | (refine decide_eq_true ?_; first | assumption | omega) | (refine nt ?_; first | assumption | omega) | (simp [*]; done))) | (refine cond_f rfl ?_ ?_; (· first | rfl | assumption | (refine decide_eq_false ?_; first | assumption | omega) | (refine nf ?_; first | assumption | omega) | (simp [*]; done))) | refine skip_then ?_ | refine AW_seq ?_ | refine AW_block ?_)
              refine step_ops ?_
              refine m_putPlace (l := posP (fbB B) (sdB B) k ++ rowP (fbB B) k j) (a := k) (b := j) hlt rfl rfl rfl rfl (by omega) (by omega) ?_ ?_
              · intro hm
                rcases List.mem_append.1 hm with hm | hm
                · have := mem_posP.1 hm; simp at this
                · have := mem_rowP.1 hm; simp at this
              repeat (first | (refine step_ops ?_; (first | (refine m_mov (by conv => lhs; whnf) ?_) | (refine m_add rfl rfl ?_ ?_ ?_; (· omega); (· omega)))) | refine end_ops ?_ | refine AW_ops ?_ | refine norm_then ?_ | refine norm_block ?_)
              refine next_round (j + 1) ⟨hcj, fun c hc => ?_⟩ (weak_st ?_ ?_ rfl rfl) ?_
              · rw [hts] at hc
                rcases List.mem_append.1 hc with hc | hc
                · exact hjok c hc
                · rw [List.mem_singleton.1 hc]; exact .inr h35
              · (repeat' (first | exact trivial | refine And.intro ?_ ?_)) <;> (first | rfl | skip)
              · rw [hrs, ← List.append_assoc]
                (repeat' (first | exact trivial | refine And.intro ?_ ?_)) <;> (first | rfl | skip)
              · omega
            · have h35' : ¬ ((row.getD j 0).toNat : Int) = 35 := fun e => h35 (u8_eq (n := 35) (by omega) 35 rfl)
              repeat (first | (refine step_ops ?_; (first | (refine m_mov (by conv => lhs; whnf) ?_) | (refine m_lss rfl rfl ?_) | (refine m_eqk rfl rfl ?_) | (refine m_six' rfl rfl ?_ ?_; (· first | omega | (simp; omega))) | (refine m_bld rfl ?_) | (refine m_stall rfl rfl rfl ?_ ?_ ?_ ?_; (· first | rfl | (simp [*]; done)); (· first | rfl | (simp [*]; done)); (· first | rfl | (simp [cellOk, Value.oneCell']; done))))) | refine end_ops ?_ | refine seq_ops ?_ | (refine cond_t rfl ?_ ?_; (· first | rfl | assumption | (refine decide_eq_true ?_; first | assumption | omega) | (refine nt ?_; first | assumption | omega) | (simp [*]; done))) | (refine cond_f rfl ?_ ?_; (· first | rfl | assumption | (refine decide_eq_false ?_; first | assumption | omega) | (refine nf ?_; first | assumption | omega) | (simp [*]; done))) | refine skip_then ?_ | refine AW_seq ?_ | refine AW_ret ?_ | refine ret_then ?_ | refine AW_block ?_ | refine ret_block ?_ | refine ret_round ?_)
              exact hout (hbad fun h => (h.2 _ (getD_memL hcj)).elim h46 h35) rfl rfl rfl
        · obtain rfl : j = row.length := by omega
          rw [List.take_length] at hjok
          repeat (first | (refine step_ops ?_; (first | (refine m_mov (by conv => lhs; whnf) ?_) | (refine m_lss rfl rfl ?_) | (refine m_add rfl rfl ?_ ?_ ?_; (· omega); (· omega)))) | refine end_ops ?_ | refine seq_ops ?_ | refine AW_ops ?_ | (refine cond_f rfl ?_ ?_; (· first | rfl | assumption | (refine decide_eq_false ?_; first | assumption | omega) | (refine nf ?_; first | assumption | omega) | (simp [*]; done))) | refine AW_seq ?_ | refine norm_then ?_ | refine exit_then ?_ | refine norm_block ?_ | refine exit_round ?_ | refine AW_exit ?_ | refine exit_block ?_)
          refine next_round (k + 1) ⟨by omega, hsn ⟨by omega, hjok⟩⟩ (weak_st ?_ ?_ rfl rfl) ?_
          · (repeat' (first | exact trivial | refine And.intro ?_ ?_)) <;> (first | rfl | skip)
          · rw [show posP (fbB B) (sdB B) (k + 1) = posP (fbB B) (sdB B) k ++ rowP (fbB B) k row.length by rw [hlen, ← hsd]; rfl]
            (repeat' (first | exact trivial | refine And.intro ?_ ?_)) <;> (first | rfl | skip)
          · omega
      · repeat (first | (refine step_ops ?_; (first | (refine m_mov (by conv => lhs; whnf) ?_) | (refine m_lss rfl rfl ?_) | (refine m_idx1_ro rfl rfl ?_ ?_; (· omega)))) | refine end_ops ?_ | refine seq_ops ?_ | (refine cond_t rfl ?_ ?_; (· first | rfl | assumption | (refine decide_eq_true ?_; first | assumption | omega) | (refine nt ?_; first | assumption | omega) | (simp [*]; done))) | refine skip_then ?_ | refine AW_seq ?_ | refine AW_block ?_)
        refine step_ops ?_
        refine m_ld_rp rfl hat ?_
        repeat (first | (refine step_ops ?_; (first | (refine m_mov (by conv => lhs; whnf) ?_) | (refine m_neq rfl rfl ?_) | (refine m_slen rfl ?_) | (apply m_ld_pt; (· rfl); (· rfl); (· rfl)) | (refine m_fa rfl ?_) | (refine m_bld rfl ?_) | (refine m_stall rfl rfl rfl ?_ ?_ ?_ ?_; (· first | rfl | (simp [*]; done)); (· first | rfl | (simp [*]; done)); (· first | rfl | (simp [cellOk, Value.oneCell']; done))))) | refine end_ops ?_ | refine seq_ops ?_ | (refine cond_t rfl ?_ ?_; (· first | rfl | assumption | (refine decide_eq_true ?_; first | assumption | omega) | (refine nt ?_; first | assumption | omega) | (simp [*]; done))) | refine AW_seq ?_ | refine AW_ret ?_ | refine ret_then ?_ | refine ret_block ?_ | refine ret_round ?_)
        exact hout (hbad fun h => hlen (by rw [h.1]; exact hsd)) rfl rfl rfl
    · have hg : GoodBd B := (good_iff hc7).2 fun i hi => hok i (by omega)
      obtain rfl : k = sdB B := by omega
      repeat (first | (refine step_ops ?_; (first | (refine m_lss rfl rfl ?_) | (refine m_ldall rfl rfl ?_ ?_; (· first | rfl | (simp; done) | (simp [*]; done))))) | refine end_ops ?_ | refine seq_ops ?_ | (refine cond_f rfl ?_ ?_; (· first | rfl | assumption | (refine decide_eq_false ?_; first | assumption | omega) | (refine nf ?_; first | assumption | omega) | (simp [*]; done))) | refine AW_seq ?_ | refine norm_then ?_ | refine exit_then ?_ | refine exit_round ?_ | refine AW_exit ?_ | refine exit_block ?_)
      refine step_opsW (weak_deep (r := 2) rfl (by simp) rfl) ?_
      refine m_stall (l := [.i (splitB B).length, .mp 18]) rfl rfl rfl rfl rfl rfl ?_
      repeat (first | (refine step_ops ?_; (refine m_mov (by conv => lhs; whnf) ?_)) | refine end_ops ?_ | refine AW_ret ?_)
      refine ret_doneg2 rfl rfl rfl ?_
      unfold bdR bdV
      rw [if_pos hg, decide_eq_true hg]
      exact outs_tup2 (outs_agg2 (outs_i (by rw [hsd])) (outs_mp (by decide) rfl)) (outs_b rfl)
  · have hng : ¬ GoodBd B := fun h => hc7 h.1
    repeat (first | (refine step_ops ?_; (first | (refine m_mov (by conv => lhs; whnf) ?_) | (refine m_alloc ?_))) | refine end_ops ?_ | refine seq_ops ?_)
    (refine step_ops ?_); (apply m_call (splitN_spec B hB)); (· repeat (first | exact lends_nil | (refine lends_cons ?_ ?_; (· exact lend_v))))
    repeat (first | (refine step_ops ?_; (first | (refine m_mov (by conv => lhs; whnf) ?_) | (refine m_len_ro rfl ?_))) | refine end_ops ?_ | refine seq_ops ?_ | refine AW_seq ?_)
    (refine step_ops ?_); (apply m_call (isSide_spec _)); (· repeat (first | exact lends_nil | (refine lends_cons ?_ ?_; (· exact lend_v))))
    repeat (first | (refine step_ops ?_; (first | (refine m_mov (by conv => lhs; whnf) ?_) | (refine m_not rfl ?_) | (refine m_bld rfl ?_) | (refine m_stall rfl rfl rfl ?_ ?_ ?_ ?_; (· first | rfl | (simp [*]; done)); (· first | rfl | (simp [*]; done)); (· first | rfl | (simp [cellOk, Value.oneCell']; done))))) | refine end_ops ?_ | refine seq_ops ?_ | (refine cond_t rfl ?_ ?_; (· first | rfl | assumption | (refine decide_eq_true ?_; first | assumption | omega) | (refine nt ?_; first | assumption | omega) | (simp [*]; done))) | refine AW_ret ?_ | refine ret_then ?_)
    refine ret_doneg2 rfl rfl rfl ?_
    unfold bdR bdV
    rw [if_neg hng, decide_eq_false hng]
    exact outs_tup2 (outs_agg rfl) (outs_b rfl)

theorem implIsBoard_spec (B : List UInt8) (hB : B.length ≤ 1048576) : Sp Tryd.prog 45 [str B] (.b (decide (GoodBd B))) := by
  have hr := readBoard_spec B hB
  unfold bdR bdV at hr
  refine spec_of Tryd.func45 rfl cc45 rfl ?_
  unfold ac45
  by_cases h : GoodBd B
  · rw [if_pos h] at hr
    repeat (first | (refine step_ops ?_; (refine m_mov (by conv => lhs; whnf) ?_)) | refine end_ops ?_ | refine seq_ops ?_)
    (refine step_ops ?_); (apply m_call (hr)); (· repeat (first | exact lends_nil | (refine lends_cons ?_ ?_; (· exact lend_v))))
    repeat (first | (refine step_ops ?_; (first | (refine m_mov (by conv => lhs; whnf) ?_) | (refine m_ext rfl rfl ?_) | (refine m_alloc ?_) | (refine m_stall rfl rfl rfl ?_ ?_ ?_ ?_; (· first | rfl | (simp [*]; done)); (· first | rfl | (simp [*]; done)); (· first | rfl | (simp [cellOk, Value.oneCell']; done))))) | refine end_ops ?_ | refine seq_ops ?_ | refine AW_ret ?_ | refine ret_done ?_)
    exact outs_b rfl
  · rw [if_neg h] at hr
    repeat (first | (refine step_ops ?_; (refine m_mov (by conv => lhs; whnf) ?_)) | refine end_ops ?_ | refine seq_ops ?_)
    (refine step_ops ?_); (apply m_call (hr)); (· repeat (first | exact lends_nil | (refine lends_cons ?_ ?_; (· exact lend_v))))
    repeat (first | (refine step_ops ?_; (first | (refine m_mov (by conv => lhs; whnf) ?_) | (refine m_ext rfl rfl ?_) | (refine m_alloc ?_) | (refine m_stall rfl rfl rfl ?_ ?_ ?_ ?_; (· first | rfl | (simp [*]; done)); (· first | rfl | (simp [*]; done)); (· first | rfl | (simp [cellOk, Value.oneCell']; done))))) | refine end_ops ?_ | refine seq_ops ?_ | refine AW_ret ?_ | refine ret_done ?_)
    exact outs_b rfl

end Go.Proofs.YtojpcpdbnmnknaaDoor
