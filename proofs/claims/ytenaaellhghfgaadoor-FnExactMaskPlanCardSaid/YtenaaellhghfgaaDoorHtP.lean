/- Contracts: the program writes plans. -/
import Derived.Test.YtenaaellhghfgaaDoorHtX3
import Derived.Test.YtenaaellhghfgaaDoorAmW
namespace Go.Am
/-- A plan told by colours. -/
def plG (c g : Nat) (F : Nat → Nat → Nat) (k : Nat) : List (List UInt8) := (List.range k).map fun i => (List.range (c ^ (g - 1))).map fun v => hg (F i v)
theorem plG_len (c g : Nat) (F : Nat → Nat → Nat) (k : Nat) : (plG c g F k).length = k := by simp [plG]
theorem plG_succ (c g : Nat) (F : Nat → Nat → Nat) (k : Nat) : plG c g F (k + 1) = plG c g F k ++ [(List.range (c ^ (g - 1))).map fun v => hg (F k v)] := by simp [plG, List.range_succ]
theorem lend_game {hp : Hp} {g c : Nat} {mp : AV} {mask : List UInt8} (h1 : plainM mp = true) (h2 : unf mp = mp) : Lend hp (.agg [.i g, .i c, mp, str mask]) (.agg [.i g, .i c, mp, str mask]) := by
  have h := lend_aggM (hp := hp) (l := [AV.i (g : Int), AV.i (c : Int), mp, str mask]) (by simp only [List.all_cons, List.all_nil, h1, Bool.true_and, Bool.and_true]; rfl)
  have e : ([AV.i (g : Int), AV.i (c : Int), mp, str mask]).map unf = [AV.i (g : Int), AV.i (c : Int), mp, str mask] := by simp only [List.map_cons, List.map_nil, h2]; rfl
  rw [e] at h
  exact h
end Go.Am
namespace Go.Proofs.YtenaaellhghfgaaDoor
open Go.Am
attribute [local irreducible] AW Outs Weak Lends Lend Sp aops atree aop1 Then Round InBlock Done
attribute [local simp] txs_len

theorem planBy_spec (g c : Nat) (mp : AV) (mask : List UInt8) (f : FuncId) (X : Nat → Nat → Int) (F : Nat → Nat → Nat) (hg2 : 2 ≤ g) (hg4 : g ≤ 4) (h2 : 2 ≤ c) (h3 : c ≤ 3) (m1 : plainM mp = true) (m2 : unf mp = mp) (m3 : cellOk true mp = true) (hcb : Callable Tryd.prog f)
    (hX : ∀ i v, i < g → v < c ^ (g - 1) → -1000 ≤ X i v ∧ X i v ≤ 1000 ∧ X i v % (c : Int) = (F i v : Nat) ∧ F i v < c) (hf : ∀ i v, i < g → v < c ^ (g - 1) → Sp Tryd.prog f [.agg [.i g, .i c, mp, str mask], .agg [.i i, str (dgs c (g - 1) v)]] (.i (X i v))) :
    Sp Tryd.prog 62 [.agg [.i g, .i c, mp, str mask], .v (.func (.func f) #[] #[])] (newPln c (plG c g F g)) := by
  have hal := allH_len c (g - 1)
  have hp := pow_le c (by omega) (g - 1) (by omega)
  have hg1 : (g : Int) - 1 = ((g - 1 : Nat) : Int) := by omega
  have hok : ([AV.i (g : Int), AV.i (c : Int), mp, str mask]).all (cellOk true) = true := by
    simp only [List.all_cons, List.all_nil, m3, Bool.true_and, Bool.and_true]
    rfl
  have hpl := plG_len c g F
  refine specC_of Tryd.func62 rfl cc62 (by rfl) ?_
  unfold ac62
  refine seq_ops ?_
  refine step_ops ?_
  refine m_box rfl hok ?_
  repeat (first | (refine step_ops ?_; (first | (refine m_mov (by conv => lhs; whnf) ?_) | (apply m_ld_pt; (· rfl); (· rfl); (· rfl)) | (refine m_alloc ?_) | (refine m_fa rfl ?_) | (refine m_bld_1 (by conv => lhs; whnf) (by decide)  (by rfl) ?_) | (refine m_stall rfl rfl rfl ?_ ?_ ?_ ?_; (· first | rfl | (simp [*]; done)); (· first | rfl | (simp [*]; done)); (· first | rfl | (simp [cellOk, Value.oneCell']; done))))) | refine end_ops ?_ | refine seq_ops ?_ | refine AW_seq ?_ | refine AW_block ?_)
  refine AW_loop (α := Nat) (fun k => k ≤ g) (fun k => st [(1, .v (.func (.func f) #[] #[])), (2, .pt 2 0), (4, .pt 4 0), (5, .pt 5 0), (15, .i g), (16, .i k)]
    [(2, (true, [.i g, .i c, mp, str mask])), (4, (true, [.i 0, .v (.slice none 0 0)])), (5, (false, [.i c, .sl 1000 1 0 (plG c g F k).length])), (1000, (true, txs (plG c g F k)))]) (fun k => g - k) 0 (Nat.zero_le _) (Weak.trans (weak_nilcell 5 1000 1 1 rfl rfl (by decide) rfl rfl) (weak_st ?_ ?_ rfl rfl)) ?_
  · (repeat' (first | exact trivial | refine And.intro ?_ ?_)) <;> (first | rfl | skip)
  · exact ⟨rfl, rfl, rfl, rfl, trivial⟩
  intro k hk
  have hplk := hpl k
  by_cases hlt : k < g
  · have hsn := plG_succ c g F k
    repeat (first | (refine step_ops ?_; (first | (refine m_mov (by conv => lhs; whnf) ?_) | (refine m_lss rfl rfl ?_) | (refine m_sub rfl rfl ?_ ?_ ?_; (· omega); (· omega)) | (apply m_ld_pt; (· rfl); (· rfl); (· rfl)) | (refine m_fa rfl ?_))) | refine end_ops ?_ | refine seq_ops ?_ | (refine cond_t rfl ?_ ?_; (· first | rfl | assumption | (refine decide_eq_true ?_; first | assumption | omega) | (refine nt ?_; first | assumption | omega) | (simp [*]; done))) | refine skip_then ?_ | refine AW_seq ?_ | refine AW_block ?_)
    rw [hg1]
    (refine step_ops ?_); (apply m_call (allHats_spec (g - 1) c (by omega) (by omega) (by omega))); (· repeat (first | exact lends_nil | (refine lends_cons ?_ ?_; (· exact lend_v))))
    repeat (first | (refine step_ops ?_; (first | (refine m_mov (by conv => lhs; whnf) ?_) | (refine m_len_ro rfl ?_))) | refine end_ops ?_ | refine AW_block ?_)
    refine AW_loop (α := Nat) (fun v => v ≤ c ^ (g - 1)) (fun v => st [(1, .v (.func (.func f) #[] #[])), (2, .pt 2 0), (4, .pt 4 0), (5, .pt 5 0), (6, .i k), (7, str ((List.range v).map fun v => hg (F k v))), (15, .i g), (16, .i k), (24, .ro true 1 (txs (allH c (g - 1))) (allH c (g - 1)).length), (25, .i (allH c (g - 1)).length), (26, .i v)]
      [(2, (true, [.i g, .i c, mp, str mask])), (4, (true, [.i 0, .v (.slice none 0 0)])), (5, (false, [.i c, .sl 1000 1 0 (plG c g F k).length])), (1000, (true, txs (plG c g F k)))]) (fun v => c ^ (g - 1) - v) 0 (Nat.zero_le _) (weak_st ?_ ?_ rfl rfl) ?_
    · (repeat' (first | exact trivial | refine And.intro ?_ ?_)) <;> (first | rfl | skip)
    · exact ⟨rfl, rfl, rfl, rfl, trivial⟩
    intro v hv
    have htl : ((List.range v).map fun v => hg (F k v)).length = v := by simp
    by_cases hltv : v < c ^ (g - 1)
    · have hat := txs_at (G := allH c (g - 1)) (k := v) (by omega)
      rw [allH_get hltv] at hat
      obtain ⟨x1, x2, x3, x4⟩ := hX k v hlt hltv
      have hfs := hf k v hlt hltv
      have hts : ((List.range (v + 1)).map fun v => hg (F k v)) = ((List.range v).map fun v => hg (F k v)) ++ [hg (F k v)] := by simp [List.range_succ]
      generalize dgs c (g - 1) v = D at *
      generalize ((List.range v).map fun v => hg (F k v)) = T at *
      repeat (first | (refine step_ops ?_; (first | (refine m_lss rfl rfl ?_) | (refine m_idx1_ro rfl rfl ?_ ?_; (· omega)))) | refine end_ops ?_ | refine seq_ops ?_ | (refine cond_t rfl ?_ ?_; (· first | rfl | assumption | (refine decide_eq_true ?_; first | assumption | omega) | (refine nt ?_; first | assumption | omega) | (simp [*]; done))) | refine skip_then ?_ | refine AW_seq ?_ | refine AW_block ?_)
      refine step_ops ?_
      refine m_ld_rp rfl hat ?_
      repeat (first | (refine step_ops ?_; (first | (refine m_mov (by conv => lhs; whnf) ?_) | (refine m_bld_2 (by conv => lhs; whnf) (by conv => lhs; whnf) (by decide)  (by decide) (by rfl) (by rfl) ?_) | (refine m_ldall rfl rfl ?_ ?_; (· first | rfl | (simp; done) | (simp [*]; done))))) | refine end_ops ?_ | refine seq_ops ?_)
      refine step_ops ?_
      refine m_callv rfl hcb hfs ?_ ?_
      · exact lends_cons (lend_game m1 m2) (lends_cons (lend_agg rfl) lends_nil)
      repeat (first | (refine step_ops ?_; (first | (refine m_mov (by conv => lhs; whnf) ?_) | (apply m_ld_pt; (· rfl); (· rfl); (· rfl)) | (refine m_fa rfl ?_))) | refine end_ops ?_ | refine AW_ops ?_)
      (refine step_ops ?_); (apply m_call (leftBy_spec (X k v) c h2 h3 (by omega))); (· repeat (first | exact lends_nil | (refine lends_cons ?_ ?_; (· exact lend_v))))
      rw [x3]
      skip
      (refine step_ops ?_); (apply m_call (itoa_hg (F k v) (by omega))); (· repeat (first | exact lends_nil | (refine lends_cons ?_ ?_; (· exact lend_v))))
      repeat (first | (refine step_ops ?_; (first | (refine m_mov (by conv => lhs; whnf) ?_) | (refine m_add rfl rfl ?_ ?_ ?_; (· omega); (· omega)) | (refine m_adds rfl rfl ?_ ?_; (· first | omega | (simp; omega))))) | refine end_ops ?_ | refine AW_ops ?_ | refine norm_then ?_ | refine norm_block ?_)
      refine next_round (v + 1) hltv (weak_st ?_ ?_ rfl rfl) ?_
      · rw [hts]
        (repeat' (first | exact trivial | refine And.intro ?_ ?_)) <;> (first | rfl | skip)
      · exact ⟨rfl, rfl, rfl, rfl, trivial⟩
      · omega
    · obtain rfl : v = c ^ (g - 1) := by omega
      generalize ((List.range (c ^ (g - 1))).map fun v => hg (F k v)) = T at *
      generalize plG c g F k = L at *
      repeat (first | (refine step_ops ?_; (first | (refine m_mov (by conv => lhs; whnf) ?_) | (refine m_lss rfl rfl ?_) | (apply m_ld_pt; (· rfl); (· rfl); (· rfl)) | (refine m_fa rfl ?_) | (refine m_bsl1 rfl rfl ?_) | (refine m_app1 rfl (by decide) rfl (by first | (simp; done) | (simp [*]; done) | (simp; omega)) rfl rfl rfl ?_ (by decide) ?_; (· first | omega | (simp; omega))))) | refine end_ops ?_ | refine seq_ops ?_ | refine AW_ops ?_ | (refine cond_f rfl ?_ ?_; (· first | rfl | assumption | (refine decide_eq_false ?_; first | assumption | omega) | (refine nf ?_; first | assumption | omega) | (simp [*]; done))) | refine AW_seq ?_ | refine norm_then ?_ | refine exit_then ?_ | refine exit_round ?_ | refine AW_exit ?_ | refine exit_block ?_)
      refine step_ops ?_
      refine m_st (off := 1) (cs := [.i c, .any]) (v := .sl 48 1 0 (L.length + 1)) rfl rfl rfl (by simp) rfl ?_
      repeat (first | (refine step_ops ?_; (first | (refine m_mov (by conv => lhs; whnf) ?_) | (refine m_add rfl rfl ?_ ?_ ?_; (· omega); (· omega)))) | refine end_ops ?_ | refine AW_ops ?_ | refine norm_then ?_ | refine norm_block ?_)
      refine next_round (k + 1) hlt ?_ ?_
      · rw [hsn, show (L ++ [T]).length = L.length + 1 by simp, txs_append]
        refine weak_stR (fun r => if r = 1000 then 48 else r) ?_ ?_ (by simp [pbase]) (by simp [pbase]) rfl rfl
        · (repeat' (first | exact trivial | refine And.intro ?_ ?_)) <;> (first | rfl | exact congrArg (fun c => some (true, c)) (renL_ints _ _) | exact congrArg (fun c => some (true, c)) (txs_ren _ _) | skip)
        · (repeat' (first | exact trivial | refine And.intro ?_ ?_)) <;> (first | rfl | exact congrArg (fun c => some (true, c)) (renL_ints _ _) | exact congrArg (fun c => some (true, c)) (txs_ren _ _) | skip)
      · omega
  · obtain rfl : k = g := by omega
    repeat (first | (refine step_ops ?_; (first | (refine m_lss rfl rfl ?_) | (refine m_ldall rfl rfl ?_ ?_; (· first | rfl | (simp; done) | (simp [*]; done))))) | refine end_ops ?_ | refine seq_ops ?_ | (refine cond_f rfl ?_ ?_; (· first | rfl | assumption | (refine decide_eq_false ?_; first | assumption | omega) | (refine nf ?_; first | assumption | omega) | (simp [*]; done))) | refine AW_seq ?_ | refine norm_then ?_ | refine exit_then ?_ | refine exit_round ?_ | refine AW_exit ?_ | refine exit_block ?_)
    refine step_opsW (weak_deep (r := 4) rfl (by simp) rfl) ?_
    refine m_stall (l := [.i c, .sl 1000 1 0 (plG c k F k).length]) rfl rfl rfl rfl rfl rfl ?_
    repeat (first | refine end_ops ?_ | refine AW_ret ?_)
    refine ret_donec rfl rfl rfl ?_
    exact outs_agg2 (outs_i rfl) (outs_txs rfl rfl rfl)
end Go.Proofs.YtenaaellhghfgaaDoor
