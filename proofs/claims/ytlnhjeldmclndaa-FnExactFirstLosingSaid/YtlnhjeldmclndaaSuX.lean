/- Contracts: a chain put behind a list that is given to the call. -/
import Derived.Test.YtlnhjeldmclndaaSpA
import Derived.Test.YtlnhjeldmclndaaAmGv
namespace Go.Am
theorem ret_doneT1 {s : AS} {ts : List Nat} {res : AV} {hin hout : Hp} (g : Nat → Nat) (h1 : resAV s ts = renV g res) (h2 : ∀ r c, hout r = some c → ∃ c0, s.hp (g r) = some c0 ∧ (c0 = renR g c ∨ (c.2 = [] ∧ c0.2 = []))) (h3 : ∀ r, (hin r).isSome = true → r < gvb → g r = r ∧ (hout r).isSome = true)
    (h4 : ∀ r, (hout r).isSome = true → hin r = none → g r < pbase) (h5 : ∀ r r', (hout r).isSome = true → (hout r').isSome = true → g r = g r' → r = r') (h6 : ∀ r, (hout r).isSome = true → r < gvb) : DoneT ts res hin hout .ret s := ⟨g, h1, h2, h3, h4, h5, h6⟩
abbrev giv (L : List Int) : Hp := look [(gvb, (true, L.map AV.i))]
abbrev got (L : List Int) : Hp := look [(nbase, (true, L.map AV.i))]
theorem giv_some {L : List Int} {r : Nat} {c : Bool × List AV} (h : giv L r = some c) : r = gvb ∧ c = (true, L.map AV.i) := by
  have := look_mem h
  simp only [List.mem_singleton, Prod.mk.injEq] at this
  exact this
theorem got_some {L : List Int} {r : Nat} {c : Bool × List AV} (h : got L r = some c) : r = nbase ∧ c = (true, L.map AV.i) := by
  have := look_mem h
  simp only [List.mem_singleton, Prod.mk.injEq] at this
  exact this
theorem giv_isSome {L : List Int} {r : Nat} (h : (giv L r).isSome = true) : r = gvb := by
  obtain ⟨c, hc⟩ := Option.isSome_iff_exists.1 h
  exact (giv_some hc).1
theorem got_isSome {L : List Int} {r : Nat} (h : (got L r).isSome = true) : r = nbase := by
  obtain ⟨c, hc⟩ := Option.isSome_iff_exists.1 h
  exact (got_some hc).1
theorem giv_static (L M : List Int) (n : Nat) : Static (giv L) (.sl nbase 1 0 n) (got M) := by
  refine ⟨fun r hr => ?_, fun r c hc => ?_, by simp [ownV, refsV, look]⟩
  · rw [giv_isSome hr]; decide
  · rw [(got_some hc).2]
    exact ⟨ownL_ints _ _, refsL_ints _ _⟩
theorem lendH_plain {hp : Hp} {g : Nat → Nat} {hin : Hp} : ∀ {l : List AV}, l.all plainV = true → LendsH hp g hin l l
  | [], _ => lendH_nil
  | a :: l, h => by
    simp only [List.all_cons, Bool.and_eq_true] at h
    refine lendH_cons ?_ (lendH_plain h.2)
    cases a <;> simp [plainV] at h
    exact lendH_v
/-- A list of mine is given to a call, and it hands back another one. -/
theorem m_callG1 {P : Program} {s : AS} {K : AS → Prop} {f : FuncId} {args : List Opd} {as1 : List AV} {L M : List Int} {n m r q : Nat} (hs : SpG P f (.sl gvb 1 0 n :: as1) (giv L) (.sl nbase 1 0 m) (got M)) (ha : args.map s.ev = .sl r 1 0 n :: as1) (hp : as1.all plainV = true)
    (hr : s.hp r = some (true, L.map AV.i)) (hrp : r < pbase) (hq : s.hp q = none ∨ q = r) (hqp : q < pbase) (k : K (((s.kill r).mem q (true, M.map AV.i)).put (some q) (.sl q 1 0 m))) : aop1 P true ⟨some q, .call f args, none⟩ s K := by
  have hpb : pbase = 4000000 := rfl
  have hn : nbase = 8000000 := rfl
  have hg : gvb = 16000000 := rfl
  have e1 : (fun x : Nat => if x = gvb then r else if x = nbase then q else x) gvb = r := if_pos rfl
  have e2 : (fun x : Nat => if x = gvb then r else if x = nbase then q else x) nbase = q := by
    show (if nbase = gvb then r else if nbase = nbase then q else nbase) = q
    rw [if_neg (by omega), if_pos rfl]
  generalize hgd : (fun x : Nat => if x = gvb then r else if x = nbase then q else x) = g at e1 e2
  refine m_callG g (fun x => x == r) hs ?_ (hp' := ((s.kill r).mem q (true, M.map AV.i)).hp) ⟨fun x c hc => ?_, fun x hx => ?_, fun x hx _ => ?_, fun x x' hx hx' _ => ?_, fun x x' hx hx' _ => ?_, fun x hx hlt => ?_, fun x hx => ?_, fun x hx _ => ?_, fun x c hc => ?_, fun y hy => ?_, fun x c hc => ?_, fun x c hc => ?_, rfl⟩ ?_
  · rw [ha]
    refine lendH_cons ?_ (lendH_plain hp)
    have := lendH_ren (hp := s.hp) (g := g) (hin := giv L) (x := .sl gvb 1 0 n) (fun x c hc => by rw [(giv_some hc).1, e1, hr]; rfl) rfl rfl
    simp only [renV, e1] at this
    exact this
  · rw [(giv_some hc).1, e1, hr, (giv_some hc).2]
    simp only [renR]
    rw [renL_ints]
  · rw [giv_isSome hx, e1]
    exact ⟨fun _ => Nat.le_refl _, fun _ => by simp⟩
  · rw [giv_isSome hx, e1]; exact .inl hrp
  · rw [giv_isSome hx, giv_isSome hx']
  · rw [got_isSome hx, got_isSome hx']
  · rw [giv_isSome hx] at hlt; omega
  · rw [got_isSome hx]; omega
  · rw [got_isSome hx, e2, drop_one]
    refine ⟨?_, hqp⟩
    rcases hq with h | h
    · simp only [AS.kill, h]
      split <;> rfl
    · rw [h]; exact kill_hp s r
  · rw [(got_some hc).1, e2, (got_some hc).2]
    simp only [renR]
    rw [renL_ints]
    simp [AS.mem]
  · have := hy nbase (by simp [look])
    rw [e2] at this
    rw [drop_one, hp_mem_ne (Ne.symm this)]
  · rw [(giv_some hc).2]
    exact ⟨ownL_ints _ _, refsL_ints _ _⟩
  · rw [(got_some hc).2]
    exact ownL_ints _ _
  · rw [drop_one]
    simp only [renV, e2]
    exact k
/-- A list with a chain of n guests more. -/
def chA (L : List Int) (n : Nat) : List Int := L ++ ((List.range (n - 1)).map fun i => (L.length : Int) + (i + 1 : Nat)) ++ [(L.length : Int)]
theorem chA_len (L : List Int) {n : Nat} (h : 1 ≤ n) : (chA L n).length = L.length + n := by simp [chA]; omega
end Go.Am
namespace Go.Proofs.Ytlnhjeldmclndaa
open Go.Am
attribute [local irreducible] AW Outs Weak Lends Lend Sp aops atree aop1 Then Round InBlock Done
attribute [local irreducible] SpH DoneH SpG DoneT

theorem addChain_spec (L : List Int) (n : Nat) (h1 : 1 ≤ n) (h12 : n ≤ 12) (hL : L.length ≤ 1000) : SpG Try.prog 41 [.sl gvb 1 0 L.length, .i n] (giv L) (.sl nbase 1 0 (L.length + n)) (got (chA L n)) := by
  have hpb : pbase = 4000000 := rfl
  refine specT_of Try.func41 rfl cc41 rfl (giv_static L (chA L n) _) (stG [(0, .sl 30 1 0 L.length), (1, .i n)] [(30, (true, L.map AV.i))] 60 []) ?_ ?_
  · refine weak_G (fun r => if r = 30 then gvb else r) ⟨rfl, rfl, trivial⟩ ⟨rfl, trivial⟩ (fun j hj => by simp at hj) (by simp) (fun j j' hj => by simp at hj) (fun p _ j hj => by simp at hj) (fun p hp => ?_) (fun j hj => by simp at hj) rfl (fun p hp hf => ?_)
    · rw [List.mem_singleton] at hp
      subst hp
      exact .inr (.inr ⟨by show 30 < pbase; omega, by show gvb ≤ gvb; omega⟩)
    · rw [List.mem_singleton] at hp
      subst hp
      cases hf
  unfold ac41
  repeat (first | ((first | refine step_ops ?_ | refine step_tree ?_); (first | ((try (refine g_yes rfl ?_ ?_; (· first | rfl | assumption | (refine decide_eq_true ?_; first | assumption | omega) | (refine nt ?_; first | assumption | omega) | (simp [*]; done) | (refine decide_eq_false ?_; first | assumption | omega) | (refine nf ?_; first | assumption | omega)))); (first | (refine m_mov (by conv => lhs; whnf) ?_) | (refine m_lss rfl rfl ?_) | (refine m_leq rfl rfl ?_) | (refine m_gtr rfl rfl ?_) | (refine m_geq rfl rfl ?_) | (refine m_eql rfl rfl ?_) | (refine m_eqk rfl rfl ?_) | (refine m_eqs rfl rfl ?_) | (refine m_neq rfl rfl ?_) | (refine m_neqk rfl rfl ?_) | (refine m_neqs_self rfl rfl ?_) | (refine m_neqs rfl rfl ?_) | (refine m_add rfl rfl ?_ ?_ ?_; (· omega); (· omega)) | (refine m_adds rfl rfl ?_ ?_; (· first | omega | (simp; omega))) | (refine m_sub rfl rfl ?_ ?_ ?_; (· omega); (· omega)) | (refine m_mul rfl rfl ?_ ?_ ?_; (· first | omega | (simp; done)); (· first | omega | (simp; done))) | (refine m_scutb rfl rfl rfl ?_ ?_ ?_; (· omega); (· first | omega | (simp; omega))) | (refine m_scutl rfl rfl ?_ ?_; (· first | omega | (simp; omega))) | (refine m_scuth rfl rfl ?_ ?_; (· first | omega | (simp; omega))) | (refine m_slen rfl ?_) | (refine m_six' rfl rfl ?_ ?_; (· first | omega | (simp; omega))) | (refine m_bts_sl rfl rfl ?_ ?_; (· first | rfl | omega | (simp; done))) | (refine m_not rfl ?_) | (refine m_beq rfl rfl ?_) | (refine m_len_ro rfl ?_) | (refine m_len_sl rfl ?_) | (refine m_len_nil rfl ?_) | (refine m_isnil_x rfl ?_) | (refine m_isnil_ro rfl ?_ ?_; (· omega)) | (refine m_isnil_sl rfl ?_ ?_; (· omega)) | (refine m_idx1_ro rfl rfl ?_ ?_; (· omega)) | (refine m_idx1_sl rfl rfl ?_ ?_; (· omega)) | (apply m_idx1_slj; (· rfl); (· rfl); (· assumption); (· omega)) | (apply m_idx1_roj; (· rfl); (· rfl); (· assumption); (· omega)) | (refine m_idx_ro rfl rfl ?_ ?_ ?_; (· omega); (· omega)) | (refine m_idx_sl rfl rfl ?_ ?_ ?_; (· omega); (· omega)) | (refine m_arr1 rfl rfl ?_ ?_; (· omega)) | (apply m_arr1j; (· rfl); (· rfl); (· assumption); (· omega)) | (refine m_arro rfl rfl ?_ ?_; (· omega)) | (refine m_arr rfl rfl ?_ ?_ ?_; (· omega); (· omega)) | (refine m_ld_rpi rfl ?_ ?_; (· omega)) | (refine m_ld_pti rfl (by rfl) ?_ ?_; (· first | omega | (simp; omega))) | (apply m_ld_ptb; (· rfl); (· rfl); (· assumption)) | (apply m_ld_rp; (· rfl); (· rfl)) | (apply m_ld_pt; (· rfl); (· rfl); (· rfl)) | (apply m_st; (· rfl); (· rfl); (· rfl); (· first | omega | (simp; done) | (simp; omega)); (· rfl)) | (refine m_pick_t rfl ?_ (by conv => lhs; whnf) ?_; (· first | rfl | assumption | (refine decide_eq_true ?_; first | assumption | omega) | (refine nt ?_; first | assumption | omega) | (simp [*]; done))) | (refine m_pick_f rfl ?_ (by conv => lhs; whnf) ?_; (· first | rfl | assumption | (refine decide_eq_false ?_; first | assumption | omega) | (refine nf ?_; first | assumption | omega) | (simp [*]; done))) | (refine m_cut_hi rfl rfl ?_ ?_ ?_; (· first | rfl | omega | simp); (· first | omega | (simp; omega))) | (refine m_cut_lo rfl rfl ?_ ?_ ?_; (· first | rfl | omega | simp); (· first | omega | (simp; omega))) | (refine m_inil rfl ?_) | (refine m_iface rfl ?_) | (refine m_mkf ?_) | (refine m_nchk rfl ?_) | (refine m_nchk_rp rfl ?_) | (refine m_mmk ?_) | (refine m_nils ?_) | (refine m_ext rfl rfl ?_) | (refine m_alloc ?_) | (refine m_fa rfl ?_) | (refine m_fa_rp rfl ?_) | (refine m_bsl1 rfl rfl ?_) | (refine m_bsl0 ?_) | (refine m_app1i rfl (by decide) (by rfl) (by first | rfl | omega | (simp; done)) rfl rfl ?_ (by decide) ?_; (· first | omega | (simp; omega))) | (refine m_app1 rfl (by decide) rfl (by first | (simp; done) | (simp [*]; done) | (simp; omega)) rfl rfl rfl ?_ (by decide) ?_; (· first | omega | (simp; omega))) | (refine m_appro rfl (by decide) rfl (by first | rfl | (simp; done) | (simp [*]; done) | (simp; omega)) rfl (oks_ints _) ?_ (by decide) ?_; (· first | omega | (simp; omega))) | (refine m_fld rfl (by rfl) ?_) | (refine m_fldk rfl (by simp) ?_) | (refine m_bld rfl ?_) | (refine m_bld_1 (by conv => lhs; whnf) (by decide)  (by rfl) ?_) | (refine m_bld_2 (by conv => lhs; whnf) (by conv => lhs; whnf) (by decide)  (by decide) (by rfl) (by rfl) ?_) | (refine m_bld_3 (by conv => lhs; whnf) (by conv => lhs; whnf) (by conv => lhs; whnf) (by decide)  (by decide) (by decide) (by rfl) (by rfl) (by rfl) ?_) | (refine m_cvt rfl ?_) | (refine m_aeq rfl rfl rfl ?_) | (refine m_max rfl rfl ?_) | (refine m_min rfl rfl ?_) | (refine m_box rfl ?_ ?_; (· first | rfl | (simp [cellOk, Value.oneCell']; done))) | (refine m_box1 rfl rfl ?_) | (refine m_ldall rfl rfl ?_ ?_; (· first | rfl | (simp; done) | (simp [*]; done))) | (refine m_ldall_rp rfl rfl ?_) | (refine m_stall rfl rfl rfl ?_ ?_ ?_ ?_; (· first | rfl | (simp [*]; done)); (· first | rfl | (simp [*]; done)); (· first | rfl | (simp [cellOk, Value.oneCell']; done))) | (refine m_quo rfl rfl ?_ ?_ ?_ ?_; (· omega); (· omega); (· omega)) | (refine m_rem rfl rfl ?_ ?_ ?_; (· omega); (· omega)))) | (refine g_noF rfl ?_ ?_; (· first | rfl | assumption | (refine decide_eq_true ?_; first | assumption | omega) | (refine nt ?_; first | assumption | omega) | (simp [*]; done))) | (refine g_noT rfl ?_ ?_; (· first | rfl | assumption | (refine decide_eq_false ?_; first | assumption | omega) | (refine nf ?_; first | assumption | omega) | (simp [*]; done))))) | refine end_ops ?_ | refine seq_ops ?_ | refine AW_ops ?_ | refine end_tree ?_ | refine seq_tree ?_ | refine AW_tree ?_ | (refine cond_t rfl ?_ ?_; (· first | rfl | assumption | (refine decide_eq_true ?_; first | assumption | omega) | (refine nt ?_; first | assumption | omega) | (simp [*]; done))) | (refine cond_f rfl ?_ ?_; (· first | rfl | assumption | (refine decide_eq_false ?_; first | assumption | omega) | (refine nf ?_; first | assumption | omega) | (simp [*]; done))) | refine skip_then ?_ | refine AW_seq ?_ | refine AW_ret ?_ | refine ret_done ?_ | refine norm_then ?_ | refine ret_then ?_ | refine exit_then ?_ | refine AW_block ?_ | refine norm_block ?_ | refine ret_block ?_ | refine ret_round ?_ | refine exit_round ?_ | refine AW_exit ?_ | refine exit_block ?_ | (refine exit_other ?_ ?_; (· decide)) | refine AW_skip ?_)
  refine AW_loop (α := Nat) (fun i => i ≤ n - 1) (fun i => st [(0, .sl 30 1 0 (L.length + i)), (1, .i n), (5, .i L.length), (6, .i ((L.length + 1 + i : Nat) : Int))] [(30, (true, (L ++ (List.range i).map fun i => (L.length : Int) + (i + 1 : Nat)).map AV.i))]) (fun i => n - 1 - i) 0 (Nat.zero_le _) (weak_st ?_ ?_ rfl rfl) ?_
  · (repeat' (first | exact trivial | refine And.intro ?_ ?_)) <;> (first | rfl | skip)
  · refine ⟨?_, trivial⟩
    show some (true, L.map AV.i) = _
    rw [List.range_zero, List.map_nil, List.append_nil]
  intro i hi
  have hsn : (L ++ (List.range (i + 1)).map fun i => (L.length : Int) + (i + 1 : Nat)) = (L ++ (List.range i).map fun i => (L.length : Int) + (i + 1 : Nat)) ++ [(L.length : Int) + (i + 1 : Nat)] := by rw [List.range_succ, List.map_append, List.append_assoc]; rfl
  have hpl : (L ++ (List.range i).map fun i => (L.length : Int) + (i + 1 : Nat)).length = L.length + i := by simp
  have hv : ((L.length + 1 + i : Nat) : Int) = (L.length : Int) + (i + 1 : Nat) := by omega
  by_cases hc : i < n - 1
  · generalize (L ++ (List.range i).map fun i => (L.length : Int) + (i + 1 : Nat)) = W at *
    have hlt : ((L.length + 1 + i : Nat) : Int) < (L.length : Int) + (n : Int) := by omega
    repeat (first | ((first | refine step_ops ?_ | refine step_tree ?_); (first | ((try (refine g_yes rfl ?_ ?_; (· first | rfl | assumption | (refine decide_eq_true ?_; first | assumption | omega) | (refine nt ?_; first | assumption | omega) | (simp [*]; done) | (refine decide_eq_false ?_; first | assumption | omega) | (refine nf ?_; first | assumption | omega)))); (first | (refine m_mov (by conv => lhs; whnf) ?_) | (refine m_lss rfl rfl ?_) | (refine m_leq rfl rfl ?_) | (refine m_gtr rfl rfl ?_) | (refine m_geq rfl rfl ?_) | (refine m_eql rfl rfl ?_) | (refine m_eqk rfl rfl ?_) | (refine m_eqs rfl rfl ?_) | (refine m_neq rfl rfl ?_) | (refine m_neqk rfl rfl ?_) | (refine m_neqs_self rfl rfl ?_) | (refine m_neqs rfl rfl ?_) | (refine m_add rfl rfl ?_ ?_ ?_; (· omega); (· omega)) | (refine m_adds rfl rfl ?_ ?_; (· first | omega | (simp; omega))) | (refine m_sub rfl rfl ?_ ?_ ?_; (· omega); (· omega)) | (refine m_mul rfl rfl ?_ ?_ ?_; (· first | omega | (simp; done)); (· first | omega | (simp; done))) | (refine m_scutb rfl rfl rfl ?_ ?_ ?_; (· omega); (· first | omega | (simp; omega))) | (refine m_scutl rfl rfl ?_ ?_; (· first | omega | (simp; omega))) | (refine m_scuth rfl rfl ?_ ?_; (· first | omega | (simp; omega))) | (refine m_slen rfl ?_) | (refine m_six' rfl rfl ?_ ?_; (· first | omega | (simp; omega))) | (refine m_bts_sl rfl rfl ?_ ?_; (· first | rfl | omega | (simp; done))) | (refine m_not rfl ?_) | (refine m_beq rfl rfl ?_) | (refine m_len_ro rfl ?_) | (refine m_len_sl rfl ?_) | (refine m_len_nil rfl ?_) | (refine m_isnil_x rfl ?_) | (refine m_isnil_ro rfl ?_ ?_; (· omega)) | (refine m_isnil_sl rfl ?_ ?_; (· omega)) | (refine m_idx1_ro rfl rfl ?_ ?_; (· omega)) | (refine m_idx1_sl rfl rfl ?_ ?_; (· omega)) | (apply m_idx1_slj; (· rfl); (· rfl); (· assumption); (· omega)) | (apply m_idx1_roj; (· rfl); (· rfl); (· assumption); (· omega)) | (refine m_idx_ro rfl rfl ?_ ?_ ?_; (· omega); (· omega)) | (refine m_idx_sl rfl rfl ?_ ?_ ?_; (· omega); (· omega)) | (refine m_arr1 rfl rfl ?_ ?_; (· omega)) | (apply m_arr1j; (· rfl); (· rfl); (· assumption); (· omega)) | (refine m_arro rfl rfl ?_ ?_; (· omega)) | (refine m_arr rfl rfl ?_ ?_ ?_; (· omega); (· omega)) | (refine m_ld_rpi rfl ?_ ?_; (· omega)) | (refine m_ld_pti rfl (by rfl) ?_ ?_; (· first | omega | (simp; omega))) | (apply m_ld_ptb; (· rfl); (· rfl); (· assumption)) | (apply m_ld_rp; (· rfl); (· rfl)) | (apply m_ld_pt; (· rfl); (· rfl); (· rfl)) | (apply m_st; (· rfl); (· rfl); (· rfl); (· first | omega | (simp; done) | (simp; omega)); (· rfl)) | (refine m_pick_t rfl ?_ (by conv => lhs; whnf) ?_; (· first | rfl | assumption | (refine decide_eq_true ?_; first | assumption | omega) | (refine nt ?_; first | assumption | omega) | (simp [*]; done))) | (refine m_pick_f rfl ?_ (by conv => lhs; whnf) ?_; (· first | rfl | assumption | (refine decide_eq_false ?_; first | assumption | omega) | (refine nf ?_; first | assumption | omega) | (simp [*]; done))) | (refine m_cut_hi rfl rfl ?_ ?_ ?_; (· first | rfl | omega | simp); (· first | omega | (simp; omega))) | (refine m_cut_lo rfl rfl ?_ ?_ ?_; (· first | rfl | omega | simp); (· first | omega | (simp; omega))) | (refine m_inil rfl ?_) | (refine m_iface rfl ?_) | (refine m_mkf ?_) | (refine m_nchk rfl ?_) | (refine m_nchk_rp rfl ?_) | (refine m_mmk ?_) | (refine m_nils ?_) | (refine m_ext rfl rfl ?_) | (refine m_alloc ?_) | (refine m_fa rfl ?_) | (refine m_fa_rp rfl ?_) | (refine m_bsl1 rfl rfl ?_) | (refine m_bsl0 ?_) | (refine m_app1i rfl (by decide) (by rfl) (by first | rfl | omega | (simp; done)) rfl rfl ?_ (by decide) ?_; (· first | omega | (simp; omega))) | (refine m_app1 rfl (by decide) rfl (by first | (simp; done) | (simp [*]; done) | (simp; omega)) rfl rfl rfl ?_ (by decide) ?_; (· first | omega | (simp; omega))) | (refine m_appro rfl (by decide) rfl (by first | rfl | (simp; done) | (simp [*]; done) | (simp; omega)) rfl (oks_ints _) ?_ (by decide) ?_; (· first | omega | (simp; omega))) | (refine m_fld rfl (by rfl) ?_) | (refine m_fldk rfl (by simp) ?_) | (refine m_bld rfl ?_) | (refine m_bld_1 (by conv => lhs; whnf) (by decide)  (by rfl) ?_) | (refine m_bld_2 (by conv => lhs; whnf) (by conv => lhs; whnf) (by decide)  (by decide) (by rfl) (by rfl) ?_) | (refine m_bld_3 (by conv => lhs; whnf) (by conv => lhs; whnf) (by conv => lhs; whnf) (by decide)  (by decide) (by decide) (by rfl) (by rfl) (by rfl) ?_) | (refine m_cvt rfl ?_) | (refine m_aeq rfl rfl rfl ?_) | (refine m_max rfl rfl ?_) | (refine m_min rfl rfl ?_) | (refine m_box rfl ?_ ?_; (· first | rfl | (simp [cellOk, Value.oneCell']; done))) | (refine m_box1 rfl rfl ?_) | (refine m_ldall rfl rfl ?_ ?_; (· first | rfl | (simp; done) | (simp [*]; done))) | (refine m_ldall_rp rfl rfl ?_) | (refine m_stall rfl rfl rfl ?_ ?_ ?_ ?_; (· first | rfl | (simp [*]; done)); (· first | rfl | (simp [*]; done)); (· first | rfl | (simp [cellOk, Value.oneCell']; done))) | (refine m_quo rfl rfl ?_ ?_ ?_ ?_; (· omega); (· omega); (· omega)) | (refine m_rem rfl rfl ?_ ?_ ?_; (· omega); (· omega)))) | (refine g_noF rfl ?_ ?_; (· first | rfl | assumption | (refine decide_eq_true ?_; first | assumption | omega) | (refine nt ?_; first | assumption | omega) | (simp [*]; done))) | (refine g_noT rfl ?_ ?_; (· first | rfl | assumption | (refine decide_eq_false ?_; first | assumption | omega) | (refine nf ?_; first | assumption | omega) | (simp [*]; done))))) | refine end_ops ?_ | refine seq_ops ?_ | refine AW_ops ?_ | refine end_tree ?_ | refine seq_tree ?_ | refine AW_tree ?_ | (refine cond_t rfl ?_ ?_; (· first | rfl | assumption | (refine decide_eq_true ?_; first | assumption | omega) | (refine nt ?_; first | assumption | omega) | (simp [*]; done))) | (refine cond_f rfl ?_ ?_; (· first | rfl | assumption | (refine decide_eq_false ?_; first | assumption | omega) | (refine nf ?_; first | assumption | omega) | (simp [*]; done))) | refine skip_then ?_ | refine AW_seq ?_ | refine AW_ret ?_ | refine ret_done ?_ | refine norm_then ?_ | refine ret_then ?_ | refine exit_then ?_ | refine AW_block ?_ | refine norm_block ?_ | refine ret_block ?_ | refine ret_round ?_ | refine exit_round ?_ | refine AW_exit ?_ | refine exit_block ?_ | (refine exit_other ?_ ?_; (· decide)) | refine AW_skip ?_)
    refine next_round (i + 1) (by omega) (Weak.trans (weak_move (r := 21) (q := 30) rfl (by decide) (by decide)) (weak_st ?_ ?_ rfl rfl)) ?_
    · refine ⟨?_, rfl, rfl, rfl, trivial⟩
      show AV.sl 30 1 0 _ = AV.sl 30 1 0 _
      congr 1
      first | rfl | (rw [List.length_append, hpl]; rfl)
    · refine ⟨?_, trivial⟩
      rw [hsn, ← hv]
      rfl
    · omega
  · obtain rfl : i = n - 1 := by omega
    have hnlt : ¬ ((L.length + 1 + (n - 1) : Nat) : Int) < (L.length : Int) + (n : Int) := by omega
    have hfin : (L ++ (List.range (n - 1)).map fun i => (L.length : Int) + (i + 1 : Nat)) ++ [(L.length : Int)] = chA L n := rfl
    generalize (L ++ (List.range (n - 1)).map fun i => (L.length : Int) + (i + 1 : Nat)) = W at *
    repeat (first | ((first | refine step_ops ?_ | refine step_tree ?_); (first | ((try (refine g_yes rfl ?_ ?_; (· first | rfl | assumption | (refine decide_eq_true ?_; first | assumption | omega) | (refine nt ?_; first | assumption | omega) | (simp [*]; done) | (refine decide_eq_false ?_; first | assumption | omega) | (refine nf ?_; first | assumption | omega)))); (first | (refine m_mov (by conv => lhs; whnf) ?_) | (refine m_lss rfl rfl ?_) | (refine m_leq rfl rfl ?_) | (refine m_gtr rfl rfl ?_) | (refine m_geq rfl rfl ?_) | (refine m_eql rfl rfl ?_) | (refine m_eqk rfl rfl ?_) | (refine m_eqs rfl rfl ?_) | (refine m_neq rfl rfl ?_) | (refine m_neqk rfl rfl ?_) | (refine m_neqs_self rfl rfl ?_) | (refine m_neqs rfl rfl ?_) | (refine m_add rfl rfl ?_ ?_ ?_; (· omega); (· omega)) | (refine m_adds rfl rfl ?_ ?_; (· first | omega | (simp; omega))) | (refine m_sub rfl rfl ?_ ?_ ?_; (· omega); (· omega)) | (refine m_mul rfl rfl ?_ ?_ ?_; (· first | omega | (simp; done)); (· first | omega | (simp; done))) | (refine m_scutb rfl rfl rfl ?_ ?_ ?_; (· omega); (· first | omega | (simp; omega))) | (refine m_scutl rfl rfl ?_ ?_; (· first | omega | (simp; omega))) | (refine m_scuth rfl rfl ?_ ?_; (· first | omega | (simp; omega))) | (refine m_slen rfl ?_) | (refine m_six' rfl rfl ?_ ?_; (· first | omega | (simp; omega))) | (refine m_bts_sl rfl rfl ?_ ?_; (· first | rfl | omega | (simp; done))) | (refine m_not rfl ?_) | (refine m_beq rfl rfl ?_) | (refine m_len_ro rfl ?_) | (refine m_len_sl rfl ?_) | (refine m_len_nil rfl ?_) | (refine m_isnil_x rfl ?_) | (refine m_isnil_ro rfl ?_ ?_; (· omega)) | (refine m_isnil_sl rfl ?_ ?_; (· omega)) | (refine m_idx1_ro rfl rfl ?_ ?_; (· omega)) | (refine m_idx1_sl rfl rfl ?_ ?_; (· omega)) | (apply m_idx1_slj; (· rfl); (· rfl); (· assumption); (· omega)) | (apply m_idx1_roj; (· rfl); (· rfl); (· assumption); (· omega)) | (refine m_idx_ro rfl rfl ?_ ?_ ?_; (· omega); (· omega)) | (refine m_idx_sl rfl rfl ?_ ?_ ?_; (· omega); (· omega)) | (refine m_arr1 rfl rfl ?_ ?_; (· omega)) | (apply m_arr1j; (· rfl); (· rfl); (· assumption); (· omega)) | (refine m_arro rfl rfl ?_ ?_; (· omega)) | (refine m_arr rfl rfl ?_ ?_ ?_; (· omega); (· omega)) | (refine m_ld_rpi rfl ?_ ?_; (· omega)) | (refine m_ld_pti rfl (by rfl) ?_ ?_; (· first | omega | (simp; omega))) | (apply m_ld_ptb; (· rfl); (· rfl); (· assumption)) | (apply m_ld_rp; (· rfl); (· rfl)) | (apply m_ld_pt; (· rfl); (· rfl); (· rfl)) | (apply m_st; (· rfl); (· rfl); (· rfl); (· first | omega | (simp; done) | (simp; omega)); (· rfl)) | (refine m_pick_t rfl ?_ (by conv => lhs; whnf) ?_; (· first | rfl | assumption | (refine decide_eq_true ?_; first | assumption | omega) | (refine nt ?_; first | assumption | omega) | (simp [*]; done))) | (refine m_pick_f rfl ?_ (by conv => lhs; whnf) ?_; (· first | rfl | assumption | (refine decide_eq_false ?_; first | assumption | omega) | (refine nf ?_; first | assumption | omega) | (simp [*]; done))) | (refine m_cut_hi rfl rfl ?_ ?_ ?_; (· first | rfl | omega | simp); (· first | omega | (simp; omega))) | (refine m_cut_lo rfl rfl ?_ ?_ ?_; (· first | rfl | omega | simp); (· first | omega | (simp; omega))) | (refine m_inil rfl ?_) | (refine m_iface rfl ?_) | (refine m_mkf ?_) | (refine m_nchk rfl ?_) | (refine m_nchk_rp rfl ?_) | (refine m_mmk ?_) | (refine m_nils ?_) | (refine m_ext rfl rfl ?_) | (refine m_alloc ?_) | (refine m_fa rfl ?_) | (refine m_fa_rp rfl ?_) | (refine m_bsl1 rfl rfl ?_) | (refine m_bsl0 ?_) | (refine m_app1i rfl (by decide) (by rfl) (by first | rfl | omega | (simp; done)) rfl rfl ?_ (by decide) ?_; (· first | omega | (simp; omega))) | (refine m_app1 rfl (by decide) rfl (by first | (simp; done) | (simp [*]; done) | (simp; omega)) rfl rfl rfl ?_ (by decide) ?_; (· first | omega | (simp; omega))) | (refine m_appro rfl (by decide) rfl (by first | rfl | (simp; done) | (simp [*]; done) | (simp; omega)) rfl (oks_ints _) ?_ (by decide) ?_; (· first | omega | (simp; omega))) | (refine m_fld rfl (by rfl) ?_) | (refine m_fldk rfl (by simp) ?_) | (refine m_bld rfl ?_) | (refine m_bld_1 (by conv => lhs; whnf) (by decide)  (by rfl) ?_) | (refine m_bld_2 (by conv => lhs; whnf) (by conv => lhs; whnf) (by decide)  (by decide) (by rfl) (by rfl) ?_) | (refine m_bld_3 (by conv => lhs; whnf) (by conv => lhs; whnf) (by conv => lhs; whnf) (by decide)  (by decide) (by decide) (by rfl) (by rfl) (by rfl) ?_) | (refine m_cvt rfl ?_) | (refine m_aeq rfl rfl rfl ?_) | (refine m_max rfl rfl ?_) | (refine m_min rfl rfl ?_) | (refine m_box rfl ?_ ?_; (· first | rfl | (simp [cellOk, Value.oneCell']; done))) | (refine m_box1 rfl rfl ?_) | (refine m_ldall rfl rfl ?_ ?_; (· first | rfl | (simp; done) | (simp [*]; done))) | (refine m_ldall_rp rfl rfl ?_) | (refine m_stall rfl rfl rfl ?_ ?_ ?_ ?_; (· first | rfl | (simp [*]; done)); (· first | rfl | (simp [*]; done)); (· first | rfl | (simp [cellOk, Value.oneCell']; done))) | (refine m_quo rfl rfl ?_ ?_ ?_ ?_; (· omega); (· omega); (· omega)) | (refine m_rem rfl rfl ?_ ?_ ?_; (· omega); (· omega)))) | (refine g_noF rfl ?_ ?_; (· first | rfl | assumption | (refine decide_eq_true ?_; first | assumption | omega) | (refine nt ?_; first | assumption | omega) | (simp [*]; done))) | (refine g_noT rfl ?_ ?_; (· first | rfl | assumption | (refine decide_eq_false ?_; first | assumption | omega) | (refine nf ?_; first | assumption | omega) | (simp [*]; done))))) | refine end_ops ?_ | refine seq_ops ?_ | refine AW_ops ?_ | refine end_tree ?_ | refine seq_tree ?_ | refine AW_tree ?_ | (refine cond_t rfl ?_ ?_; (· first | rfl | assumption | (refine decide_eq_true ?_; first | assumption | omega) | (refine nt ?_; first | assumption | omega) | (simp [*]; done))) | (refine cond_f rfl ?_ ?_; (· first | rfl | assumption | (refine decide_eq_false ?_; first | assumption | omega) | (refine nf ?_; first | assumption | omega) | (simp [*]; done))) | refine skip_then ?_ | refine AW_seq ?_ | refine AW_ret ?_ | refine ret_done ?_ | refine norm_then ?_ | refine ret_then ?_ | refine exit_then ?_ | refine AW_block ?_ | refine norm_block ?_ | refine ret_block ?_ | refine ret_round ?_ | refine exit_round ?_ | refine AW_exit ?_ | refine exit_block ?_ | (refine exit_other ?_ ?_; (· decide)) | refine AW_skip ?_)
    refine ret_doneT1 (fun r => if r = nbase then 25 else r) ?_ (fun r c hc => ?_) (fun r hr hlt => ?_) (fun r hr hno => ?_) (fun r r' hr hr' e => ?_) (fun r hr => ?_)
    · show AV.sl 25 1 0 _ = AV.sl (if nbase = nbase then 25 else nbase) 1 0 _
      rw [if_pos rfl]
      congr 1
      rw [List.length_append, List.length_singleton]
      omega
    · obtain ⟨rfl, rfl⟩ := got_some hc
      refine ⟨_, by rw [if_pos rfl]; rfl, .inl ?_⟩
      simp only [renR]
      rw [renL_ints, ← hfin]
    · rw [giv_isSome hr] at hlt; omega
    · rw [got_isSome hr]; decide
    · rw [got_isSome hr, got_isSome hr']
    · rw [got_isSome hr]; decide
end Go.Proofs.Ytlnhjeldmclndaa
