/- Contracts: maps that remember ways by sets of guests: lent to a recursion, and made anew. -/
import Derived.Test.YtaflppdffkcfeaaSpMx
import Derived.Test.YtaflppdffkcfeaaAmS
import Derived.Test.YtaflppdffkcfeaaAmHG
import Derived.Test.YtaflppdffkcfeaaSpFa
namespace Go.Am
/-- A remembering map whose entries are right. -/
def MapOkV (v : Nat → Nat) (es : Array MapEntry) : Prop := ∀ e ∈ es.toList, ∃ n : Nat, e.key = .int .u16 (n : Nat) ∧ e.val = .int .i64 (v n : Nat)
end Go.Am
namespace Go.Am
theorem doneV {v : Nat → Nat} {ts : List Nat} {s : AS} {m0 m' : Array MapEntry × Nat} {n : Int} (hres : resAV s ts = .i n) (hr : s.hp pbase = some (mpC m')) (ok : MapOkV v m'.1) : DoneX ts (fun m' : Array MapEntry × Nat => MapOkV v m'.1) (fun _ => .i n) (hM m0) hM .ret s :=
  ⟨m', ok, ret_doneh id hres (fun r c hc => by obtain ⟨rfl, rfl⟩ := hM_at hc; exact ⟨_, hr, .inl rfl⟩) (fun r hr => ⟨rfl, by rw [hM_pb r hr, hM_self]; rfl⟩) (fun r h1 h2 => by rw [hM_pb r h1, hM_self] at h2; cases h2) (fun r r' _ _ h => h)⟩
end Go.Am
namespace Go.Proofs.Ytaflppdffkcfeaa
open Go.Am
attribute [local irreducible] AW Outs Weak Lends Lend Sp aops atree aop1 Then Round InBlock Done
theorem refsL_app (keep : Nat → Bool) : ∀ l m : List AV, refsL keep l = true → refsL keep m = true → refsL keep (l ++ m) = true
  | [], m, _, h => h
  | a :: l, m, h1, h2 => by
    simp only [List.cons_append, refsL, Bool.and_eq_true] at h1 ⊢
    exact ⟨h1.1, refsL_app keep l m h1.2 h2⟩
theorem ownL_app (q : Bool) : ∀ l m : List AV, ownL q l = true → ownL q m = true → ownL q (l ++ m) = true
  | [], m, _, h => h
  | a :: l, m, h1, h2 => by
    simp only [List.cons_append, ownL, Bool.and_eq_true] at h1 ⊢
    exact ⟨h1.1, ownL_app q l m h1.2 h2⟩
theorem ownL_i (q : Bool) : ∀ l : List Int, ownL q (l.map AV.i) = true
  | [] => by simp [ownL]
  | a :: l => by simp [ownL, ownV, ownL_i q l]
theorem renL_idI : ∀ l : List Int, renL id (l.map AV.i) = l.map AV.i
  | [] => by simp [renL]
  | a :: l => by simp [renL, renV, renL_idI l]
theorem renL_appI (f : Nat → Nat) (l m : List AV) : renL f (l ++ m) = renL f l ++ renL f m := by rw [renL_map, renL_map, renL_map, List.map_append]
theorem kmV_ren (F : List Int) : renL id (kmV F) = kmV F := by
  unfold kmV kinV
  rw [renL_appI, renL, renL_idI]
  simp [renL, renV]
theorem lendsH_km (F : List Int) (m : Array MapEntry × Nat) {hp : Hp} (h : hp pbase = some (mpC m)) {T : Value} : LendsH hp id (hM m) [.agg (kmV F), .v T] [.agg (kmV F), .v T] := by
  have h1 := @lendsH_ren hp id (hM m) [.agg (kmV F), .v T] (fun r c hc => by obtain ⟨rfl, rfl⟩ := hM_at hc; show (hp pbase).isSome = true; rw [h]; rfl)
    (by simp only [ownL, ownV, Bool.and_true]; unfold kmV kinV; exact ownL_app true _ _ (by simp [ownL, ownV, ownL_i]) (by simp [ownL, ownV]))
    (by simp only [refsL, refsV, Bool.and_true]; exact refsL_app _ _ _ (refsL_plain (kinV_plain F)) (by simp [refsL, refsV, hM_self]))
  simp only [renL, renV, kmV_ren] at h1
  exact h1
theorem m_callkv {v : Nat → Nat} {P : Program} {s : AS} {K : AS → Prop} {d : Option Nat} {f : FuncId} {args : List Opd} {F : List Int} {m : Array MapEntry × Nat} {T : Value} {n : Int} (hs : SpX P f [.agg (kmV F), .v T] (hM m) (fun m' => MapOkV v m'.1) (fun _ => .i n) hM)
    (hargs : args.map s.ev = [.agg (kmV F), .v T]) (hr : s.hp pbase = some (mpC m)) (hm : MapOkV v m.1) (k : ∀ m', MapOkV v m'.1 → K ((s.mem pbase (mpC m')).put d (.i n))) : aop1 P true ⟨d, .call f args, none⟩ s K :=
  m_callx id hs (by rw [hargs]; exact lendsH_km F m hr) ⟨m, hm⟩ fun m' hm' => ⟨lent_M hr, k m' hm'⟩
theorem mapOkV_push {v : Nat → Nat} {es : Array MapEntry} {S c : Nat} (h : MapOkV v es) : MapOkV v (es.push { key := .int .u16 (S : Nat), val := .int .i64 (v S : Nat), born := c }) := by
  intro e he
  rw [Array.toList_push] at he
  rcases List.mem_append.1 he with he | he
  · exact h e he
  · rw [List.mem_singleton.1 he]; exact ⟨S, rfl, rfl⟩
theorem mapOkV_mod {v : Nat → Nat} {es : Array MapEntry} {S n : Nat} (h : MapOkV v es) : MapOkV v (es.modify n fun e => { e with key := .int .u16 (S : Nat), val := .int .i64 (v S : Nat) }) := by
  intro e he
  rw [Array.toList_modify] at he
  obtain ⟨i, hi, rfl⟩ := List.getElem_of_mem he
  rw [List.getElem_modify]
  split
  · exact ⟨S, rfl, rfl⟩
  · exact h _ (List.getElem_mem _)
theorem refsH_km (F : List Int) (m : Array MapEntry × Nat) : refsH (fun r => (Am.look [(2, (false, kmV F)), (pbase, mpC m)] r).isSome) [(2, (false, kmV F)), (pbase, mpC m)] = true := by
  have h : ∀ keep : Nat → Bool, keep pbase = true → refsL keep (kmV F) = true := fun keep hk => refsL_app keep _ _ (refsL_plain (kinV_plain F)) (by simp [refsL, refsV, hk])
  show ((false || refsL _ (kmV F)) && ((true || _) && true)) = true
  rw [h _ rfl]
  rfl
end Go.Proofs.Ytaflppdffkcfeaa
namespace Go.Am
/-- An empty map of one's own, handed out. -/
def hN : Hp := fun r => if r = nbase then some (mpC (#[], 0)) else none
theorem hN_at {r : Nat} {c : Bool × List AV} (h : hN r = some c) : r = nbase ∧ c = mpC (#[], 0) := by
  unfold hN at h
  split at h
  · cases h; exact ⟨by assumption, rfl⟩
  · cases h
theorem hN_nb {r : Nat} (h : (hN r).isSome = true) : r = nbase := by
  obtain ⟨c, hc⟩ := Option.isSome_iff_exists.1 h
  exact (hN_at hc).1
theorem hN_self : hN nbase = some (mpC (#[], 0)) := if_pos rfl
/-- The name of the new map. -/
def gN (q : Nat) : Nat → Nat := fun r => if r = nbase then q else r
theorem gN_self (q : Nat) : gN q nbase = q := if_pos rfl
/-- The name of a map that is lent. -/
def gM (q : Nat) : Nat → Nat := fun r => if r = pbase then q else r
theorem gM_self (q : Nat) : gM q pbase = q := if_pos rfl
theorem lent_N {s : AS} {q : Nat} {res : AV} (hq : s.hp q = none) (hqp : q < pbase) (hr : ownV false res = true) : Lent s (gN q) (fun _ => none) hN (s.mem q (mpC (#[], 0))).hp res where
  has := fun r c hc => by cases hc
  inj := fun r r' h1 h2 _ => by rw [hN_nb h1, hN_nb h2]
  stay := fun r hr => by cases hr
  fresh := fun r hr _ => by rw [hN_nb hr, gN_self]; exact ⟨hq, hqp⟩
  new := fun r c hc => by obtain ⟨rfl, rfl⟩ := hN_at hc; rw [gN_self]; simp [AS.mem]; rfl
  old := fun p hp => by
    have : p ≠ q := fun e => hp nbase (by rw [hN_self]; rfl) (by rw [gN_self, e])
    simp [AS.mem, this]
  ownI := fun r c hc => by cases hc
  ownO := fun r c hc => by obtain ⟨rfl, rfl⟩ := hN_at hc; rfl
  ownR := hr
theorem lent_Mq {s : AS} {m m' : Array MapEntry × Nat} {n : Int} {q : Nat} (h : s.hp q = some (mpC m)) : Lent s (gM q) (hM m) (hM m') (s.mem q (mpC m')).hp (.i n) where
  has := fun r c hc => by obtain ⟨rfl, rfl⟩ := hM_at hc; rw [gM_self]; exact h
  inj := fun r r' h1 h2 _ => by rw [hM_pb r h1, hM_pb r' h2]
  stay := fun r hr => by rw [hM_pb r hr, hM_self]; rfl
  fresh := fun r hr hn => by rw [hM_pb r hr, hM_self] at hn; cases hn
  new := fun r c hc => by obtain ⟨rfl, rfl⟩ := hM_at hc; rw [gM_self]; simp [AS.mem]; rfl
  old := fun p hp => by
    have : p ≠ q := fun e => hp pbase (by rw [hM_self]; rfl) (by rw [gM_self, e])
    simp [AS.mem, this]
  ownI := fun r c hc => by obtain ⟨rfl, rfl⟩ := hM_at hc; exact ⟨rfl, rfl⟩
  ownO := fun r c hc => by obtain ⟨rfl, rfl⟩ := hM_at hc; rfl
  ownR := rfl
theorem mapOkV_nil (v : Nat → Nat) : MapOkV v #[] := fun e he => by simp at he
end Go.Am
namespace Go.Proofs.Ytaflppdffkcfeaa
open Go.Am
attribute [local irreducible] AW Outs Weak Lends Lend Sp aops atree aop1 Then Round InBlock Done
attribute [local irreducible] SpH SpX DoneH DoneX DoneHG

theorem kmq_ren (f : Nat → Nat) (F : List Int) (q : Nat) : renL f (kinV F ++ [.mp q]) = kinV F ++ [.mp (f q)] := by
  have hi : ∀ l : List Int, renL f (l.map AV.i) = l.map AV.i := by
    intro l
    induction l with
    | nil => simp [renL]
    | cons a l ih => simp [renL, renV, ih]
  rw [renL_appI]
  unfold kinV
  rw [renL, hi]
  simp [renL, renV]
theorem kmq_own (F : List Int) (q : Nat) (b : Bool) : ownL b (kinV F ++ [.mp q]) = true := by
  unfold kinV
  exact ownL_app b _ _ (by simp [ownL, ownV, ownL_i]) (by simp [ownL, ownV])
theorem kmq_refs (F : List Int) (q : Nat) (keep : Nat → Bool) (hk : keep q = true) : refsL keep (kinV F ++ [.mp q]) = true :=
  refsL_app _ _ _ (refsL_plain (kinV_plain F)) (by simp [refsL, refsV, hk])

theorem lendsH_kq (F : List Int) {m : Array MapEntry × Nat} {q : Nat} {hp : Hp} {T : Value} (h : hp q = some (mpC m)) : LendsH hp (gM q) (hM m) [.agg (kinV F ++ [.mp q]), .v T] [.agg (kmV F), .v T] := by
  have h1 := @lendsH_ren hp (gM q) (hM m) [.agg (kmV F), .v T] (fun r c hc => by obtain ⟨rfl, rfl⟩ := hM_at hc; rw [gM_self, h]; rfl)
    (by simp only [ownL, ownV, Bool.and_true]; exact kmq_own F pbase true) (by simp only [refsL, refsV, Bool.and_true]; exact kmq_refs F pbase _ (by rw [hM_self]; rfl))
  have e : renL (gM q) (kmV F) = kinV F ++ [.mp q] := by
    unfold kmV
    rw [kmq_ren, gM_self]
  simp only [renL, renV, e] at h1
  exact h1
theorem kinV_kill (r : Nat) (F : List Int) : killL r (kinV F) = kinV F := by
  unfold kinV
  rw [killL, killL_i, killV]

theorem givingsOf_spec (F : List Int) (h : IsFam F) : SpH Try.prog 19 [ints F] (fun _ => none) (.agg (kinV F ++ [.mp nbase])) hN := by
  have h9 := h.2.1
  have hkl := kinV_len h9
  have hst : Static (fun _ => none) (.agg (kinV F ++ [.mp nbase])) hN := ⟨fun r hr => (by cases hr), fun r c hc => (by obtain ⟨rfl, rfl⟩ := hN_at hc; exact ⟨rfl, rfl⟩), ⟨by simp only [ownV]; exact kmq_own F nbase false, by simp only [refsV]; exact kmq_refs F nbase _ (by rw [hN_self]; rfl)⟩⟩
  refine specHG_of (rvs := [.c 2 11]) Try.func19 rfl cc19 (by rfl) hst ?_
  unfold ac19
  repeat (first | ((first | refine step_ops ?_ | refine step_tree ?_); (first | ((try (refine g_yes rfl ?_ ?_; (· first | rfl | assumption | (refine decide_eq_true ?_; first | assumption | omega) | (refine nt ?_; first | assumption | omega) | (simp [*]; done) | (refine decide_eq_false ?_; first | assumption | omega) | (refine nf ?_; first | assumption | omega)))); (first | (refine m_mov (by conv => lhs; whnf) ?_) | (refine m_lss rfl rfl ?_) | (refine m_leq rfl rfl ?_) | (refine m_gtr rfl rfl ?_) | (refine m_geq rfl rfl ?_) | (refine m_eql rfl rfl ?_) | (refine m_eqk rfl rfl ?_) | (refine m_eqs rfl rfl ?_) | (refine m_neq rfl rfl ?_) | (refine m_neqk rfl rfl ?_) | (refine m_neqs_self rfl rfl ?_) | (refine m_neqs rfl rfl ?_) | (refine m_add rfl rfl ?_ ?_ ?_; (· omega); (· omega)) | (refine m_adds rfl rfl ?_ ?_; (· first | omega | (simp; omega))) | (refine m_sub rfl rfl ?_ ?_ ?_; (· omega); (· omega)) | (refine m_mul rfl rfl ?_ ?_ ?_; (· first | omega | (simp; done)); (· first | omega | (simp; done))) | (refine m_scutb rfl rfl rfl ?_ ?_ ?_; (· omega); (· first | omega | (simp; omega))) | (refine m_scutl rfl rfl ?_ ?_; (· first | omega | (simp; omega))) | (refine m_scuth rfl rfl ?_ ?_; (· first | omega | (simp; omega))) | (refine m_slen rfl ?_) | (refine m_six' rfl rfl ?_ ?_; (· first | omega | (simp; omega))) | (refine m_bts_sl rfl rfl ?_ ?_; (· first | rfl | omega | (simp; done))) | (refine m_not rfl ?_) | (refine m_beq rfl rfl ?_) | (refine m_len_ro rfl ?_) | (refine m_len_sl rfl ?_) | (refine m_len_nil rfl ?_) | (refine m_isnil_x rfl ?_) | (refine m_isnil_ro rfl ?_ ?_; (· omega)) | (refine m_isnil_sl rfl ?_ ?_; (· omega)) | (refine m_idx1_ro rfl rfl ?_ ?_; (· omega)) | (refine m_idx1_sl rfl rfl ?_ ?_; (· omega)) | (apply m_idx1_slj; (· rfl); (· rfl); (· assumption); (· omega)) | (apply m_idx1_roj; (· rfl); (· rfl); (· assumption); (· omega)) | (refine m_idx_ro rfl rfl ?_ ?_ ?_; (· omega); (· omega)) | (refine m_idx_sl rfl rfl ?_ ?_ ?_; (· omega); (· omega)) | (refine m_arr1 rfl rfl ?_ ?_; (· omega)) | (apply m_arr1j; (· rfl); (· rfl); (· assumption); (· omega)) | (refine m_arro rfl rfl ?_ ?_; (· omega)) | (refine m_arr rfl rfl ?_ ?_ ?_; (· omega); (· omega)) | (refine m_ld_rpi rfl ?_ ?_; (· omega)) | (refine m_ld_pti rfl (by rfl) ?_ ?_; (· first | omega | (simp; omega))) | (apply m_ld_ptb; (· rfl); (· rfl); (· assumption)) | (apply m_ld_rp; (· rfl); (· rfl)) | (apply m_ld_pt; (· rfl); (· rfl); (· rfl)) | (apply m_st; (· rfl); (· rfl); (· rfl); (· first | omega | (simp; done) | (simp; omega)); (· rfl)) | (refine m_pick_t rfl ?_ (by conv => lhs; whnf) ?_; (· first | rfl | assumption | (refine decide_eq_true ?_; first | assumption | omega) | (refine nt ?_; first | assumption | omega) | (simp [*]; done))) | (refine m_pick_f rfl ?_ (by conv => lhs; whnf) ?_; (· first | rfl | assumption | (refine decide_eq_false ?_; first | assumption | omega) | (refine nf ?_; first | assumption | omega) | (simp [*]; done))) | (refine m_cut_hi rfl rfl ?_ ?_ ?_; (· first | rfl | omega | simp); (· first | omega | (simp; omega))) | (refine m_cut_lo rfl rfl ?_ ?_ ?_; (· first | rfl | omega | simp); (· first | omega | (simp; omega))) | (refine m_inil rfl ?_) | (refine m_iface rfl ?_) | (refine m_mkf ?_) | (refine m_nchk rfl ?_) | (refine m_nchk_rp rfl ?_) | (refine m_mmk ?_) | (refine m_nils ?_) | (refine m_ext rfl rfl ?_) | (refine m_alloc ?_) | (refine m_fa rfl ?_) | (refine m_fa_rp rfl ?_) | (refine m_bsl1 rfl rfl ?_) | (refine m_bsl0 ?_) | (refine m_app1i rfl (by decide) (by rfl) (by first | rfl | omega | (simp; done)) rfl rfl ?_ (by decide) ?_; (· first | omega | (simp; omega))) | (refine m_app1 rfl (by decide) rfl (by first | (simp; done) | (simp [*]; done) | (simp; omega)) rfl rfl rfl ?_ (by decide) ?_; (· first | omega | (simp; omega))) | (refine m_appro rfl (by decide) rfl (by first | rfl | (simp; done) | (simp [*]; done) | (simp; omega)) rfl (oks_ints _) ?_ (by decide) ?_; (· first | omega | (simp; omega))) | (refine m_fld rfl (by rfl) ?_) | (refine m_fldk rfl (by simp) ?_) | (refine m_bld rfl ?_) | (refine m_bld_1 (by conv => lhs; whnf) (by decide)  (by rfl) ?_) | (refine m_bld_2 (by conv => lhs; whnf) (by conv => lhs; whnf) (by decide)  (by decide) (by rfl) (by rfl) ?_) | (refine m_bld_3 (by conv => lhs; whnf) (by conv => lhs; whnf) (by conv => lhs; whnf) (by decide)  (by decide) (by decide) (by rfl) (by rfl) (by rfl) ?_) | (refine m_cvt rfl ?_) | (refine m_aeq rfl rfl rfl ?_) | (refine m_max rfl rfl ?_) | (refine m_min rfl rfl ?_) | (refine m_box rfl ?_ ?_; (· first | rfl | (simp [cellOk, Value.oneCell']; done))) | (refine m_box1 rfl rfl ?_) | (refine m_ldall rfl rfl ?_ ?_; (· first | rfl | (simp; done) | (simp [*]; done))) | (refine m_ldall_rp rfl rfl ?_) | (refine m_stall rfl rfl rfl ?_ ?_ ?_ ?_; (· first | rfl | (simp [*]; done)); (· first | rfl | (simp [*]; done)); (· first | rfl | (simp [cellOk, Value.oneCell']; done))) | (refine m_quo rfl rfl ?_ ?_ ?_ ?_; (· omega); (· omega); (· omega)) | (refine m_rem rfl rfl ?_ ?_ ?_; (· omega); (· omega)))) | (refine g_noF rfl ?_ ?_; (· first | rfl | assumption | (refine decide_eq_true ?_; first | assumption | omega) | (refine nt ?_; first | assumption | omega) | (simp [*]; done))) | (refine g_noT rfl ?_ ?_; (· first | rfl | assumption | (refine decide_eq_false ?_; first | assumption | omega) | (refine nf ?_; first | assumption | omega) | (simp [*]; done))))) | refine end_ops ?_ | refine seq_ops ?_ | refine AW_ops ?_ | refine end_tree ?_ | refine seq_tree ?_ | refine AW_tree ?_ | (refine cond_t rfl ?_ ?_; (· first | rfl | assumption | (refine decide_eq_true ?_; first | assumption | omega) | (refine nt ?_; first | assumption | omega) | (simp [*]; done))) | (refine cond_f rfl ?_ ?_; (· first | rfl | assumption | (refine decide_eq_false ?_; first | assumption | omega) | (refine nf ?_; first | assumption | omega) | (simp [*]; done))) | refine skip_then ?_ | refine AW_seq ?_ | refine AW_ret ?_ | refine ret_done ?_ | refine norm_then ?_ | refine ret_then ?_ | refine exit_then ?_ | refine AW_block ?_ | refine norm_block ?_ | refine ret_block ?_ | refine ret_round ?_ | refine exit_round ?_ | refine AW_exit ?_ | refine exit_block ?_ | (refine exit_other ?_ ?_; (· decide)) | refine AW_skip ?_)
  (first | refine step_ops ?_ | refine step_tree ?_); (first | (apply m_call (kinOf_spec F h)) | (refine g_yes rfl ?_ ?_; (· first | (first | rfl | assumption | (refine decide_eq_true ?_; first | assumption | omega) | (refine nt ?_; first | assumption | omega) | (simp [*]; done)) | (first | rfl | assumption | (refine decide_eq_false ?_; first | assumption | omega) | (refine nf ?_; first | assumption | omega) | (simp [*]; done))); (apply m_call (kinOf_spec F h)))); (· repeat (first | exact lends_nil | (refine lends_cons ?_ ?_; (· first | exact lend_v | (refine lend_roM rfl; done) | (refine lend_mat rfl ?_; intro j hj; simp (disch := first | omega | assumption) only [hp_put, hp_mem_ne, hp_kill_ne]; first | exact stM_row rfl hj | (rw [stM_row rfl hj]; rfl)) | (refine lend_ints ?_; first | rfl | omega) | (refine lend_sli (by rfl) ?_; first | rfl | omega | (simp; done)) | exact lend_any | (refine lend_agg ?_; first | rfl | assumption | (simp [plainV]; done))))))
  refine step_ops ?_
  refine m_mmk ?_
  refine step_ops ?_
  refine m_bld (out := kinV F ++ [.mp 5]) ?_ ?_
  · refine .inr ⟨killL 5 (kinV F), rfl, by rw [kinV_kill]; exact hkl, by decide, ?_⟩
    rw [kinV_kill]
    refine .inl ⟨rfl, ?_, rfl, ?_⟩
    · simp [hkl]
    · show _ = List.set _ _ _
      rw [List.take_zero, List.nil_append, List.set_append_right _ _ (by omega), hkl]
      rfl
  refine weak_ops (weak_deep (r := 2) rfl (by simp) rfl) ?_
  refine step_ops ?_
  refine m_stall (l := kinV F ++ [.mp 5]) rfl rfl rfl (by simp [hkl]) rfl ?_ ?_
  · rw [List.all_append, kinV_ok]; rfl
  repeat (first | ((first | refine step_ops ?_ | refine step_tree ?_); (first | ((try (refine g_yes rfl ?_ ?_; (· first | rfl | assumption | (refine decide_eq_true ?_; first | assumption | omega) | (refine nt ?_; first | assumption | omega) | (simp [*]; done) | (refine decide_eq_false ?_; first | assumption | omega) | (refine nf ?_; first | assumption | omega)))); (first | (refine m_mov (by conv => lhs; whnf) ?_) | (refine m_lss rfl rfl ?_) | (refine m_leq rfl rfl ?_) | (refine m_gtr rfl rfl ?_) | (refine m_geq rfl rfl ?_) | (refine m_eql rfl rfl ?_) | (refine m_eqk rfl rfl ?_) | (refine m_eqs rfl rfl ?_) | (refine m_neq rfl rfl ?_) | (refine m_neqk rfl rfl ?_) | (refine m_neqs_self rfl rfl ?_) | (refine m_neqs rfl rfl ?_) | (refine m_add rfl rfl ?_ ?_ ?_; (· omega); (· omega)) | (refine m_adds rfl rfl ?_ ?_; (· first | omega | (simp; omega))) | (refine m_sub rfl rfl ?_ ?_ ?_; (· omega); (· omega)) | (refine m_mul rfl rfl ?_ ?_ ?_; (· first | omega | (simp; done)); (· first | omega | (simp; done))) | (refine m_scutb rfl rfl rfl ?_ ?_ ?_; (· omega); (· first | omega | (simp; omega))) | (refine m_scutl rfl rfl ?_ ?_; (· first | omega | (simp; omega))) | (refine m_scuth rfl rfl ?_ ?_; (· first | omega | (simp; omega))) | (refine m_slen rfl ?_) | (refine m_six' rfl rfl ?_ ?_; (· first | omega | (simp; omega))) | (refine m_bts_sl rfl rfl ?_ ?_; (· first | rfl | omega | (simp; done))) | (refine m_not rfl ?_) | (refine m_beq rfl rfl ?_) | (refine m_len_ro rfl ?_) | (refine m_len_sl rfl ?_) | (refine m_len_nil rfl ?_) | (refine m_isnil_x rfl ?_) | (refine m_isnil_ro rfl ?_ ?_; (· omega)) | (refine m_isnil_sl rfl ?_ ?_; (· omega)) | (refine m_idx1_ro rfl rfl ?_ ?_; (· omega)) | (refine m_idx1_sl rfl rfl ?_ ?_; (· omega)) | (apply m_idx1_slj; (· rfl); (· rfl); (· assumption); (· omega)) | (apply m_idx1_roj; (· rfl); (· rfl); (· assumption); (· omega)) | (refine m_idx_ro rfl rfl ?_ ?_ ?_; (· omega); (· omega)) | (refine m_idx_sl rfl rfl ?_ ?_ ?_; (· omega); (· omega)) | (refine m_arr1 rfl rfl ?_ ?_; (· omega)) | (apply m_arr1j; (· rfl); (· rfl); (· assumption); (· omega)) | (refine m_arro rfl rfl ?_ ?_; (· omega)) | (refine m_arr rfl rfl ?_ ?_ ?_; (· omega); (· omega)) | (refine m_ld_rpi rfl ?_ ?_; (· omega)) | (refine m_ld_pti rfl (by rfl) ?_ ?_; (· first | omega | (simp; omega))) | (apply m_ld_ptb; (· rfl); (· rfl); (· assumption)) | (apply m_ld_rp; (· rfl); (· rfl)) | (apply m_ld_pt; (· rfl); (· rfl); (· rfl)) | (apply m_st; (· rfl); (· rfl); (· rfl); (· first | omega | (simp; done) | (simp; omega)); (· rfl)) | (refine m_pick_t rfl ?_ (by conv => lhs; whnf) ?_; (· first | rfl | assumption | (refine decide_eq_true ?_; first | assumption | omega) | (refine nt ?_; first | assumption | omega) | (simp [*]; done))) | (refine m_pick_f rfl ?_ (by conv => lhs; whnf) ?_; (· first | rfl | assumption | (refine decide_eq_false ?_; first | assumption | omega) | (refine nf ?_; first | assumption | omega) | (simp [*]; done))) | (refine m_cut_hi rfl rfl ?_ ?_ ?_; (· first | rfl | omega | simp); (· first | omega | (simp; omega))) | (refine m_cut_lo rfl rfl ?_ ?_ ?_; (· first | rfl | omega | simp); (· first | omega | (simp; omega))) | (refine m_inil rfl ?_) | (refine m_iface rfl ?_) | (refine m_mkf ?_) | (refine m_nchk rfl ?_) | (refine m_nchk_rp rfl ?_) | (refine m_mmk ?_) | (refine m_nils ?_) | (refine m_ext rfl rfl ?_) | (refine m_alloc ?_) | (refine m_fa rfl ?_) | (refine m_fa_rp rfl ?_) | (refine m_bsl1 rfl rfl ?_) | (refine m_bsl0 ?_) | (refine m_app1i rfl (by decide) (by rfl) (by first | rfl | omega | (simp; done)) rfl rfl ?_ (by decide) ?_; (· first | omega | (simp; omega))) | (refine m_app1 rfl (by decide) rfl (by first | (simp; done) | (simp [*]; done) | (simp; omega)) rfl rfl rfl ?_ (by decide) ?_; (· first | omega | (simp; omega))) | (refine m_appro rfl (by decide) rfl (by first | rfl | (simp; done) | (simp [*]; done) | (simp; omega)) rfl (oks_ints _) ?_ (by decide) ?_; (· first | omega | (simp; omega))) | (refine m_fld rfl (by rfl) ?_) | (refine m_fldk rfl (by simp) ?_) | (refine m_bld rfl ?_) | (refine m_bld_1 (by conv => lhs; whnf) (by decide)  (by rfl) ?_) | (refine m_bld_2 (by conv => lhs; whnf) (by conv => lhs; whnf) (by decide)  (by decide) (by rfl) (by rfl) ?_) | (refine m_bld_3 (by conv => lhs; whnf) (by conv => lhs; whnf) (by conv => lhs; whnf) (by decide)  (by decide) (by decide) (by rfl) (by rfl) (by rfl) ?_) | (refine m_cvt rfl ?_) | (refine m_aeq rfl rfl rfl ?_) | (refine m_max rfl rfl ?_) | (refine m_min rfl rfl ?_) | (refine m_box rfl ?_ ?_; (· first | rfl | (simp [cellOk, Value.oneCell']; done))) | (refine m_box1 rfl rfl ?_) | (refine m_ldall rfl rfl ?_ ?_; (· first | rfl | (simp; done) | (simp [*]; done))) | (refine m_ldall_rp rfl rfl ?_) | (refine m_stall rfl rfl rfl ?_ ?_ ?_ ?_; (· first | rfl | (simp [*]; done)); (· first | rfl | (simp [*]; done)); (· first | rfl | (simp [cellOk, Value.oneCell']; done))) | (refine m_quo rfl rfl ?_ ?_ ?_ ?_; (· omega); (· omega); (· omega)) | (refine m_rem rfl rfl ?_ ?_ ?_; (· omega); (· omega)))) | (refine g_noF rfl ?_ ?_; (· first | rfl | assumption | (refine decide_eq_true ?_; first | assumption | omega) | (refine nt ?_; first | assumption | omega) | (simp [*]; done))) | (refine g_noT rfl ?_ ?_; (· first | rfl | assumption | (refine decide_eq_false ?_; first | assumption | omega) | (refine nf ?_; first | assumption | omega) | (simp [*]; done))))) | refine end_ops ?_ | refine seq_ops ?_ | refine AW_ops ?_ | refine end_tree ?_ | refine seq_tree ?_ | refine AW_tree ?_ | (refine cond_t rfl ?_ ?_; (· first | rfl | assumption | (refine decide_eq_true ?_; first | assumption | omega) | (refine nt ?_; first | assumption | omega) | (simp [*]; done))) | (refine cond_f rfl ?_ ?_; (· first | rfl | assumption | (refine decide_eq_false ?_; first | assumption | omega) | (refine nf ?_; first | assumption | omega) | (simp [*]; done))) | refine skip_then ?_ | refine AW_seq ?_ | refine AW_ret ?_ | refine ret_done ?_ | refine norm_then ?_ | refine ret_then ?_ | refine exit_then ?_ | refine AW_block ?_ | refine norm_block ?_ | refine ret_block ?_ | refine ret_round ?_ | refine exit_round ?_ | refine AW_exit ?_ | refine exit_block ?_ | (refine exit_other ?_ ?_; (· decide)) | refine AW_skip ?_)
  refine ret_donehg (gN 5) [.agg (kinV F ++ [.mp 5])] ⟨⟨2, 0, false, kinV F ++ [.mp 5], rfl, rfl, by simp [hkl], ?_⟩, trivial⟩ ?_ (fun r c hc => ?_) (fun r hr => by cases hr) (fun r hr _ => ?_) (fun r r' h1 h2 _ => ?_)
  · rw [List.drop_zero, List.take_of_length_le (by simp [hkl])]
  · show AV.agg _ = renV _ (.agg _)
    rw [renV, kmq_ren, gN_self]
  · obtain ⟨rfl, rfl⟩ := hN_at hc
    rw [gN_self]
    exact ⟨_, rfl, .inl rfl⟩
  · rw [hN_nb hr, gN_self]; decide
  · rw [hN_nb h1, hN_nb h2]
end Go.Proofs.Ytaflppdffkcfeaa
