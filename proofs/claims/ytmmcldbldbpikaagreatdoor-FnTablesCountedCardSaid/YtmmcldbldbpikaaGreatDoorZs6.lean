/- The abstract machine, contracts: part 6 of what this claim needs. -/
import Derived.Test.YtmmcldbldbpikaaGreatDoorZs5
set_option linter.unusedSectionVars false
namespace Go.Proofs.YtmmcldbldbpikaaGreatDoor
variable [Go.Am.CodeBlk]
open Go.Am
attribute [local irreducible] AW Outs Weak Lends Lend Sp aops atree aop1 Then Round InBlock Done
attribute [local irreducible] SpH SpX DoneH
theorem doneC {s : AS} {v : Value} {a : Nat} {z : Int} {t : Nat} {ι : Type} {ok : ι → Prop} {res : ι → Value} {fa : ι → Nat} {fz : ι → Int} (i : ι) (hi : ok i) (h1 : resAV s [t] = .v (res i)) (h2 : s.hp pbase = some (true, curC v (fa i) (fz i))) :
    DoneX [t] ok (fun i => .v (res i)) (Am.look (curH v a z)) (fun i => Am.look (curH v (fa i) (fz i))) .ret s :=
  ⟨i, hi, ret_R (hl := curH v a z) (ho := curH v (fa i) (fz i)) id h1 ⟨⟨_, h2, .inl rfl⟩, trivial⟩ (by simp) (by simp) (by simp)⟩
theorem curPick_spec {v : Value} {L : List UInt8} (hv : Bys v L) (hL : L.length ≤ 1048576) (a : Nat) (ha : a ≤ 999999) (z : Int) (n : Nat) (hn : n ≤ 65536) :
    SpX Tryz.prog 58 [.pt pbase 0, .i (n : Nat)] (Am.look (curH v a z)) (ι := Nat × Nat × Int) (fun i => i.1 < max n 1 ∧ i.2.1 ≤ a + 2) (fun i => .i (i.1 : Nat)) (fun i => Am.look (curH v i.2.1 i.2.2)) := by
  have hpb := curH_pb v a z
  have hsta : ∀ i : Nat × Nat × Int, i.1 < max n 1 ∧ i.2.1 ≤ a + 2 → Static (Am.look (curH v a z)) (.i (i.1 : Nat)) (Am.look (curH v i.2.1 i.2.2)) := fun i _ => cur_static
  refine specX_of Tryz.func58 rfl cc58 rfl hpb hsta ?_
  unfold ac58
  clear hpb hsta
  by_cases h1 : n ≤ 1
  · repeat (first | (refine step_ops ?_; (first | (refine m_mov (by conv => lhs; whnf) ?_) | (refine m_leq rfl rfl ?_))) | refine end_ops ?_ | refine seq_ops ?_ | (refine cond_t rfl ?_ ?_; (· first | rfl | assumption | (refine decide_eq_true ?_; first | assumption | omega) | (refine nt ?_; first | assumption | omega) | (simp [*]; done))) | refine AW_seq ?_ | refine AW_ret ?_ | refine ret_then ?_)
    exact doneC (i := (0, a, z)) ⟨show 0 < max n 1 by omega, show a ≤ a + 2 by omega⟩ rfl rfl
  · repeat (first | (refine step_ops ?_; (first | (refine m_mov (by conv => lhs; whnf) ?_) | (refine m_leq rfl rfl ?_))) | refine end_ops ?_ | refine seq_ops ?_ | (refine cond_f rfl ?_ ?_; (· first | rfl | assumption | (refine decide_eq_false ?_; first | assumption | omega) | (refine nf ?_; first | assumption | omega) | (simp [*]; done))) | refine skip_then ?_ | refine AW_seq ?_)
    refine step_ops ?_
    refine m_cur (curNext_spec hv hL a (by omega) z) rfl (lendH_cons (lend_cur rfl) lendH_nil) ⟨(0, 0), by decide⟩ ?_
    rintro ⟨m, z1⟩ hm
    dsimp only at hm ⊢
    by_cases h2 : n > 200
    · repeat (first | (refine step_ops ?_; (first | (refine m_mov (by conv => lhs; whnf) ?_) | (refine m_gtr rfl rfl ?_) | (refine m_mul rfl rfl ?_ ?_ ?_; (· first | omega | (simp; done)); (· first | omega | (simp; done))))) | refine end_ops ?_ | refine seq_ops ?_ | refine AW_ops ?_ | (refine cond_t rfl ?_ ?_; (· first | rfl | assumption | (refine decide_eq_true ?_; first | assumption | omega) | (refine nt ?_; first | assumption | omega) | (simp [*]; done))) | refine AW_seq ?_)
      refine step_ops ?_
      refine m_cur (curNext_spec hv hL (a + 1) (by omega) z1) rfl (lendH_cons (lend_cur rfl) lendH_nil) ⟨(0, 0), by decide⟩ ?_
      rintro ⟨m2, z2⟩ hm2
      dsimp only at hm2 ⊢
      repeat (first | (refine step_ops ?_; (first | (refine m_mov (by conv => lhs; whnf) ?_) | (refine m_add rfl rfl ?_ ?_ ?_; (· omega); (· omega)) | (refine m_rem rfl rfl ?_ ?_ ?_; (· omega); (· omega)))) | refine end_ops ?_ | refine seq_ops ?_ | refine AW_ret ?_ | refine norm_then ?_)
      refine doneC (i := ((m * 256 + m2) % n, a + 1 + 1, z2)) ⟨?_, show a + 1 + 1 ≤ a + 2 by omega⟩ ?_ rfl
      · have := Nat.mod_lt (m * 256 + m2) (show 0 < n by omega)
        show (m * 256 + m2) % n < max n 1
        omega
      · show AV.i (((m : Int) * 256 + m2) % n) = AV.i (((m * 256 + m2) % n : Nat) : Int)
        exact congrArg AV.i (by have h : ((m * 256 + m2 : Nat) : Int) = (m : Int) * 256 + m2 := by omega
                                rw [← h]; exact (Int.natCast_emod _ _).symm)
    · repeat (first | (refine step_ops ?_; (first | (refine m_mov (by conv => lhs; whnf) ?_) | (refine m_gtr rfl rfl ?_) | (refine m_rem rfl rfl ?_ ?_ ?_; (· omega); (· omega)))) | refine end_ops ?_ | refine seq_ops ?_ | (refine cond_f rfl ?_ ?_; (· first | rfl | assumption | (refine decide_eq_false ?_; first | assumption | omega) | (refine nf ?_; first | assumption | omega) | (simp [*]; done))) | refine skip_then ?_ | refine AW_seq ?_ | refine AW_ret ?_)
      refine doneC (i := (m % n, a + 1, z1)) ⟨?_, show a + 1 ≤ a + 2 by omega⟩ ?_ rfl
      · have := Nat.mod_lt m (show 0 < n by omega)
        show m % n < max n 1
        omega
      · show AV.i ((m : Int) % n) = AV.i ((m % n : Nat) : Int)
        exact congrArg AV.i (by omega)
/-- Is it the one of so many? -/
theorem curOne_spec {v : Value} {L : List UInt8} (hv : Bys v L) (hL : L.length ≤ 1048576) (a : Nat) (ha : a ≤ 999999) (z : Int) (n : Nat) (hn : n ≤ 65536) :
    SpX Tryz.prog 50 [.pt pbase 0, .i (n : Nat)] (Am.look (curH v a z)) (ι := Bool × Nat × Int) (fun i => i.2.1 ≤ a + 2) (fun i => .b i.1) (fun i => Am.look (curH v i.2.1 i.2.2)) := by
  have hpb := curH_pb v a z
  have hsta : ∀ i : Bool × Nat × Int, i.2.1 ≤ a + 2 → Static (Am.look (curH v a z)) (.b i.1) (Am.look (curH v i.2.1 i.2.2)) := fun i _ => cur_static
  refine specX_of Tryz.func50 rfl cc50 rfl hpb hsta ?_
  unfold ac50
  clear hpb hsta
  repeat (first | (refine step_ops ?_; (refine m_mov (by conv => lhs; whnf) ?_)) | refine end_ops ?_ | refine seq_ops ?_)
  refine step_ops ?_
  refine m_cur (curPick_spec hv hL a ha z n hn) rfl (lendH_cons (lend_cur rfl) (lendH_cons lendH_v lendH_nil)) ⟨(0, a, z), show 0 < max n 1 by omega, show a ≤ a + 2 by omega⟩ ?_
  rintro ⟨m, a1, z1⟩ ⟨hm, ha1⟩
  dsimp only at hm ha1 ⊢
  repeat (first | (refine step_ops ?_; (first | (refine m_mov (by conv => lhs; whnf) ?_) | (refine m_eql rfl rfl ?_))) | refine end_ops ?_ | refine AW_ret ?_)
  exact doneC (i := (decide ((m : Int) = 0), a1, z1)) ha1 rfl rfl
/-- An element of a list that is not empty. -/
theorem curAmong_spec {v : Value} {L : List UInt8} (hv : Bys v L) (hL : L.length ≤ 1048576) (a : Nat) (ha : a ≤ 999999) (z : Int) (M : List Int) (h1 : 1 ≤ M.length) (hM : M.length ≤ 1000) :
    SpX Tryz.prog 57 [.pt pbase 0, ints M] (Am.look (curH v a z)) (ι := Int × Nat × Int) (fun i => i.2.1 ≤ a + 2) (fun i => .i i.1) (fun i => Am.look (curH v i.2.1 i.2.2)) := by
  have hpb := curH_pb v a z
  have hsta : ∀ i : Int × Nat × Int, i.2.1 ≤ a + 2 → Static (Am.look (curH v a z)) (.i i.1) (Am.look (curH v i.2.1 i.2.2)) := fun i _ => cur_static
  refine specX_of Tryz.func57 rfl cc57 rfl hpb hsta ?_
  unfold ac57
  clear hpb hsta
  repeat (first | (refine step_ops ?_; (first | (refine m_mov (by conv => lhs; whnf) ?_) | (refine m_len_ro rfl ?_))) | refine end_ops ?_ | refine seq_ops ?_)
  refine step_ops ?_
  refine m_cur (curPick_spec hv hL a ha z M.length (by omega)) rfl (lendH_cons (lend_cur rfl) (lendH_cons lendH_v lendH_nil)) ⟨(0, a, z), show 0 < max M.length 1 by omega, show a ≤ a + 2 by omega⟩ ?_
  rintro ⟨m, a1, z1⟩ ⟨hm, ha1⟩
  dsimp only at hm ha1 ⊢
  have hml : m < M.length := by omega
  repeat (first | (refine step_ops ?_; (first | (refine m_mov (by conv => lhs; whnf) ?_) | (refine m_idx1_ro rfl rfl ?_ ?_; (· omega)) | (refine m_ld_rpi rfl ?_ ?_; (· omega)))) | refine end_ops ?_ | refine AW_ret ?_)
  exact doneC (i := (M.getD m 0, a1, z1)) ha1 rfl rfl
/-- A list that is written out. -/
def partsK : Nat → List Int → List (Nat × Opd)
  | _, [] => []
  | i, x :: M => (i, .c (.int .i64 x)) :: partsK (i + 1) M
theorem afill_ints (s : AS) : ∀ (M : List Int) (pre : List AV), afill s 1 true (pre ++ List.replicate M.length (AV.i 0)) (partsK pre.length M) (pre ++ M.map AV.i)
  | [], pre => by simp [afill, partsK]
  | x :: M, pre => by
    have h := afill_ints s M (pre ++ [AV.i x])
    have e : (pre ++ List.replicate (x :: M).length (AV.i 0)).set pre.length (AV.i x) = pre ++ [AV.i x] ++ List.replicate M.length (AV.i 0) := by
      rw [List.length_cons, List.replicate_succ, List.set_append_right _ _ (Nat.le_refl _), Nat.sub_self]
      simp
    simp only [partsK, afill]
    refine .inl ⟨trivial, by simp, rfl, ?_⟩
    show afill s 1 true ((pre ++ List.replicate (x :: M).length (AV.i 0)).set pre.length (AV.i x)) (partsK (pre.length + 1) M) (pre ++ (x :: M).map AV.i)
    have e4 : pre ++ (x :: M).map AV.i = pre ++ [AV.i x] ++ M.map AV.i := by simp
    rw [e, e4]
    rw [List.length_append] at h
    exact h
theorem lend_cutS {hp : Nat → Option (Bool × List AV)} {r k : Nat} {M : List Int} (hr : hp r = some (true, M.map AV.i)) (hk : k ≤ M.length) : Lend hp (.sl r 1 (0 + 0 * 1) (k - 0)) (ints (M.take k)) := by
  have h := lend_sl (z := 1) (off := 0) (n := k) hr (by simp; omega) (allv_ints M)
  have e : ((M.map AV.i).drop 0).take (k * 1) = (M.take k).map AV.i := by rw [List.drop_zero, Nat.mul_one, List.map_take]
  have e2 : k = (M.take k).length := by rw [List.length_take]; omega
  rw [e] at h
  show Lend hp (.sl r 1 0 k) (.ro false 1 ((M.take k).map AV.i) (M.take k).length)
  rw [← e2]
  exact h
theorem elems_ok (M : List Int) (i j : Nat) : (((M.map AV.i).drop i).take j).all (cellOk true) = true := by
  rw [List.all_eq_true]
  intro x hx
  obtain ⟨y, _, rfl⟩ := List.mem_map.1 (List.mem_of_mem_drop (List.mem_of_mem_take hx))
  rfl
def gL (q : Nat) : Nat → Nat := fun p => if p = nbase then q else p
theorem gL_p {q : Nat} : gL q pbase = pbase := if_neg (by decide)
theorem gL_n {q : Nat} : gL q nbase = q := if_pos rfl
theorem doneL {s : AS} {t : Nat} {v : Value} {a a1 : Nat} {z z1 : Int} {M : List Int} {q n : Nat} {ok : List Int × Nat × Int → Prop} (hi : ok (M, a1, z1)) (h1 : resAV s [t] = .sl q 1 0 n) (hn : n = M.length) (h2 : s.hp pbase = some (true, curC v a1 z1)) (h3 : s.hp q = some (true, M.map AV.i)) (hq : q < pbase) :
    DoneX [t] ok (fun i => .sl nbase 1 0 i.1.length) (Am.look (curH v a z)) (fun i => Am.look (curN v i.2.1 i.2.2 i.1)) .ret s := by
  have hpn : pbase ≠ nbase := by decide
  have hpb : pbase = 4000000 := rfl
  refine ⟨(M, a1, z1), hi, ret_R (hl := curH v a z) (ho := curN v a1 z1 M) (gL q) ?_ ⟨⟨_, by rw [gL_p]; exact h2, .inl rfl⟩, ⟨_, by rw [gL_n]; exact h3, .inl ?_⟩, trivial⟩ ?_ ?_ ?_⟩
  · rw [h1, hn]
    show _ = AV.sl (gL q nbase) 1 0 M.length
    rw [gL_n]
  · exact congrArg (Prod.mk true) (renL_ints _ _).symm
  · intro p hp
    rw [List.mem_singleton] at hp
    subst hp
    exact ⟨gL_p, by simp⟩
  · intro p hp
    rcases List.mem_cons.1 hp with rfl | hp
    · exact .inl (by simp)
    · rw [List.mem_singleton] at hp; subst hp
      exact .inr (by rw [gL_n]; exact hq)
  · show [gL q pbase, gL q nbase].Nodup
    rw [gL_p, gL_n]
    simp; omega
/-- A call that moves a cursor and tells what has no places. -/
theorem m_curA {P : Program} {s : AS} {K : AS → Prop} {d : Option Nat} {f : FuncId} {args : List Opd} {asx : List AV} {r : Nat} {v : Value} {a : Nat} {z : Int} {ι : Type} {ok : ι → Prop} {res : ι → AV} {a' : ι → Nat} {z' : ι → Int}
    (hs : SpX P f asx (Am.look (curH v a z)) ok res (fun i => Am.look (curH v (a' i) (z' i)))) (hr : s.hp r = some (true, curC v a z)) (hl : LendsH s.hp (fun _ => r) (Am.look (curH v a z)) (args.map s.ev) asx) (hne : ∃ i, ok i) (hp : ∀ i, ownV false (res i) = true ∧ renV (fun _ => r) (res i) = res i)
    (k : ∀ i, ok i → K ((s.mem r (true, curC v (a' i) (z' i))).put d (res i))) : aop1 P true ⟨d, .call f args, none⟩ s K := by
  refine m_callx (hp' := fun i => fun q => if q = r then some (true, curC v (a' i) (z' i)) else s.hp q) (fun _ => r) hs hl hne fun i hi => ⟨⟨fun q c hc => ?_, fun q q' h1 h2 _ => ?_, fun q hq => ?_, fun q hq hn => ?_, fun q c hc => ?_, fun q hq => ?_, fun q c hc => ?_, fun q c hc => ?_, (hp i).1⟩, ?_⟩
  · obtain ⟨rfl, rfl⟩ := curH_at hc
    exact hr
  · rw [curH_is h1, curH_is h2]
  · rw [curH_is hq]; rfl
  · rw [curH_is hq] at hn; cases hn
  · obtain ⟨rfl, rfl⟩ := curH_at hc
    show (if r = r then _ else _) = _
    rw [if_pos rfl]; rfl
  · have := hq pbase rfl
    show (if q = r then _ else _) = _
    rw [if_neg fun e => this e.symm]
  · obtain ⟨rfl, rfl⟩ := curH_at hc
    exact ⟨rfl, rfl⟩
  · obtain ⟨rfl, rfl⟩ := curH_at hc
    rfl
  · rw [(hp i).2]
    exact k i hi
theorem doneC2 {s : AS} {v : Value} {a : Nat} {z : Int} {T : List Nat} {ι : Type} {ok : ι → Prop} {r1 r2 : ι → Int} {fa : ι → Nat} {fz : ι → Int} (i : ι) (hi : ok i) (h1 : resAV s T = .tup [.i (r1 i), .i (r2 i)]) (h2 : s.hp pbase = some (true, curC v (fa i) (fz i))) :
    DoneX T ok (fun i => .tup [.i (r1 i), .i (r2 i)]) (Am.look (curH v a z)) (fun i => Am.look (curH v (fa i) (fz i))) .ret s :=
  ⟨i, hi, ret_R (hl := curH v a z) (ho := curH v (fa i) (fz i)) id h1 ⟨⟨_, h2, .inl rfl⟩, trivial⟩ (by simp) (by simp) (by simp)⟩
end Go.Proofs.YtmmcldbldbpikaaGreatDoor
namespace Go.Proofs.YtmmcldbldbpikaaGreatDoor
variable [Go.Am.CodeBlk]
open Go.Am
attribute [local irreducible] AW Outs Weak Lends Lend Sp aops atree aop1 Then Round InBlock Done
attribute [local irreducible] SpH SpX DoneH
/-- A number of couples and one of those, at times other numbers. -/
theorem curCouples_spec {v : Value} {L : List UInt8} (hv : Bys v L) (hL : L.length ≤ 1048576) (a : Nat) (ha : a ≤ 900000) (z : Int) :
    SpX Tryz.prog 27 [.pt pbase 0] (Am.look (curH v a z)) (ι := (Int × Int) × Nat × Int) (fun i => i.2.1 ≤ a + 10) (fun i => .tup [.i i.1.1, .i i.1.2]) (fun i => Am.look (curH v i.2.1 i.2.2)) := by
  have hpb := curH_pb v a z
  have hsta : ∀ i : (Int × Int) × Nat × Int, i.2.1 ≤ a + 10 → Static (Am.look (curH v a z)) (.tup [.i i.1.1, .i i.1.2]) (Am.look (curH v i.2.1 i.2.2)) := fun i _ =>
    static_R (by simp) (fun p hp => by rw [List.mem_singleton] at hp; subst hp; exact ⟨rfl, rfl⟩) ⟨rfl, rfl⟩
  refine specX_of Tryz.func27 rfl cc27 rfl hpb hsta ?_
  unfold ac27
  clear hpb hsta
  repeat (first | (refine step_ops ?_; (refine m_mov (by conv => lhs; whnf) ?_)) | refine end_ops ?_ | refine seq_ops ?_ | refine AW_seq ?_)
  refine step_ops ?_
  refine m_cur (curOne_spec hv hL a (by omega) z 10 (by omega)) rfl (lendH_cons (lend_cur rfl) (lendH_cons lendH_v lendH_nil)) ⟨(true, a, z), show a ≤ a + 2 by omega⟩ ?_
  rintro ⟨b, a1, z1⟩ ha1
  dsimp only at ha1 ⊢
  cases b with
  | true =>
    repeat (first | (refine step_ops ?_; (refine m_mov (by conv => lhs; whnf) ?_)) | refine end_ops ?_ | refine seq_ops ?_ | (refine cond_t rfl ?_ ?_; (· first | rfl | assumption | (refine decide_eq_true ?_; first | assumption | omega) | (refine nt ?_; first | assumption | omega) | (simp [*]; done))))
    refine step_ops ?_
    refine m_bsl (fl := true) (out := [-1, 0, 1, 7, 8, 4611686018427387904].map AV.i) (afill_ints _ [-1, 0, 1, 7, 8, 4611686018427387904] []) ?_
    refine step_ops ?_
    refine m_cur (r := pbase) (curAmong_spec hv hL a1 (by omega) z1 [-1, 0, 1, 7, 8, 4611686018427387904] (by decide) (by decide)) rfl (lendH_cons (lend_cur rfl) (lendH_cons (lend_curl (M := [-1, 0, 1, 7, 8, 4611686018427387904]) rfl rfl (by decide)) lendH_nil)) ⟨(0, a1, z1), show a1 ≤ a1 + 2 by omega⟩ ?_
    rintro ⟨m, a2, z2⟩ ha2
    dsimp only at ha2 ⊢
    repeat (refine step_ops ?_; (refine m_mov (by conv => lhs; whnf) ?_))
    refine step_ops ?_
    refine m_bsl (fl := true) (out := [-1, 0, 1, 7, 8].map AV.i) (afill_ints _ [-1, 0, 1, 7, 8] []) ?_
    refine step_ops ?_
    refine m_cur (r := pbase) (curAmong_spec hv hL a2 (by omega) z2 [-1, 0, 1, 7, 8] (by decide) (by decide)) rfl (lendH_cons (lend_cur rfl) (lendH_cons (lend_curl (M := [-1, 0, 1, 7, 8]) rfl rfl (by decide)) lendH_nil)) ⟨(0, a2, z2), show a2 ≤ a2 + 2 by omega⟩ ?_
    rintro ⟨m2, a3, z3⟩ ha3
    dsimp only at ha3 ⊢
    repeat (first | (refine step_ops ?_; (refine m_mov (by conv => lhs; whnf) ?_)) | refine end_ops ?_ | refine AW_ret ?_ | refine ret_then ?_)
    exact doneC2 (i := ((m, m2), a3, z3)) (show a3 ≤ a + 10 by omega) rfl rfl
  | false =>
    repeat (first | (refine step_ops ?_; (refine m_mov (by conv => lhs; whnf) ?_)) | refine end_ops ?_ | refine seq_ops ?_ | (refine cond_f rfl ?_ ?_; (· first | rfl | assumption | (refine decide_eq_false ?_; first | assumption | omega) | (refine nf ?_; first | assumption | omega) | (simp [*]; done))) | refine skip_then ?_)
    refine step_ops ?_
    refine m_cur (curPick_spec hv hL a1 (by omega) z1 7 (by omega)) (r := pbase) rfl (lendH_cons (lend_cur rfl) (lendH_cons lendH_v lendH_nil)) ⟨(0, a1, z1), show 0 < max 7 1 by omega, show a1 ≤ a1 + 2 by omega⟩ ?_
    rintro ⟨m, a2, z2⟩ ⟨hm, ha2⟩
    dsimp only at hm ha2 ⊢
    repeat (first | (refine step_ops ?_; (first | (refine m_mov (by conv => lhs; whnf) ?_) | (refine m_add rfl rfl ?_ ?_ ?_; (· omega); (· omega)))) | refine end_ops ?_ | refine seq_ops ?_)
    refine step_ops ?_
    refine m_cur (curPick_spec hv hL a2 (by omega) z2 (1 + m + 2) (by omega)) (r := pbase) rfl (lendH_cons (lend_cur rfl) (lendH_cons lendH_v lendH_nil)) ⟨(0, a2, z2), show 0 < max (1 + m + 2) 1 by omega, show a2 ≤ a2 + 2 by omega⟩ ?_
    rintro ⟨k, a3, z3⟩ ⟨hk, ha3⟩
    dsimp only at hk ha3 ⊢
    repeat (refine step_ops ?_; (refine m_mov (by conv => lhs; whnf) ?_))
    refine step_ops ?_
    refine m_cur (curPick_spec hv hL a3 (by omega) z3 9 (by omega)) (r := pbase) rfl (lendH_cons (lend_cur rfl) (lendH_cons lendH_v lendH_nil)) ⟨(0, a3, z3), show 0 < max 9 1 by omega, show a3 ≤ a3 + 2 by omega⟩ ?_
    rintro ⟨k2, a4, z4⟩ ⟨hk2, ha4⟩
    dsimp only at hk2 ha4 ⊢
    repeat (first | (refine step_ops ?_; (first | (refine m_mov (by conv => lhs; whnf) ?_) | (refine m_sub rfl rfl ?_ ?_ ?_; (· omega); (· omega)) | (refine m_quo rfl rfl ?_ ?_ ?_ ?_; (· omega); (· omega); (· omega)))) | refine end_ops ?_ | refine AW_ret ?_)
    exact doneC2 (i := ((1 + (m : Int), (k : Int) - (k2 : Int) / 8), a4, z4)) (show a4 ≤ a + 10 by omega) rfl rfl
/-- A table, at times another list: how long it is, is told. -/
theorem curTable_spec {v : Value} {L : List UInt8} (hv : Bys v L) (hL : L.length ≤ 1048576) (a : Nat) (ha : a ≤ 800000) (z : Int) (n : Nat) (hn : n ≤ 6) :
    SpX Tryz.prog 48 [.pt pbase 0, .i (n : Nat)] (Am.look (curH v a z)) (ι := List Int × Nat × Int) (fun i => i.1.length ≤ 16 ∧ i.2.1 ≤ a + 100) (fun i => .sl nbase 1 0 i.1.length) (fun i => Am.look (curN v i.2.1 i.2.2 i.1)) := by
  have hpb := curH_pb v a z
  have hsta : ∀ i : List Int × Nat × Int, i.1.length ≤ 16 ∧ i.2.1 ≤ a + 100 → Static (Am.look (curH v a z)) (.sl nbase 1 0 i.1.length) (Am.look (curN v i.2.1 i.2.2 i.1)) := fun i _ => curN_static
  refine specX_of Tryz.func48 rfl cc48 rfl hpb hsta ?_
  unfold ac48
  clear hpb hsta
  repeat (first | (refine step_ops ?_; (first | (refine m_mov (by conv => lhs; whnf) ?_) | (refine m_nils ?_))) | refine end_ops ?_ | refine seq_ops ?_ | refine AW_seq ?_)
  refine step_ops ?_
  refine m_cur (curOne_spec hv hL a (by omega) z 14 (by omega)) rfl (lendH_cons (lend_cur rfl) (lendH_cons lendH_v lendH_nil)) ⟨(true, a, z), show a ≤ a + 2 by omega⟩ ?_
  rintro ⟨b, a1, z1⟩ ha1
  dsimp only at ha1 ⊢
  cases b with
  | true =>
    repeat (first | (refine step_ops ?_; (refine m_bsl1 rfl rfl ?_)) | refine end_ops ?_ | refine seq_ops ?_ | (refine cond_t rfl ?_ ?_; (· first | rfl | assumption | (refine decide_eq_true ?_; first | assumption | omega) | (refine nt ?_; first | assumption | omega) | (simp [*]; done))))
    refine step_ops ?_
    refine m_bsl (fl := true) (out := [0, 0].map AV.i) (afill_ints _ [0, 0] []) ?_
    refine step_ops ?_
    refine m_bsl (fl := true) (out := [0, 1, 2].map AV.i) (afill_ints _ [0, 1, 2] []) ?_
    refine step_ops ?_
    refine m_bsl (fl := true) (out := [-1, 0].map AV.i) (afill_ints _ [-1, 0] []) ?_
    refine step_ops ?_
    refine m_bsl (fl := true) (out := [0, 1, 4611686018427387904, 3].map AV.i) (afill_ints _ [0, 1, 4611686018427387904, 3] []) ?_
    refine step_ops ?_
    refine m_bsl (fl := true) (out := [0, 1, 2, 3, 4, 5, 6, 7, 8, 9, 10, 11, 12, 13].map AV.i) (afill_ints _ [0, 1, 2, 3, 4, 5, 6, 7, 8, 9, 10, 11, 12, 13] []) ?_
    refine step_ops ?_
    refine m_bsl (fl := true) (out := [0, 1, 2, 3, 4, 5, 6, 7, 8, 9, 10, 11, 12, 13, 14, 15].map AV.i) (afill_ints _ [0, 1, 2, 3, 4, 5, 6, 7, 8, 9, 10, 11, 12, 13, 14, 15] []) ?_
    refine step_ops ?_
    refine m_bsl (fl := false) (out := [.v (.slice none 0 0), .sl 12 1 0 1, .sl 13 1 0 2, .sl 14 1 0 3, .sl 15 1 0 2, .sl 16 1 0 4, .sl 17 1 0 14, .sl 18 1 0 16]) (by (iterate 8 (refine Or.inl ⟨rfl, by simp, rfl, ?_⟩)); rfl) ?_
    refine step_opsW (weak_st (l := [(0, .pt pbase 0), (19, .sl 19 1 0 8)]) (h := [(pbase, (true, curC v a1 z1)), (12, (true, [0].map AV.i)), (13, (true, [0, 0].map AV.i)), (14, (true, [0, 1, 2].map AV.i)), (15, (true, [-1, 0].map AV.i)), (16, (true, [0, 1, 4611686018427387904, 3].map AV.i)), (17, (true, [0, 1, 2, 3, 4, 5, 6, 7, 8, 9, 10, 11, 12, 13].map AV.i)), (18, (true, [0, 1, 2, 3, 4, 5, 6, 7, 8, 9, 10, 11, 12, 13, 14, 15].map AV.i)), (19, (false, [.v (.slice none 0 0), .sl 12 1 0 1, .sl 13 1 0 2, .sl 14 1 0 3, .sl 15 1 0 2, .sl 16 1 0 4, .sl 17 1 0 14, .sl 18 1 0 16]))]) ?_ ?_ rfl rfl) ?_
    · (repeat' (first | exact trivial | refine And.intro ?_ ?_)) <;> (first | rfl | skip)
    · (repeat' (first | exact trivial | refine And.intro ?_ ?_)) <;> (first | rfl | skip)
    refine m_mov rfl ?_
    refine step_ops ?_
    refine m_cur (curPick_spec hv hL a1 (by omega) z1 8 (by omega)) (r := pbase) rfl (lendH_cons (lend_cur rfl) (lendH_cons lendH_v lendH_nil)) ⟨(0, a1, z1), show 0 < max 8 1 by omega, show a1 ≤ a1 + 2 by omega⟩ ?_
    rintro ⟨k, a2, z2⟩ ⟨hk, ha2⟩
    dsimp only at hk ha2 ⊢
    have hk8 : k < 8 := by omega
    match k, hk8 with
    | 0, _ =>
      refine step_ops ?_
      refine m_idx1_sl (j := 0) rfl rfl (by omega) ?_
      refine step_ops ?_
      refine m_ld_pt rfl rfl rfl ?_
      refine step_opsW (weak_nilslot 23 5000 1 true rfl rfl (by decide)) ?_
      refine m_mov rfl ?_
      repeat (first | refine end_ops ?_ | refine AW_ret ?_ | refine ret_then ?_)
      exact doneL (q := 5000) (M := []) ⟨Nat.le_of_ble_eq_true rfl, show a2 ≤ a + 100 by omega⟩ rfl rfl rfl rfl (by decide)
    | 1, _ =>
      repeat (first | (refine step_ops ?_; (first | (refine m_mov (by conv => lhs; whnf) ?_) | (refine m_idx1_sl rfl rfl ?_ ?_; (· omega)) | (apply m_ld_pt; (· rfl); (· rfl); (· rfl)))) | refine end_ops ?_ | refine AW_ret ?_ | refine ret_then ?_)
      exact doneL (M := [0]) ⟨Nat.le_of_ble_eq_true rfl, show a2 ≤ a + 100 by omega⟩ rfl rfl rfl rfl (by decide)
    | 2, _ =>
      repeat (first | (refine step_ops ?_; (first | (refine m_mov (by conv => lhs; whnf) ?_) | (refine m_idx1_sl rfl rfl ?_ ?_; (· omega)) | (apply m_ld_pt; (· rfl); (· rfl); (· rfl)))) | refine end_ops ?_ | refine AW_ret ?_ | refine ret_then ?_)
      exact doneL (M := [0, 0]) ⟨Nat.le_of_ble_eq_true rfl, show a2 ≤ a + 100 by omega⟩ rfl rfl rfl rfl (by decide)
    | 3, _ =>
      repeat (first | (refine step_ops ?_; (first | (refine m_mov (by conv => lhs; whnf) ?_) | (refine m_idx1_sl rfl rfl ?_ ?_; (· omega)) | (apply m_ld_pt; (· rfl); (· rfl); (· rfl)))) | refine end_ops ?_ | refine AW_ret ?_ | refine ret_then ?_)
      exact doneL (M := [0, 1, 2]) ⟨Nat.le_of_ble_eq_true rfl, show a2 ≤ a + 100 by omega⟩ rfl rfl rfl rfl (by decide)
    | 4, _ =>
      repeat (first | (refine step_ops ?_; (first | (refine m_mov (by conv => lhs; whnf) ?_) | (refine m_idx1_sl rfl rfl ?_ ?_; (· omega)) | (apply m_ld_pt; (· rfl); (· rfl); (· rfl)))) | refine end_ops ?_ | refine AW_ret ?_ | refine ret_then ?_)
      exact doneL (M := [-1, 0]) ⟨Nat.le_of_ble_eq_true rfl, show a2 ≤ a + 100 by omega⟩ rfl rfl rfl rfl (by decide)
    | 5, _ =>
      repeat (first | (refine step_ops ?_; (first | (refine m_mov (by conv => lhs; whnf) ?_) | (refine m_idx1_sl rfl rfl ?_ ?_; (· omega)) | (apply m_ld_pt; (· rfl); (· rfl); (· rfl)))) | refine end_ops ?_ | refine AW_ret ?_ | refine ret_then ?_)
      exact doneL (M := [0, 1, 4611686018427387904, 3]) ⟨Nat.le_of_ble_eq_true rfl, show a2 ≤ a + 100 by omega⟩ rfl rfl rfl rfl (by decide)
    | 6, _ =>
      repeat (first | (refine step_ops ?_; (first | (refine m_mov (by conv => lhs; whnf) ?_) | (refine m_idx1_sl rfl rfl ?_ ?_; (· omega)) | (apply m_ld_pt; (· rfl); (· rfl); (· rfl)))) | refine end_ops ?_ | refine AW_ret ?_ | refine ret_then ?_)
      exact doneL (M := [0, 1, 2, 3, 4, 5, 6, 7, 8, 9, 10, 11, 12, 13]) ⟨Nat.le_of_ble_eq_true rfl, show a2 ≤ a + 100 by omega⟩ rfl rfl rfl rfl (by decide)
    | 7, _ =>
      repeat (first | (refine step_ops ?_; (first | (refine m_mov (by conv => lhs; whnf) ?_) | (refine m_idx1_sl rfl rfl ?_ ?_; (· omega)) | (apply m_ld_pt; (· rfl); (· rfl); (· rfl)))) | refine end_ops ?_ | refine AW_ret ?_ | refine ret_then ?_)
      exact doneL (M := [0, 1, 2, 3, 4, 5, 6, 7, 8, 9, 10, 11, 12, 13, 14, 15]) ⟨Nat.le_of_ble_eq_true rfl, show a2 ≤ a + 100 by omega⟩ rfl rfl rfl rfl (by decide)
  | false =>
    repeat (first | (refine step_ops ?_; (refine m_mov (by conv => lhs; whnf) ?_)) | refine end_ops ?_ | refine seq_ops ?_ | (refine cond_f rfl ?_ ?_; (· first | rfl | assumption | (refine decide_eq_false ?_; first | assumption | omega) | (refine nf ?_; first | assumption | omega) | (simp [*]; done))) | refine skip_then ?_)
    refine step_ops ?_
    refine m_cur (curPick_spec hv hL a1 (by omega) z1 n (by omega)) (r := pbase) rfl (lendH_cons (lend_cur rfl) (lendH_cons lendH_v lendH_nil)) ⟨(0, a1, z1), show 0 < max n 1 by omega, show a1 ≤ a1 + 2 by omega⟩ ?_
    rintro ⟨m, a2, z2⟩ ⟨hm, ha2⟩
    dsimp only at hm ha2 ⊢
    repeat (first | (refine step_ops ?_; (first | (refine m_mov (by conv => lhs; whnf) ?_) | (refine m_add rfl rfl ?_ ?_ ?_; (· omega); (· omega)) | (refine m_mul rfl rfl ?_ ?_ ?_; (· first | omega | (simp; done)); (· first | omega | (simp; done))) | (refine m_nils ?_))) | refine end_ops ?_ | refine seq_ops ?_ | refine AW_seq ?_ | refine AW_block ?_)
    refine AW_loop (α := List Int × Nat × Int) (fun q => q.1.length ≤ 2 + 2 * m ∧ q.2.1 ≤ a + 4 + 2 * q.1.length) (fun q => st [(0, .pt pbase 0), (5, .i (2 + 2 * (m : Int))), (6, .sl 6 1 0 q.1.length), (7, .i q.1.length)] [(pbase, (true, curC v q.2.1 q.2.2)), (6, (true, q.1.map AV.i))]) (fun q => 2 + 2 * m - q.1.length) ([], a2, z2) ⟨by simp, by simp; omega⟩ (weak_st ?_ ?_ rfl rfl) ?_
    · (repeat' (first | exact trivial | refine And.intro ?_ ?_)) <;> (first | rfl | skip)
    · (repeat' (first | exact trivial | refine And.intro ?_ ?_)) <;> (first | rfl | skip)
    rintro ⟨M, a3, z3⟩ ⟨hM, ha3⟩
    dsimp only at hM ha3 ⊢
    by_cases hc : M.length < 2 + 2 * m
    · repeat (first | (refine step_ops ?_; (first | (refine m_mov (by conv => lhs; whnf) ?_) | (refine m_lss rfl rfl ?_) | (refine m_add rfl rfl ?_ ?_ ?_; (· omega); (· omega)) | (refine m_len_sl rfl ?_))) | refine end_ops ?_ | refine seq_ops ?_ | (refine cond_t rfl ?_ ?_; (· first | rfl | assumption | (refine decide_eq_true ?_; first | assumption | omega) | (refine nt ?_; first | assumption | omega) | (simp [*]; done))) | refine skip_then ?_ | refine AW_seq ?_ | refine AW_block ?_)
      refine step_ops ?_
      refine m_cur (curPick_spec hv hL a3 (by omega) z3 (M.length + 1) (by omega)) rfl (lendH_cons (lend_cur rfl) (lendH_cons lendH_v lendH_nil)) ⟨(0, a3, z3), show 0 < max (M.length + 1) 1 by omega, show a3 ≤ a3 + 2 by omega⟩ ?_
      rintro ⟨k, a4, z4⟩ ⟨hk, ha4⟩
      dsimp only at hk ha4 ⊢
      repeat (first | (refine step_ops ?_; (refine m_mov (by conv => lhs; whnf) ?_)) | refine end_ops ?_ | refine seq_ops ?_)
      have hkM : k ≤ M.length := by omega
      have ht : (M.take k).length = k := by rw [List.length_take]; omega
      refine step_ops ?_
      refine m_cut_sl (l := 0) (h := k) rfl rfl ⟨_, rfl⟩ (Nat.zero_le _) hkM ?_
      refine step_ops ?_
      refine m_callo (l1Own_spec (M.take k) (by omega)) (lends_cons (lend_cutS rfl hkM) lends_nil) (allv_ints _) ?_
      repeat (first | (refine step_ops ?_; (first | (refine m_mov (by conv => lhs; whnf) ?_) | (refine m_bsl1 rfl rfl ?_) | (refine m_app1i rfl (by decide) (by rfl) (by first | rfl | omega | (simp; done)) rfl rfl ?_ (by decide) ?_; (· first | omega | (simp; omega))))) | refine end_ops ?_ | refine AW_ops ?_)
      refine step_ops ?_
      refine m_cut_sl (l := k) (h := M.length) rfl ⟨_, rfl⟩ rfl hkM (Nat.le_refl _) ?_
      refine step_ops ?_
      refine m_app (fl := true) (cs := (M.take k ++ [(M.length : Int)]).map AV.i) (m := M.length - k) rfl (by decide) rfl (by simp) (Elems.sl 6 (0 + k * 1) (M.length - k) true (M.map AV.i) rfl (by simp; omega)) (elems_ok M _ _) (show _ ≤ maxLen by unfold maxLen; simp; omega) (by simp; omega) ?_
      repeat (first | (refine step_ops ?_; (first | (refine m_mov (by conv => lhs; whnf) ?_) | (refine m_add rfl rfl ?_ ?_ ?_; (· omega); (· omega)))) | refine end_ops ?_ | refine AW_ops ?_ | refine norm_then ?_ | refine norm_block ?_)
      refine next_round (M.take k ++ [(M.length : Int)] ++ M.drop k, a4, z4) ⟨by simp; omega, by simp; omega⟩ (Weak.trans (weak_move (r := 50) (q := 6) rfl (by decide) (by decide)) (weak_st ?_ ?_ rfl rfl)) (by simp; omega)
      · have e1 : (M.take k ++ [(M.length : Int)] ++ M.drop k).length = M.length + 1 := by simp; omega
        have e2 : (M.take k ++ [(M.length : Int)]).length + (M.length - k) = M.length + 1 := by simp; omega
        rw [e1]
        refine ⟨rfl, rfl, ?_, ?_, trivial⟩
        · show AV.sl 6 1 0 ((M.take k ++ [(M.length : Int)]).length + (M.length - k)) = AV.sl 6 1 0 (M.length + 1)
          rw [e2]
        · rfl
      · refine ⟨rfl, ?_, trivial⟩
        show some (true, (M.take k ++ [(M.length : Int)]).map AV.i ++ ((M.map AV.i).drop (0 + k * 1)).take ((M.length - k) * 1)) = some (true, (M.take k ++ [(M.length : Int)] ++ M.drop k).map AV.i)
        have e3 : ((M.map AV.i).drop k).take (M.length - k) = (M.drop k).map AV.i := by rw [← List.map_drop]; exact List.take_of_length_le (by rw [List.length_map, List.length_drop]; omega)
        rw [Nat.zero_add, Nat.mul_one, Nat.mul_one, e3, ← List.map_append]
    · repeat (first | (refine step_ops ?_; (first | (refine m_mov (by conv => lhs; whnf) ?_) | (refine m_lss rfl rfl ?_))) | refine end_ops ?_ | refine seq_ops ?_ | (refine cond_f rfl ?_ ?_; (· first | rfl | assumption | (refine decide_eq_false ?_; first | assumption | omega) | (refine nf ?_; first | assumption | omega) | (simp [*]; done))) | refine AW_seq ?_ | refine AW_ret ?_ | refine norm_then ?_ | refine exit_then ?_ | refine exit_round ?_ | refine AW_exit ?_ | refine exit_block ?_)
      refine ⟨(M, a3, z3), ⟨show M.length ≤ 16 by omega, show a3 ≤ a + 100 by omega⟩, ret_R (hl := curH v a z) (ho := curN v a3 z3 M) (fun p => if p = nbase then 6 else p) ?_ ⟨⟨_, rfl, .inl rfl⟩, ⟨_, rfl, .inl ?_⟩, trivial⟩ ?_ ?_ ?_⟩
      · rfl
      · exact congrArg (Prod.mk true) (renL_ints _ _).symm
      · simp [pbase, nbase]
      · simp [pbase, nbase]
      · simp [pbase, nbase]
end Go.Proofs.YtmmcldbldbpikaaGreatDoor
namespace Go.Am
variable [Go.Am.CodeBlk]
theorem g_unc {P : Program} {own : Bool} {s : AS} {K : AS → Prop} {d : Option Nat} {op : AOp} {t : Nat} {w : Bool} (h : s.tm t = .v undef) (k : K (s.put d (.v undef))) : aop1 P own ⟨d, op, some (t, w)⟩ s K := .inr ⟨h, k⟩
section
variable {P : Program} {s : AS} {K : AS → Prop} {d : Option Nat} {f : FuncId} {args : List Opd} {v : Value} {ι : Type} {ok : ι → Prop}
theorem draw_lends (ha : args.map s.ev = [.v v]) : LendsH s.hp (fun p => p) (look ([] : List (Nat × (Bool × List AV)))) (args.map s.ev) [.v v] := by
  rw [ha]; exact lendH_cons lendH_v lendH_nil
/-- A call that draws plain values. -/
theorem m_draw {res : ι → AV} (hs : SpX P f [.v v] (look ([] : List (Nat × (Bool × List AV)))) ok res (fun _ => look ([] : List (Nat × (Bool × List AV))))) (ha : args.map s.ev = [.v v]) (hne : ∃ i, ok i) (hr : ∀ i, ownV false (res i) = true ∧ renV (fun p => p) (res i) = res i)
    (k : ∀ i, ok i → K (s.put d (res i))) : aop1 P true ⟨d, .call f args, none⟩ s K := by
  refine m_callx (hp' := fun _ => s.hp) (fun p => p) hs (draw_lends ha) hne fun i hi => ⟨⟨fun q c hc => by simp [look] at hc, fun q q' h1 _ _ => by simp [look] at h1, fun q hq => by simp [look] at hq, fun q hq _ => by simp [look] at hq, fun q c hc => by simp [look] at hc, fun q _ => rfl, fun q c hc => by simp [look] at hc, fun q c hc => by simp [look] at hc, (hr i).1⟩, ?_⟩
  rw [(hr i).2]
  exact k i hi
/-- A call that draws a list. -/
theorem m_drawL {L : ι → List Int} {q : Nat} (hs : SpX P f [.v v] (look ([] : List (Nat × (Bool × List AV)))) ok (fun i => .sl nbase 1 0 (L i).length) (fun i => look [(nbase, (true, (L i).map AV.i))])) (ha : args.map s.ev = [.v v]) (hne : ∃ i, ok i) (hq : s.hp q = none) (hqp : q < pbase)
    (k : ∀ i, ok i → K ((s.mem q (true, (L i).map AV.i)).put d (.sl q 1 0 (L i).length))) : aop1 P true ⟨d, .call f args, none⟩ s K := by
  have hat : ∀ i p c, look [(nbase, (true, (L i).map AV.i))] p = some c → p = nbase ∧ c = (true, (L i).map AV.i) := fun i p c hc => by
    have := look_mem hc
    rw [List.mem_singleton] at this
    exact ⟨congrArg Prod.fst this, congrArg Prod.snd this⟩
  have hl : LendsH s.hp (fun _ => q) (look ([] : List (Nat × (Bool × List AV)))) (args.map s.ev) [.v v] := by rw [ha]; exact lendH_cons lendH_v lendH_nil
  refine m_callx (hp' := fun i => fun p => if p = q then some (true, (L i).map AV.i) else s.hp p) (fun _ => q) hs hl hne fun i hi => ⟨⟨fun p c hc => by simp [look] at hc, fun p p' h1 h2 _ => ?_, fun p hp => by simp [look] at hp, fun p hp _ => ⟨hq, hqp⟩, fun p c hc => ?_, fun p hp => ?_, fun p c hc => by simp [look] at hc, fun p c hc => ?_, rfl⟩, k i hi⟩
  · obtain ⟨c1, e1⟩ := Option.isSome_iff_exists.1 h1
    obtain ⟨c2, e2⟩ := Option.isSome_iff_exists.1 h2
    rw [(hat i _ _ e1).1, (hat i _ _ e2).1]
  · obtain ⟨rfl, rfl⟩ := hat i _ _ hc
    show (if q = q then _ else _) = _
    rw [if_pos rfl]
    exact congrArg (fun c => some (true, c)) (renL_ints _ _).symm
  · have := hp nbase rfl
    show (if p = q then _ else _) = _
    rw [if_neg fun e => this e.symm]
  · obtain ⟨rfl, rfl⟩ := hat i _ _ hc
    exact ints_ownC _ _
end
end Go.Am
namespace Go.Proofs.YtmmcldbldbpikaaGreatDoor
variable [Go.Am.CodeBlk]
open Go.Am
attribute [local irreducible] AW Outs Weak Lends Lend Sp aops atree aop1 Then Round InBlock Done
attribute [local irreducible] SpH SpX DoneH
theorem big_spec {c m : Value} {C M : List UInt8} (hc : Bys c C) (hm : Bys m M) (hC : C.length ≤ 9223372036854775807) (hM : M.length ≤ 9223372036854775807) : Sp Tryz.prog 4 [.v c, .v m] (.b (decide (1048576 < C.length + M.length))) := by
  refine spec_of Tryz.func4 rfl cc4 rfl ?_
  unfold ac4
  by_cases h1 : ((C.length : Nat) : Int) > 1048576
  · have h2 : 1048576 < C.length + M.length := by omega
    repeat (first | (refine step_ops ?_; (refine m_mov (by conv => lhs; whnf) ?_)) | refine end_ops ?_ | refine seq_ops ?_)
    refine step_ops ?_
    refine m_len_bys rfl hc ?_
    repeat (first | ((first | (refine step_ops ?_; (first | (first | (refine m_mov (by conv => lhs; whnf) ?_) | (refine m_gtr rfl rfl ?_) | (refine m_pick_t rfl ?_ (by conv => lhs; whnf) ?_; (· first | rfl | assumption | (refine decide_eq_true ?_; first | assumption | omega) | (refine nt ?_; first | assumption | omega) | (simp [*]; done)))) | (refine g_noF rfl ?_ ?_; (· first | rfl | assumption | (refine decide_eq_true ?_; first | assumption | omega) | (refine nt ?_; first | assumption | omega) | (simp [*]; done))))) | refine end_ops ?_ | refine AW_ret ?_ | refine ret_done ?_)) | (refine step_ops ?_; refine g_unc rfl ?_))
    exact outs_b (decide_eq_true h2).symm
  · have h0 : decide ((1048576 : Int) < (C.length : Nat)) = false := decide_eq_false (by omega)
    by_cases h3 : ((M.length : Nat) : Int) > 1048576 - C.length
    · have h2 : 1048576 < C.length + M.length := by omega
      repeat (first | (refine step_ops ?_; (refine m_mov (by conv => lhs; whnf) ?_)) | refine end_ops ?_ | refine seq_ops ?_)
      refine step_ops ?_
      refine m_len_bys rfl hc ?_
      repeat (refine step_ops ?_; ((try (refine g_yes rfl ?_ ?_; (· first | rfl | assumption | (refine decide_eq_true ?_; first | assumption | omega) | (refine nt ?_; first | assumption | omega) | (simp [*]; done) | (refine decide_eq_false ?_; first | assumption | omega) | (refine nf ?_; first | assumption | omega)))); (first | (refine m_mov (by conv => lhs; whnf) ?_) | (refine m_gtr rfl rfl ?_))))
      refine step_ops ?_
      refine g_yes rfl h0 ?_
      refine m_len_bys rfl hm ?_
      repeat (refine step_ops ?_; ((try (refine g_yes rfl ?_ ?_; (· first | rfl | assumption | (refine decide_eq_true ?_; first | assumption | omega) | (refine nt ?_; first | assumption | omega) | (simp [*]; done) | (refine decide_eq_false ?_; first | assumption | omega) | (refine nf ?_; first | assumption | omega)))); (refine m_mov (by conv => lhs; whnf) ?_)))
      refine step_ops ?_
      refine g_yes rfl h0 ?_
      refine m_len_bys rfl hc ?_
      repeat (first | (refine step_ops ?_; ((try (refine g_yes rfl ?_ ?_; (· first | rfl | assumption | (refine decide_eq_true ?_; first | assumption | omega) | (refine nt ?_; first | assumption | omega) | (simp [*]; done) | (refine decide_eq_false ?_; first | assumption | omega) | (refine nf ?_; first | assumption | omega)))); (first | (refine m_mov (by conv => lhs; whnf) ?_) | (refine m_gtr rfl rfl ?_) | (refine m_sub rfl rfl ?_ ?_ ?_; (· omega); (· omega)) | (refine m_pick_f rfl ?_ (by conv => lhs; whnf) ?_; (· first | rfl | assumption | (refine decide_eq_false ?_; first | assumption | omega) | (refine nf ?_; first | assumption | omega) | (simp [*]; done)))))) | refine end_ops ?_ | refine AW_ret ?_ | refine ret_done ?_)
      exact outs_b (decide_eq_decide.2 ⟨fun _ => h2, fun _ => by omega⟩)
    · have h2 : ¬ 1048576 < C.length + M.length := by omega
      repeat (first | (refine step_ops ?_; (refine m_mov (by conv => lhs; whnf) ?_)) | refine end_ops ?_ | refine seq_ops ?_)
      refine step_ops ?_
      refine m_len_bys rfl hc ?_
      repeat (refine step_ops ?_; ((try (refine g_yes rfl ?_ ?_; (· first | rfl | assumption | (refine decide_eq_true ?_; first | assumption | omega) | (refine nt ?_; first | assumption | omega) | (simp [*]; done) | (refine decide_eq_false ?_; first | assumption | omega) | (refine nf ?_; first | assumption | omega)))); (first | (refine m_mov (by conv => lhs; whnf) ?_) | (refine m_gtr rfl rfl ?_))))
      refine step_ops ?_
      refine g_yes rfl h0 ?_
      refine m_len_bys rfl hm ?_
      repeat (refine step_ops ?_; ((try (refine g_yes rfl ?_ ?_; (· first | rfl | assumption | (refine decide_eq_true ?_; first | assumption | omega) | (refine nt ?_; first | assumption | omega) | (simp [*]; done) | (refine decide_eq_false ?_; first | assumption | omega) | (refine nf ?_; first | assumption | omega)))); (refine m_mov (by conv => lhs; whnf) ?_)))
      refine step_ops ?_
      refine g_yes rfl h0 ?_
      refine m_len_bys rfl hc ?_
      repeat (first | (refine step_ops ?_; ((try (refine g_yes rfl ?_ ?_; (· first | rfl | assumption | (refine decide_eq_true ?_; first | assumption | omega) | (refine nt ?_; first | assumption | omega) | (simp [*]; done) | (refine decide_eq_false ?_; first | assumption | omega) | (refine nf ?_; first | assumption | omega)))); (first | (refine m_mov (by conv => lhs; whnf) ?_) | (refine m_gtr rfl rfl ?_) | (refine m_sub rfl rfl ?_ ?_ ?_; (· omega); (· omega)) | (refine m_pick_f rfl ?_ (by conv => lhs; whnf) ?_; (· first | rfl | assumption | (refine decide_eq_false ?_; first | assumption | omega) | (refine nf ?_; first | assumption | omega) | (simp [*]; done)))))) | refine end_ops ?_ | refine AW_ret ?_ | refine ret_done ?_)
      exact outs_b (decide_eq_decide.2 ⟨fun _ => by omega, fun hh => absurd hh h2⟩)
end Go.Proofs.YtmmcldbldbpikaaGreatDoor
namespace Go.Proofs.YtmmcldbldbpikaaGreatDoor
variable [Go.Am.CodeBlk]
open Go.Am
attribute [local irreducible] AW Outs Weak Lends Lend Sp aops atree aop1 Then Round InBlock Done
attribute [local irreducible] SpM DoneM SpH DoneH
theorem taTurned_spec (L : List Int) (k : Nat) (hL : L.length ≤ 400) (hk : k ≤ L.length) : Sp Tryz.prog 51 [ints L, .i k] (newInts (turnT L k)) := by
  have hd : (L.drop k).length + (L.take k).length = L.length := by simp; omega
  have hx : (L.drop k).map AV.i ++ (L.take k).map AV.i = (turnT L k).map AV.i := by unfold turnT; rw [List.map_append]
  have hl := turnT_len L k
  refine spec_of Tryz.func51 rfl cc51 rfl ?_
  unfold ac51
  repeat (first | ((first | refine step_ops ?_ | refine step_tree ?_); (first | (refine m_mov (by conv => lhs; whnf) ?_) | (refine m_cut_lo rfl rfl ?_ ?_ ?_; (· first | rfl | omega | simp); (· first | omega | (simp; omega))) | (refine m_nils ?_))) | refine end_ops ?_ | refine seq_ops ?_ | refine seq_tree ?_)
  refine step_own ?_; (apply m_owno (l1Own_spec (L.drop k) (by omega))); (· repeat (first | exact lends_nil | (refine lends_cons ?_ ?_; (· (refine lend_ints ?_; first | rfl | omega))))); (· first | exact allv_ints _ | rfl | (simp; done))
  repeat' (first | ((first | (refine step_tree ?_; (first | (refine m_mov (by conv => lhs; whnf) ?_) | (refine m_cut_hi rfl rfl ?_ ?_ ?_; (· first | rfl | omega | simp); (· first | omega | (simp; omega))) | (refine m_appro rfl (by decide) rfl (by first | rfl | (simp; done) | (simp [*]; done) | (simp; omega)) rfl (oks_ints _) ?_ (by decide) ?_; (· first | omega | (simp; omega))))) | refine end_tree ?_ | refine AW_ret ?_ | refine ret_done ?_)) | (refine step_two ?_ ?_))
  all_goals
    refine outs_ints (cs := (L.drop k).map AV.i ++ (L.take k).map AV.i) rfl hx ?_
    rw [hl]; omega
/-- A table and a place of it. -/
def TuOk (L : List Int) (b : Int) : Prop := IsTab L ∧ 0 ≤ b ∧ b < L.length
instance (L : List Int) (b : Int) : Decidable (TuOk L b) := inferInstanceAs (Decidable (_ ∧ _))
end Go.Proofs.YtmmcldbldbpikaaGreatDoor
namespace Go.Proofs.YtmmcldbldbpikaaGreatDoor
variable [Go.Am.CodeBlk]
open Go.Am
attribute [local irreducible] AW Outs Weak Lends Lend Sp aops atree aop1 Then Round InBlock Done
attribute [local irreducible] SpH SpX DoneH
theorem tab_zero {M : List Int} (h : IsTab M) : (0 : Int) ∈ M := tab_mem h (i := 0) (by have := h.1; omega)
theorem who_tab {M : List Int} (h : IsTab M) : ∃ k : Nat, whoIs M 0 = k ∧ k ≤ M.length := by
  have h0 := tab_zero h
  unfold whoIs
  rw [if_pos h0]
  exact ⟨_, rfl, Nat.le_of_lt (List.idxOf_lt_length_of_mem h0)⟩
theorem lend_all {hp : Nat → Option (Bool × List AV)} {r : Nat} {M : List Int} (hr : hp r = some (true, M.map AV.i)) : Lend hp (.sl r 1 0 M.length) (ints M) := by
  have h := lend_cutS hr (Nat.le_refl M.length)
  rw [List.take_length] at h
  exact h
theorem drawTog_spec {v : Value} {L : List UInt8} (hv : Bys v L) (hL : L.length ≤ 1048576) :
    SpX Tryz.prog 5 [.v v] (Am.look []) (ι := Int × Int) (fun _ => True) (fun m => .tup [.i m.1, .i m.2]) (fun _ => Am.look []) := by
  have hpb : ∀ r, (Am.look ([] : List (Nat × (Bool × List AV))) r).isSome = true → pbase ≤ r := fun r hr => by simp [Am.look] at hr
  have hsta : ∀ m : Int × Int, True → Static (Am.look []) (.tup [.i m.1, .i m.2]) (Am.look []) := fun m _ => static_R (by simp) (by simp) ⟨rfl, rfl⟩
  refine specX_of Tryz.func5 rfl cc5 rfl hpb hsta ?_
  unfold ac5
  clear hpb hsta
  have hv1 := bys_cell hv
  have hc := curCouples_spec hv hL 0 (by omega) 0
  repeat (first | (refine step_ops ?_; (refine m_mov (by conv => lhs; whnf) ?_)) | refine end_ops ?_ | refine seq_ops ?_)
  refine step_ops ?_
  refine m_bldC hv1 rfl ?_
  refine step_ops ?_
  refine m_boxC hv1 rfl ?_
  repeat (first | (refine step_ops ?_; (refine m_mov (by conv => lhs; whnf) ?_)) | refine end_ops ?_ | refine seq_ops ?_)
  refine step_ops ?_
  refine m_curA (r := 7) hc rfl (lendH_cons (lend_cur rfl) lendH_nil) ⟨((0, 0), 0, 0), show 0 ≤ 0 + 10 by omega⟩ (fun i => ⟨rfl, rfl⟩) ?_
  rintro ⟨⟨m, m2⟩, a3, z3⟩ ha3
  dsimp only at ha3 ⊢
  repeat (first | (refine step_ops ?_; (first | (refine m_mov (by conv => lhs; whnf) ?_) | (refine m_ext rfl rfl ?_))) | refine end_ops ?_ | refine AW_ret ?_)
  exact ⟨(m, m2), trivial, ret_R (hl := []) (ho := []) id rfl trivial (by simp) (by simp) (by simp)⟩
theorem drawRound_spec {v : Value} {L : List UInt8} (hv : Bys v L) (hL : L.length ≤ 1048576) :
    SpX Tryz.prog 12 [.v v] (Am.look []) (ι := Int) (fun _ => True) (fun m => .i m) (fun _ => Am.look []) := by
  have hpb : ∀ r, (Am.look ([] : List (Nat × (Bool × List AV))) r).isSome = true → pbase ≤ r := fun r hr => by simp [Am.look] at hr
  have hsta : ∀ m : Int, True → Static (Am.look []) (.i m) (Am.look []) := fun m _ => static_R (by simp) (by simp) ⟨rfl, rfl⟩
  refine specX_of Tryz.func12 rfl cc12 rfl hpb hsta ?_
  unfold ac12
  clear hpb hsta
  have hv1 := bys_cell hv
  have hc := curCouples_spec hv hL 0 (by omega) 0
  repeat (first | (refine step_ops ?_; (refine m_mov (by conv => lhs; whnf) ?_)) | refine end_ops ?_ | refine seq_ops ?_)
  refine step_ops ?_
  refine m_bldC hv1 rfl ?_
  refine step_ops ?_
  refine m_boxC hv1 rfl ?_
  repeat (first | (refine step_ops ?_; (refine m_mov (by conv => lhs; whnf) ?_)) | refine end_ops ?_ | refine seq_ops ?_)
  refine step_ops ?_
  refine m_curA (r := 8) hc rfl (lendH_cons (lend_cur rfl) lendH_nil) ⟨((0, 0), 0, 0), show 0 ≤ 0 + 10 by omega⟩ (fun i => ⟨rfl, rfl⟩) ?_
  rintro ⟨⟨m, m2⟩, a3, z3⟩ ha3
  dsimp only at ha3 ⊢
  repeat (first | (refine step_ops ?_; (first | (refine m_mov (by conv => lhs; whnf) ?_) | (refine m_ext rfl rfl ?_))) | refine end_ops ?_ | refine seq_ops ?_ | refine AW_ret ?_)
  exact ⟨m, trivial, ret_R (hl := []) (ho := []) id rfl trivial (by simp) (by simp) (by simp)⟩
theorem drawTable_spec {v : Value} {L : List UInt8} (hv : Bys v L) (hL : L.length ≤ 1048576) :
    SpX Tryz.prog 21 [.v v] (Am.look []) (ι := List Int) (fun M => M.length ≤ 16) (fun M => .sl nbase 1 0 M.length) (fun M => Am.look [(nbase, (true, M.map AV.i))]) := by
  have hpb : ∀ r, (Am.look ([] : List (Nat × (Bool × List AV))) r).isSome = true → pbase ≤ r := fun r hr => by simp [Am.look] at hr
  have hsta : ∀ M : List Int, M.length ≤ 16 → Static (Am.look []) (.sl nbase 1 0 M.length) (Am.look [(nbase, (true, M.map AV.i))]) := fun M _ =>
    static_R (by simp) (fun p hp => by rw [List.mem_singleton] at hp; subst hp; exact ⟨ints_ownC _ _, ints_refsC _ _⟩) ⟨rfl, rfl⟩
  refine specX_of Tryz.func21 rfl cc21 rfl hpb hsta ?_
  unfold ac21
  clear hpb hsta
  have hv1 := bys_cell hv
  have hc := curTable_spec hv hL 0 (by omega) 0 5 (by omega)
  repeat (first | (refine step_ops ?_; (first | (refine m_mov (by conv => lhs; whnf) ?_) | (refine m_nils ?_))) | refine end_ops ?_ | refine seq_ops ?_)
  refine step_ops ?_
  refine m_bldC hv1 rfl ?_
  refine step_ops ?_
  refine m_boxC hv1 rfl ?_
  repeat (first | (refine step_ops ?_; (refine m_mov (by conv => lhs; whnf) ?_)) | refine end_ops ?_ | refine seq_ops ?_)
  refine step_ops ?_
  refine m_curL (r := 7) (q := 1000) hc rfl rfl (by decide) (lendH_cons (lend_curN rfl) (lendH_cons lendH_v lendH_nil)) ⟨([], 0, 0), by simp, show 0 ≤ 0 + 100 by omega⟩ ?_
  rintro ⟨M, a3, z3⟩ ⟨hM, ha3⟩
  dsimp only at hM ha3 ⊢
  have hg := taGood_spec M (by omega)
  repeat (first | (refine step_ops ?_; (refine m_mov (by conv => lhs; whnf) ?_)) | refine end_ops ?_ | refine seq_ops ?_ | refine AW_seq ?_)
  refine step_ops ?_
  refine m_call hg (lends_cons (lend_all (M := M) rfl) lends_nil) ?_
  by_cases ht : IsTab M
  · obtain ⟨k, hk, hkl⟩ := who_tab ht
    have hw := exWho_spec M 0 (by omega)
    rw [hk] at hw
    have hu := taTurned_spec M k (by omega) hkl
    have hul := turnT_len M k
    rw [decide_eq_true ht]
    repeat (refine step_ops ?_; ((try (refine g_yes rfl ?_ ?_; (· first | rfl | assumption | (refine decide_eq_true ?_; first | assumption | omega) | (refine nt ?_; first | assumption | omega) | (simp [*]; done) | (refine decide_eq_false ?_; first | assumption | omega) | (refine nf ?_; first | assumption | omega)))); (refine m_mov (by conv => lhs; whnf) ?_)))
    refine step_ops ?_
    refine g_yes rfl rfl ?_
    refine m_cur (r := 7) (curOne_spec hv hL a3 (by omega) z3 6 (by omega)) rfl (lendH_cons (lend_cur rfl) (lendH_cons lendH_v lendH_nil)) ⟨(true, a3, z3), show a3 ≤ a3 + 2 by omega⟩ ?_
    rintro ⟨b, a4, z4⟩ ha4
    dsimp only at ha4 ⊢
    cases b with
    | true =>
      repeat (first | (refine step_ops ?_; ((try (refine g_yes rfl ?_ ?_; (· first | rfl | assumption | (refine decide_eq_true ?_; first | assumption | omega) | (refine nt ?_; first | assumption | omega) | (simp [*]; done) | (refine decide_eq_false ?_; first | assumption | omega) | (refine nf ?_; first | assumption | omega)))); (first | (refine m_mov (by conv => lhs; whnf) ?_) | (refine m_not rfl ?_) | (refine m_pick_t rfl ?_ (by conv => lhs; whnf) ?_; (· first | rfl | assumption | (refine decide_eq_true ?_; first | assumption | omega) | (refine nt ?_; first | assumption | omega) | (simp [*]; done)))))) | refine end_ops ?_ | refine seq_ops ?_ | (refine cond_f rfl ?_ ?_; (· first | rfl | assumption | (refine decide_eq_false ?_; first | assumption | omega) | (refine nf ?_; first | assumption | omega) | (simp [*]; done))) | refine skip_then ?_ | refine AW_ret ?_)
      exact ⟨M, hM, ret_R (hl := []) (ho := [(nbase, (true, M.map AV.i))]) (fun _ => 1000) rfl ⟨⟨_, rfl, .inl (congrArg (Prod.mk true) (renL_ints _ _).symm)⟩, trivial⟩ (by simp) (by intro p hp; exact .inr (by decide)) (by simp)⟩
    | false =>
      repeat (first | (refine step_ops ?_; ((try (refine g_yes rfl ?_ ?_; (· first | rfl | assumption | (refine decide_eq_true ?_; first | assumption | omega) | (refine nt ?_; first | assumption | omega) | (simp [*]; done) | (refine decide_eq_false ?_; first | assumption | omega) | (refine nf ?_; first | assumption | omega)))); (first | (refine m_mov (by conv => lhs; whnf) ?_) | (refine m_not rfl ?_) | (refine m_pick_t rfl ?_ (by conv => lhs; whnf) ?_; (· first | rfl | assumption | (refine decide_eq_true ?_; first | assumption | omega) | (refine nt ?_; first | assumption | omega) | (simp [*]; done)))))) | refine end_ops ?_ | refine seq_ops ?_ | (refine cond_t rfl ?_ ?_; (· first | rfl | assumption | (refine decide_eq_true ?_; first | assumption | omega) | (refine nt ?_; first | assumption | omega) | (simp [*]; done))))
      refine step_ops ?_
      refine m_call hw (lends_cons (lend_all (M := M) rfl) (lends_cons lend_v lends_nil)) ?_
      refine step_ops ?_
      refine m_callo hu (lends_cons (lend_all (M := M) rfl) (lends_cons lend_v lends_nil)) (allv_ints _) ?_
      repeat (first | (refine step_ops ?_; (refine m_mov (by conv => lhs; whnf) ?_)) | refine end_ops ?_ | refine AW_ret ?_ | refine ret_then ?_)
      exact ⟨turnT M k, show (turnT M k).length ≤ 16 by omega, ret_R (hl := []) (ho := [(nbase, (true, (turnT M k).map AV.i))]) (fun _ => 20) rfl ⟨⟨_, rfl, .inl (congrArg (Prod.mk true) (renL_ints _ _).symm)⟩, trivial⟩ (by simp) (by intro p hp; exact .inr (by decide)) (by simp)⟩
  · rw [decide_eq_false ht]
    repeat (first | (refine step_ops ?_; (first | (first | (refine m_mov (by conv => lhs; whnf) ?_) | (refine m_pick_f rfl ?_ (by conv => lhs; whnf) ?_; (· first | rfl | assumption | (refine decide_eq_false ?_; first | assumption | omega) | (refine nf ?_; first | assumption | omega) | (simp [*]; done)))) | (refine g_noT rfl ?_ ?_; (· first | rfl | assumption | (refine decide_eq_false ?_; first | assumption | omega) | (refine nf ?_; first | assumption | omega) | (simp [*]; done))))) | refine end_ops ?_ | refine seq_ops ?_ | (refine cond_f rfl ?_ ?_; (· first | rfl | assumption | (refine decide_eq_false ?_; first | assumption | omega) | (refine nf ?_; first | assumption | omega) | (simp [*]; done))) | refine skip_then ?_ | refine AW_ret ?_)
    exact ⟨M, hM, ret_R (hl := []) (ho := [(nbase, (true, M.map AV.i))]) (fun _ => 1000) rfl ⟨⟨_, rfl, .inl (congrArg (Prod.mk true) (renL_ints _ _).symm)⟩, trivial⟩ (by simp) (by intro p hp; exact .inr (by decide)) (by simp)⟩
end Go.Proofs.YtmmcldbldbpikaaGreatDoor
namespace Go.Am
variable [Go.Am.CodeBlk]
theorem g_unt {P : Program} {own : Bool} {s : AS} {K : AS → Prop} {d : Option Nat} {op : AOp} {t : Nat} {w : Bool} (h : s.tm t = .v undef) (k : K (s.put d (.v undef))) : aop1 P own ⟨d, op, some (t, w)⟩ s K := .inr ⟨h, k⟩
end Go.Am
namespace Go.Proofs.YtmmcldbldbpikaaGreatDoor
variable [Go.Am.CodeBlk]
open Go.Am
attribute [local irreducible] AW Outs Weak Lends Lend Sp aops atree aop1 Then Round InBlock Done
attribute [local irreducible] SpH SpX DoneH DoneX
/-- The first part of a code. -/
def fstC : ACode → ACode
  | .seq x _ => x
  | c => c
def sndN : Nat → ACode → ACode
  | 0, c => c
  | n + 1, c => sndN n (sndC c)
theorem xor_self (b : Bool) : (true ^^ (b == b)) = false := by cases b <;> rfl
def twF : ACode := sndN 26 ac3
def twE : ACode := sndN 25 ac3
def twD : ACode := sndN 24 ac3
def twC : ACode := sndN 23 ac3
set_option maxRecDepth 20000 in
theorem tw6 (m : Int) : AW Tryz.prog (min Tryz.f3.ntmps pbase) twF (st [(19, .i m), (34, newInts ((frstT m).getD [])), (35, .b (frstT m).isSome)] []) (Done [4].reverse (.b true)) := by
  by_cases h5 : 1 ≤ m ∧ m ≤ 7
  · obtain ⟨c, rfl⟩ := Int.eq_ofNat_of_zero_le (show 0 ≤ m by omega)
    by_cases h1 : 1 < c
    · obtain ⟨F, hF, _⟩ := frst_ok (c := c) h1 (by omega)
      by_cases h4 : c < 4
      · obtain ⟨⟨w1, w2, w3, w4⟩, wn⟩ := allA_walk c h4 h1
        have hlen : ∀ k, k < (allA c).length → ((allA c).getD k []).length ≤ 14 := fun k hk => by
          have := (apart_tab (c := c) (by omega) (by omega) (x := (allA c).getD k []) (by
            have hm : (allA c).getD k [] ∈ allA c := by simp [hk]
            exact hm)).1
          omega
        have hct := implCountTogether_spec (c : Nat) 0
        obtain ⟨o1, o2, _⟩ := tog_at (c := c) (t := 0) (by omega) (by omega) (Nat.zero_le _)
        rw [show (((0 : Nat) : Int)) = 0 from rfl] at o1 o2
        rw [o2, decide_eq_true o1, ← w4] at hct
        rw [w1]
        generalize allA c = G at *
        show AW _ _ twF (st [(19, .i (c : Nat)), (34, newInts (G.getD 0 [])), (35, .b true)] []) _
        unfold twF
        unfold ac3
        simp only [sndN, sndC]
        repeat (first | (refine step_ops ?_; ((try (refine g_yes rfl ?_ ?_; (· first | rfl | assumption | (refine decide_eq_true ?_; first | assumption | omega) | (refine nt ?_; first | assumption | omega) | (simp [*]; done) | (refine decide_eq_false ?_; first | assumption | omega) | (refine nf ?_; first | assumption | omega)))); (first | (refine m_mov (by conv => lhs; whnf) ?_) | (refine m_lss rfl rfl ?_) | (refine m_pick_t rfl ?_ (by conv => lhs; whnf) ?_; (· first | rfl | assumption | (refine decide_eq_true ?_; first | assumption | omega) | (refine nt ?_; first | assumption | omega) | (simp [*]; done)))))) | refine end_ops ?_ | refine seq_ops ?_ | (refine cond_t rfl ?_ ?_; (· first | rfl | assumption | (refine decide_eq_true ?_; first | assumption | omega) | (refine nt ?_; first | assumption | omega) | (simp [*]; done))) | refine AW_seq ?_ | refine AW_block ?_)
        refine AW_loop (α := Nat) (fun k => 1 ≤ k ∧ k ≤ G.length) (fun k => st [(19, .i (c : Nat)), (59, .i (k : Nat)), (60, newInts (G.getD (k - 1) []))] []) (fun k => G.length - k) 1 ⟨Nat.le_refl _, w2⟩ (weak_st ?_ ?_ rfl rfl) ?_
        · (repeat' (first | exact trivial | refine And.intro ?_ ?_)) <;> (first | rfl | skip)
        · trivial
        rintro k ⟨hk1, hk2⟩
        have hn := wn (k - 1) (by omega)
        rw [show k - 1 + 1 = k by omega] at hn
        have hs := implNextApart_spec (G.getD (k - 1) []) (by have := hlen (k - 1) (by omega); omega)
        unfold srchR at hs
        by_cases hc : k < G.length
        · rw [if_pos hc] at hn
          rw [hn] at hs
          replace hs : Sp Tryz.prog 22 [ints (G.getD (k - 1) [])] (.tup [newInts (G.getD k []), .b true]) := hs
          repeat (first | (refine step_ops ?_; (first | (refine m_mov (by conv => lhs; whnf) ?_) | (refine m_lss rfl rfl ?_))) | refine end_ops ?_ | refine seq_ops ?_ | (refine cond_t rfl ?_ ?_; (· first | rfl | assumption | (refine decide_eq_true ?_; first | assumption | omega) | (refine nt ?_; first | assumption | omega) | (simp [*]; done))) | refine skip_then ?_ | refine AW_seq ?_ | refine AW_block ?_)
          refine step_ops ?_; (apply m_call (hs)); (· repeat (first | exact lends_nil | (refine lends_cons ?_ ?_; (· (refine lend_ints ?_; first | rfl | omega)))))
          repeat (first | (refine step_ops ?_; (first | (refine m_mov (by conv => lhs; whnf) ?_) | (refine m_add rfl rfl ?_ ?_ ?_; (· omega); (· omega)) | (refine m_not rfl ?_) | (refine m_ext rfl rfl ?_))) | refine end_ops ?_ | refine seq_ops ?_ | refine AW_ops ?_ | (refine cond_f rfl ?_ ?_; (· first | rfl | assumption | (refine decide_eq_false ?_; first | assumption | omega) | (refine nf ?_; first | assumption | omega) | (simp [*]; done))) | refine skip_then ?_ | refine AW_seq ?_ | refine norm_block ?_)
          refine next_round (k + 1) ⟨by omega, by omega⟩ (weak_st ?_ ?_ rfl rfl) (by omega)
          · (repeat' (first | exact trivial | refine And.intro ?_ ?_)) <;> (first | rfl | skip)
          · trivial
        · rw [if_neg hc] at hn
          rw [hn] at hs
          replace hs : Sp Tryz.prog 22 [ints (G.getD (k - 1) [])] (.tup [newInts [], .b false]) := hs
          have he : ((G.length : Nat) : Int) = (k : Nat) := by omega
          repeat (first | (refine step_ops ?_; (first | (refine m_mov (by conv => lhs; whnf) ?_) | (refine m_lss rfl rfl ?_))) | refine end_ops ?_ | refine seq_ops ?_ | (refine cond_t rfl ?_ ?_; (· first | rfl | assumption | (refine decide_eq_true ?_; first | assumption | omega) | (refine nt ?_; first | assumption | omega) | (simp [*]; done))) | refine skip_then ?_ | refine AW_seq ?_ | refine AW_block ?_)
          refine step_ops ?_; (apply m_call (hs)); (· repeat (first | exact lends_nil | (refine lends_cons ?_ ?_; (· (refine lend_ints ?_; first | rfl | omega)))))
          repeat (first | (refine step_ops ?_; (first | (refine m_mov (by conv => lhs; whnf) ?_) | (refine m_not rfl ?_) | (refine m_ext rfl rfl ?_))) | refine end_ops ?_ | refine seq_ops ?_ | (refine cond_t rfl ?_ ?_; (· first | rfl | assumption | (refine decide_eq_true ?_; first | assumption | omega) | (refine nt ?_; first | assumption | omega) | (simp [*]; done))) | refine AW_seq ?_ | refine norm_then ?_ | refine exit_then ?_ | refine exit_round ?_ | refine AW_exit ?_ | refine exit_block ?_ | (refine exit_other ?_ ?_; (· decide)))
          refine step_ops ?_; (apply m_call (hct)); (· repeat (first | exact lends_nil | (refine lends_cons ?_ ?_; (· exact lend_v))))
          repeat (first | (refine step_ops ?_; ((try (refine g_yes rfl ?_ ?_; (· first | rfl | assumption | (refine decide_eq_true ?_; first | assumption | omega) | (refine nt ?_; first | assumption | omega) | (simp [*]; done) | (refine decide_eq_false ?_; first | assumption | omega) | (refine nf ?_; first | assumption | omega)))); (first | (refine m_mov (by conv => lhs; whnf) ?_) | (refine m_eql rfl rfl ?_) | (refine m_pick_t rfl ?_ (by conv => lhs; whnf) ?_; (· first | rfl | assumption | (refine decide_eq_true ?_; first | assumption | omega) | (refine nt ?_; first | assumption | omega) | (simp [*]; done))) | (refine m_ext rfl rfl ?_)))) | refine end_ops ?_ | refine seq_ops ?_ | refine AW_ret ?_ | refine ret_done ?_ | refine ret_then ?_)
          exact outs_b (decide_eq_true he)
      · rw [hF]
        show AW _ _ twF (st [(19, .i (c : Nat)), (34, newInts F), (35, .b true)] []) _
        unfold twF
        unfold ac3
        simp only [sndN, sndC]
        repeat (first | (refine step_ops ?_; ((try (refine g_yes rfl ?_ ?_; (· first | rfl | assumption | (refine decide_eq_true ?_; first | assumption | omega) | (refine nt ?_; first | assumption | omega) | (simp [*]; done) | (refine decide_eq_false ?_; first | assumption | omega) | (refine nf ?_; first | assumption | omega)))); (first | (refine m_mov (by conv => lhs; whnf) ?_) | (refine m_lss rfl rfl ?_) | (refine m_pick_t rfl ?_ (by conv => lhs; whnf) ?_; (· first | rfl | assumption | (refine decide_eq_true ?_; first | assumption | omega) | (refine nt ?_; first | assumption | omega) | (simp [*]; done)))))) | refine end_ops ?_ | refine seq_ops ?_ | (refine cond_f rfl ?_ ?_; (· first | rfl | assumption | (refine decide_eq_false ?_; first | assumption | omega) | (refine nf ?_; first | assumption | omega) | (simp [*]; done))) | refine skip_then ?_ | refine AW_seq ?_ | refine AW_ret ?_ | refine ret_done ?_)
        exact outs_b rfl
    · have hs := frst_some c (by omega) (by omega)
      rw [decide_eq_false h1] at hs
      rw [hs]
      generalize (frstT ((c : Nat) : Int)).getD [] = F
      unfold twF
      unfold ac3
      simp only [sndN, sndC]
      repeat (first | (refine step_ops ?_; (first | (first | (refine m_mov (by conv => lhs; whnf) ?_) | (refine m_pick_f rfl ?_ (by conv => lhs; whnf) ?_; (· first | rfl | assumption | (refine decide_eq_false ?_; first | assumption | omega) | (refine nf ?_; first | assumption | omega) | (simp [*]; done)))) | (refine g_noT rfl ?_ ?_; (· first | rfl | assumption | (refine decide_eq_false ?_; first | assumption | omega) | (refine nf ?_; first | assumption | omega) | (simp [*]; done))))) | refine end_ops ?_ | refine seq_ops ?_ | (refine cond_f rfl ?_ ?_; (· first | rfl | assumption | (refine decide_eq_false ?_; first | assumption | omega) | (refine nf ?_; first | assumption | omega) | (simp [*]; done))) | refine skip_then ?_ | refine AW_seq ?_ | refine AW_ret ?_ | refine ret_done ?_)
      exact outs_b rfl
  · have hs : frstT m = none := if_neg h5
    rw [hs]
    show AW _ _ twF (st [(19, .i m), (34, newInts []), (35, .b false)] []) _
    unfold twF
    unfold ac3
    simp only [sndN, sndC]
    repeat (first | (refine step_ops ?_; (first | (first | (refine m_mov (by conv => lhs; whnf) ?_) | (refine m_pick_f rfl ?_ (by conv => lhs; whnf) ?_; (· first | rfl | assumption | (refine decide_eq_false ?_; first | assumption | omega) | (refine nf ?_; first | assumption | omega) | (simp [*]; done)))) | (refine g_noT rfl ?_ ?_; (· first | rfl | assumption | (refine decide_eq_false ?_; first | assumption | omega) | (refine nf ?_; first | assumption | omega) | (simp [*]; done))))) | refine end_ops ?_ | refine seq_ops ?_ | (refine cond_f rfl ?_ ?_; (· first | rfl | assumption | (refine decide_eq_false ?_; first | assumption | omega) | (refine nf ?_; first | assumption | omega) | (simp [*]; done))) | refine skip_then ?_ | refine AW_seq ?_ | refine AW_ret ?_ | refine ret_done ?_)
    exact outs_b rfl
theorem coup_none {N : List Int} (ht : IsTab N) (h0 : aroundT N = 0) : Sp Tryz.prog 25 [ints N] (.tup [newInts [], .b true]) := by
  have h := implCouplesTogether_spec N (by have := ht.2.1; omega)
  rw [h0, togR, if_pos ht, nums_zero, decide_eq_true ht] at h
  exact h
theorem tw5 (m : Int) (L : List Int) (hL : L.length ≤ 10000) : AW Tryz.prog (min Tryz.f3.ntmps pbase) twE (st [(19, .i m), (38, ints L), (34, newInts ((frstT m).getD [])), (35, .b (frstT m).isSome), (39, newInts ((nextT L).getD [])), (40, .b (nextT L).isSome)] []) (Done [4].reverse (.b true)) := by
  have h6 := tw6 m
  have hp : twE = .seq (fstC twE) twF := rfl
  rw [hp]
  clear hp
  generalize twF = c6 at *
  generalize (frstT m).getD [] = R1 at *
  generalize (frstT m).isSome = B1 at *
  cases hN : nextT L with
  | none =>
    show AW _ _ _ (st [(19, .i m), (38, ints L), (34, newInts R1), (35, .b B1), (39, newInts []), (40, .b false)] []) _
    unfold twE
    unfold ac3
    simp only [sndN, sndC, fstC]
    repeat (first | (refine step_ops ?_; (refine m_mov (by conv => lhs; whnf) ?_)) | refine end_ops ?_ | refine seq_ops ?_ | (refine cond_f rfl ?_ ?_; (· first | rfl | assumption | (refine decide_eq_false ?_; first | assumption | omega) | (refine nf ?_; first | assumption | omega) | (simp [*]; done))) | refine skip_then ?_ | refine AW_seq ?_)
    refine AW_weak (weak_st ?_ ?_ rfl rfl) h6
    · (repeat' (first | exact trivial | refine And.intro ?_ ?_)) <;> (first | rfl | skip)
    · trivial
  | some N =>
    obtain ⟨n1, n2, n3, n4, n5⟩ := next_ok hN
    have hc := coup_none n2 n3
    have hv := vBefore_spec L N (by omega) n1
    rw [n5] at hv
    have n6 : 0 < N.length := by have := n2.1; omega
    have n7 : N.getD (Int.toNat 0 * 1) 0 = 0 := n4
    have n8 : N[0]?.getD 0 = 0 := by simpa [List.getD_eq_getElem?_getD] using n4
    show AW _ _ _ (st [(19, .i m), (38, ints L), (34, newInts R1), (35, .b B1), (39, newInts N), (40, .b true)] []) _
    unfold twE
    unfold ac3
    simp only [sndN, sndC, fstC]
    repeat (first | (refine step_ops ?_; (refine m_mov (by conv => lhs; whnf) ?_)) | refine end_ops ?_ | refine seq_ops ?_ | (refine cond_t rfl ?_ ?_; (· first | rfl | assumption | (refine decide_eq_true ?_; first | assumption | omega) | (refine nt ?_; first | assumption | omega) | (simp [*]; done))) | refine AW_seq ?_)
    refine step_ops ?_; (apply m_call (hc)); (· repeat (first | exact lends_nil | (refine lends_cons ?_ ?_; (· (refine lend_ints ?_; first | rfl | omega)))))
    repeat (first | (refine step_ops ?_; ((try (refine g_yes rfl ?_ ?_; (· first | rfl | assumption | (refine decide_eq_true ?_; first | assumption | omega) | (refine nt ?_; first | assumption | omega) | (simp [*]; done) | (refine decide_eq_false ?_; first | assumption | omega) | (refine nf ?_; first | assumption | omega)))); (first | (refine m_mov (by conv => lhs; whnf) ?_) | (refine m_neq rfl rfl ?_) | (refine m_not rfl ?_) | (refine m_len_ro rfl ?_) | (refine m_idx1_ro rfl rfl ?_ ?_; (· omega)) | (refine m_ld_rpi rfl ?_ ?_; (· omega)) | (refine m_pick_f rfl ?_ (by conv => lhs; whnf) ?_; (· first | rfl | assumption | (refine decide_eq_false ?_; first | assumption | omega) | (refine nf ?_; first | assumption | omega) | (simp [*]; done))) | (refine m_ext rfl rfl ?_)))) | refine end_ops ?_ | refine seq_ops ?_)
    refine step_ops ?_; (refine g_yes rfl ?_ ?_; (· first | (first | rfl | assumption | (refine decide_eq_true ?_; first | assumption | omega) | (refine nt ?_; first | assumption | omega) | (simp [*]; done)) | (first | rfl | assumption | (refine decide_eq_false ?_; first | assumption | omega) | (refine nf ?_; first | assumption | omega) | (simp [*]; done))); (apply m_call (hv))); (· repeat (first | exact lends_nil | (refine lends_cons ?_ ?_; (· (refine lend_ints ?_; first | rfl | omega)))))
    repeat (first | (refine step_ops ?_; ((try (refine g_yes rfl ?_ ?_; (· first | rfl | assumption | (refine decide_eq_true ?_; first | assumption | omega) | (refine nt ?_; first | assumption | omega) | (simp [*]; done) | (refine decide_eq_false ?_; first | assumption | omega) | (refine nf ?_; first | assumption | omega)))); (first | (refine m_not rfl ?_) | (refine m_pick_f rfl ?_ (by conv => lhs; whnf) ?_; (· first | rfl | assumption | (refine decide_eq_false ?_; first | assumption | omega) | (refine nf ?_; first | assumption | omega) | (simp [*]; done)))))) | refine end_ops ?_ | (refine cond_f rfl ?_ ?_; (· first | rfl | assumption | (refine decide_eq_false ?_; first | assumption | omega) | (refine nf ?_; first | assumption | omega) | (simp [*]; done))) | refine skip_then ?_)
    refine AW_weak (weak_st ?_ ?_ rfl rfl) h6
    · (repeat' (first | exact trivial | refine And.intro ?_ ?_)) <;> (first | rfl | skip)
    · trivial
theorem tw4 (m : Int) (L : List Int) (hL : L.length ≤ 10000) : AW Tryz.prog (min Tryz.f3.ntmps pbase) twD (st [(19, .i m), (38, ints L), (34, newInts ((frstT m).getD [])), (35, .b (frstT m).isSome), (39, newInts ((nextT L).getD [])), (40, .b (nextT L).isSome)] []) (Done [4].reverse (.b true)) := by
  have h6 := tw5 m L hL
  have hp : twD = .seq (fstC twD) twE := rfl
  rw [hp]
  clear hp
  generalize twE = c6 at *
  generalize (nextT L).getD [] = R1 at *
  generalize (nextT L).isSome = B1 at *
  by_cases h5 : (frstT m).isSome = true
  · have hm : 1 ≤ m ∧ m ≤ 7 := by
      refine Classical.byContradiction fun hh => ?_
      rw [frstT, if_neg hh] at h5
      cases h5
    obtain ⟨c, rfl⟩ := Int.eq_ofNat_of_zero_le (show 0 ≤ m by omega)
    have h1 : 1 < c := by
      rw [frst_some c (by omega) (by omega), decide_eq_true_eq] at h5
      exact h5
    obtain ⟨N, hN, n1, n2, n3, n4⟩ := frst_ok (c := c) h1 (by omega)
    have hc := coup_none n2 n3
    have n6 : 0 < N.length := by have := n2.1; omega
    have n7 : N.getD (Int.toNat 0 * 1) 0 = 0 := n4
    have n8 : N[0]?.getD 0 = 0 := by simpa [List.getD_eq_getElem?_getD] using n4
    rw [hN] at h6 ⊢
    replace h6 : AW Tryz.prog (min Tryz.f3.ntmps pbase) c6 (st [(19, .i (c : Nat)), (38, ints L), (34, newInts N), (35, .b true), (39, newInts R1), (40, .b B1)] []) (Done [4].reverse (.b true)) := h6
    show AW _ _ _ (st [(19, .i (c : Nat)), (38, ints L), (34, newInts N), (35, .b true), (39, newInts R1), (40, .b B1)] []) _
    unfold twD
    unfold ac3
    simp only [sndN, sndC, fstC]
    repeat (first | (refine step_ops ?_; (refine m_mov (by conv => lhs; whnf) ?_)) | refine end_ops ?_ | refine seq_ops ?_ | (refine cond_t rfl ?_ ?_; (· first | rfl | assumption | (refine decide_eq_true ?_; first | assumption | omega) | (refine nt ?_; first | assumption | omega) | (simp [*]; done))) | refine AW_seq ?_)
    refine step_ops ?_; (apply m_call (hc)); (· repeat (first | exact lends_nil | (refine lends_cons ?_ ?_; (· (refine lend_ints ?_; first | rfl | omega)))))
    repeat (first | (refine step_ops ?_; ((try (refine g_yes rfl ?_ ?_; (· first | rfl | assumption | (refine decide_eq_true ?_; first | assumption | omega) | (refine nt ?_; first | assumption | omega) | (simp [*]; done) | (refine decide_eq_false ?_; first | assumption | omega) | (refine nf ?_; first | assumption | omega)))); (first | (refine m_mov (by conv => lhs; whnf) ?_) | (refine m_neq rfl rfl ?_) | (refine m_not rfl ?_) | (refine m_len_ro rfl ?_) | (refine m_idx1_ro rfl rfl ?_ ?_; (· omega)) | (refine m_ld_rpi rfl ?_ ?_; (· omega)) | (refine m_pick_f rfl ?_ (by conv => lhs; whnf) ?_; (· first | rfl | assumption | (refine decide_eq_false ?_; first | assumption | omega) | (refine nf ?_; first | assumption | omega) | (simp [*]; done))) | (refine m_ext rfl rfl ?_)))) | refine end_ops ?_ | refine seq_ops ?_ | (refine cond_f rfl ?_ ?_; (· first | rfl | assumption | (refine decide_eq_false ?_; first | assumption | omega) | (refine nf ?_; first | assumption | omega) | (simp [*]; done))) | refine skip_then ?_)
    refine AW_weak (weak_st ?_ ?_ rfl rfl) h6
    · (repeat' (first | exact trivial | refine And.intro ?_ ?_)) <;> (first | rfl | skip)
    · trivial
  · have h7 : (frstT m).isSome = false := by simpa using h5
    rw [h7] at h6 ⊢
    generalize (frstT m).getD [] = R2 at *
    unfold twD
    unfold ac3
    simp only [sndN, sndC, fstC]
    repeat (first | (refine step_ops ?_; (refine m_mov (by conv => lhs; whnf) ?_)) | refine end_ops ?_ | refine seq_ops ?_ | (refine cond_f rfl ?_ ?_; (· first | rfl | assumption | (refine decide_eq_false ?_; first | assumption | omega) | (refine nf ?_; first | assumption | omega) | (simp [*]; done))) | refine skip_then ?_ | refine AW_seq ?_)
    refine AW_weak (weak_st ?_ ?_ rfl rfl) h6
    · (repeat' (first | exact trivial | refine And.intro ?_ ?_)) <;> (first | rfl | skip)
    · trivial
end Go.Proofs.YtmmcldbldbpikaaGreatDoor
namespace Go.Proofs.YtmmcldbldbpikaaGreatDoor
variable [Go.Am.CodeBlk]
open Go.Am
attribute [local irreducible] AW Outs Weak Lends Lend Sp aops atree aop1 Then Round InBlock Done
attribute [local irreducible] SpH SpX DoneH DoneX
def twB2 : ACode := sndN 22 ac3
def twB : ACode := sndN 10 ac3
def twA2 : ACode := sndN 9 ac3
set_option maxRecDepth 20000 in
theorem tw3 (m : Int) (L : List Int) (hL : L.length ≤ 10000) : AW Tryz.prog (min Tryz.f3.ntmps pbase) twC (st [(19, .i m), (38, ints L), (20, .i (roundR m)), (21, .b (decide (1 ≤ m ∧ m ≤ 7))), (24, .i (inTurnR m)), (28, .i (chNum m)), (29, .i (chDen m)), (34, newInts ((frstT m).getD [])), (35, .b (frstT m).isSome), (39, newInts ((nextT L).getD [])), (40, .b (nextT L).isSome)] []) (Done [4].reverse (.b true)) := by
  have h6 := tw4 m L hL
  have hp : twC = .seq (fstC twC) twD := rfl
  rw [hp]
  clear hp
  generalize twD = c6 at *
  generalize (nextT L).getD [] = R1 at *
  generalize (nextT L).isSome = B1 at *
  generalize (frstT m).getD [] = R2 at *
  generalize (frstT m).isSome = B2 at *
  by_cases h : 1 ≤ m ∧ m ≤ 7
  · obtain ⟨c, rfl⟩ := Int.eq_ofNat_of_zero_le (show 0 ≤ m by omega)
    have h1 : 1 ≤ c := by omega
    have h7 : c ≤ 7 := by omega
    have e1 : roundR ((c : Nat) : Int) = fac (2 * c - 1) := by rw [roundR, if_pos h, Int.toNat_natCast]
    have e2 : inTurnR ((c : Nat) : Int) = fac c * fac (c - 1) := by rw [inTurnR, if_pos h, Int.toNat_natCast]
    obtain ⟨a1, a2, a3, a4, a5, a6, a7, a8, a9⟩ := tw_all c (by omega) h1
    rw [decide_eq_true h, e1, e2]
    have hf := fac14_le
    have hnum := tw_num c (by omega) h1
    have hsum := tw_sum c (by omega) h1
    have htog : ∀ k, k ≤ c → TogOk c k ∧ togNum c k = tN c k ∧ rowNum c k = rN c k ∧ turnNum c k = turnN c k := fun k hk => tog_at h1 h7 hk
    have a4' : rS c (c + 1) = 2 * (c : Int) * fac (2 * c - 1) := by rw [a2, a4]
    generalize hX : fac (2 * c - 1) = X at *
    generalize fac c * fac (c - 1) = Y at *
    generalize chNum ((c : Nat) : Int) = P at *
    generalize chDen ((c : Nat) : Int) = Q at *
    unfold twC
    unfold ac3
    simp only [sndN, sndC, fstC]
    repeat (first | (refine step_ops ?_; (refine m_mov (by conv => lhs; whnf) ?_)) | refine end_ops ?_ | refine seq_ops ?_ | (refine cond_t rfl ?_ ?_; (· first | rfl | assumption | (refine decide_eq_true ?_; first | assumption | omega) | (refine nt ?_; first | assumption | omega) | (simp [*]; done))) | refine AW_seq ?_ | refine AW_block ?_)
    refine AW_loop (α := Nat) (fun k => k ≤ c + 1) (fun k => st [(19, .i (c : Nat)), (38, ints L), (20, .i X), (24, .i Y), (28, .i P), (29, .i Q), (34, newInts R2), (35, .b B2), (39, newInts R1), (40, .b B1), (43, .i (tS c k)), (44, .i (rS c k)), (45, .i (uS c k)), (46, .i 1), (47, .i (k : Nat))] []) (fun k => c + 1 - k) 0 (Nat.zero_le _) (weak_st ?_ ?_ rfl rfl) ?_
    · (repeat' (first | exact trivial | refine And.intro ?_ ?_)) <;> (first | rfl | skip)
    · trivial
    · intro k hk
      by_cases hc : k < c + 1
      · obtain ⟨o1, o2, o3, o4⟩ := htog k (by omega)
        have c1 := implCountTogether_spec (c : Nat) (k : Nat)
        have c2 := implCountInRow_spec (c : Nat) (k : Nat)
        have c3 := implCountTurnTogether_spec (c : Nat) (k : Nat)
        rw [o2, decide_eq_true o1] at c1
        rw [o3, decide_eq_true o1] at c2
        rw [o4, decide_eq_true o1] at c3
        have n1 := hnum k hc
        have n2 := hsum k (by omega)
        have n3 := hsum (k + 1) (by omega)
        have s1 : tS c (k + 1) = tS c k + tN c k := rfl
        have s2 : rS c (k + 1) = rS c k + rN c k := rfl
        have s3 : uS c (k + 1) = uS c k + turnN c k := rfl
        by_cases hk0 : k = 0
        · subst hk0
          have a5' : X * P = tN c 0 * Q := a5.symm
          have b1 : 0 ≤ X * P ∧ X * P ≤ 9000000000000000000 := by rw [a5']; exact a6
          have b2 : decide (tN c 0 * Q ≠ X * P) = false := decide_eq_false fun hh => hh a5
          clear a5 a5'
          generalize tN c 0 = v1 at *
          generalize rN c 0 = v2 at *
          generalize turnN c 0 = v3 at *
          generalize tS c 0 = w1 at *
          generalize rS c 0 = w2 at *
          generalize uS c 0 = w3 at *
          repeat (first | (refine step_ops ?_; (first | (refine m_mov (by conv => lhs; whnf) ?_) | (refine m_leq rfl rfl ?_))) | refine end_ops ?_ | refine seq_ops ?_ | (refine cond_t rfl ?_ ?_; (· first | rfl | assumption | (refine decide_eq_true ?_; first | assumption | omega) | (refine nt ?_; first | assumption | omega) | (simp [*]; done))) | refine skip_then ?_ | refine AW_seq ?_ | refine AW_block ?_)
          refine step_ops ?_; (apply m_call (c1)); (· repeat (first | exact lends_nil | (refine lends_cons ?_ ?_; (· exact lend_v))))
          repeat (first | (refine step_ops ?_; (first | (refine m_mov (by conv => lhs; whnf) ?_) | (refine m_ext rfl rfl ?_))) | refine end_ops ?_ | refine seq_ops ?_)
          refine step_ops ?_; (apply m_call (c2)); (· repeat (first | exact lends_nil | (refine lends_cons ?_ ?_; (· exact lend_v))))
          repeat (first | (refine step_ops ?_; (first | (refine m_mov (by conv => lhs; whnf) ?_) | (refine m_ext rfl rfl ?_))) | refine end_ops ?_ | refine seq_ops ?_)
          refine step_ops ?_; (apply m_call (c3)); (· repeat (first | exact lends_nil | (refine lends_cons ?_ ?_; (· exact lend_v))))
          repeat (first | (refine step_ops ?_; ((try (refine g_yes rfl ?_ ?_; (· first | rfl | assumption | (refine decide_eq_true ?_; first | assumption | omega) | (refine nt ?_; first | assumption | omega) | (simp [*]; done) | (refine decide_eq_false ?_; first | assumption | omega) | (refine nf ?_; first | assumption | omega)))); (first | (refine m_mov (by conv => lhs; whnf) ?_) | (refine m_eql rfl rfl ?_) | (refine m_neq rfl rfl ?_) | (refine m_add rfl rfl ?_ ?_ ?_; (· omega); (· omega)) | (refine m_mul rfl rfl ?_ ?_ ?_; (· first | omega | (simp; done)); (· first | omega | (simp; done))) | (refine m_not rfl ?_) | (refine m_pick_t rfl ?_ (by conv => lhs; whnf) ?_; (· first | rfl | assumption | (refine decide_eq_true ?_; first | assumption | omega) | (refine nt ?_; first | assumption | omega) | (simp [*]; done))) | (refine m_pick_f rfl ?_ (by conv => lhs; whnf) ?_; (· first | rfl | assumption | (refine decide_eq_false ?_; first | assumption | omega) | (refine nf ?_; first | assumption | omega) | (simp [*]; done))) | (refine m_ext rfl rfl ?_)))) | refine end_ops ?_ | refine seq_ops ?_ | refine AW_ops ?_ | (refine cond_f rfl ?_ ?_; (· first | rfl | assumption | (refine decide_eq_false ?_; first | assumption | omega) | (refine nf ?_; first | assumption | omega) | (simp [*]; done))) | refine skip_then ?_ | refine AW_seq ?_ | refine norm_then ?_ | refine norm_block ?_)
          refine next_round (0 + 1) (by omega) (weak_st ?_ ?_ rfl rfl) (by omega)
          · rw [s1, s2, s3]; (repeat' (first | exact trivial | refine And.intro ?_ ?_)) <;> (first | rfl | skip)
          · trivial
        · generalize tN c k = v1 at *
          generalize rN c k = v2 at *
          generalize turnN c k = v3 at *
          generalize tS c k = w1 at *
          generalize rS c k = w2 at *
          generalize uS c k = w3 at *
          clear a6 a5
          repeat (first | (refine step_ops ?_; (first | (refine m_mov (by conv => lhs; whnf) ?_) | (refine m_leq rfl rfl ?_))) | refine end_ops ?_ | refine seq_ops ?_ | (refine cond_t rfl ?_ ?_; (· first | rfl | assumption | (refine decide_eq_true ?_; first | assumption | omega) | (refine nt ?_; first | assumption | omega) | (simp [*]; done))) | refine skip_then ?_ | refine AW_seq ?_ | refine AW_block ?_)
          refine step_ops ?_; (apply m_call (c1)); (· repeat (first | exact lends_nil | (refine lends_cons ?_ ?_; (· exact lend_v))))
          repeat (first | (refine step_ops ?_; (first | (refine m_mov (by conv => lhs; whnf) ?_) | (refine m_ext rfl rfl ?_))) | refine end_ops ?_ | refine seq_ops ?_)
          refine step_ops ?_; (apply m_call (c2)); (· repeat (first | exact lends_nil | (refine lends_cons ?_ ?_; (· exact lend_v))))
          repeat (first | (refine step_ops ?_; (first | (refine m_mov (by conv => lhs; whnf) ?_) | (refine m_ext rfl rfl ?_))) | refine end_ops ?_ | refine seq_ops ?_)
          refine step_ops ?_; (apply m_call (c3)); (· repeat (first | exact lends_nil | (refine lends_cons ?_ ?_; (· exact lend_v))))
          repeat (first | ((first | (refine step_ops ?_; (first | ((try (refine g_yes rfl ?_ ?_; (· first | rfl | assumption | (refine decide_eq_true ?_; first | assumption | omega) | (refine nt ?_; first | assumption | omega) | (simp [*]; done) | (refine decide_eq_false ?_; first | assumption | omega) | (refine nf ?_; first | assumption | omega)))); (first | (refine m_mov (by conv => lhs; whnf) ?_) | (refine m_eql rfl rfl ?_) | (refine m_add rfl rfl ?_ ?_ ?_; (· omega); (· omega)) | (refine m_not rfl ?_) | (refine m_pick_f rfl ?_ (by conv => lhs; whnf) ?_; (· first | rfl | assumption | (refine decide_eq_false ?_; first | assumption | omega) | (refine nf ?_; first | assumption | omega) | (simp [*]; done))) | (refine m_ext rfl rfl ?_))) | (refine g_noT rfl ?_ ?_; (· first | rfl | assumption | (refine decide_eq_false ?_; first | assumption | omega) | (refine nf ?_; first | assumption | omega) | (simp [*]; done))))) | refine end_ops ?_ | refine seq_ops ?_ | refine AW_ops ?_ | (refine cond_f rfl ?_ ?_; (· first | rfl | assumption | (refine decide_eq_false ?_; first | assumption | omega) | (refine nf ?_; first | assumption | omega) | (simp [*]; done))) | refine skip_then ?_ | refine AW_seq ?_ | refine norm_then ?_ | refine norm_block ?_)) | (refine step_ops ?_; refine g_unt rfl ?_))
          refine next_round (k + 1) (by omega) (weak_st ?_ ?_ rfl rfl) (by omega)
          · rw [s1, s2, s3]; (repeat' (first | exact trivial | refine And.intro ?_ ?_)) <;> (first | rfl | skip)
          · trivial
      · obtain rfl : k = c + 1 := by omega
        have hx2 : 0 ≤ 2 * (c : Int) * X ∧ 2 * (c : Int) * X ≤ 1000000000000 := by
          have := hsum (c + 1) (by omega)
          rw [a4'] at this
          exact this.2.1
        rw [a1, a3, a2]
        rw [a4] at a2
        clear a5 a6 hnum hsum htog
        repeat (first | (refine step_ops ?_; (first | (refine m_mov (by conv => lhs; whnf) ?_) | (refine m_leq rfl rfl ?_))) | refine end_ops ?_ | refine seq_ops ?_ | (refine cond_f rfl ?_ ?_; (· first | rfl | assumption | (refine decide_eq_false ?_; first | assumption | omega) | (refine nf ?_; first | assumption | omega) | (simp [*]; done))) | refine AW_seq ?_ | refine norm_then ?_ | refine exit_then ?_ | refine AW_block ?_ | refine exit_round ?_ | refine AW_exit ?_ | refine exit_block ?_)
        refine AW_loop (α := Nat) (fun j => j + 1 ≤ 2 * c) (fun j => st [(19, .i (c : Nat)), (38, ints L), (20, .i X), (24, .i Y), (34, newInts R2), (35, .b B2), (39, newInts R1), (40, .b B1), (43, .i X), (44, .i (fac (2 * c))), (45, .i Y), (46, .i (fac (j + 1))), (54, .i ((j : Int) + 2))] []) (fun j => 2 * c - j) 0 (by omega) (weak_st ?_ ?_ rfl rfl) ?_
        · (repeat' (first | exact trivial | refine And.intro ?_ ?_)) <;> (first | rfl | skip)
        · trivial
        intro j hj
        by_cases hc : (j : Int) + 2 ≤ 2 * (c : Int)
        · have hb := hf (j + 2) (by omega)
          have e : fac (j + 2) = fac (j + 1) * ((j : Int) + 2) := rfl
          rw [e] at hb
          repeat (first | (refine step_ops ?_; (first | (refine m_mov (by conv => lhs; whnf) ?_) | (refine m_leq rfl rfl ?_) | (refine m_add rfl rfl ?_ ?_ ?_; (· omega); (· omega)) | (refine m_mul rfl rfl ?_ ?_ ?_; (· first | omega | (simp; done)); (· first | omega | (simp; done))))) | refine end_ops ?_ | refine seq_ops ?_ | refine AW_ops ?_ | (refine cond_t rfl ?_ ?_; (· first | rfl | assumption | (refine decide_eq_true ?_; first | assumption | omega) | (refine nt ?_; first | assumption | omega) | (simp [*]; done))) | refine skip_then ?_ | refine AW_seq ?_ | refine norm_then ?_ | refine AW_block ?_ | refine norm_block ?_)
          refine next_round (j + 1) (by omega) (weak_st ?_ ?_ rfl rfl) (by omega)
          · (repeat' (first | exact trivial | refine And.intro ?_ ?_)) <;> (first | rfl | skip)
          · trivial
        · obtain rfl : j = 2 * c - 1 := by omega
          rw [show 2 * c - 1 + 1 = 2 * c by omega, a4]
          repeat (first | (refine step_ops ?_; ((try (refine g_yes rfl ?_ ?_; (· first | rfl | assumption | (refine decide_eq_true ?_; first | assumption | omega) | (refine nt ?_; first | assumption | omega) | (simp [*]; done) | (refine decide_eq_false ?_; first | assumption | omega) | (refine nf ?_; first | assumption | omega)))); (first | (refine m_mov (by conv => lhs; whnf) ?_) | (refine m_leq rfl rfl ?_) | (refine m_neq rfl rfl ?_) | (refine m_mul rfl rfl ?_ ?_ ?_; (· first | omega | (simp; done)); (· first | omega | (simp; done))) | (refine m_pick_f rfl ?_ (by conv => lhs; whnf) ?_; (· first | rfl | assumption | (refine decide_eq_false ?_; first | assumption | omega) | (refine nf ?_; first | assumption | omega) | (simp [*]; done)))))) | refine end_ops ?_ | refine seq_ops ?_ | (refine cond_f rfl ?_ ?_; (· first | rfl | assumption | (refine decide_eq_false ?_; first | assumption | omega) | (refine nf ?_; first | assumption | omega) | (simp [*]; done))) | refine skip_then ?_ | refine AW_seq ?_ | refine norm_then ?_ | refine exit_then ?_ | refine exit_round ?_ | refine AW_exit ?_ | refine exit_block ?_)
          refine AW_weak (weak_st ?_ ?_ rfl rfl) h6
          · (repeat' (first | exact trivial | refine And.intro ?_ ?_)) <;> (first | rfl | skip)
          · trivial
  · rw [decide_eq_false h]
    unfold twC
    unfold ac3
    simp only [sndN, sndC, fstC]
    repeat (first | (refine step_ops ?_; (refine m_mov (by conv => lhs; whnf) ?_)) | refine end_ops ?_ | refine seq_ops ?_ | (refine cond_f rfl ?_ ?_; (· first | rfl | assumption | (refine decide_eq_false ?_; first | assumption | omega) | (refine nf ?_; first | assumption | omega) | (simp [*]; done))) | refine skip_then ?_ | refine AW_seq ?_)
    refine AW_weak (weak_st ?_ ?_ rfl rfl) h6
    · (repeat' (first | exact trivial | refine And.intro ?_ ?_)) <;> (first | rfl | skip)
    · trivial
end Go.Proofs.YtmmcldbldbpikaaGreatDoor
namespace Go.Proofs.YtmmcldbldbpikaaGreatDoor
variable [Go.Am.CodeBlk]
open Go.Am
attribute [local irreducible] AW Outs Weak Lends Lend Sp aops atree aop1 Then Round InBlock Done
attribute [local irreducible] SpH SpX DoneH DoneX
theorem tw2b (m : Int) (L : List Int) (hL : L.length ≤ 10000) : AW Tryz.prog (min Tryz.f3.ntmps pbase) twB2 (st [(19, .i m), (38, ints L), (20, .i (roundR m)), (21, .b (decide (1 ≤ m ∧ m ≤ 7))), (22, .i (roundR m)), (23, .b (decide (1 ≤ m ∧ m ≤ 7))), (24, .i (inTurnR m)), (25, .b (decide (1 ≤ m ∧ m ≤ 7))), (26, .i (inTurnR m)), (27, .b (decide (1 ≤ m ∧ m ≤ 7))), (28, .i (chNum m)), (29, .i (chDen m)), (30, .b (decide (1 ≤ m ∧ m ≤ 7))), (31, .i (chNum m)), (32, .i (chDen m)), (33, .b (decide (1 ≤ m ∧ m ≤ 7))), (34, newInts ((frstT m).getD [])), (35, .b (frstT m).isSome), (36, newInts ((frstT m).getD [])), (37, .b (frstT m).isSome), (39, newInts ((nextT L).getD [])), (40, .b (nextT L).isSome), (41, newInts ((nextT L).getD [])), (42, .b (nextT L).isSome)] []) (Done [4].reverse (.b true)) := by
  have h6 := tw3 m L hL
  have hp : twB2 = .seq (fstC twB2) twC := rfl
  rw [hp]
  clear hp
  generalize twC = c6 at *
  have l1 := vSame_self ((frstT m).getD []) (by have := frstT_le m; omega)
  have l2 := vSame_self ((nextT L).getD []) (by have := nextT_le L; omega)
  have hfs : (frstT m).isSome = true ↔ (1 ≤ m ∧ m ≤ 7) ∧ m > 1 := by
    by_cases h : 1 ≤ m ∧ m ≤ 7
    · obtain ⟨c, rfl⟩ := Int.eq_ofNat_of_zero_le (show 0 ≤ m by omega)
      rw [frst_some c (by omega) (by omega), decide_eq_true_eq]
      exact ⟨fun hh => ⟨h, by omega⟩, fun hh => by omega⟩
    · rw [frstT, if_neg h]
      exact ⟨(fun hh => by cases hh), fun hh => absurd hh.1 h⟩
  have x2 := xor_self (nextT L).isSome
  have n1 : decide (roundR m ≠ roundR m) = false := by simp
  have n2 : decide (inTurnR m ≠ inTurnR m) = false := by simp
  have n3 : decide (chNum m ≠ chNum m) = false := by simp
  have n4 : decide (chDen m ≠ chDen m) = false := by simp
  generalize (nextT L).getD [] = R1 at *
  generalize (nextT L).isSome = B1 at *
  generalize (frstT m).getD [] = R2 at *
  generalize (frstT m).isSome = B2 at *
  generalize roundR m = v1 at *
  generalize inTurnR m = v2 at *
  generalize chNum m = v3 at *
  generalize chDen m = v4 at *
  by_cases h : 1 ≤ m ∧ m ≤ 7
  · by_cases hm : m > 1
    · obtain rfl : B2 = true := hfs.2 ⟨h, hm⟩
      clear hfs
      rw [decide_eq_true h] at *
      unfold twB2
      unfold ac3
      simp only [sndN, sndC, fstC]
      repeat (first | (refine step_ops ?_; ((try (refine g_yes rfl ?_ ?_; (· first | rfl | assumption | (refine decide_eq_true ?_; first | assumption | omega) | (refine nt ?_; first | assumption | omega) | (simp [*]; done) | (refine decide_eq_false ?_; first | assumption | omega) | (refine nf ?_; first | assumption | omega)))); (first | (refine m_mov (by conv => lhs; whnf) ?_) | (refine m_neq rfl rfl ?_) | (refine m_beq rfl rfl ?_) | (refine m_pick_f rfl ?_ (by conv => lhs; whnf) ?_; (· first | rfl | assumption | (refine decide_eq_false ?_; first | assumption | omega) | (refine nf ?_; first | assumption | omega) | (simp [*]; done)))))) | refine seq_ops ?_ | refine AW_seq ?_)
      refine step_ops ?_; (refine g_yes rfl ?_ ?_; (· first | (first | rfl | assumption | (refine decide_eq_true ?_; first | assumption | omega) | (refine nt ?_; first | assumption | omega) | (simp [*]; done)) | (first | rfl | assumption | (refine decide_eq_false ?_; first | assumption | omega) | (refine nf ?_; first | assumption | omega) | (simp [*]; done))); (apply m_call (l1))); (· repeat (first | exact lends_nil | (refine lends_cons ?_ ?_; (· (refine lend_ints ?_; first | rfl | omega)))))
      repeat (refine step_ops ?_; ((try (refine g_yes rfl ?_ ?_; (· first | rfl | assumption | (refine decide_eq_true ?_; first | assumption | omega) | (refine nt ?_; first | assumption | omega) | (simp [*]; done) | (refine decide_eq_false ?_; first | assumption | omega) | (refine nf ?_; first | assumption | omega)))); (first | (refine m_mov (by conv => lhs; whnf) ?_) | (refine m_not rfl ?_) | (refine m_beq rfl rfl ?_) | (refine m_pick_f rfl ?_ (by conv => lhs; whnf) ?_; (· first | rfl | assumption | (refine decide_eq_false ?_; first | assumption | omega) | (refine nf ?_; first | assumption | omega) | (simp [*]; done))))))
      refine step_ops ?_; (refine g_yes rfl ?_ ?_; (· first | (first | rfl | assumption | (refine decide_eq_true ?_; first | assumption | omega) | (refine nt ?_; first | assumption | omega) | (simp [*]; done)) | (first | rfl | assumption | (refine decide_eq_false ?_; first | assumption | omega) | (refine nf ?_; first | assumption | omega) | (simp [*]; done))); (apply m_call (l2))); (· repeat (first | exact lends_nil | (refine lends_cons ?_ ?_; (· (refine lend_ints ?_; first | rfl | omega)))))
      repeat (first | (refine step_ops ?_; ((try (refine g_yes rfl ?_ ?_; (· first | rfl | assumption | (refine decide_eq_true ?_; first | assumption | omega) | (refine nt ?_; first | assumption | omega) | (simp [*]; done) | (refine decide_eq_false ?_; first | assumption | omega) | (refine nf ?_; first | assumption | omega)))); (first | (refine m_mov (by conv => lhs; whnf) ?_) | (refine m_gtr rfl rfl ?_) | (refine m_not rfl ?_) | (refine m_beq rfl rfl ?_) | (refine m_pick_t rfl ?_ (by conv => lhs; whnf) ?_; (· first | rfl | assumption | (refine decide_eq_true ?_; first | assumption | omega) | (refine nt ?_; first | assumption | omega) | (simp [*]; done))) | (refine m_pick_f rfl ?_ (by conv => lhs; whnf) ?_; (· first | rfl | assumption | (refine decide_eq_false ?_; first | assumption | omega) | (refine nf ?_; first | assumption | omega) | (simp [*]; done)))))) | refine end_ops ?_ | (refine cond_f rfl ?_ ?_; (· first | rfl | assumption | (refine decide_eq_false ?_; first | assumption | omega) | (refine nf ?_; first | assumption | omega) | (simp [*]; done))) | refine skip_then ?_)
      refine AW_weak (weak_st ?_ ?_ rfl rfl) h6
      · (repeat' (first | exact trivial | refine And.intro ?_ ?_)) <;> (first | rfl | skip)
      · trivial
    · obtain rfl : B2 = false := by
        cases B2 with
        | false => rfl
        | true => exact absurd (hfs.1 rfl).2 hm
      clear hfs
      rw [decide_eq_true h] at *
      unfold twB2
      unfold ac3
      simp only [sndN, sndC, fstC]
      repeat (first | (refine step_ops ?_; ((try (refine g_yes rfl ?_ ?_; (· first | rfl | assumption | (refine decide_eq_true ?_; first | assumption | omega) | (refine nt ?_; first | assumption | omega) | (simp [*]; done) | (refine decide_eq_false ?_; first | assumption | omega) | (refine nf ?_; first | assumption | omega)))); (first | (refine m_mov (by conv => lhs; whnf) ?_) | (refine m_neq rfl rfl ?_) | (refine m_beq rfl rfl ?_) | (refine m_pick_f rfl ?_ (by conv => lhs; whnf) ?_; (· first | rfl | assumption | (refine decide_eq_false ?_; first | assumption | omega) | (refine nf ?_; first | assumption | omega) | (simp [*]; done)))))) | refine seq_ops ?_ | refine AW_seq ?_)
      refine step_ops ?_; (refine g_yes rfl ?_ ?_; (· first | (first | rfl | assumption | (refine decide_eq_true ?_; first | assumption | omega) | (refine nt ?_; first | assumption | omega) | (simp [*]; done)) | (first | rfl | assumption | (refine decide_eq_false ?_; first | assumption | omega) | (refine nf ?_; first | assumption | omega) | (simp [*]; done))); (apply m_call (l1))); (· repeat (first | exact lends_nil | (refine lends_cons ?_ ?_; (· (refine lend_ints ?_; first | rfl | omega)))))
      repeat (refine step_ops ?_; ((try (refine g_yes rfl ?_ ?_; (· first | rfl | assumption | (refine decide_eq_true ?_; first | assumption | omega) | (refine nt ?_; first | assumption | omega) | (simp [*]; done) | (refine decide_eq_false ?_; first | assumption | omega) | (refine nf ?_; first | assumption | omega)))); (first | (refine m_mov (by conv => lhs; whnf) ?_) | (refine m_not rfl ?_) | (refine m_beq rfl rfl ?_) | (refine m_pick_f rfl ?_ (by conv => lhs; whnf) ?_; (· first | rfl | assumption | (refine decide_eq_false ?_; first | assumption | omega) | (refine nf ?_; first | assumption | omega) | (simp [*]; done))))))
      refine step_ops ?_; (refine g_yes rfl ?_ ?_; (· first | (first | rfl | assumption | (refine decide_eq_true ?_; first | assumption | omega) | (refine nt ?_; first | assumption | omega) | (simp [*]; done)) | (first | rfl | assumption | (refine decide_eq_false ?_; first | assumption | omega) | (refine nf ?_; first | assumption | omega) | (simp [*]; done))); (apply m_call (l2))); (· repeat (first | exact lends_nil | (refine lends_cons ?_ ?_; (· (refine lend_ints ?_; first | rfl | omega)))))
      repeat (first | (refine step_ops ?_; ((try (refine g_yes rfl ?_ ?_; (· first | rfl | assumption | (refine decide_eq_true ?_; first | assumption | omega) | (refine nt ?_; first | assumption | omega) | (simp [*]; done) | (refine decide_eq_false ?_; first | assumption | omega) | (refine nf ?_; first | assumption | omega)))); (first | (refine m_mov (by conv => lhs; whnf) ?_) | (refine m_gtr rfl rfl ?_) | (refine m_not rfl ?_) | (refine m_beq rfl rfl ?_) | (refine m_pick_t rfl ?_ (by conv => lhs; whnf) ?_; (· first | rfl | assumption | (refine decide_eq_true ?_; first | assumption | omega) | (refine nt ?_; first | assumption | omega) | (simp [*]; done))) | (refine m_pick_f rfl ?_ (by conv => lhs; whnf) ?_; (· first | rfl | assumption | (refine decide_eq_false ?_; first | assumption | omega) | (refine nf ?_; first | assumption | omega) | (simp [*]; done)))))) | refine end_ops ?_ | (refine cond_f rfl ?_ ?_; (· first | rfl | assumption | (refine decide_eq_false ?_; first | assumption | omega) | (refine nf ?_; first | assumption | omega) | (simp [*]; done))) | refine skip_then ?_)
      refine AW_weak (weak_st ?_ ?_ rfl rfl) h6
      · (repeat' (first | exact trivial | refine And.intro ?_ ?_)) <;> (first | rfl | skip)
      · trivial
  · obtain rfl : B2 = false := by
      cases B2 with
      | false => rfl
      | true => exact absurd (hfs.1 rfl).1 h
    clear hfs
    rw [decide_eq_false h] at *
    unfold twB2
    unfold ac3
    simp only [sndN, sndC, fstC]
    repeat (first | (refine step_ops ?_; ((try (refine g_yes rfl ?_ ?_; (· first | rfl | assumption | (refine decide_eq_true ?_; first | assumption | omega) | (refine nt ?_; first | assumption | omega) | (simp [*]; done) | (refine decide_eq_false ?_; first | assumption | omega) | (refine nf ?_; first | assumption | omega)))); (first | (refine m_mov (by conv => lhs; whnf) ?_) | (refine m_neq rfl rfl ?_) | (refine m_beq rfl rfl ?_) | (refine m_pick_f rfl ?_ (by conv => lhs; whnf) ?_; (· first | rfl | assumption | (refine decide_eq_false ?_; first | assumption | omega) | (refine nf ?_; first | assumption | omega) | (simp [*]; done)))))) | refine seq_ops ?_ | refine AW_seq ?_)
    refine step_ops ?_; (refine g_yes rfl ?_ ?_; (· first | (first | rfl | assumption | (refine decide_eq_true ?_; first | assumption | omega) | (refine nt ?_; first | assumption | omega) | (simp [*]; done)) | (first | rfl | assumption | (refine decide_eq_false ?_; first | assumption | omega) | (refine nf ?_; first | assumption | omega) | (simp [*]; done))); (apply m_call (l1))); (· repeat (first | exact lends_nil | (refine lends_cons ?_ ?_; (· (refine lend_ints ?_; first | rfl | omega)))))
    repeat (refine step_ops ?_; ((try (refine g_yes rfl ?_ ?_; (· first | rfl | assumption | (refine decide_eq_true ?_; first | assumption | omega) | (refine nt ?_; first | assumption | omega) | (simp [*]; done) | (refine decide_eq_false ?_; first | assumption | omega) | (refine nf ?_; first | assumption | omega)))); (first | (refine m_mov (by conv => lhs; whnf) ?_) | (refine m_not rfl ?_) | (refine m_beq rfl rfl ?_) | (refine m_pick_f rfl ?_ (by conv => lhs; whnf) ?_; (· first | rfl | assumption | (refine decide_eq_false ?_; first | assumption | omega) | (refine nf ?_; first | assumption | omega) | (simp [*]; done))))))
    refine step_ops ?_; (refine g_yes rfl ?_ ?_; (· first | (first | rfl | assumption | (refine decide_eq_true ?_; first | assumption | omega) | (refine nt ?_; first | assumption | omega) | (simp [*]; done)) | (first | rfl | assumption | (refine decide_eq_false ?_; first | assumption | omega) | (refine nf ?_; first | assumption | omega) | (simp [*]; done))); (apply m_call (l2))); (· repeat (first | exact lends_nil | (refine lends_cons ?_ ?_; (· (refine lend_ints ?_; first | rfl | omega)))))
    repeat (first | ((first | (refine step_ops ?_; (first | ((try (refine g_yes rfl ?_ ?_; (· first | rfl | assumption | (refine decide_eq_true ?_; first | assumption | omega) | (refine nt ?_; first | assumption | omega) | (simp [*]; done) | (refine decide_eq_false ?_; first | assumption | omega) | (refine nf ?_; first | assumption | omega)))); (first | (refine m_mov (by conv => lhs; whnf) ?_) | (refine m_not rfl ?_) | (refine m_beq rfl rfl ?_) | (refine m_pick_f rfl ?_ (by conv => lhs; whnf) ?_; (· first | rfl | assumption | (refine decide_eq_false ?_; first | assumption | omega) | (refine nf ?_; first | assumption | omega) | (simp [*]; done))))) | (refine g_noT rfl ?_ ?_; (· first | rfl | assumption | (refine decide_eq_false ?_; first | assumption | omega) | (refine nf ?_; first | assumption | omega) | (simp [*]; done))))) | refine end_ops ?_ | (refine cond_f rfl ?_ ?_; (· first | rfl | assumption | (refine decide_eq_false ?_; first | assumption | omega) | (refine nf ?_; first | assumption | omega) | (simp [*]; done))) | refine skip_then ?_)) | (refine step_ops ?_; refine g_unt rfl ?_))
    refine AW_weak (weak_st ?_ ?_ rfl rfl) h6
    · (repeat' (first | exact trivial | refine And.intro ?_ ?_)) <;> (first | rfl | skip)
    · trivial
def twB1 : ACode := sndN 20 ac3
theorem tw2c (m : Int) (L : List Int) (hL : L.length ≤ 10000) : AW Tryz.prog (min Tryz.f3.ntmps pbase) twB1 (st [(19, .i m), (38, ints L), (20, .i (roundR m)), (21, .b (decide (1 ≤ m ∧ m ≤ 7))), (22, .i (roundR m)), (23, .b (decide (1 ≤ m ∧ m ≤ 7))), (24, .i (inTurnR m)), (25, .b (decide (1 ≤ m ∧ m ≤ 7))), (26, .i (inTurnR m)), (27, .b (decide (1 ≤ m ∧ m ≤ 7))), (28, .i (chNum m)), (29, .i (chDen m)), (30, .b (decide (1 ≤ m ∧ m ≤ 7))), (31, .i (chNum m)), (32, .i (chDen m)), (33, .b (decide (1 ≤ m ∧ m ≤ 7))), (34, newInts ((frstT m).getD [])), (35, .b (frstT m).isSome), (36, newInts ((frstT m).getD [])), (37, .b (frstT m).isSome)] []) (Done [4].reverse (.b true)) := by
  have h6 := tw2b m L hL
  have s9 := implNextApart_spec L (by omega)
  have s10 := specNextApart_spec L (by omega)
  unfold srchR at s9 s10
  have hp : twB1 = .seq (fstC (sndN 20 ac3)) (.seq (fstC (sndN 21 ac3)) (twB2)) := rfl
  rw [hp]
  clear hp
  generalize twB2 = c6 at *
  generalize (nextT L).getD [] = R1 at *
  generalize (nextT L).isSome = B1 at *
  generalize (frstT m).getD [] = R2 at *
  generalize (frstT m).isSome = B2 at *
  generalize roundR m = v1 at *
  generalize inTurnR m = v2 at *
  generalize chNum m = v3 at *
  generalize chDen m = v4 at *
  generalize decide (1 ≤ m ∧ m ≤ 7) = B3 at *
  unfold ac3
  simp only [sndN, sndC, fstC]
  repeat (first | (refine step_ops ?_; (refine m_mov (by conv => lhs; whnf) ?_)) | refine seq_ops ?_)
  refine step_ops ?_; (apply m_call (s9)); (· repeat (first | exact lends_nil | (refine lends_cons ?_ ?_; (· (refine lend_ints ?_; first | rfl | omega)))))
  repeat (first | (refine step_ops ?_; (first | (refine m_mov (by conv => lhs; whnf) ?_) | (refine m_ext rfl rfl ?_))) | refine end_ops ?_ | refine seq_ops ?_)
  refine step_ops ?_; (apply m_call (s10)); (· repeat (first | exact lends_nil | (refine lends_cons ?_ ?_; (· (refine lend_ints ?_; first | rfl | omega)))))
  repeat (first | (refine step_ops ?_; (first | (refine m_mov (by conv => lhs; whnf) ?_) | (refine m_ext rfl rfl ?_))) | refine end_ops ?_)
  refine AW_weak (weak_st ?_ ?_ rfl rfl) h6
  · (repeat' (first | exact trivial | refine And.intro ?_ ?_)) <;> (first | rfl | skip)
  · trivial
theorem tw2 {mv : Value} {ML : List UInt8} (hm : Bys mv ML) (hML : ML.length ≤ 1048576) : AW Tryz.prog (min Tryz.f3.ntmps pbase) twB (st [(1, .v mv)] []) (Done [4].reverse (.b true)) := by
  have h6 := fun (m : Int) (L : List Int) (hL : L.length ≤ 16) => tw2c m L (by omega)
  have hp : twB = .seq (fstC (sndN 10 ac3)) (.seq (fstC (sndN 11 ac3)) (.seq (fstC (sndN 12 ac3)) (.seq (fstC (sndN 13 ac3)) (.seq (fstC (sndN 14 ac3)) (.seq (fstC (sndN 15 ac3)) (.seq (fstC (sndN 16 ac3)) (.seq (fstC (sndN 17 ac3)) (.seq (fstC (sndN 18 ac3)) (.seq (fstC (sndN 19 ac3)) (twB1)))))))))) := rfl
  rw [hp]
  clear hp
  generalize twB1 = c6 at *
  unfold ac3
  simp only [sndN, sndC, fstC]
  repeat (first | (refine step_ops ?_; (refine m_mov (by conv => lhs; whnf) ?_)) | refine seq_ops ?_)
  refine step_ops ?_
  refine m_draw (drawRound_spec hm hML) rfl ⟨0, trivial⟩ (fun m => ⟨rfl, rfl⟩) ?_
  intro m _
  replace h6 := h6 m
  have s1 := implCountRound_spec m
  have s2 := specCountRound_spec m
  have s3 := implCountInTurn_spec m
  have s4 := specCountInTurn_spec m
  have s5 := implChanceApart_spec m
  have s6 := specChanceApart_spec m
  have s7 := implFirstApart_spec m
  have s8 := specFirstApart_spec m
  unfold srchR at s7 s8
  generalize (frstT m).getD [] = R2 at *
  generalize (frstT m).isSome = B2 at *
  generalize roundR m = v1 at *
  generalize inTurnR m = v2 at *
  generalize chNum m = v3 at *
  generalize chDen m = v4 at *
  generalize decide (1 ≤ m ∧ m ≤ 7) = B3 at *
  repeat (first | (refine step_ops ?_; (refine m_mov (by conv => lhs; whnf) ?_)) | refine end_ops ?_ | refine seq_ops ?_)
  refine step_ops ?_; (apply m_call (s1)); (· repeat (first | exact lends_nil | (refine lends_cons ?_ ?_; (· exact lend_v))))
  repeat (first | (refine step_ops ?_; (first | (refine m_mov (by conv => lhs; whnf) ?_) | (refine m_ext rfl rfl ?_))) | refine end_ops ?_ | refine seq_ops ?_)
  refine step_ops ?_; (apply m_call (s2)); (· repeat (first | exact lends_nil | (refine lends_cons ?_ ?_; (· exact lend_v))))
  repeat (first | (refine step_ops ?_; (first | (refine m_mov (by conv => lhs; whnf) ?_) | (refine m_ext rfl rfl ?_))) | refine end_ops ?_ | refine seq_ops ?_)
  refine step_ops ?_; (apply m_call (s3)); (· repeat (first | exact lends_nil | (refine lends_cons ?_ ?_; (· exact lend_v))))
  repeat (first | (refine step_ops ?_; (first | (refine m_mov (by conv => lhs; whnf) ?_) | (refine m_ext rfl rfl ?_))) | refine end_ops ?_ | refine seq_ops ?_)
  refine step_ops ?_; (apply m_call (s4)); (· repeat (first | exact lends_nil | (refine lends_cons ?_ ?_; (· exact lend_v))))
  repeat (first | (refine step_ops ?_; (first | (refine m_mov (by conv => lhs; whnf) ?_) | (refine m_ext rfl rfl ?_))) | refine end_ops ?_ | refine seq_ops ?_)
  refine step_ops ?_; (apply m_call (s5)); (· repeat (first | exact lends_nil | (refine lends_cons ?_ ?_; (· exact lend_v))))
  repeat (first | (refine step_ops ?_; (first | (refine m_mov (by conv => lhs; whnf) ?_) | (refine m_ext rfl rfl ?_))) | refine end_ops ?_ | refine seq_ops ?_)
  refine step_ops ?_; (apply m_call (s6)); (· repeat (first | exact lends_nil | (refine lends_cons ?_ ?_; (· exact lend_v))))
  repeat (first | (refine step_ops ?_; (first | (refine m_mov (by conv => lhs; whnf) ?_) | (refine m_ext rfl rfl ?_))) | refine end_ops ?_ | refine seq_ops ?_)
  refine step_ops ?_; (apply m_call (s7)); (· repeat (first | exact lends_nil | (refine lends_cons ?_ ?_; (· exact lend_v))))
  repeat (first | (refine step_ops ?_; (first | (refine m_mov (by conv => lhs; whnf) ?_) | (refine m_ext rfl rfl ?_))) | refine end_ops ?_ | refine seq_ops ?_)
  refine step_ops ?_; (apply m_call (s8)); (· repeat (first | exact lends_nil | (refine lends_cons ?_ ?_; (· exact lend_v))))
  repeat (first | (refine step_ops ?_; (first | (refine m_mov (by conv => lhs; whnf) ?_) | (refine m_ext rfl rfl ?_))) | refine end_ops ?_ | refine seq_ops ?_)
  refine step_ops ?_
  refine m_drawL (q := 1000) (drawTable_spec hm hML) rfl ⟨[], by simp⟩ rfl (by decide) ?_
  intro L hL
  repeat (first | (refine step_ops ?_; (refine m_mov (by conv => lhs; whnf) ?_)) | refine end_ops ?_)
  refine AW_weak (Weak.trans (weak_frz 38 1000 (n := L.length) rfl rfl (by simp) (allv_ints L)) (weak_st ?_ ?_ rfl rfl)) (h6 L hL)
  · (repeat' (first | exact trivial | refine And.intro ?_ ?_)) <;> (first | rfl | skip)
  · trivial
theorem tw1b (n t : Int) {mv : Value} {ML : List UInt8} (hm : Bys mv ML) (hML : ML.length ≤ 1048576) : AW Tryz.prog (min Tryz.f3.ntmps pbase) twA2 (st [(1, .v mv), (7, .i (togNum n t)), (8, .b (decide (TogOk n t))), (9, .i (togNum n t)), (10, .b (decide (TogOk n t))), (11, .i (rowNum n t)), (12, .b (decide (TogOk n t))), (13, .i (rowNum n t)), (14, .b (decide (TogOk n t))), (15, .i (turnNum n t)), (16, .b (decide (TogOk n t))), (17, .i (turnNum n t)), (18, .b (decide (TogOk n t)))] []) (Done [4].reverse (.b true)) := by
  have h6 := tw2 hm hML
  have hp : twA2 = .seq (fstC twA2) twB := rfl
  rw [hp]
  clear hp
  generalize twB = c6 at *
  have n1 : decide (togNum n t ≠ togNum n t) = false := by simp
  have n2 : decide (rowNum n t ≠ rowNum n t) = false := by simp
  have n3 : decide (turnNum n t ≠ turnNum n t) = false := by simp
  by_cases h : TogOk n t
  · obtain ⟨c, rfl⟩ := Int.eq_ofNat_of_zero_le (show 0 ≤ n by have := h.1.1; omega)
    obtain ⟨k, rfl⟩ := Int.eq_ofNat_of_zero_le (show 0 ≤ t from h.2.1)
    have hh := h
    unfold TogOk at hh
    have ht := tw_num c (by omega) (by omega) k (by omega)
    obtain ⟨_, e1, e2, e3⟩ := tog_at (c := c) (t := k) (by omega) (by omega) (by omega)
    rw [e1] at n1
    rw [e2] at n2
    rw [e3] at n3
    rw [e1, e2, e3, decide_eq_true h]
    generalize tN c k = v1 at *
    generalize rN c k = v2 at *
    generalize turnN c k = v3 at *
    clear e1 e2 e3 h hh
    unfold twA2
    unfold ac3
    simp only [sndN, sndC, fstC]
    repeat (first | (refine step_ops ?_; ((try (refine g_yes rfl ?_ ?_; (· first | rfl | assumption | (refine decide_eq_true ?_; first | assumption | omega) | (refine nt ?_; first | assumption | omega) | (simp [*]; done) | (refine decide_eq_false ?_; first | assumption | omega) | (refine nf ?_; first | assumption | omega)))); (first | (refine m_mov (by conv => lhs; whnf) ?_) | (refine m_lss rfl rfl ?_) | (refine m_gtr rfl rfl ?_) | (refine m_neq rfl rfl ?_) | (refine m_beq rfl rfl ?_) | (refine m_pick_t rfl ?_ (by conv => lhs; whnf) ?_; (· first | rfl | assumption | (refine decide_eq_true ?_; first | assumption | omega) | (refine nt ?_; first | assumption | omega) | (simp [*]; done))) | (refine m_pick_f rfl ?_ (by conv => lhs; whnf) ?_; (· first | rfl | assumption | (refine decide_eq_false ?_; first | assumption | omega) | (refine nf ?_; first | assumption | omega) | (simp [*]; done)))))) | refine end_ops ?_ | refine seq_ops ?_ | (refine cond_f rfl ?_ ?_; (· first | rfl | assumption | (refine decide_eq_false ?_; first | assumption | omega) | (refine nf ?_; first | assumption | omega) | (simp [*]; done))) | refine skip_then ?_ | refine AW_seq ?_)
    refine AW_weak (weak_st ?_ ?_ rfl rfl) h6
    · (repeat' (first | exact trivial | refine And.intro ?_ ?_)) <;> (first | rfl | skip)
    · trivial
  · rw [decide_eq_false h]
    generalize togNum n t = v1 at *
    generalize rowNum n t = v2 at *
    generalize turnNum n t = v3 at *
    unfold twA2
    unfold ac3
    simp only [sndN, sndC, fstC]
    repeat (first | ((first | (refine step_ops ?_; (first | ((try (refine g_yes rfl ?_ ?_; (· first | rfl | assumption | (refine decide_eq_true ?_; first | assumption | omega) | (refine nt ?_; first | assumption | omega) | (simp [*]; done) | (refine decide_eq_false ?_; first | assumption | omega) | (refine nf ?_; first | assumption | omega)))); (first | (refine m_mov (by conv => lhs; whnf) ?_) | (refine m_neq rfl rfl ?_) | (refine m_beq rfl rfl ?_) | (refine m_pick_f rfl ?_ (by conv => lhs; whnf) ?_; (· first | rfl | assumption | (refine decide_eq_false ?_; first | assumption | omega) | (refine nf ?_; first | assumption | omega) | (simp [*]; done))))) | (refine g_noT rfl ?_ ?_; (· first | rfl | assumption | (refine decide_eq_false ?_; first | assumption | omega) | (refine nf ?_; first | assumption | omega) | (simp [*]; done))))) | refine end_ops ?_ | refine seq_ops ?_ | (refine cond_f rfl ?_ ?_; (· first | rfl | assumption | (refine decide_eq_false ?_; first | assumption | omega) | (refine nf ?_; first | assumption | omega) | (simp [*]; done))) | refine skip_then ?_ | refine AW_seq ?_)) | (refine step_ops ?_; refine g_unt rfl ?_))
    refine AW_weak (weak_st ?_ ?_ rfl rfl) h6
    · (repeat' (first | exact trivial | refine And.intro ?_ ?_)) <;> (first | rfl | skip)
    · trivial
end Go.Proofs.YtmmcldbldbpikaaGreatDoor
namespace Go.Am
variable [Go.Am.CodeBlk]
open Go.ChangeShapes Go.WideShapes Go.ChangeAt Go.RowKit Go.ChangeMaps
variable {P : Program} {H : Type} {enc : TypeId × Value → H}
theorem and_mk {a b : Bool} (h : a = true) (k : b = true) : (a && b) = true := by rw [h, k]; rfl
theorem More.below {w w' : World} (h : More w w') : Below w.heap.size w w' := ⟨h.os, h.tape, h.output, h.size, h.block⟩
theorem trodAll_stays (hl : laidOutB P = true) {W W' : World} (hb : Below W.heap.size W W') (sp : Nat → Bool) : ∀ {ts : List TypeId} {vs : List Value} {ds : List (DataW H)} {ps : List MemPlace},
    (∀ t ∈ ts, P.readableRec t = true ∧ t < P.types.size) → DataW.TrodAll enc P W 0 (fun _ => true) true ts vs ds ps → (∀ p ∈ ps, p.block < W.heap.size) → (∀ p ∈ ps, sp p.block = true) →
    DataW.TrodAll enc P W' 0 sp true ts vs ds ps
  | [], vs, ds, ps, _, h, _, _ => by
    obtain ⟨rfl, rfl, rfl⟩ := trodAll_nil h
    exact trodAll_mk0
  | t :: ts, vs, ds, ps, hr, h, hlt, hsp => by
    obtain ⟨v, vs', d, ds', p, q, rfl, rfl, rfl, h1, h2⟩ := trodAll_cons h
    refine ⟨p, q, ?_, trodAll_stays hl hb sp (fun t ht => hr t (List.mem_cons_of_mem _ ht)) h2 (fun x hx => hlt x (List.mem_append_right _ hx)) (fun x hx => hsp x (List.mem_append_right _ hx)), rfl⟩
    obtain ⟨h3, h4⟩ := hr t (List.mem_cons_self ..)
    exact WideElems.Trod_stays hl h3 h4 h1 (fun x hx => hb.same (hlt x (List.mem_append_left _ hx))) (fun x hx => hsp x (List.mem_append_left _ hx))
/-- What the row's last words ask of a law that says true. -/
theorem law_post (hl : laidOutB P = true) {f : Func} {s : ChangeSpec} {fresh handsOn again : Bool} {W W' : World} {args : Array Value} {ds gs : List (DataW H)} {before : List MemPlace} {bt : TypeId}
    (hW : DataW.Whole enc P f.params.toList s.vars false W args.toList ds gs before) (hvars : s.vars = []) (hfn : s.fn H (ds ++ gs) = { results := [.lit (.bool true)], args := ds })
    (hres : f.resultTypes = #[bt]) (hbt : P.underlying bt = some .bool) (hread : ∀ t ∈ f.params.toList, P.readableRec t = true ∧ t < P.types.size) (hm : More W W') :
    s.post enc P f false fresh handsOn again W args (.bool true) W' := by
  have hb := hm.below
  have hlt : ∀ p ∈ before, p.block < W.heap.size := fun p hp => hW.lt p hp
  obtain ⟨p, q, hA, hV, hpq, hz, hn⟩ := hW
  rw [hvars] at hV
  obtain ⟨rfl, rfl⟩ := trodVars_none hV
  rw [List.append_nil] at hpq
  subst hpq
  have hargs : ∀ sp : Nat → Bool, (∀ x ∈ before, sp x.block = true) → DataW.TrodAll enc P W' 0 sp true f.params.toList args.toList ds before := fun sp hsp => trodAll_stays hl hb sp hread hA hlt hsp
  have hresT : ∀ (b : Nat) (sp : Nat → Bool) (hd : Bool), DataW.TrodAll enc P W' b sp hd f.resultTypes.toList ((Value.bool true).resultList f.resultTypes.size) [.lit (.bool true)] [] := by
    intro b sp hd
    rw [hres]
    exact trodAll_mk1 (shut_bool hbt true)
  have hvarsT : ∀ sp : Nat → Bool, DataW.TrodVars enc P W' sp s.vars (s.fn H (ds ++ [])).vars [] := by
    intro sp
    rw [hvars, hfn]
    rfl
  have hfull : DataW.Whole enc P f.params.toList s.vars false W args.toList ds [] before := ⟨before, [], hA, by rw [hvars]; rfl, by simp, hz, by simp⟩
  refine ⟨ds, [], before, [], before, [], hfull, by rw [hfn]; exact hresT _ _ _, by rw [hfn]; exact hargs _ (fun x hx => by simpa using hlt x hx), hvarsT _, World.keptBut_mono (fun x hx => ⟨hx, .inr (.inl hx)⟩) (hb.frame (· ∈ before)), fun _ => ?_⟩
  refine ⟨ok_one hres rfl (okWide_bool_mk hbt true), _, _, ([] ++ before) ++ [], ⟨[] ++ before, [], trodAll_append (hargs _ (fun _ _ => rfl)) (hresT _ _ _), hvarsT _, rfl, ?_, by simp⟩, ?_⟩
  · intro b off hp
    have hin : MemPlace.cell b off ∈ before := by simpa using hp
    rw [hb.frozen (hlt _ hin)]
    exact hz b off hin
  · intro x hx _
    simpa using hx
abbrev Outer (w : World) : Ctx := { heap := w.heap, ro := fun b => b < w.heap.size, base := w.heap.size, phi := fun _ => none, live := fun _ => false, loc := false }
/-- A law says true. -/
theorem law_calls {f : FuncId} {asx : List AV} {W : World} {args : Array Value} (hs : Sp P f asx (.b true)) (he : SimL asx (Outer W) args.toList) (hlen : args.size = asx.length) (hg : GoodW W := by exact goodW_none rfl) :
    Calls P f args W fun e W' => e = .returned (.bool true) ∧ More W W' := by
  refine (hs W args hg ⟨he, by simpa using hlen⟩).mono fun e W' ⟨v, h1, h2, h3⟩ => ?_
  simp only [SimV] at h3
  subst h3
  exact ⟨h1, h2⟩
end Go.Am
namespace Go.Am
open Go.ChangeShapes Go.WideShapes Go.ChangeAt Go.RowKit Go.ChangeMaps
variable {P : Program} {H : Type} {enc : TypeId × Value → H}
theorem arg_bytes {W : World} {t e : TypeId} {v : Value} {d : DataW H} {ps : List MemPlace} (ht : P.underlying t = some (.slice e)) (he : P.underlying e = some (.int .u8)) (hc : P.cellsOf e = 1)
    (hval : Value.okWide P W .any 0 t v) (h : DataW.Trod enc P W 0 (fun _ => true) true t v d ps) : ∃ L : List UInt8, SimV (.ro false 1 (byteVs L) L.length) (Outer W) v ∧ L.length ≤ maxLen := by
  haveI : CodeBlk := ⟨[]⟩
  obtain ⟨a0, len0, cap0, rfl⟩ := okWide_slice ht hval
  obtain ⟨fuel, hf⟩ := h
  rcases open_ints ht he hc hf with ⟨hcs, _⟩ | ⟨a, len, cap, zs, hcs, _, hl, hm, hz, hx, hcell, hwz⟩
  · simp [Value.cells] at hcs
    obtain ⟨rfl, rfl, rfl⟩ := hcs
    refine ⟨[], ?_, by simp⟩
    simp only [SimV]
    exact .inl ⟨rfl, rfl, none, 0, rfl, by simp⟩
  · simp [Value.cells] at hcs
    obtain ⟨rfl, rfl, rfl⟩ := hcs
    simp only [if_true] at hz
    have hlz : len0 ≤ zs.length := by omega
    refine ⟨(zs.take len0).map fun x => UInt8.ofNat x.toNat, ?_, by simp; omega⟩
    have hlen : ((zs.take len0).map fun x => UInt8.ofNat x.toNat).length = len0 := by simp; omega
    simp only [SimV]
    by_cases h0 : len0 = 0
    · subst h0
      exact .inl ⟨rfl, rfl, _, cap0, rfl, by simp⟩
    · have hc0 := hcell 0 (by omega)
      have hspot : a.spot = none ∧ ∃ cur e f, W.heap[a.block]? = some (.cells cur e f) := by
        unfold World.cell? at hc0
        rw [show a.add 0 = a from rfl] at hc0
        split at hc0
        · rename_i c e' f hb
          split at hc0
          · cases hc0
          · rename_i hs
            exact ⟨by simpa using hs, c, e', f, hb⟩
        · cases hc0
      obtain ⟨hs, cur, e', f, hb⟩ := hspot
      obtain ⟨b, o, sp⟩ := a
      simp only at hs hb
      subst hs
      refine .inr ⟨b, o, cap0, cur, e', f, by rw [hlen], hb, lt_of_get hb, by simp [byteVs], by rw [hlen]; exact hl, by simp, ?_⟩
      refine SimL.of_get fun i x hi => ?_
      unfold byteVs at hi
      rw [List.map_map, List.getElem?_map, Option.map_eq_some_iff] at hi
      obtain ⟨n, hn, rfl⟩ := hi
      rw [List.getElem?_take] at hn
      split at hn
      · rename_i hi0
        have hci := hcell i (by omega)
        rw [addr_add, cell_of_row W b (o + i) cur e' f hb] at hci
        refine ⟨_, by rw [List.getElem?_drop, Array.getElem?_toList]; exact hci, ?_⟩
        have hw := hwz n (List.mem_of_getElem? hn)
        simp [Lit.wf, IntKind.min, IntKind.max, IntKind.signed, IntKind.bits] at hw
        have hu : (((UInt8.ofNat n.toNat).toNat : Nat) : Int) = n := by
          have h1 : (UInt8.ofNat n.toNat).toNat = n.toNat % 256 := by simp
          rw [h1]; omega
        show SimV (.v (.int .u8 ((UInt8.ofNat n.toNat).toNat : Nat))) _ _
        simp only [SimV]
        rw [hu]
        congr 1
        rw [List.getD_eq_getElem?_getD, hn]
        rfl
      · cases hn
/-- The blocks that two lists of bytes lie in, asx they stand. -/
theorem bytes_inst {W : World} {v0 v1 : Value} {L0 L1 : List UInt8} (h0 : SimV (.ro false 1 (byteVs L0) L0.length) (Outer W) v0) (h1 : SimV (.ro false 1 (byteVs L1) L1.length) (Outer W) v1) :
    ∃ I : CodeBlk, @GoodW I W ∧ @Bys I v0 L0 ∧ @Bys I v1 L1 := by
  have one : ∀ {v : Value} {L : List UInt8}, SimV (.ro false 1 (byteVs L) L.length) (Outer W) v → ∃ B : List (Nat × Array Value), (∀ p ∈ B, ∃ e fz, W.heap[p.1]? = some (.cells p.2 e fz)) ∧ ∀ I : CodeBlk, (∀ p ∈ B, p ∈ I.blks) → @Bys I v L := by
    intro v L h
    simp only [SimV] at h
    rcases h with ⟨h2, h3, a, c, rfl, _⟩ | ⟨b, o, cap, cur, e, fz, rfl, h2, h3, h4, h5, _, h6⟩
    · have hL : L = [] := List.eq_nil_of_length_eq_zero h2
      subst hL
      exact ⟨[], by simp, fun I _ => .inl ⟨rfl, a, c, rfl⟩⟩
    · refine ⟨[(b, cur)], fun p hp => ?_, fun I hI => .inr ⟨b, o, cap, cur, rfl, hI _ (List.mem_singleton.2 rfl), h5, fun C => ?_⟩⟩
      · rw [List.mem_singleton] at hp
        subst hp
        exact ⟨e, fz, h2⟩
      · refine simL_allv ?_ h6
        rw [List.all_eq_true]
        intro x hx
        obtain ⟨y, _, rfl⟩ := List.mem_map.1 hx
        rfl
  obtain ⟨B0, g0, k0⟩ := one h0
  obtain ⟨B1, g1, k1⟩ := one h1
  refine ⟨⟨B0 ++ B1⟩, ?_, k0 ⟨B0 ++ B1⟩ fun p hp => List.mem_append_left _ hp, k1 ⟨B0 ++ B1⟩ fun p hp => List.mem_append_right _ hp⟩
  have hall : ∀ p ∈ B0 ++ B1, ∃ e fz, W.heap[p.1]? = some (.cells p.2 e fz) := fun p hp => (List.mem_append.1 hp).elim (g0 p) (g1 p)
  intro b hb
  obtain ⟨p, hp, rfl⟩ := List.mem_map.1 hb
  obtain ⟨e, fz, h⟩ := hall p hp
  refine ⟨p.2, e, fz, h, fun q hq hqp => ?_⟩
  obtain ⟨e2, fz2, h2⟩ := hall q hq
  rw [hqp, h] at h2
  injection h2 with h2
  injection h2 with h3
  exact h3.symm
end Go.Am
namespace Go.Proofs.YtmmcldbldbpikaaGreatDoor
open Go.ChangeShapes Go.WideShapes Go.ChangeAt Go.RowKit
theorem factMayEnter : Tryz.checked.prog.mayEnter = true := by kernel_rfl
end Go.Proofs.YtmmcldbldbpikaaGreatDoor
namespace Go.Proofs.YtmmcldbldbpikaaGreatDoor
open Go.ChangeShapes Go.WideShapes Go.ChangeAt Go.RowKit
theorem factLifts : Tryz.checked.prog.liftsFinal = false := by kernel_rfl
end Go.Proofs.YtmmcldbldbpikaaGreatDoor
namespace Go.Proofs.YtmmcldbldbpikaaGreatDoor
open Go.ChangeShapes Go.WideShapes Go.ChangeAt Go.RowKit
theorem factMake : Tryz.checked.prog.make = some (OpenClaim.make { program := "", sum := "", func := "", spec := "" }) := by kernel_rfl
end Go.Proofs.YtmmcldbldbpikaaGreatDoor
namespace Go.Proofs.YtmmcldbldbpikaaGreatDoor
open Go.ChangeShapes Go.WideShapes Go.ChangeAt Go.RowKit
theorem door_met (os : Os) (args : Array Value) : laidMetH Tryz.prog Rows.fnTablesCountedRow.laid ((World.laidAll Tryz.prog os Rows.fnTablesCountedRow.laid).forCall (fun _ _ => 0) ⟨#[], args, []⟩).memory := by
  rw [MakeChecks.laidMetH_plain _ _ _ (by kernel_rfl)]
  exact laidMet_laidAll _ (by kernel_rfl) (by kernel_rfl)
theorem door_shaped (os : Os) (args : Array Value) : World.Shaped Tryz.prog ((World.laidAll Tryz.prog os Rows.fnTablesCountedRow.laid).forCall (fun _ _ => 0) ⟨#[], args, []⟩) := World.shaped_of_ZipB (by kernel_rfl) (by kernel_rfl)
end Go.Proofs.YtmmcldbldbpikaaGreatDoor
