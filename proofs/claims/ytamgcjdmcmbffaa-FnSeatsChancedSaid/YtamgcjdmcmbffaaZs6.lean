/- The abstract machine, contracts: part 6 of what this claim needs. -/
import Derived.Test.YtamgcjdmcmbffaaZs5
set_option linter.unusedSectionVars false
namespace Go.Proofs.Ytamgcjdmcmbffaa
variable [Go.Am.CodeBlk]
open Go.Am
attribute [local irreducible] AW Outs Weak Lends Lend Sp aops atree aop1 Then Round InBlock Done
attribute [local irreducible] SpM DoneM SpH DoneH
set_option maxRecDepth 16000 in
set_option maxHeartbeats 4000000 in
theorem sgSecB (n m i p q : Int) (L : List Int) (hL : L.length ≤ 10000) : AW Try.prog (min Try.f3.ntmps pbase) sgR2 (st [(33, .i n), (34, .i m), (35, .i i), (36, .i (((ownCh n m i).1 : Nat) : Int)), (37, .i (((ownCh n m i).2 : Nat) : Int)), (38, .b (decide (OwnOk n m i))), (39, .i (((ownCh n m i).1 : Nat) : Int)), (40, .i (((ownCh n m i).2 : Nat) : Int)), (41, .b (decide (OwnOk n m i))), (42, .i p), (43, .i q), (44, .i (cntR p q)), (45, .b (decide (SeOk 12 p q))), (46, .i (cntR p q)), (47, .b (decide (SeOk 12 p q))), (48, .i (((meanR p q).1 : Nat) : Int)), (49, .i (((meanR p q).2 : Nat) : Int)), (50, .b (decide (SeOk 12 p q))), (51, .i (((meanR p q).1 : Nat) : Int)), (52, .i (((meanR p q).2 : Nat) : Int)), (53, .b (decide (SeOk 12 p q))), (54, ints L)] []) (Done [4].reverse (.b true)) := by
  have h3 := sg1 n m i p q L hL
  have hp : sgR2 = .seq (fstC sgR2) (.seq (fstC (sndC sgR2)) (.seq (fstC (sndC (sndC sgR2))) (sgT1))) := rfl
  rw [hp]
  clear hp
  generalize sgT1 = c3 at *
  have a7 := implDisplacedIn_spec L (by omega)
  have a8 := specDisplacedIn_spec L (by omega)
  have a9 := oSame_self (dispR L) (by have := dispR_le L; omega)
  have a10 := implIsExchange_spec L (by omega)
  generalize ownCh n m i = O at *
  generalize cntR p q = C at *
  generalize meanR p q = M at *
  generalize dispR L = E at *
  have x1 := xor_self (decide (OwnOk n m i))
  have x2 := xor_self (decide (SeOk 12 p q))
  have x3 := xor_self (decide (IsEx L))
  unfold sgR2 sgRest
  unfold ac3
  simp only [sndC, fstC]
  repeat (first | (refine step_ops ?_; (refine m_mov (by conv => lhs; whnf) ?_)) | refine seq_ops ?_)
  refine step_ops ?_; (apply m_call (a7)); (· repeat (first | exact lends_nil | (refine lends_cons ?_ ?_; (· (refine lend_ints ?_; first | rfl | omega)))))
  repeat (first | (refine step_ops ?_; (first | (refine m_mov (by conv => lhs; whnf) ?_) | (refine m_ext rfl rfl ?_))) | refine end_ops ?_ | refine seq_ops ?_)
  refine step_ops ?_; (apply m_call (a8)); (· repeat (first | exact lends_nil | (refine lends_cons ?_ ?_; (· (refine lend_ints ?_; first | rfl | omega)))))
  repeat (first | (refine step_ops ?_; ((try (refine g_yes rfl ?_ ?_; (· first | rfl | assumption | (refine decide_eq_true ?_; first | assumption | omega) | (refine nt ?_; first | assumption | omega) | (simp [*]; done) | (refine decide_eq_false ?_; first | assumption | omega) | (refine nf ?_; first | assumption | omega)))); (first | (refine m_mov (by conv => lhs; whnf) ?_) | (refine m_neq rfl rfl ?_) | (refine m_beq rfl rfl ?_) | (refine m_pick_f rfl ?_ (by conv => lhs; whnf) ?_; (· first | rfl | assumption | (refine decide_eq_false ?_; first | assumption | omega) | (refine nf ?_; first | assumption | omega) | (simp [*]; done))) | (refine m_ext rfl rfl ?_)))) | refine end_ops ?_ | refine seq_ops ?_ | refine AW_seq ?_)
  refine step_ops ?_; (refine g_yes rfl ?_ ?_; (· first | (first | rfl | assumption | (refine decide_eq_true ?_; first | assumption | omega) | (refine nt ?_; first | assumption | omega) | (simp [*]; done)) | (first | rfl | assumption | (refine decide_eq_false ?_; first | assumption | omega) | (refine nf ?_; first | assumption | omega) | (simp [*]; done))); (apply m_call (a9))); (· repeat (first | exact lends_nil | (refine lends_cons ?_ ?_; (· (refine lend_ints ?_; first | rfl | omega)))))
  repeat (refine step_ops ?_; ((try (refine g_yes rfl ?_ ?_; (· first | rfl | assumption | (refine decide_eq_true ?_; first | assumption | omega) | (refine nt ?_; first | assumption | omega) | (simp [*]; done) | (refine decide_eq_false ?_; first | assumption | omega) | (refine nf ?_; first | assumption | omega)))); (first | (refine m_mov (by conv => lhs; whnf) ?_) | (refine m_not rfl ?_) | (refine m_pick_f rfl ?_ (by conv => lhs; whnf) ?_; (· first | rfl | assumption | (refine decide_eq_false ?_; first | assumption | omega) | (refine nf ?_; first | assumption | omega) | (simp [*]; done))))))
  refine step_ops ?_; (refine g_yes rfl ?_ ?_; (· first | (first | rfl | assumption | (refine decide_eq_true ?_; first | assumption | omega) | (refine nt ?_; first | assumption | omega) | (simp [*]; done)) | (first | rfl | assumption | (refine decide_eq_false ?_; first | assumption | omega) | (refine nf ?_; first | assumption | omega) | (simp [*]; done))); (apply m_call (a10))); (· repeat (first | exact lends_nil | (refine lends_cons ?_ ?_; (· (refine lend_ints ?_; first | rfl | omega)))))
  repeat (first | (refine step_ops ?_; ((try (refine g_yes rfl ?_ ?_; (· first | rfl | assumption | (refine decide_eq_true ?_; first | assumption | omega) | (refine nt ?_; first | assumption | omega) | (simp [*]; done) | (refine decide_eq_false ?_; first | assumption | omega) | (refine nf ?_; first | assumption | omega)))); (first | (refine m_beq rfl rfl ?_) | (refine m_pick_f rfl ?_ (by conv => lhs; whnf) ?_; (· first | rfl | assumption | (refine decide_eq_false ?_; first | assumption | omega) | (refine nf ?_; first | assumption | omega) | (simp [*]; done)))))) | refine end_ops ?_ | (refine cond_f rfl ?_ ?_; (· first | rfl | assumption | (refine decide_eq_false ?_; first | assumption | omega) | (refine nf ?_; first | assumption | omega) | (simp [*]; done))) | refine skip_then ?_)
  refine AW_weak (weak_st ?_ ?_ rfl rfl) h3
  · (repeat' (first | exact trivial | refine And.intro ?_ ?_)) <;> (first | rfl | skip)
  · trivial
set_option maxRecDepth 16000 in
set_option maxHeartbeats 4000000 in
theorem sgSecond {mv : Value} {ML : List UInt8} (hm : Bys mv ML) (hML : ML.length ≤ 1048576) : AW Try.prog (min Try.f3.ntmps pbase) sgRest (st [(1, .v mv)] []) (Done [4].reverse (.b true)) := by
  have h3 := fun (n m i p q : Int) (L : List Int) (hL : L.length ≤ 13) => sgSecB n m i p q L (by omega)
  have hp : sgRest = .seq (fstC sgRest) (.seq (fstC (sndC sgRest)) (.seq (fstC (sndC (sndC sgRest))) (.seq (fstC (sndC (sndC (sndC sgRest)))) (.seq (fstC (sndC (sndC (sndC (sndC sgRest))))) (.seq (fstC (sndC (sndC (sndC (sndC (sndC sgRest)))))) (.seq (fstC (sndC (sndC (sndC (sndC (sndC (sndC sgRest))))))) (.seq (fstC (sndC (sndC (sndC (sndC (sndC (sndC (sndC sgRest)))))))) (.seq (fstC (sndC (sndC (sndC (sndC (sndC (sndC (sndC (sndC sgRest))))))))) (sgR2))))))))) := rfl
  rw [hp]
  clear hp
  generalize sgR2 = c3 at *
  unfold sgRest
  unfold ac3
  simp only [sndC, fstC]
  repeat (first | (refine step_ops ?_; (refine m_mov (by conv => lhs; whnf) ?_)) | refine seq_ops ?_)
  refine step_ops ?_
  refine m_draw (drawOwnSeat_spec hm hML) rfl ⟨(0, 0, 0), trivial⟩ (fun m => ⟨rfl, rfl⟩) ?_
  rintro ⟨n, m, i⟩ _
  dsimp only
  have a1 := implChanceOwnSeat_spec n m i
  have a2 := specChanceOwnSeat_spec n m i
  unfold ownTup at a1 a2
  generalize hO : ownCh n m i = O at a1 a2
  repeat (first | (refine step_ops ?_; (first | (refine m_mov (by conv => lhs; whnf) ?_) | (refine m_ext rfl rfl ?_))) | refine end_ops ?_ | refine seq_ops ?_)
  refine step_ops ?_; (apply m_call (a1)); (· repeat (first | exact lends_nil | (refine lends_cons ?_ ?_; (· exact lend_v))))
  repeat (first | (refine step_ops ?_; (first | (refine m_mov (by conv => lhs; whnf) ?_) | (refine m_ext rfl rfl ?_))) | refine end_ops ?_ | refine seq_ops ?_)
  refine step_ops ?_; (apply m_call (a2)); (· repeat (first | exact lends_nil | (refine lends_cons ?_ ?_; (· exact lend_v))))
  repeat (first | (refine step_ops ?_; (first | (refine m_mov (by conv => lhs; whnf) ?_) | (refine m_ext rfl rfl ?_))) | refine end_ops ?_ | refine seq_ops ?_)
  refine step_ops ?_
  refine m_draw (drawSeats_spec hm hML) rfl ⟨(0, 0), trivial⟩ (fun m => ⟨rfl, rfl⟩) ?_
  rintro ⟨p, q⟩ _
  dsimp only
  have a3 := implCountSeatings_spec p q
  have a4 := specCountSeatings_spec p q
  have a5 := implMeanOwnSeats_spec p q
  have a6 := specMeanOwnSeats_spec p q
  unfold cntTup at a3 a4
  unfold meanTup at a5 a6
  generalize hC : cntR p q = C at a3 a4
  generalize hM : meanR p q = M at a5 a6
  repeat (first | (refine step_ops ?_; (first | (refine m_mov (by conv => lhs; whnf) ?_) | (refine m_ext rfl rfl ?_))) | refine end_ops ?_ | refine seq_ops ?_)
  refine step_ops ?_; (apply m_call (a3)); (· repeat (first | exact lends_nil | (refine lends_cons ?_ ?_; (· exact lend_v))))
  repeat (first | (refine step_ops ?_; (first | (refine m_mov (by conv => lhs; whnf) ?_) | (refine m_ext rfl rfl ?_))) | refine end_ops ?_ | refine seq_ops ?_)
  refine step_ops ?_; (apply m_call (a4)); (· repeat (first | exact lends_nil | (refine lends_cons ?_ ?_; (· exact lend_v))))
  repeat (first | (refine step_ops ?_; (first | (refine m_mov (by conv => lhs; whnf) ?_) | (refine m_ext rfl rfl ?_))) | refine end_ops ?_ | refine seq_ops ?_)
  refine step_ops ?_; (apply m_call (a5)); (· repeat (first | exact lends_nil | (refine lends_cons ?_ ?_; (· exact lend_v))))
  repeat (first | (refine step_ops ?_; (first | (refine m_mov (by conv => lhs; whnf) ?_) | (refine m_ext rfl rfl ?_))) | refine end_ops ?_ | refine seq_ops ?_)
  refine step_ops ?_; (apply m_call (a6)); (· repeat (first | exact lends_nil | (refine lends_cons ?_ ?_; (· exact lend_v))))
  repeat (first | (refine step_ops ?_; (first | (refine m_mov (by conv => lhs; whnf) ?_) | (refine m_ext rfl rfl ?_))) | refine end_ops ?_ | refine seq_ops ?_)
  refine step_ops ?_
  refine m_drawL (q := 1000) (drawDisIn_spec hm hML) rfl ⟨[], by simp⟩ rfl (by decide) ?_
  intro L hL
  have h4 := h3 n m i p q L hL
  rw [hO, hC, hM] at h4
  repeat (first | (refine step_ops ?_; (refine m_mov (by conv => lhs; whnf) ?_)) | refine end_ops ?_)
  refine AW_weak (Weak.trans (weak_frz 54 1000 (n := L.length) rfl rfl (by simp) (allv_ints L)) (weak_st ?_ ?_ rfl rfl)) h4
  · (repeat' (first | exact trivial | refine And.intro ?_ ?_)) <;> (first | rfl | skip)
  · trivial
end Go.Proofs.Ytamgcjdmcmbffaa
namespace Go.Am
variable [Go.Am.CodeBlk]
open Go.ChangeShapes Go.WideShapes Go.ChangeAt Go.RowKit Go.ChangeMaps
variable {P : Program} {H : Type} {enc : TypeId × Value → H}
theorem and_mk {a b : Bool} (h : a = true) (k : b = true) : (a && b) = true := by rw [h, k]; rfl
theorem More.below {w w' : World} (h : More w w') : Below w.heap.size w w' := ⟨h.os, h.tape, h.output, h.size, h.block⟩
theorem trodAll_stays (hl : laidOutB P = true) {W W' : World} (hb : Below W.heap.size W W') (sp : Nat → Bool) : ∀ {ts : List TypeId} {vs : List Value} {ds : List (DataW H)} {ps : List MemPlace},
    (∀ t ∈ ts, P.readableRec t = true ∧ t < P.types.size) → DataW.TrodAll enc P W 0 (fun _ => true) true ts vs ds ps → (∀ p ∈ ps, p.block < W.heap.size) → (∀ p ∈ ps, sp p.block = true) →
    DataW.TrodAll enc P W' 0 sp true ts vs ds ps
  | [], vs, ds, ps, _, h, _, _ => by
    obtain ⟨rfl, rfl, rfl⟩ := trodAll_nil h
    exact trodAll_mk0
  | t :: ts, vs, ds, ps, hr, h, hlt, hsp => by
    obtain ⟨v, vs', d, ds', p, q, rfl, rfl, rfl, h1, h2⟩ := trodAll_cons h
    refine ⟨p, q, ?_, trodAll_stays hl hb sp (fun t ht => hr t (List.mem_cons_of_mem _ ht)) h2 (fun x hx => hlt x (List.mem_append_right _ hx)) (fun x hx => hsp x (List.mem_append_right _ hx)), rfl⟩
    obtain ⟨h3, h4⟩ := hr t (List.mem_cons_self ..)
    exact WideElems.Trod_stays hl h3 h4 h1 (fun x hx => hb.same (hlt x (List.mem_append_left _ hx))) (fun x hx => hsp x (List.mem_append_left _ hx))
/-- What the row's last words ask of a law that says true. -/
theorem law_post (hl : laidOutB P = true) {f : Func} {s : ChangeSpec} {fresh handsOn again : Bool} {W W' : World} {args : Array Value} {ds gs : List (DataW H)} {before : List MemPlace} {bt : TypeId}
    (hW : DataW.Whole enc P f.params.toList s.vars false W args.toList ds gs before) (hvars : s.vars = []) (hfn : s.fn H (ds ++ gs) = { results := [.lit (.bool true)], args := ds })
    (hres : f.resultTypes = #[bt]) (hbt : P.underlying bt = some .bool) (hread : ∀ t ∈ f.params.toList, P.readableRec t = true ∧ t < P.types.size) (hm : More W W') :
    s.post enc P f false fresh handsOn again W args (.bool true) W' := by
  have hb := hm.below
  have hlt : ∀ p ∈ before, p.block < W.heap.size := fun p hp => hW.lt p hp
  obtain ⟨p, q, hA, hV, hpq, hz, hn⟩ := hW
  rw [hvars] at hV
  obtain ⟨rfl, rfl⟩ := trodVars_none hV
  rw [List.append_nil] at hpq
  subst hpq
  have hargs : ∀ sp : Nat → Bool, (∀ x ∈ before, sp x.block = true) → DataW.TrodAll enc P W' 0 sp true f.params.toList args.toList ds before := fun sp hsp => trodAll_stays hl hb sp hread hA hlt hsp
  have hresT : ∀ (b : Nat) (sp : Nat → Bool) (hd : Bool), DataW.TrodAll enc P W' b sp hd f.resultTypes.toList ((Value.bool true).resultList f.resultTypes.size) [.lit (.bool true)] [] := by
    intro b sp hd
    rw [hres]
    exact trodAll_mk1 (shut_bool hbt true)
  have hvarsT : ∀ sp : Nat → Bool, DataW.TrodVars enc P W' sp s.vars (s.fn H (ds ++ [])).vars [] := by
    intro sp
    rw [hvars, hfn]
    rfl
  have hfull : DataW.Whole enc P f.params.toList s.vars false W args.toList ds [] before := ⟨before, [], hA, by rw [hvars]; rfl, by simp, hz, by simp⟩
  refine ⟨ds, [], before, [], before, [], hfull, by rw [hfn]; exact hresT _ _ _, by rw [hfn]; exact hargs _ (fun x hx => by simpa using hlt x hx), hvarsT _, World.keptBut_mono (fun x hx => ⟨hx, .inr (.inl hx)⟩) (hb.frame (· ∈ before)), fun _ => ?_⟩
  refine ⟨ok_one hres rfl (okWide_bool_mk hbt true), _, _, ([] ++ before) ++ [], ⟨[] ++ before, [], trodAll_append (hargs _ (fun _ _ => rfl)) (hresT _ _ _), hvarsT _, rfl, ?_, by simp⟩, ?_⟩
  · intro b off hp
    have hin : MemPlace.cell b off ∈ before := by simpa using hp
    rw [hb.frozen (hlt _ hin)]
    exact hz b off hin
  · intro x hx _
    simpa using hx
abbrev Outer (w : World) : Ctx := { heap := w.heap, ro := fun b => b < w.heap.size, base := w.heap.size, phi := fun _ => none, live := fun _ => false, loc := false }
/-- A law says true. -/
theorem law_calls {f : FuncId} {asx : List AV} {W : World} {args : Array Value} (hs : Sp P f asx (.b true)) (he : SimL asx (Outer W) args.toList) (hlen : args.size = asx.length) (hg : GoodW W := by exact goodW_none rfl) :
    Calls P f args W fun e W' => e = .returned (.bool true) ∧ More W W' := by
  refine (hs W args hg ⟨he, by simpa using hlen⟩).mono fun e W' ⟨v, h1, h2, h3⟩ => ?_
  simp only [SimV] at h3
  subst h3
  exact ⟨h1, h2⟩
end Go.Am
namespace Go.Am
open Go.ChangeShapes Go.WideShapes Go.ChangeAt Go.RowKit Go.ChangeMaps
variable {P : Program} {H : Type} {enc : TypeId × Value → H}
theorem arg_bytes {W : World} {t e : TypeId} {v : Value} {d : DataW H} {ps : List MemPlace} (ht : P.underlying t = some (.slice e)) (he : P.underlying e = some (.int .u8)) (hc : P.cellsOf e = 1)
    (hval : Value.okWide P W .any 0 t v) (h : DataW.Trod enc P W 0 (fun _ => true) true t v d ps) : ∃ L : List UInt8, SimV (.ro false 1 (byteVs L) L.length) (Outer W) v ∧ L.length ≤ maxLen := by
  haveI : CodeBlk := ⟨[]⟩
  obtain ⟨a0, len0, cap0, rfl⟩ := okWide_slice ht hval
  obtain ⟨fuel, hf⟩ := h
  rcases open_ints ht he hc hf with ⟨hcs, _⟩ | ⟨a, len, cap, zs, hcs, _, hl, hm, hz, hx, hcell, hwz⟩
  · simp [Value.cells] at hcs
    obtain ⟨rfl, rfl, rfl⟩ := hcs
    refine ⟨[], ?_, by simp⟩
    simp only [SimV]
    exact .inl ⟨rfl, rfl, none, 0, rfl, by simp⟩
  · simp [Value.cells] at hcs
    obtain ⟨rfl, rfl, rfl⟩ := hcs
    simp only [if_true] at hz
    have hlz : len0 ≤ zs.length := by omega
    refine ⟨(zs.take len0).map fun x => UInt8.ofNat x.toNat, ?_, by simp; omega⟩
    have hlen : ((zs.take len0).map fun x => UInt8.ofNat x.toNat).length = len0 := by simp; omega
    simp only [SimV]
    by_cases h0 : len0 = 0
    · subst h0
      exact .inl ⟨rfl, rfl, _, cap0, rfl, by simp⟩
    · have hc0 := hcell 0 (by omega)
      have hspot : a.spot = none ∧ ∃ cur e f, W.heap[a.block]? = some (.cells cur e f) := by
        unfold World.cell? at hc0
        rw [show a.add 0 = a from rfl] at hc0
        split at hc0
        · rename_i c e' f hb
          split at hc0
          · cases hc0
          · rename_i hs
            exact ⟨by simpa using hs, c, e', f, hb⟩
        · cases hc0
      obtain ⟨hs, cur, e', f, hb⟩ := hspot
      obtain ⟨b, o, sp⟩ := a
      simp only at hs hb
      subst hs
      refine .inr ⟨b, o, cap0, cur, e', f, by rw [hlen], hb, lt_of_get hb, by simp [byteVs], by rw [hlen]; exact hl, by simp, ?_⟩
      refine SimL.of_get fun i x hi => ?_
      unfold byteVs at hi
      rw [List.map_map, List.getElem?_map, Option.map_eq_some_iff] at hi
      obtain ⟨n, hn, rfl⟩ := hi
      rw [List.getElem?_take] at hn
      split at hn
      · rename_i hi0
        have hci := hcell i (by omega)
        rw [addr_add, cell_of_row W b (o + i) cur e' f hb] at hci
        refine ⟨_, by rw [List.getElem?_drop, Array.getElem?_toList]; exact hci, ?_⟩
        have hw := hwz n (List.mem_of_getElem? hn)
        simp [Lit.wf, IntKind.min, IntKind.max, IntKind.signed, IntKind.bits] at hw
        have hu : (((UInt8.ofNat n.toNat).toNat : Nat) : Int) = n := by
          have h1 : (UInt8.ofNat n.toNat).toNat = n.toNat % 256 := by simp
          rw [h1]; omega
        show SimV (.v (.int .u8 ((UInt8.ofNat n.toNat).toNat : Nat))) _ _
        simp only [SimV]
        rw [hu]
        congr 1
        rw [List.getD_eq_getElem?_getD, hn]
        rfl
      · cases hn
/-- The blocks that two lists of bytes lie in, asx they stand. -/
theorem bytes_inst {W : World} {v0 v1 : Value} {L0 L1 : List UInt8} (h0 : SimV (.ro false 1 (byteVs L0) L0.length) (Outer W) v0) (h1 : SimV (.ro false 1 (byteVs L1) L1.length) (Outer W) v1) :
    ∃ I : CodeBlk, @GoodW I W ∧ @Bys I v0 L0 ∧ @Bys I v1 L1 := by
  have one : ∀ {v : Value} {L : List UInt8}, SimV (.ro false 1 (byteVs L) L.length) (Outer W) v → ∃ B : List (Nat × Array Value), (∀ p ∈ B, ∃ e fz, W.heap[p.1]? = some (.cells p.2 e fz)) ∧ ∀ I : CodeBlk, (∀ p ∈ B, p ∈ I.blks) → @Bys I v L := by
    intro v L h
    simp only [SimV] at h
    rcases h with ⟨h2, h3, a, c, rfl, _⟩ | ⟨b, o, cap, cur, e, fz, rfl, h2, h3, h4, h5, _, h6⟩
    · have hL : L = [] := List.eq_nil_of_length_eq_zero h2
      subst hL
      exact ⟨[], by simp, fun I _ => .inl ⟨rfl, a, c, rfl⟩⟩
    · refine ⟨[(b, cur)], fun p hp => ?_, fun I hI => .inr ⟨b, o, cap, cur, rfl, hI _ (List.mem_singleton.2 rfl), h5, fun C => ?_⟩⟩
      · rw [List.mem_singleton] at hp
        subst hp
        exact ⟨e, fz, h2⟩
      · refine simL_allv ?_ h6
        rw [List.all_eq_true]
        intro x hx
        obtain ⟨y, _, rfl⟩ := List.mem_map.1 hx
        rfl
  obtain ⟨B0, g0, k0⟩ := one h0
  obtain ⟨B1, g1, k1⟩ := one h1
  refine ⟨⟨B0 ++ B1⟩, ?_, k0 ⟨B0 ++ B1⟩ fun p hp => List.mem_append_left _ hp, k1 ⟨B0 ++ B1⟩ fun p hp => List.mem_append_right _ hp⟩
  have hall : ∀ p ∈ B0 ++ B1, ∃ e fz, W.heap[p.1]? = some (.cells p.2 e fz) := fun p hp => (List.mem_append.1 hp).elim (g0 p) (g1 p)
  intro b hb
  obtain ⟨p, hp, rfl⟩ := List.mem_map.1 hb
  obtain ⟨e, fz, h⟩ := hall p hp
  refine ⟨p.2, e, fz, h, fun q hq hqp => ?_⟩
  obtain ⟨e2, fz2, h2⟩ := hall q hq
  rw [hqp, h] at h2
  injection h2 with h2
  injection h2 with h3
  exact h3.symm
end Go.Am
namespace Go.Proofs.Ytamgcjdmcmbffaa
open Go.ChangeShapes Go.WideShapes Go.ChangeAt Go.RowKit
theorem factMayEnter : Try.checked.prog.mayEnter = true := by kernel_rfl
end Go.Proofs.Ytamgcjdmcmbffaa
namespace Go.Proofs.Ytamgcjdmcmbffaa
open Go.ChangeShapes Go.WideShapes Go.ChangeAt Go.RowKit
theorem factLifts : Try.checked.prog.liftsFinal = false := by kernel_rfl
end Go.Proofs.Ytamgcjdmcmbffaa
namespace Go.Proofs.Ytamgcjdmcmbffaa
open Go.ChangeShapes Go.WideShapes Go.ChangeAt Go.RowKit
theorem factMake : Try.checked.prog.make = some (OpenClaim.make { program := "", sum := "", func := "", spec := "" }) := by kernel_rfl
end Go.Proofs.Ytamgcjdmcmbffaa
